/- TEXTS RigOfP, CmpI. -/
import Derived.Test.YteibopcneflidabGreatDoorRo21
import Derived.Test.YteibopcneflidabGreatDoorRo16
import Derived.Test.YteibopcneflidabGreatDoorRo08
import Derived.Test.YteibopcneflidabGreatDoorRo22
import Derived.Test.YteibopcneflidabGreatDoorRo37
import Derived.Test.YteibopcneflidabGreatDoorRo09
/- THE WALKS of partsOfRow and of the program's RigOf. -/
namespace Go.Proofs.YteibopcneflidabGreatDoor
open Go.RowKit Go.Sort Go.Shelf

/-- what partsOfRow hands back -/
def PartsPost (w : World) (s : ByteArray) (ok : Bool) (e : Ending) (w' : World) : Prop :=
  if ok then ∃ u, e = .returned (.tuple #[u, .nilIface]) ∧ PartsV w.heap.size w' u (kRc (rvB s)) else ∃ t, e = .returned (.tuple #[.slice none 0 0, .iface 73 (.string t)])

set_option maxRecDepth 100000 in
set_option maxHeartbeats 4000000 in
theorem partsOfRow_any (s : ByteArray) (w : World) (hs : s.size ≤ maxLen) :
    Calls Tryz.prog 15 #[.string s] w fun e w' => PartsPost w s (highB s) e w' ∧ Below w.heap.size w w' := by
  have CH := hide (fun w => implRowHigh_any s w hs)
  cases hv : vld s
  · have hh : highB s = false := by
      cases h : highB s
      · rfl
      · have := ((levOk_iff s).1 ((highB_iff s).1 h).1).1
        rw [hv] at this; cases this
    rw [hh]
    have C := hide (fun w => readRow_no s w hs hv)
    clear hh hv
    go_enter Tryz.func15, Tryz.ntmps15
    go_wp2_with fail
    refine (C.out w).mono ?_
    rintro e w1 ⟨rfl, rfl⟩
    go_wp2_with fail
    go_ret2
    exact ⟨⟨_, rfl⟩, Below.refl _ _⟩
  · have C := hide (readRow_yes s w hv)
    cases hh : highB s
    · rw [hh] at CH
      clear hh hv
      go_enter Tryz.func15, Tryz.ntmps15
      go_wp2_with fail
      refine C.out.mono ?_
      rintro e w1 ⟨rfl, hb1, hc1, hz1⟩
      have HB1 := hide hb1
      clear hb1 hc1
      go_wp2_with fail
      refine (CH.out w1).mono ?_
      rintro e w2 ⟨rfl, hb2⟩
      have HB2 := hide (HB1.out.trans (hb2.mono HB1.out.size))
      clear hb2
      go_wp2_with fail
      go_ret2
      exact ⟨⟨_, rfl⟩, HB2.out⟩
    · obtain ⟨h1, h2⟩ := (highB_iff s).1 hh
      have h3 := ((levOk_iff s).1 h1).2
      have h120 := vld_le s hv
      rw [hh] at CH
      rw [h3] at C
      have HI := hide h2
      obtain ⟨n, hn⟩ : ∃ n, n = s.size := ⟨_, rfl⟩
      have HN := hide hn
      rw [← hn] at C h120
      have NR := hide (fun (W : World) => newRigged_any [] (.slice none 0 0) 0 W (lo := 0) (by unfold pSorted; exact List.Pairwise.nil) (.inl ⟨_, _, rfl, rfl⟩) (by decide))
      clear hh hv h1 h2 h3 hn hs
      go_enter Tryz.func15, Tryz.ntmps15
      go_wp2_with fail
      refine C.out.mono ?_
      rintro e w1 ⟨rfl, hb1, hc1, hz1⟩
      have HB1 := hide hb1
      have HC1 := hide hc1
      clear hb1 hc1
      go_wp2_with fail
      refine (CH.out w1).mono ?_
      rintro e w2 ⟨rfl, hb2⟩
      have HB2 := hide (HB1.out.trans (hb2.mono HB1.out.size))
      have HC2 := hide (HC1.out.below' hb2 (Nat.le_refl _))
      have hz2 : w.heap.size < w2.heap.size := Nat.lt_of_lt_of_le hz1 hb2.size
      clear hb2
      go_wp2_with fail
      refine (NR.out w2).mono ?_
      rintro e w3 ⟨rfl, v3, hr3, hb3⟩
      have HR3 := hide hr3
      have HB3 := hide hb3
      have HC3 := hide (HC2.out.below' hb3 (Nat.le_refl _))
      clear hr3 hb3
      go_wp2_with fail
      go_loopw [25] (fun i wr => ∃ (k : Nat) (v' : Value), k ≤ n ∧ i = .int .i64 (k : Int) ∧ Hid (RigAt wr w2.heap.size w2.heap.size v' (kRc ((bits s).take k).reverse) (k : Int)) ∧ Hid (Below w2.heap.size w2 wr)) (fun i _ => n - (intOf i).toNat)
      case atStart => exact ⟨0, v3, Nat.zero_le _, rfl, HR3, HB3⟩
      case round =>
        obtain ⟨k, v', hk, rfl, HR, HB⟩ := hrel
        by_cases hlt : k < n
        · have hks : k < s.size := by rw [← HN.out]; exact hlt
          obtain ⟨b, hb⟩ : ∃ b, (bits s)[k]? = some b := ⟨_, List.getElem?_eq_getElem (by rw [length_bits]; exact hks)⟩
          have c1 : wr.cell? ⟨w.heap.size, k, none⟩ = some (.bool b) := ((HC2.out.below HB.out hz2) k (.bool b) (by simp [hb])).1
          obtain ⟨p, hp⟩ : ∃ p, p = ((bits s).take k).reverse := ⟨_, rfl⟩
          have hpl : p.length = k := by rw [hp, List.length_reverse, List.length_take, length_bits]; omega
          have hph : kHi p := by rw [hp]; exact kHi_take HI.out k (by rw [length_bits]; omega)
          have HPN : Hid (((bits s).take (k + 1)).reverse = b :: p) := by rw [hp]; exact hide (rc_next hb)
          rw [← hp] at HR
          obtain ⟨r1, _⟩ := rc_in hph (by omega)
          obtain ⟨r2, r3, r4⟩ := (rgIn_iff _).1 ((rgFits_iff _ _).1 r1).1
          have hvl := hide (fun g h => (HR.out.own.lt g h).1)
          have hwr : w2.heap.size ≤ wr.heap.size := HB.out.size
          have i0 : (0 : Int) ≤ (k : Int) := by omega
          have i1 : (k : Int) < (n : Int) := by omega
          cases b
          · have AB := hide (addBox_none w2.heap.size w2.heap.size v' (kRc p) (k : Int) wr HR.out (by omega))
            have HNX : Hid (kRc ((bits s).take (k + 1)).reverse = kRc p) := by show _ = _; rw [HPN.out]; rfl
            clear hb hp hpl hph r1 r2 r3 r4 HPN
            go_wp2_with fail
            refine AB.out.mono ?_
            rintro e w4 ⟨rfl, q1, q2⟩
            have Q1 := hide q1
            have Q2 := hide (HB.out.trans (q2.below (Nat.le_refl _) hvl.out hwr))
            clear q1 q2
            go_wp2
            go_roundw
            case rel => exact ⟨k + 1, v', by omega, by go_num, by rw [HNX.out, show ((k + 1 : Nat) : Int) = (k : Int) + 1 by omega]; exact Q1, Q2⟩
            case measure => simp [intOf]; omega
          · have AB := hide (addBox_ball w2.heap.size w2.heap.size v' (kRc p) (k : Int) wr HR.out r3 (by omega) (fun a ha => by have := r2 a ha; omega) (by omega))
            have HNX : Hid (kRc ((bits s).take (k + 1)).reverse = pStep (kRc p) (k : Int)) := by show _ = _; rw [HPN.out, kRc_true, hpl]
            clear hb hp hpl hph r1 r2 r3 r4 HPN
            go_wp2_with fail
            refine AB.out.mono ?_
            rintro e w4 ⟨rfl, v4, q1, q2, _⟩
            have Q1 := hide q1
            have Q2 := hide (HB.out.trans (q2.below (Nat.le_refl _) hvl.out hwr))
            clear q1 q2
            go_wp2
            go_roundw
            case rel => exact ⟨k + 1, v4, by omega, by go_num, by rw [HNX.out, show ((k + 1 : Nat) : Int) = (k : Int) + 1 by omega]; exact Q1, Q2⟩
            case measure => simp [intOf]; omega
        · have hkn : k = n := by omega
          have HE : Hid (((bits s).take k).reverse = rvB s) := by
            show _ = _
            unfold rvB
            rw [List.take_of_length_le (by rw [length_bits, ← HN.out]; omega)]
          have c1 := HR.out.items
          have hBB := hide (HB2.out.trans (HB.out.mono (Nat.le_of_lt hz2)))
          go_wp2
          go_ret2
          exact ⟨⟨v', rfl, by rw [← HE.out]; exact (PartsV.of_owns (owns_lo HR.out.own (Nat.le_of_lt hz2)))⟩, hBB.out⟩

set_option maxHeartbeats 1000000 in
theorem implRigOf_any (s : ByteArray) (w : World) (hE : EtAt w) (hs : s.size ≤ maxLen) :
    Calls Tryz.prog 5 #[.string s] w fun e w' => ∃ u, e = .returned (.tuple #[u, .bool (highB s)]) ∧ PartsV w.heap.size w' u (rgOf s) ∧ Below w.heap.size w w' := by
  have HE := hide hE
  have C := hide (partsOfRow_any s w hs)
  cases hok : highB s
  · rw [hok] at C
    have e0 : rgOf s = [] := by unfold rgOf; rw [hok]; rfl
    rw [e0]
    clear hE hok e0
    go_enter Tryz.func5, Tryz.ntmps5
    go_wp2_with fail
    refine C.out.mono ?_
    rintro e w1 ⟨⟨t, rfl⟩, hb1⟩
    have HB1 := hide hb1
    have SO := hide (sound_any false _ w1 (HE.out.below hb1 (Nat.le_refl _)) (fault_mk t))
    clear hb1
    go_wp2_with fail
    refine SO.out.mono ?_
    rintro e w2 ⟨rfl, hb2⟩
    have HB2 := hide hb2
    clear hb2
    go_wp2_with fail
    go_ret2
    exact ⟨_, rfl, .inl ⟨_, _, rfl, rfl⟩, HB1.out.trans (HB2.out.mono HB1.out.size)⟩
  · rw [hok] at C
    have e0 : rgOf s = kRc (rvB s) := by unfold rgOf; rw [hok]; rfl
    rw [e0]
    clear hE hok e0
    go_enter Tryz.func5, Tryz.ntmps5
    go_wp2_with fail
    refine C.out.mono ?_
    rintro e w1 ⟨⟨u, rfl, hp⟩, hb1⟩
    have HB1 := hide hb1
    have HP1 := hide hp
    have SO := hide (sound_any true .nilIface w1 (HE.out.below hb1 (Nat.le_refl _)) rfl)
    clear hb1 hp
    go_wp2_with fail
    refine SO.out.mono ?_
    rintro e w2 ⟨rfl, hb2⟩
    have HB2 := hide hb2
    clear hb2
    go_wp2_with fail
    go_ret2
    exact ⟨_, rfl, HP1.out.below HB2.out (Nat.le_refl _), HB1.out.trans (HB2.out.mono HB1.out.size)⟩
end Go.Proofs.YteibopcneflidabGreatDoor

/- THE WALKS of allWithin, and the program's ShapeEnergy. -/
namespace Go.Proofs.YteibopcneflidabGreatDoor
open Go.RowKit

/-- from 1 to a greatest one -/
def inR (g x : Int) : Bool := decide (1 ≤ x) && decide (x ≤ g)

/-- which index IndexFunc gives: not less than 0 just if some number is out of the range -/
def outI (g : Int) (l : List Int) (r : Int) : Prop := decide (0 ≤ r) = !(l.all (inR g))

theorem inR_sz : ∀ l : List Int, l.all (inR 200) = l.all szOk := fun _ => rfl

end Go.Proofs.YteibopcneflidabGreatDoor
