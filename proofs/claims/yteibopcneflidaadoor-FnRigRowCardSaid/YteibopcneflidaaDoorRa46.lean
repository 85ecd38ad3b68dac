/- TEXTS DrawF, RigOfP, PRigRow. -/
import Derived.Test.YteibopcneflidaaDoorRa45
import Derived.Test.YteibopcneflidaaDoorRa39
import Derived.Test.YteibopcneflidaaDoorRa29
import Derived.Test.YteibopcneflidaaDoorRa08
import Derived.Test.YteibopcneflidaaDoorRa07
import Derived.Test.YteibopcneflidaaDoorRa41
import Derived.Test.YteibopcneflidaaDoorRa34
import Derived.Test.YteibopcneflidaaDoorRa44
/- THE DRAWING of rigged partitions and boxes. -/
namespace Go.Proofs.YteibopcneflidaaDoor
open Go.RowKit Go.Sort Go.Shelf

/-- a drawing of parts and a number, with the reader's beginning -/
def DrawnPN (w : World) (e : Ending) (w' : World) : Prop := ∃ (v : Value) (l : List (Int × Int)) (n : Int), e = .returned (.tuple #[v, .int .i64 n]) ∧ -10000000 ≤ n ∧ n ≤ 10000000 ∧ PartsS w.heap.size w' v l ∧ PBd l ∧ l.length ≤ 100 ∧ Below w.heap.size w w'

set_option maxRecDepth 100000 in
set_option maxHeartbeats 4000000 in
theorem l91Fit_any (a : Option Addr) (len cap : Nat) (z : List Int) (w : World) (hlen : len ≤ 1048576) (hcap : len ≤ cap) (hb : Bytes w a len z) :
    Calls Tryd.prog 48 #[.slice a len cap] w (DrawnPN w) := by
  go_enter Tryd.func48, Tryd.ntmps48
  go_wp2_with fail
  refine (l6Open_any a len cap z w hlen hcap hb).mono ?_
  rintro e w1 ⟨rfl, hr, hb1, hz1⟩
  go_wp2_with fail
  refine (l91Parts_any w1 w.heap.size a _ cap z 0 hr (by omega)).mono ?_
  rintro e w2 ⟨v, l, q, rfl, p2, bd, hl, hq, hr2, hb2⟩
  have BD := hide bd
  have P2 := hide p2
  have B2 := hide (hb1.trans hb2)
  have R2 := hide hr2
  clear hb2 bd hb1 hr hz1 hr2
  obtain ⟨n, hn⟩ : ∃ n, l.length = n := ⟨_, rfl⟩
  obtain ⟨_, g, c, rfl, q1, q2, q3, q4⟩ := p2
  rw [hn] at hl q1 P2 ⊢
  have HC := hide q4
  have HN := hide hn
  clear hn q4 q2 q3
  go_wp2_with fail
  go_loopw [6, 7] (fun t i wr => ∃ (k : Nat) (x : Int), k ≤ n ∧ i = .int .i64 (k : Int) ∧ t = .int .i64 x ∧ -(20000 * (k : Int)) ≤ x ∧ x ≤ 20000 * (k : Int) ∧ Hid (Quiet w2 wr)) (fun _ i _ => n - (intOf i).toNat)
  case atStart => exact ⟨0, 0, Nat.zero_le _, rfl, rfl, by omega, by omega, Quiet.refl _⟩
  case round =>
    obtain ⟨k, t, hk, rfl, rfl, t0, t1, HQ⟩ := hrel
    by_cases hlt : k < n
    · obtain ⟨x, hx⟩ : ∃ x, l[k]? = some x := ⟨_, List.getElem?_eq_getElem (by rw [HN.out]; exact hlt)⟩
      obtain ⟨g1, g2⟩ := encZ_get l k x hx
      have hqc := HQ.out.cells HC.out
      have c1 : wr.cell? ⟨g, k * 2, none⟩ = some (.int .i64 x.1) := (hqc _ _ g1).1
      have c2 : wr.cell? ⟨g, k * 2 + 1, none⟩ = some (.int .i64 x.2) := (hqc _ _ g2).1
      obtain ⟨b1, b2, b3, b4⟩ := BD.out x (List.mem_of_getElem? hx)
      obtain ⟨x1, hx1⟩ : ∃ y, y = x.1 := ⟨_, rfl⟩
      obtain ⟨x2, hx2⟩ : ∃ y, y = x.2 := ⟨_, rfl⟩
      rw [← hx1] at c1 b1 b2
      rw [← hx2] at c2 b3 b4
      clear hx g1 g2 hqc hx1 hx2
      have i0 : (0 : Int) ≤ (k : Int) := by omega
      have i1 : (k : Int) < (n : Int) := by omega
      have e1 : IntKind.i64.wrap (2 * x1) = 2 * x1 := by rw [IntKind.wrap_i64]; omega
      have e2 : IntKind.i64.wrap (t + 2 * x1) = t + 2 * x1 := by rw [IntKind.wrap_i64]; omega
      have e3 : IntKind.i64.wrap (t + 2 * x1 + x2) = t + 2 * x1 + x2 := by rw [IntKind.wrap_i64]; omega
      have t2 : -(20000 * ((k + 1 : Nat) : Int)) ≤ t + 2 * x1 + x2 ∧ t + 2 * x1 + x2 ≤ 20000 * ((k + 1 : Nat) : Int) := by omega
      have T2 := hide t2
      have hk' := hide (show k + 1 ≤ n by omega)
      clear t2 t0 t1 b1 b2 b3 b4
      go_wp2
      go_quiet (fail)
      go_wp2
      go_roundw
      case rel => clear e1 e2 e3; exact ⟨k + 1, _, hk'.out, by go_num, rfl, T2.out.1, T2.out.2, HQ.out.trans (Quiet.drewN _)⟩
      case measure => clear e1 e2 e3; simp [intOf]; omega
    · have BW := hide (B2.out.trans (HQ.out.2 w.heap.size))
      have PW := hide (P2.out.below (HQ.out.2 w2.heap.size) (Nat.le_refl _))
      have RW := hide (R2.out.below (HQ.out.2 w2.heap.size) R2.out.lt)
      have kn : ¬ ((k : Int) < (n : Int)) := by omega
      have ll := hide (show l.length ≤ 100 by have := HN.out; omega)
      have tb0 : -2000000 ≤ t := by omega
      have tb1 : t ≤ 2000000 := by omega
      have q0 : q ≤ 1000 := by omega
      clear t0 t1
      go_wp2_with fail
      refine (pick2_any wr w.heap.size a _ cap z q 6 RW.out (by omega) (by omega) (by omega)).mono ?_
      rintro e w3 ⟨x, rfl, x0, x1, hr3, hb3, hz3, hg3⟩
      have P3 := hide (PW.out.kept hg3 (Nat.lt_succ_self _))
      have B3 := hide (BW.out.trans hb3)
      clear hb3 hg3 hr3
      go_wp2_with fail
      go_ret2
      exact ⟨_, l, _, rfl, by omega, by omega, P3.out.lo (Nat.le_succ _), BD.out, ll.out, B3.out⟩

set_option maxHeartbeats 400000 in
theorem DrawRigFits_any (a : Option Addr) (len cap : Nat) (z : List Int) (w : World) (hlen : len ≤ 1048576) (hcap : len ≤ cap) (hb : Bytes w a len z) :
    Calls Tryd.prog 24 #[.slice a len cap] w (DrawnPN w) := by
  have D := hide (l91Fit_any a len cap z w hlen hcap hb)
  clear hb
  go_enter Tryd.func24, Tryd.ntmps24
  go_wp2_with fail
  refine D.out.mono ?_
  rintro e w1 ⟨v, l, n, rfl, h1, h2, h3, h4, h5, h6⟩
  have K := hide (show DrawnPN w (.returned (.tuple #[v, .int .i64 n])) w1 from ⟨v, l, n, rfl, h1, h2, h3, h4, h5, h6⟩)
  clear h1 h2 h3 h4 h5 h6
  go_wp2_with fail
  go_ret2
  exact K.out

set_option maxHeartbeats 400000 in
theorem DrawRigRow_any (a : Option Addr) (len cap : Nat) (z : List Int) (w : World) (hlen : len ≤ 1048576) (hcap : len ≤ cap) (hb : Bytes w a len z) :
    Calls Tryd.prog 27 #[.slice a len cap] w (DrawnPN w) := by
  have D := hide (l91Fit_any a len cap z w hlen hcap hb)
  clear hb
  go_enter Tryd.func27, Tryd.ntmps27
  go_wp2_with fail
  refine D.out.mono ?_
  rintro e w1 ⟨v, l, n, rfl, h1, h2, h3, h4, h5, h6⟩
  have K := hide (show DrawnPN w (.returned (.tuple #[v, .int .i64 n])) w1 from ⟨v, l, n, rfl, h1, h2, h3, h4, h5, h6⟩)
  clear h1 h2 h3 h4 h5 h6
  go_wp2_with fail
  go_ret2
  exact K.out
end Go.Proofs.YteibopcneflidaaDoor

/- THE WALKS of partsOfRow and of the program's RigOf. -/
namespace Go.Proofs.YteibopcneflidaaDoor
open Go.RowKit Go.Sort Go.Shelf

/-- what partsOfRow hands back -/
def PartsPost (w : World) (s : ByteArray) (ok : Bool) (e : Ending) (w' : World) : Prop :=
  if ok then ∃ u, e = .returned (.tuple #[u, .nilIface]) ∧ PartsV w.heap.size w' u (kRc (rvB s)) else ∃ t, e = .returned (.tuple #[.slice none 0 0, .iface 78 (.string t)])

set_option maxRecDepth 100000 in
set_option maxHeartbeats 4000000 in
theorem partsOfRow_any (s : ByteArray) (w : World) (hs : s.size ≤ maxLen) :
    Calls Tryd.prog 44 #[.string s] w fun e w' => PartsPost w s (highB s) e w' ∧ Below w.heap.size w w' := by
  have CH := hide (fun w => implRowHigh_any s w hs)
  cases hv : vld s
  · have hh : highB s = false := by
      cases h : highB s
      · rfl
      · have := ((levOk_iff s).1 ((highB_iff s).1 h).1).1
        rw [hv] at this; cases this
    rw [hh]
    have C := hide (fun w => readRow_no s w hs hv)
    clear hh hv
    go_enter Tryd.func44, Tryd.ntmps44
    go_wp2_with fail
    refine (C.out w).mono ?_
    rintro e w1 ⟨rfl, rfl⟩
    go_wp2_with fail
    go_ret2
    exact ⟨⟨_, rfl⟩, Below.refl _ _⟩
  · have C := hide (readRow_yes s w hv)
    cases hh : highB s
    · rw [hh] at CH
      clear hh hv
      go_enter Tryd.func44, Tryd.ntmps44
      go_wp2_with fail
      refine C.out.mono ?_
      rintro e w1 ⟨rfl, hb1, hc1, hz1⟩
      have HB1 := hide hb1
      clear hb1 hc1
      go_wp2_with fail
      refine (CH.out w1).mono ?_
      rintro e w2 ⟨rfl, hb2⟩
      have HB2 := hide (HB1.out.trans (hb2.mono HB1.out.size))
      clear hb2
      go_wp2_with fail
      go_ret2
      exact ⟨⟨_, rfl⟩, HB2.out⟩
    · obtain ⟨h1, h2⟩ := (highB_iff s).1 hh
      have h3 := ((levOk_iff s).1 h1).2
      have h120 := vld_le s hv
      rw [hh] at CH
      rw [h3] at C
      have HI := hide h2
      obtain ⟨n, hn⟩ : ∃ n, n = s.size := ⟨_, rfl⟩
      have HN := hide hn
      rw [← hn] at C h120
      have NR := hide (fun (W : World) => newRigged_any [] (.slice none 0 0) 0 W (lo := 0) (by unfold pSorted; exact List.Pairwise.nil) (.inl ⟨_, _, rfl, rfl⟩) (by decide))
      clear hh hv h1 h2 h3 hn hs
      go_enter Tryd.func44, Tryd.ntmps44
      go_wp2_with fail
      refine C.out.mono ?_
      rintro e w1 ⟨rfl, hb1, hc1, hz1⟩
      have HB1 := hide hb1
      have HC1 := hide hc1
      clear hb1 hc1
      go_wp2_with fail
      refine (CH.out w1).mono ?_
      rintro e w2 ⟨rfl, hb2⟩
      have HB2 := hide (HB1.out.trans (hb2.mono HB1.out.size))
      have HC2 := hide (HC1.out.below' hb2 (Nat.le_refl _))
      have hz2 : w.heap.size < w2.heap.size := Nat.lt_of_lt_of_le hz1 hb2.size
      clear hb2
      go_wp2_with fail
      refine (NR.out w2).mono ?_
      rintro e w3 ⟨rfl, v3, hr3, hb3⟩
      have HR3 := hide hr3
      have HB3 := hide hb3
      have HC3 := hide (HC2.out.below' hb3 (Nat.le_refl _))
      clear hr3 hb3
      go_wp2_with fail
      go_loopw [25] (fun i wr => ∃ (k : Nat) (v' : Value), k ≤ n ∧ i = .int .i64 (k : Int) ∧ Hid (RigAt wr w2.heap.size w2.heap.size v' (kRc ((bits s).take k).reverse) (k : Int)) ∧ Hid (Below w2.heap.size w2 wr)) (fun i _ => n - (intOf i).toNat)
      case atStart => exact ⟨0, v3, Nat.zero_le _, rfl, HR3, HB3⟩
      case round =>
        obtain ⟨k, v', hk, rfl, HR, HB⟩ := hrel
        by_cases hlt : k < n
        · have hks : k < s.size := by rw [← HN.out]; exact hlt
          obtain ⟨b, hb⟩ : ∃ b, (bits s)[k]? = some b := ⟨_, List.getElem?_eq_getElem (by rw [length_bits]; exact hks)⟩
          have c1 : wr.cell? ⟨w.heap.size, k, none⟩ = some (.bool b) := ((HC2.out.below HB.out hz2) k (.bool b) (by simp [hb])).1
          obtain ⟨p, hp⟩ : ∃ p, p = ((bits s).take k).reverse := ⟨_, rfl⟩
          have hpl : p.length = k := by rw [hp, List.length_reverse, List.length_take, length_bits]; omega
          have hph : kHi p := by rw [hp]; exact kHi_take HI.out k (by rw [length_bits]; omega)
          have HPN : Hid (((bits s).take (k + 1)).reverse = b :: p) := by rw [hp]; exact hide (rc_next hb)
          rw [← hp] at HR
          obtain ⟨r1, _⟩ := rc_in hph (by omega)
          obtain ⟨r2, r3, r4⟩ := (rgIn_iff _).1 ((rgFits_iff _ _).1 r1).1
          have hvl := hide (fun g h => (HR.out.own.lt g h).1)
          have hwr : w2.heap.size ≤ wr.heap.size := HB.out.size
          have i0 : (0 : Int) ≤ (k : Int) := by omega
          have i1 : (k : Int) < (n : Int) := by omega
          cases b
          · have AB := hide (addBox_none w2.heap.size w2.heap.size v' (kRc p) (k : Int) wr HR.out (by omega))
            have HNX : Hid (kRc ((bits s).take (k + 1)).reverse = kRc p) := by show _ = _; rw [HPN.out]; rfl
            clear hb hp hpl hph r1 r2 r3 r4 HPN
            go_wp2_with fail
            refine AB.out.mono ?_
            rintro e w4 ⟨rfl, q1, q2⟩
            have Q1 := hide q1
            have Q2 := hide (HB.out.trans (q2.below (Nat.le_refl _) hvl.out hwr))
            clear q1 q2
            go_wp2
            go_roundw
            case rel => exact ⟨k + 1, v', by omega, by go_num, by rw [HNX.out, show ((k + 1 : Nat) : Int) = (k : Int) + 1 by omega]; exact Q1, Q2⟩
            case measure => simp [intOf]; omega
          · have AB := hide (addBox_ball w2.heap.size w2.heap.size v' (kRc p) (k : Int) wr HR.out r3 (by omega) (fun a ha => by have := r2 a ha; omega) (by omega))
            have HNX : Hid (kRc ((bits s).take (k + 1)).reverse = pStep (kRc p) (k : Int)) := by show _ = _; rw [HPN.out, kRc_true, hpl]
            clear hb hp hpl hph r1 r2 r3 r4 HPN
            go_wp2_with fail
            refine AB.out.mono ?_
            rintro e w4 ⟨rfl, v4, q1, q2, _⟩
            have Q1 := hide q1
            have Q2 := hide (HB.out.trans (q2.below (Nat.le_refl _) hvl.out hwr))
            clear q1 q2
            go_wp2
            go_roundw
            case rel => exact ⟨k + 1, v4, by omega, by go_num, by rw [HNX.out, show ((k + 1 : Nat) : Int) = (k : Int) + 1 by omega]; exact Q1, Q2⟩
            case measure => simp [intOf]; omega
        · have hkn : k = n := by omega
          have HE : Hid (((bits s).take k).reverse = rvB s) := by
            show _ = _
            unfold rvB
            rw [List.take_of_length_le (by rw [length_bits, ← HN.out]; omega)]
          have c1 := HR.out.items
          have hBB := hide (HB2.out.trans (HB.out.mono (Nat.le_of_lt hz2)))
          go_wp2
          go_ret2
          exact ⟨⟨v', rfl, by rw [← HE.out]; exact (PartsV.of_owns (owns_lo HR.out.own (Nat.le_of_lt hz2)))⟩, hBB.out⟩

set_option maxHeartbeats 1000000 in
theorem implRigOf_any (s : ByteArray) (w : World) (hE : EtAt w) (hs : s.size ≤ maxLen) :
    Calls Tryd.prog 21 #[.string s] w fun e w' => ∃ u, e = .returned (.tuple #[u, .bool (highB s)]) ∧ PartsV w.heap.size w' u (rgOf s) ∧ Below w.heap.size w w' := by
  have HE := hide hE
  have C := hide (partsOfRow_any s w hs)
  cases hok : highB s
  · rw [hok] at C
    have e0 : rgOf s = [] := by unfold rgOf; rw [hok]; rfl
    rw [e0]
    clear hE hok e0
    go_enter Tryd.func21, Tryd.ntmps21
    go_wp2_with fail
    refine C.out.mono ?_
    rintro e w1 ⟨⟨t, rfl⟩, hb1⟩
    have HB1 := hide hb1
    have SO := hide (sound_any false _ w1 (HE.out.below hb1 (Nat.le_refl _)) (fault_mk t))
    clear hb1
    go_wp2_with fail
    refine SO.out.mono ?_
    rintro e w2 ⟨rfl, hb2⟩
    have HB2 := hide hb2
    clear hb2
    go_wp2_with fail
    go_ret2
    exact ⟨_, rfl, .inl ⟨_, _, rfl, rfl⟩, HB1.out.trans (HB2.out.mono HB1.out.size)⟩
  · rw [hok] at C
    have e0 : rgOf s = kRc (rvB s) := by unfold rgOf; rw [hok]; rfl
    rw [e0]
    clear hE hok e0
    go_enter Tryd.func21, Tryd.ntmps21
    go_wp2_with fail
    refine C.out.mono ?_
    rintro e w1 ⟨⟨u, rfl, hp⟩, hb1⟩
    have HB1 := hide hb1
    have HP1 := hide hp
    have SO := hide (sound_any true .nilIface w1 (HE.out.below hb1 (Nat.le_refl _)) rfl)
    clear hb1 hp
    go_wp2_with fail
    refine SO.out.mono ?_
    rintro e w2 ⟨rfl, hb2⟩
    have HB2 := hide hb2
    clear hb2
    go_wp2_with fail
    go_ret2
    exact ⟨_, rfl, HP1.out.below HB2.out (Nat.le_refl _), HB1.out.trans (HB2.out.mono HB1.out.size)⟩
end Go.Proofs.YteibopcneflidaaDoor

/- THE WALKS of the laws of rows of rigged partitions. -/
namespace Go.Proofs.YteibopcneflidaaDoor
open Go.RowKit Go.Sort Go.Shelf

set_option maxRecDepth 100000 in
set_option maxHeartbeats 4000000 in
theorem walkFnFitsRow {w : World} (a : Option Addr) (len cap : Nat) (z : List Int) (hr : IsRow .u8 w a len cap z) (hE : EtAt w) :
    Calls Tryd.prog 7 #[.slice a len cap] w fun e w' => e = .returned (.bool true) ∧ Below w.heap.size w w' := by
  have hcap := hr.le
  have hmax := hr.max
  unfold maxLen at hmax
  by_cases hbig : 1048576 < len
  · go_enter Tryd.func7, Tryd.ntmps7
    go_wp2
    go_ret
    exact ⟨rfl, Below.refl _ _⟩
  · have D := hide (DrawRigFits_any a len cap z w (by omega) hcap hr.bytes)
    have HE := hide hE
    clear hr hE
    go_enter Tryd.func7, Tryd.ntmps7
    go_wp2_with fail
    refine D.out.mono ?_
    rintro e w1 ⟨v, l, m, rfl, m0, m1, hp1, _, hlen, hb1⟩
    have P1 := hide hp1.1
    have B1 := hide hb1
    have IM := hide (fun (v : Value) (w : World) (lo : Nat) (hE : EtAt w) (h : PartsV lo w v l) => implRigFits_any l v m w hE h (by omega))
    have SP := hide (fun (v : Value) (w : World) (lo : Nat) (h : PartsV lo w v l) => specRigFits_any l v m w h (by omega))
    have RO := hide (fun (v : Value) (w : World) (lo : Nat) (hE : EtAt w) (h : PartsV lo w v l) => implRigRow_any l v m w hE h (by omega))
    clear hp1 hb1
    cases hok : rgFits l m
    · rw [hok] at IM SP
      clear hok RO
      go_wp2_with fail
      refine (IM.out v w1 _ (HE.out.below B1.out (Nat.le_refl _)) P1.out).mono ?_
      rintro e w2 ⟨rfl, b2⟩
      have B2 := hide (B1.out.trans (b2.mono B1.out.size))
      have P2 := hide (P1.out.below b2 (Nat.le_refl _))
      clear b2
      go_wp2_with fail
      refine (SP.out v w2 _ P2.out).mono ?_
      rintro e w3 ⟨rfl, b3⟩
      have B3 := hide (B2.out.trans (b3.mono B2.out.size))
      clear b3
      go_wp2_with fail
      go_ret
      exact ⟨by simp, B3.out⟩
    · rw [hok] at IM SP RO
      obtain ⟨t, ht⟩ : ∃ t, t = rgRow l m := ⟨_, rfl⟩
      rw [← ht] at RO
      clear hok ht
      go_wp2_with fail
      refine (IM.out v w1 _ (HE.out.below B1.out (Nat.le_refl _)) P1.out).mono ?_
      rintro e w2 ⟨rfl, b2⟩
      have B2 := hide (B1.out.trans (b2.mono B1.out.size))
      have P2 := hide (P1.out.below b2 (Nat.le_refl _))
      clear b2
      go_wp2_with fail
      refine (SP.out v w2 _ P2.out).mono ?_
      rintro e w3 ⟨rfl, b3⟩
      have B3 := hide (B2.out.trans (b3.mono B2.out.size))
      have P3 := hide (P2.out.below b3 (Nat.le_refl _))
      clear b3
      go_wp2_with fail
      refine (RO.out v w3 _ (HE.out.below B3.out (Nat.le_refl _)) P3.out).mono ?_
      rintro e w4 ⟨rfl, b4⟩
      have B4 := hide (B3.out.trans (b4.mono B3.out.size))
      clear b4
      go_wp2_with fail
      go_ret
      exact ⟨rfl, B4.out⟩

set_option maxRecDepth 100000 in
set_option maxHeartbeats 4000000 in
theorem walkFnRigRow {w : World} (a : Option Addr) (len cap : Nat) (z : List Int) (hr : IsRow .u8 w a len cap z) (hE : EtAt w) :
    Calls Tryd.prog 8 #[.slice a len cap] w fun e w' => e = .returned (.bool true) ∧ Below w.heap.size w w' := by
  have hcap := hr.le
  have hmax := hr.max
  unfold maxLen at hmax
  by_cases hbig : 1048576 < len
  · go_enter Tryd.func8, Tryd.ntmps8
    go_wp2
    go_ret
    exact ⟨rfl, Below.refl _ _⟩
  · have D := hide (DrawRigRow_any a len cap z w (by omega) hcap hr.bytes)
    have HE := hide hE
    clear hr hE
    go_enter Tryd.func8, Tryd.ntmps8
    go_wp2_with fail
    refine D.out.mono ?_
    rintro e w1 ⟨v, l, m, rfl, m0, m1, hp1, _, hlen, hb1⟩
    have P1 := hide hp1.1
    have B1 := hide hb1
    have SP := hide (fun (v : Value) (w : World) (lo : Nat) (h : PartsV lo w v l) => specRigRow_any l v m w h (by omega))
    have RO := hide (fun (v : Value) (w : World) (lo : Nat) (hE : EtAt w) (h : PartsV lo w v l) => implRigRow_any l v m w hE h (by omega))
    clear hp1 hb1
    cases hok : rgFits l m
    · rw [hok] at SP RO
      have e0 : rgRow l m = ByteArray.empty := by unfold rgRow; rw [hok]; rfl
      rw [e0] at SP RO
      clear hok e0
      go_wp2_with fail
      refine (RO.out v w1 _ (HE.out.below B1.out (Nat.le_refl _)) P1.out).mono ?_
      rintro e w2 ⟨rfl, b2⟩
      have B2 := hide (B1.out.trans (b2.mono B1.out.size))
      have P2 := hide (P1.out.below b2 (Nat.le_refl _))
      clear b2
      go_wp2_with fail
      refine (SP.out v w2 _ P2.out).mono ?_
      rintro e w3 ⟨rfl, b3⟩
      have B3 := hide (B2.out.trans (b3.mono B2.out.size))
      clear b3
      go_wp2_with fail
      go_ret
      exact ⟨by simp, B3.out⟩
    · obtain ⟨f1, f2, f3⟩ := rigRow_facts hok
      rw [hok] at SP RO
      obtain ⟨t, ht⟩ : ∃ t, t = rgRow l m := ⟨_, rfl⟩
      rw [← ht] at SP RO f1 f2 f3
      have hts : t.size ≤ maxLen := by have := ((rgFits_iff l m).1 hok).2.1; unfold maxLen; omega
      have RF := hide (fun (w : World) (hE : EtAt w) => implRigOf_any t w hE hts)
      have RH := hide (fun (w : World) => implRowHigh_any t w hts)
      rw [f1, f2] at RF
      rw [f1] at RH
      have EQ := hide (fun (v v' : Value) (w : World) (lo lo' : Nat) (h : PartsV lo w v l) (h' : PartsV lo' w v' l) => sameParts_same (by unfold maxLen; omega) h h')
      have d1 : decide ((t.size : Int) ≤ m) = true := by simpa using f3
      clear hok ht f1 f2 hts
      go_wp2_with fail
      refine (RO.out v w1 _ (HE.out.below B1.out (Nat.le_refl _)) P1.out).mono ?_
      rintro e w2 ⟨rfl, b2⟩
      have B2 := hide (B1.out.trans (b2.mono B1.out.size))
      have P2 := hide (P1.out.below b2 (Nat.le_refl _))
      clear b2
      go_wp2_with fail
      refine (SP.out v w2 _ P2.out).mono ?_
      rintro e w3 ⟨rfl, b3⟩
      have B3 := hide (B2.out.trans (b3.mono B2.out.size))
      have P3 := hide (P2.out.below b3 (Nat.le_refl _))
      clear b3
      go_wp2_with fail
      refine (RF.out w3 (HE.out.below B3.out (Nat.le_refl _))).mono ?_
      rintro e w4 ⟨u, rfl, i4, b4⟩
      have B4 := hide (B3.out.trans (b4.mono B3.out.size))
      have P4 := hide (P3.out.below b4 (Nat.le_refl _))
      have I4 := hide i4
      clear b4 i4
      go_wp2_with fail
      refine (EQ.out _ _ w4 _ _ I4.out P4.out).mono ?_
      rintro e w5 ⟨rfl, q5⟩
      have B5 := hide (B4.out.trans (q5.2 _))
      clear q5
      go_wp2_with fail
      refine (RH.out w5).mono ?_
      rintro e w6 ⟨rfl, b6⟩
      have B6 := hide (B5.out.trans (b6.mono B5.out.size))
      clear b6
      go_wp2_with fail
      go_ret
      exact ⟨rfl, B6.out⟩
end Go.Proofs.YteibopcneflidaaDoor
