/- THE WALK of the law of sizes of rigged partitions. -/
import Derived.Test.YtijaicokkoopoaaDoorDrawP
import Derived.Test.YtijaicokkoopoaaDoorSpec4b
namespace Go.Proofs.YtijaicokkoopoaaDoor
open Go.RowKit Go.Sort Go.Shelf

theorem ints_formQ {lo : Nat} {w : World} {u : Value} {L : List Int} {n : Nat} (h : IntsV lo w u L) (hn : L.length = n) : ∃ a c, u = .slice a n c ∧ (0 < n → ∃ g, a = some ⟨g, 0, none⟩ ∧ CellsAt w g (L.map (.int .i64))) := by
  subst hn
  rcases h with ⟨a, c, rfl, rfl⟩ | ⟨g, c, rfl, _, _, _, hc⟩
  · exact ⟨a, c, rfl, fun h => by simp at h⟩
  · exact ⟨_, c, rfl, fun _ => ⟨g, rfl, hc⟩⟩

set_option maxRecDepth 100000 in
set_option maxHeartbeats 4000000 in
theorem walkFnRigSizes {w : World} (a : Option Addr) (len cap : Nat) (z : List Int) (hr : IsRow .u8 w a len cap z) (hE : EtAt w) :
    Calls Tryd.prog 5 #[.slice a len cap] w fun e w' => e = .returned (.bool true) ∧ Below w.heap.size w w' := by
  have hcap := hr.le
  have hmax := hr.max
  unfold maxLen at hmax
  by_cases hbig : 1048576 < len
  · go_enter Tryd.func5, Tryd.ntmps5
    go_wp2
    go_ret
    exact ⟨rfl, Below.refl _ _⟩
  · have D := hide (DrawRigSizes_any a len cap z w (by omega) hcap hr.bytes)
    have HE := hide hE
    clear hr hE
    go_enter Tryd.func5, Tryd.ntmps5
    go_wp2_with fail
    refine D.out.mono ?_
    rintro e w1 ⟨v, l, rfl, hp1, _, hlen, hb1⟩
    have P1 := hide hp1
    have B1 := hide hb1
    have IM := hide (fun (v : Value) (w : World) (lo : Nat) (hE : EtAt w) (h : PartsV lo w v l) => implRigSizes_any l v w hE h (by omega))
    have SP := hide (fun (v : Value) (w : World) (lo : Nat) (h : PartsV lo w v l) => specRigSizes_any l v w h (by omega))
    clear hp1 hb1
    have hLb : (rgSizes l).length ≤ maxLen := by unfold rgSizes maxLen; split <;> simp; omega
    have EQ := hide (fun (v v' : Value) (w : World) (lo lo' : Nat) (h : IntsV lo w v (rgSizes l)) (h' : IntsV lo' w v' (rgSizes l)) => sameInts_same hLb h h')
    cases hok : rgIn l
    · rw [hok] at IM SP
      obtain ⟨L, hL⟩ : ∃ L, L = rgSizes l := ⟨_, rfl⟩
      rw [← hL] at IM SP EQ
      clear hok hL hLb
      go_wp2_with fail
      refine (IM.out v w1 _ (HE.out.below B1.out (Nat.le_refl _)) P1.out.1).mono ?_
      rintro e w2 ⟨u1, rfl, i2, b2⟩
      have B2 := hide (B1.out.trans (b2.mono B1.out.size))
      have P2 := hide (P1.out.below b2 (Nat.le_refl _))
      have I2 := hide i2
      clear b2 i2
      go_wp2_with fail
      refine (SP.out v w2 _ P2.out.1).mono ?_
      rintro e w3 ⟨u2, rfl, i3, b3⟩
      have B3 := hide (B2.out.trans (b3.mono B2.out.size))
      have I2' := hide (I2.out.below b3 (Nat.le_refl _))
      have I3 := hide i3
      clear b3 i3
      go_wp2_with fail
      refine (EQ.out _ _ w3 _ _ I2'.out I3.out).mono ?_
      rintro e w4 ⟨rfl, q4⟩
      have Q4 := hide q4
      have J2 := hide (q4.ints I2'.out)
      have J3 := hide (q4.ints I3.out)
      clear q4
      go_wp2_with fail
      refine (EQ.out _ _ w4 _ _ J2.out J3.out).mono ?_
      rintro e w5 ⟨rfl, q5⟩
      have B5 := hide (B3.out.trans ((Q4.out.2 w.heap.size).trans (q5.2 w.heap.size)))
      clear q5
      go_wp2_with fail
      go_ret
      exact ⟨by simp, B5.out⟩
    · have hrs : rgSizes l = l.map (fun a => a.1) := by unfold rgSizes; rw [hok]; rfl
      have hLL : (l.map (fun a => a.1)).length = l.length := List.length_map ..
      rw [hok, hrs] at IM SP
      rw [hrs] at EQ
      obtain ⟨n, hn⟩ : ∃ n, l.length = n := ⟨_, rfl⟩
      have GET := hide (fun (k : Nat) (x : Int × Int) (h : l[k]? = some x) => (by rw [List.getElem?_map, h]; rfl : (l.map (fun a => a.1))[k]? = some x.1))
      obtain ⟨L, hL⟩ : ∃ L, L = l.map (fun a => a.1) := ⟨_, rfl⟩
      rw [← hL] at IM SP EQ hLL GET
      rw [hn] at hLL hlen
      obtain ⟨_, g, c, rfl, q1, q2, q3, q4⟩ := P1.out
      rw [hn] at P1 q1 ⊢
      have HLL := hide hLL
      have HNN := hide hn
      have HC1 := hide q4
      clear hok hrs hL hn q4 hLL q2 q3 hLb
      go_wp2_with fail
      refine (IM.out _ w1 _ (HE.out.below B1.out (Nat.le_refl _)) P1.out.1).mono ?_
      rintro e w2 ⟨u1, rfl, i2, b2⟩
      have B2 := hide (B1.out.trans (b2.mono B1.out.size))
      have P2 := hide (P1.out.below b2 (Nat.le_refl _))
      have HC2 := hide (HC1.out.below' b2 (Nat.le_refl _))
      have I2 := hide i2
      clear b2 i2
      go_wp2_with fail
      refine (SP.out _ w2 _ P2.out.1).mono ?_
      rintro e w3 ⟨u2, rfl, i3, b3⟩
      have B3 := hide (B2.out.trans (b3.mono B2.out.size))
      have I2' := hide (I2.out.below b3 (Nat.le_refl _))
      have HC3 := hide (HC2.out.below' b3 (Nat.le_refl _))
      have I3 := hide i3
      clear b3 i3
      go_wp2_with fail
      refine (EQ.out _ _ w3 _ _ I2'.out I3.out).mono ?_
      rintro e w4 ⟨rfl, q4⟩
      have HC4 := hide (q4.cells HC3.out)
      have B4 := hide (B3.out.trans (q4.2 w.heap.size))
      obtain ⟨ua, uc, rfl, uf⟩ := ints_formQ (n := n) (q4.ints I2'.out) HLL.out
      have UF := hide uf
      clear q4 uf P1 P2 B1 B2 B3 I2 I2' I3 IM SP EQ HC1 HC2 HC3
      go_wp2_with fail
      go_loopw [8] (fun i wr => ∃ k : Nat, k ≤ n ∧ i = .int .i64 (k : Int) ∧ Hid (Quiet w4 wr)) (fun i _ => n - (intOf i).toNat)
      case atStart => exact ⟨0, Nat.zero_le _, rfl, Quiet.refl _⟩
      case round =>
        obtain ⟨k, hk, rfl, HQ⟩ := hrel
        by_cases hlt : k < n
        · obtain ⟨q, rfl, hq⟩ := UF.out (by omega)
          obtain ⟨x, hx⟩ : ∃ x, l[k]? = some x := ⟨_, List.getElem?_eq_getElem (by rw [HNN.out]; exact hlt)⟩
          obtain ⟨g1, _⟩ := encZ_get l k x hx
          have c1 : wr.cell? ⟨g, k * 2, none⟩ = some (.int .i64 x.1) := ((HQ.out.cells HC4.out) _ _ g1).1
          have c2 : wr.cell? ⟨q, k, none⟩ = some (.int .i64 x.1) := ((HQ.out.cells hq) k _ (by rw [List.getElem?_map, GET.out k x hx]; rfl)).1
          obtain ⟨x1, hx1⟩ : ∃ y, y = x.1 := ⟨_, rfl⟩
          rw [← hx1] at c1 c2
          have hxx : ((x1 : Int) != x1) = false := by simp
          have i0 : (0 : Int) ≤ (k : Int) := by omega
          have i1 : (k : Int) < (n : Int) := by omega
          clear hx g1 hx1 hq
          go_wp2
          go_quiet (fail)
          go_wp2
          go_roundw
          case rel => exact ⟨k + 1, by omega, by go_num, HQ.out.trans (Quiet.drewN _)⟩
          case measure => simp [intOf]; omega
        · have BW := hide (B4.out.trans (HQ.out.2 w.heap.size))
          have kn : ¬ ((k : Int) < (n : Int)) := by omega
          go_wp2_with fail
          go_ret
          exact ⟨by simp, BW.out⟩
end Go.Proofs.YtijaicokkoopoaaDoor
