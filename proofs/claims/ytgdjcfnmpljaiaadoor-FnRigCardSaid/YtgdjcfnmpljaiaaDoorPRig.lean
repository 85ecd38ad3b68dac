/- THE WALK of the law of rigged partitions. -/
import Derived.Test.YtgdjcfnmpljaiaaDoorDrawP
import Derived.Test.YtgdjcfnmpljaiaaDoorChk4
import Derived.Test.YtgdjcfnmpljaiaaDoorSpec4b
namespace Go.Proofs.YtgdjcfnmpljaiaaDoor
open Go.RowKit Go.Sort Go.Shelf

theorem ints_formP {lo : Nat} {w : World} {u : Value} {L : List Int} {n : Nat} (h : IntsV lo w u L) (hn : L.length = n) : ∃ a c, u = .slice a n c ∧ (0 < n → ∃ g, a = some ⟨g, 0, none⟩ ∧ CellsAt w g (L.map (.int .i64))) := by
  subst hn
  rcases h with ⟨a, c, rfl, rfl⟩ | ⟨g, c, rfl, _, _, _, hc⟩
  · exact ⟨a, c, rfl, fun h => by simp at h⟩
  · exact ⟨_, c, rfl, fun _ => ⟨g, rfl, hc⟩⟩
theorem sizes_fall {l : List (Int × Int)} (h : rgIn l = true) (k : Nat) (x y : Int) (h1 : (l.map (fun a => a.1))[k]? = some x) (h2 : (l.map (fun a => a.1))[k + 1]? = some y) : y ≤ x := by
  rw [List.getElem?_map, Option.map_eq_some_iff] at h1 h2
  obtain ⟨p, hp, rfl⟩ := h1
  obtain ⟨q, hq, rfl⟩ := h2
  have hs := ((rgIn_iff l).1 h).2.1
  have := (rgSorted_adj l).1 ((rgSorted_iff l).2 hs) k p q hp hq
  rw [pLess_false] at this
  omega
theorem PartsS.take {lo g c n : Nat} {w : World} {l : List (Int × Int)} (h : PartsS lo w (.slice (some ⟨g, 0, none⟩) n c) l) (k : Nat) (hk : k ≤ n) : PartsV lo w (.slice (some ⟨g, 0, none⟩) k c) (l.take k) := by
  obtain ⟨_, g', c', e, h1, h2, h3, h4⟩ := h
  injection e with e1 e2 e3
  injection e1 with e1
  injection e1 with e1 _ _
  subst e1 e3
  refine .inr ⟨g, c, by rw [List.length_take, Nat.min_eq_left (by omega)], by rw [List.length_take]; omega, h2, h3, ?_⟩
  rw [encZ_take]
  intro j u hu
  have hj : j < k * 2 := by
    have := (List.getElem?_eq_some_iff.1 hu).1
    rw [List.length_take] at this
    omega
  rw [List.getElem?_take_of_lt hj] at hu
  exact h4 j u hu

set_option maxRecDepth 100000 in
set_option maxHeartbeats 4000000 in
theorem walkFnRig {w : World} (a : Option Addr) (len cap : Nat) (z : List Int) (hr : IsRow .u8 w a len cap z) (hE : EtAt w) :
    Calls Tryd.prog 7 #[.slice a len cap] w fun e w' => e = .returned (.bool true) ∧ Below w.heap.size w w' := by
  have hcap := hr.le
  have hmax := hr.max
  unfold maxLen at hmax
  by_cases hbig : 1048576 < len
  · go_enter Tryd.func7, Tryd.ntmps7
    go_wp2
    go_ret
    exact ⟨rfl, Below.refl _ _⟩
  · have D := hide (DrawRigIn_any a len cap z w (by omega) hcap hr.bytes)
    have HE := hide hE
    clear hr hE
    go_enter Tryd.func7, Tryd.ntmps7
    go_wp2_with fail
    refine D.out.mono ?_
    rintro e w1 ⟨v, l, rfl, hp1, _, hlen, hb1⟩
    have P1 := hide hp1
    have B1 := hide hb1
    have IM := hide (fun (v : Value) (w : World) (lo : Nat) (hE : EtAt w) (h : PartsV lo w v l) => implRigIn_any l v w hE h (by omega))
    have SP := hide (fun (v : Value) (w : World) (lo : Nat) (h : PartsV lo w v l) => specRigIn_any l v w h (by omega))
    clear hp1 hb1
    cases hok : rgIn l
    · rw [hok] at IM SP
      clear hok
      go_wp2_with fail
      refine (IM.out v w1 _ (HE.out.below B1.out (Nat.le_refl _)) P1.out.1).mono ?_
      rintro e w2 ⟨rfl, b2⟩
      have B2 := hide (B1.out.trans (b2.mono B1.out.size))
      have P2 := hide (P1.out.below b2 (Nat.le_refl _))
      clear b2
      go_wp2_with fail
      refine (SP.out v w2 _ P2.out.1).mono ?_
      rintro e w3 ⟨rfl, g3⟩
      have B3 := hide (B2.out.trans (g3.below.mono B2.out.size))
      clear g3
      go_wp2_with fail
      go_ret
      exact ⟨by simp, B3.out⟩
    · have SZ := hide (fun (v : Value) (w : World) (lo : Nat) (hE : EtAt w) (h : PartsV lo w v l) => implRigSizes_any l v w hE h (by omega))
      have IL := hide (fun (k : Nat) (v : Value) (w : World) (lo : Nat) (hE : EtAt w) (h : PartsV lo w v (l.take k)) => implRigIn_any (l.take k) v w hE h (by rw [List.length_take]; omega))
      have FALL := hide (sizes_fall hok)
      have hrs : rgSizes l = l.map (fun a => a.1) := by unfold rgSizes; rw [hok]; rfl
      have hLL : (l.map (fun a => a.1)).length = l.length := List.length_map ..
      rw [hok, hrs] at SZ
      rw [hok] at IM SP
      have IL2 := hide (fun (k : Nat) => IL.out k)
      obtain ⟨L, hL⟩ : ∃ L, L = l.map (fun a => a.1) := ⟨_, rfl⟩
      rw [← hL] at SZ FALL hLL
      have IK : Hid (∀ k, rgIn (l.take k) = true) := hide (fun k => rgIn_last hok k)
      obtain ⟨n, hn⟩ : ∃ n, l.length = n := ⟨_, rfl⟩
      rw [hn] at hLL hlen
      obtain ⟨_, g, c, rfl, q1, q2, q3, q4⟩ := P1.out
      rw [hn] at P1 q1 ⊢
      have HLL := hide hLL
      have HNN := hide hn
      clear hok hrs hL hn q4 hLL IL q2 q3
      go_wp2_with fail
      refine (IM.out _ w1 _ (HE.out.below B1.out (Nat.le_refl _)) P1.out.1).mono ?_
      rintro e w2 ⟨rfl, b2⟩
      have B2 := hide (B1.out.trans (b2.mono B1.out.size))
      have P2 := hide (P1.out.below b2 (Nat.le_refl _))
      clear b2
      go_wp2_with fail
      refine (SP.out _ w2 _ P2.out.1).mono ?_
      rintro e w3 ⟨rfl, g3⟩
      have B3 := hide (B2.out.trans (g3.below.mono B2.out.size))
      have P3 := hide (P2.out.below g3.below (Nat.le_refl _))
      clear g3
      go_wp2_with fail
      refine (SZ.out _ w3 _ (HE.out.below B3.out (Nat.le_refl _)) P3.out.1).mono ?_
      rintro e w4 ⟨u, rfl, i4, b4⟩
      have B4 := hide (B3.out.trans (b4.mono B3.out.size))
      have P4 := hide (P3.out.below b4 (Nat.le_refl _))
      obtain ⟨ua, uc, rfl, uf⟩ := ints_formP (n := n) i4 HLL.out
      have UF := hide uf
      clear b4 i4 uf P1 P2 P3 B1 B2 B3 IM SP SZ
      go_wp2_with fail
      go_loopw [8] (fun i wr => ∃ k : Nat, 1 ≤ k ∧ (k ≤ n ∨ k = 1) ∧ i = .int .i64 (k : Int) ∧ Hid (Quiet w4 wr)) (fun i _ => n + 1 - (intOf i).toNat)
      case atStart => exact ⟨1, Nat.le_refl _, .inr rfl, rfl, Quiet.refl _⟩
      case round =>
        obtain ⟨k, hk1, hk2, rfl, HQ⟩ := hrel
        by_cases hlt : k < n
        · obtain ⟨q, rfl, hq⟩ := UF.out (by omega)
          obtain ⟨m, rfl⟩ : ∃ m, k = m + 1 := ⟨k - 1, by omega⟩
          obtain ⟨x, hx⟩ : ∃ x, L[m]? = some x := ⟨_, List.getElem?_eq_getElem (by rw [HLL.out]; omega)⟩
          obtain ⟨y, hy⟩ : ∃ y, L[m + 1]? = some y := ⟨_, List.getElem?_eq_getElem (by rw [HLL.out]; omega)⟩
          have hq' := HQ.out.cells hq
          have c1 : wr.cell? ⟨q, m, none⟩ = some (.int .i64 x) := (hq' m _ (by rw [List.getElem?_map, hx]; rfl)).1
          have c2 : wr.cell? ⟨q, m + 1, none⟩ = some (.int .i64 y) := (hq' (m + 1) _ (by rw [List.getElem?_map, hy]; rfl)).1
          have f := FALL.out m x y hx hy
          have d1 : decide (x < y) = false := by simpa using f
          have ea : ((m : Int) + 1).toNat = m + 1 := by omega
          have pa : (0 : Int) ≤ (m : Int) + 1 := by omega
          have ba : (m : Int) + 1 < (n : Int) := by omega
          have m0 : (0 : Int) ≤ (m : Int) := by omega
          have m1 : (m : Int) < (n : Int) := by omega
          have ra : IntKind.i64.wrap ((m : Int) + 1 - 1) = (m : Int) := by rw [IntKind.wrap_i64]; omega
          have hkz : ((m + 1 : Nat) : Int) = (m : Int) + 1 := by omega
          rw [hkz]
          clear hkz hx hy hq hq' f
          go_wp2
          go_quiet (fail)
          go_wp2
          go_roundw
          case rel => exact ⟨m + 1 + 1, by omega, .inl (by omega), by go_num, HQ.out.trans (Quiet.drewN _)⟩
          case measure => simp [intOf]; omega
        · have BW := hide (B4.out.trans (HQ.out.2 w.heap.size))
          have PW := hide (P4.out.below (HQ.out.2 w4.heap.size) (Nat.le_refl _))
          have EW := hide (HE.out.below BW.out (Nat.le_refl _))
          have kn : ¬ ((k : Int) < (n : Int)) := by omega
          by_cases hn0 : n = 0
          · subst hn0
            go_wp2_with fail
            go_ret
            exact ⟨rfl, BW.out⟩
          · have hni : ((n : Int) == 0) = false := beq_eq_false_iff_ne.2 (by omega)
            have tn : ((n : Int) - 1).toNat = n - 1 := by omega
            have tn0 : (0 : Int) ≤ (n : Int) - 1 := by omega
            have tn1 : (n : Int) - 1 ≤ (c : Int) := by omega
            have IW := hide (IL2.out (n - 1) (.slice (some ⟨g, 0, none⟩) (n - 1) c) wr _ EW.out (PW.out.take (n - 1) (by omega)))
            rw [IK.out (n - 1)] at IW
            go_wp2_with fail
            refine IW.out.mono ?_
            rintro e w5 ⟨rfl, b5⟩
            have B5 := hide (BW.out.trans (b5.mono BW.out.size))
            clear b5
            go_wp2_with fail
            go_ret
            exact ⟨rfl, B5.out⟩
end Go.Proofs.YtgdjcfnmpljaiaaDoor
