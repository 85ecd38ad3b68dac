/- THE WALK of the law FnAt: the boxes of balls make the row. -/
import Derived.Test.YtaonngmjfemadacPBalls
import Derived.Test.YtaonngmjfemadacRowOf2
namespace Go.Proofs.Ytaonngmjfemadac
open Go.RowKit

theorem ofR_append (h h' : List Bool) (a b : List Int) (e : ofR h a = some h') : ofR h (a ++ b) = ofR h' b := by
  induction a generalizing h with
  | nil => simp [ofR] at e; subst e; rfl
  | cons x r ih =>
    rw [List.cons_append]
    by_cases c : 0 ≤ x ∧ x < 120 ∧ h[x.toNat]? = some false
    · rw [ofR_good h x r c] at e
      rw [ofR_good h x (r ++ b) c]
      exact ih _ e
    · rw [ofR_bad h x r c] at e; cases e
theorem ofR_pos (l : List Bool) (hl : l.length ≤ 120) : ∀ k, k ≤ l.length → ofR none120 ((posU l k).map fun (j : Nat) => (j : Int)) = some (l.take k ++ List.replicate (120 - k) false) := by
  intro k
  induction k with
  | zero => intro _; rfl
  | succ k ih =>
    intro hk
    have h1 := ih (by omega)
    have e : l[k]? = some l[k] := List.getElem?_eq_getElem (by omega)
    have hset : l.take k ++ List.replicate (120 - k) false = l.take k ++ false :: List.replicate (120 - (k + 1)) false := by
      rw [show 120 - k = (120 - (k + 1)) + 1 by omega, List.replicate_succ]
    rw [posU_succ, e]
    cases hb : l[k]
    · simp only [Option.getD_some, Bool.false_eq_true, if_false]
      rw [h1, hset, List.take_succ_eq_append_getElem (by omega), hb]; simp
    · simp only [Option.getD_some, if_true]
      rw [List.map_append, ofR_append _ _ _ _ h1]
      have hlen : (l.take k).length = k := by rw [List.length_take]; omega
      have hg : (l.take k ++ List.replicate (120 - k) false)[((k : Nat) : Int).toNat]? = some false := by
        rw [Int.toNat_natCast, List.getElem?_append_right (by omega), hlen, List.getElem?_replicate]; simp; omega
      show ofR _ [((k : Nat) : Int)] = _
      rw [ofR_good _ _ _ ⟨by omega, by omega, hg⟩]
      show some _ = _
      congr 1
      rw [Int.toNat_natCast, hset, List.take_succ_eq_append_getElem (by omega), hb, List.set_append_right _ _ (by omega), hlen]; simp
theorem cut_pad (l : List Bool) (n : Nat) : cut (l ++ List.replicate n false) = cut l := by
  unfold cut
  rw [tl_pad, List.take_append_of_le_length (tl_le l)]
theorem ofS_pos (l : List Bool) (hl : l.length ≤ 120) : ofS (posI l) = ofBits (cut l) ∧ ofOk (posI l) = true := by
  have h := ofR_pos l hl l.length (Nat.le_refl _)
  rw [List.take_of_length_le (Nat.le_refl _)] at h
  have h2 := ofS_some h
  rw [cut_pad] at h2
  exact h2
/-- the indexes ascend -/
theorem pos_asc (l : List Bool) (k : Nat) (x y : Int) (hx : (posI l)[k]? = some x) (hy : (posI l)[k + 1]? = some y) : x < y := by
  have hp : (pos l).Pairwise (· < ·) := (List.pairwise_lt_range).filter _
  unfold posI at hx hy
  rw [List.getElem?_map] at hx hy
  obtain ⟨a, ha, rfl⟩ := Option.map_eq_some_iff.1 hx
  obtain ⟨b, hb, rfl⟩ := Option.map_eq_some_iff.1 hy
  obtain ⟨h1, e1⟩ := List.getElem?_eq_some_iff.1 ha
  obtain ⟨h2, e2⟩ := List.getElem?_eq_some_iff.1 hb
  have := List.pairwise_iff_getElem.1 hp k (k + 1) h1 h2 (by omega)
  rw [e1, e2] at this
  omega

set_option maxRecDepth 100000 in
set_option maxHeartbeats 2000000 in
theorem walkFnAt {w : World} (a : Option Addr) (len cap : Nat) (z : List Int) (hr : IsRow .u8 w a len cap z) :
    Calls Try.prog 5 #[.slice a len cap] w fun e w' => e = .returned (.bool true) ∧ Below w.heap.size w w' := by
  have hcap := hr.le
  have hmax := hr.max
  unfold maxLen at hmax
  by_cases hbig : 1048576 < len
  · go_enter Try.func5, Try.ntmps5
    go_wp2
    go_ret
    exact ⟨rfl, Below.refl _ _⟩
  · have D := hide (DrawRowAt_any a len cap z w (by omega) hcap hr.bytes)
    clear hr
    go_enter Try.func5, Try.ntmps5
    go_wp2_with fail
    refine D.out.mono ?_
    rintro e w1 ⟨s, rfl, hs, hb1⟩
    have hs' : s.size ≤ maxLen := by unfold maxLen; omega
    have C1 := hide (fun w => implRowAt_any s w hs')
    have C0 := hide (fun w => specRowAt_any s w hs')
    have hal := atR_len s
    have HM := hide (show (atR s).length ≤ maxLen by unfold maxLen; omega)
    cases hv : vld s
    · rw [hv] at C0 C1
      have hl0 : atR s = [] := by unfold atR; rw [hv]; rfl
      obtain ⟨l, hl⟩ : ∃ l, l = atR s := ⟨_, rfl⟩
      rw [← hl] at C0 C1 HM
      clear hv hl hl0 hal
      go_wp2_with fail
      refine (C1.out _).mono ?_
      rintro e w2 ⟨v2, rfl, hi2, hb2⟩
      have b2 := hb1.trans (hb2.mono hb1.size)
      go_wp2_with fail
      refine (C0.out _).mono ?_
      rintro e w3 ⟨v3, rfl, hi3, hb3⟩
      have b3 := b2.trans (hb3.mono b2.size)
      have hi2' := hi2.below hb3 (Nat.le_refl _)
      go_wp2_with fail
      refine (sameInts_same HM.out hi2' hi3).mono ?_
      rintro e w4 ⟨rfl, q4⟩
      have b4 := b3.trans (q4.2 _)
      have hi2'' := q4.ints hi2'
      have hi3'' := q4.ints hi3
      go_wp2_with fail
      refine (sameInts_same HM.out hi2'' hi3'').mono ?_
      rintro e w5 ⟨rfl, q5⟩
      go_wp2_with fail
      go_ret
      exact ⟨rfl, b4.trans (q5.2 _)⟩
    · have h120 := vld_le s hv
      have e0 : atR s = posI (bits s) := by unfold atR; rw [hv]; rfl
      have hof := ofS_pos (bits s) (by rw [length_bits]; exact h120)
      have T := hide (fun w => implRowTidy_any s w hs')
      have F := hide (fun (v : Value) (w : World) (lo : Nat) (h : IntsV lo w v (atR s)) => implRowOf_any v (atR s) w (by omega) h)
      have HA := hide (pos_asc (bits s))
      rw [← e0] at HA hof
      rw [hof.1, hof.2, tidyS_eq s (vld_sgn s hv)] at F
      rw [hv] at C0 C1 T
      simp only [if_true] at T
      obtain ⟨t, ht⟩ : ∃ t, t = tidyS s := ⟨_, rfl⟩
      obtain ⟨l, hl⟩ : ∃ l, l = atR s := ⟨_, rfl⟩
      rw [← ht] at T F
      rw [← hl] at C0 C1 F HA HM hal
      clear hv hl ht e0 hof
      go_wp2_with fail
      refine (C1.out _).mono ?_
      rintro e w2 ⟨v2, rfl, hi2, hb2⟩
      have b2 := hb1.trans (hb2.mono hb1.size)
      go_wp2_with fail
      refine (C0.out _).mono ?_
      rintro e w3 ⟨v3, rfl, hi3, hb3⟩
      have b3 := b2.trans (hb3.mono b2.size)
      have hi2' := hi2.below hb3 (Nat.le_refl _)
      go_wp2_with fail
      refine (sameInts_same HM.out hi2' hi3).mono ?_
      rintro e w4 ⟨rfl, q4⟩
      have b4 := b3.trans (q4.2 _)
      have hi4 := q4.ints hi2'
      clear hi2' hi2 hi3
      have HI4 := hide hi4
      rcases hi4 with ⟨a4, c4, rfl, rfl⟩ | ⟨g, c4, rfl, hcap4, hlo, hlt, hc4⟩
      · go_wp2_with fail
        go_loopw [8] (fun i wr => i = .int .i64 1 ∧ Hid (w4 = wr)) (fun _ _ => 0)
        case atStart => exact ⟨rfl, rfl⟩
        case round =>
          obtain ⟨rfl, HQ⟩ := hrel
          have hw := HQ.out
          subst hw
          go_wp2_with fail
          refine (F.out _ _ _ HI4.out).mono ?_
          rintro e w5 ⟨rfl, hb5⟩
          have b5 := b4.trans (hb5.mono b4.size)
          go_wp2_with fail
          refine (T.out _).mono ?_
          rintro e w6 ⟨rfl, hb6⟩
          go_wp2_with fail
          go_ret
          exact ⟨rfl, b5.trans (hb6.mono b5.size)⟩
      · have HC4 := hide hc4
        obtain ⟨n, hn⟩ : ∃ n, n = l.length := ⟨_, rfl⟩
        have HN := hide hn
        rw [← hn] at hal HI4 ⊢
        clear hc4 hn hcap4 hlo hlt
        go_wp2_with fail
        go_loopw [8] (fun i wr => ∃ k : Nat, 1 ≤ k ∧ i = .int .i64 (k : Int) ∧ (k ≤ n ∨ k = 1) ∧ Hid (Quiet w4 wr)) (fun i _ => n - (intOf i).toNat)
        case atStart => exact ⟨1, Nat.le_refl _, rfl, .inr rfl, Quiet.refl _⟩
        case round =>
          obtain ⟨k, hk1, rfl, hkn, HQ⟩ := hrel
          by_cases hltk : k < n
          · obtain ⟨j, rfl⟩ : ∃ j, k = j + 1 := ⟨k - 1, by omega⟩
            obtain ⟨x, hx⟩ : ∃ x, l[j]? = some x := ⟨_, List.getElem?_eq_getElem (by rw [← HN.out]; omega)⟩
            obtain ⟨y, hy⟩ : ∃ y, l[j + 1]? = some y := ⟨_, List.getElem?_eq_getElem (by rw [← HN.out]; omega)⟩
            have c1 := ((HQ.out.cells HC4.out) j (.int .i64 x) (by simp [hx])).1
            have c2 := ((HQ.out.cells HC4.out) (j + 1) (.int .i64 y) (by simp [hy])).1
            have hxy := HA.out j x y hx hy
            have hne : decide (y ≤ x) = false := by simp; omega
            clear hx hy
            have i0 : (0 : Int) ≤ (j : Int) := by omega
            have i1 : (j : Int) + 1 < (n : Int) := by omega
            have i2 : (j : Int) < (n : Int) := by omega
            go_wp2
            go_quiet (fail)
            go_wp2
            go_roundw
            case rel => exact ⟨j + 1 + 1, by omega, by go_num, by omega, HQ.out.trans (Quiet.drewN _)⟩
            case measure => simp [intOf]; omega
          · go_wp2_with fail
            refine (F.out _ _ _ (HQ.out.ints HI4.out)).mono ?_
            rintro e w5 ⟨rfl, hb5⟩
            have b4' := b4.trans (HQ.out.2 _)
            have b5 := b4'.trans (hb5.mono b4'.size)
            go_wp2_with fail
            refine (T.out _).mono ?_
            rintro e w6 ⟨rfl, hb6⟩
            go_wp2_with fail
            go_ret
            exact ⟨rfl, b5.trans (hb6.mono b5.size)⟩
end Go.Proofs.Ytaonngmjfemadac
