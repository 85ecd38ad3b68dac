/- THE WALKS of RowShift, of the model and of the program, and of its exact law. -/
import Derived.Test.YtnaofghngpojgabRowTidy
import Derived.Test.YtnaofghngpojgabDraw
namespace Go.Proofs.Ytnaofghngpojgab
open Go.RowKit

theorem tl_rep (n : Nat) : tl (List.replicate n false) = 0 := by
  have := tl_pad [] n; simpa [tl_nil] using this
theorem tl_pre (n : Nat) (l : List Bool) : tl (List.replicate n false ++ l) = if tl l = 0 then 0 else n + tl l := by
  have g : ∀ m : List Bool, tl (List.replicate n false ++ m.reverse) = if tl m.reverse = 0 then 0 else n + tl m.reverse := by
    intro m
    induction m with
    | nil => simp [tl_rep, tl_nil]
    | cons b m ih =>
      rw [List.reverse_cons, ← List.append_assoc, tl_snoc, tl_snoc]
      cases b
      · simpa using ih
      · simp; omega
  have := g l.reverse
  rwa [List.reverse_reverse] at this
/-- the boxes with n empty ones ahead, up to the last ball -/
def shB (n : Nat) (l : List Bool) : List Bool := List.replicate n false ++ cut l
theorem shB_length (n : Nat) (l : List Bool) : (shB n l).length = n + tl l := by simp [shB, cut_length]
theorem cut_pre (n : Nat) (l : List Bool) (h : tl l ≠ 0) : cut (List.replicate n false ++ l) = shB n l := by
  have e : cut (List.replicate n false ++ l) = (List.replicate n false ++ l).take (tl (List.replicate n false ++ l)) := rfl
  rw [e, tl_pre, if_neg h, List.take_append, List.take_of_length_le (by simp)]
  simp [shB, cut]
theorem cut_shB (n : Nat) (l : List Bool) (h : tl l ≠ 0) : cut (shB n l) = shB n l := by
  have h2 : tl (cut l) ≠ 0 := by rw [tl_cut]; exact h
  have := cut_pre n (cut l) h2
  unfold shB at this ⊢
  rw [this, cut_cut]

/-- what RowShift answers -/
def shOk (s : ByteArray) (n : Int) : Bool := vld s && decide (0 ≤ n) && (decide (tl (bits s) = 0) || decide (n + (tl (bits s) : Int) ≤ 120))
def shS (s : ByteArray) (n : Int) : ByteArray := if shOk s n && !decide (tl (bits s) = 0) then ofBits (shB n.toNat (bits s)) else ByteArray.empty

set_option maxHeartbeats 400000 in
theorem l1Done_any (x : ByteArray) (w : World) (hs : x.size ≤ 1000) (hg : allSgn x.data.toList = true) :
    Calls Try.prog 29 #[.string x] w fun e w' => e = .returned (.tuple #[.string (if tl (bits x) ≤ 120 then tidyS x else ByteArray.empty), .bool (decide (tl (bits x) ≤ 120))]) ∧ w = w' := by
  have C := hide (fun w => l1Tidy_any x w (by unfold maxLen; omega) hg)
  have hz : (tidyS x).size = tl (bits x) := by
    have := tl_le (bits x)
    rw [length_bits] at this
    unfold tidyS; simp; omega
  rw [← hz]
  obtain ⟨t, ht⟩ : ∃ t, t = tidyS x := ⟨_, rfl⟩
  rw [← ht] at C ⊢
  clear ht hz hg
  by_cases h : t.size ≤ 120
  · go_enter Try.func29, Try.ntmps29
    go_wp2_with (go_at_call 39; refine (C.out _).mono ?_; rintro e w' ⟨rfl, rfl⟩)
    go_ret2
    exact ⟨by simp, rfl⟩
  · go_enter Try.func29, Try.ntmps29
    go_wp2_with (go_at_call 39; refine (C.out _).mono ?_; rintro e w' ⟨rfl, rfl⟩)
    go_ret2
    exact ⟨by simp; rfl, rfl⟩

theorem CellsAt.src {w : World} {g : Nat} {l : List Value} (h : CellsAt w g l) : ∀ j u, l[j]? = some u → w.cell? ((⟨g, 0, none⟩ : Addr).add j) = some u := by
  intro j u hu
  rw [Addr.add_lit, Nat.zero_add]; exact (h j u hu).1
theorem below_none {w w' : World} (h : w.grownBy w' none) : Below w.heap.size w w' := (Below.refl _ _).grown h (Nat.le_refl _) (fun k e => by cases e)
theorem ownsRow_form {w : World} {base e n : Nat} {v : Value} {xs : List Value} (h : w.ownsRow base e 1 v n xs) (hn : 0 < n) : ∃ g cap, v = .slice (some ⟨g, 0, none⟩) n cap ∧ base ≤ g ∧ n ≤ cap ∧ cap ≤ maxLen := by
  rcases h.2 with ⟨_, rfl⟩ | ⟨g, cap, cur, rfl, hb, _, hc, hm, _⟩
  · omega
  · exact ⟨g, cap, rfl, hb, hc, hm⟩

set_option maxHeartbeats 400000 in
theorem implRowShift_any (s : ByteArray) (n : Int) (w : World) (hs : s.size ≤ maxLen) (hn : (Lit.int .i64 n).wf = true) :
    Calls Try.prog 18 #[.string s, .int .i64 n] w fun e w' => e = .returned (.tuple #[.string (shS s n), .bool (shOk s n)]) ∧ Below w.heap.size w w' := by
  cases hv : vld s
  · have e1 : shOk s n = false := by simp [shOk, hv]
    have e2 : shS s n = ByteArray.empty := by simp [shS, e1]
    rw [e1, e2]
    clear e1 e2
    go_enter Try.func18, Try.ntmps18
    go_wp2_with (go_at_call 36; refine (readRow_no _ _ hs hv).mono ?_; rintro e w' ⟨rfl, rfl⟩)
    go_ret2
    exact ⟨rfl, Below.refl _ _⟩
  · have h120 := vld_le s hv
    have hle := tl_le (bits s)
    rw [length_bits] at hle
    have C1 := hide (fun w => readRow_yes s w hv)
    by_cases hn0 : n < 0
    · have e1 : shOk s n = false := by simp [shOk]; omega
      have e2 : shS s n = ByteArray.empty := by simp [shS, e1]
      rw [e1, e2]
      clear e1 e2
      go_enter Try.func18, Try.ntmps18
      go_wp2_with (go_at_call 36; refine (C1.out _).mono ?_; rintro e w1 ⟨rfl, hb1, hc1, hz1⟩)
      go_ret2
      exact ⟨rfl, hb1⟩
    · have hnb : n ≤ 9223372036854775807 := by
        have m2 : IntKind.i64.max = 9223372036854775807 := rfl
        simp [Lit.wf] at hn; omega
      have e1 : shOk s n = (decide (tl (bits s) = 0) || decide (n + (tl (bits s) : Int) ≤ 120)) := by
        have : decide (0 ≤ n) = true := by simp; omega
        simp [shOk, hv, this]
      have e2 : shS s n = if shOk s n && !decide (tl (bits s) = 0) then ofBits (shB n.toNat (bits s)) else ByteArray.empty := rfl
      have HC := hide (cut_length (bits s))
      have HM := hide (cut_map (bits s))
      have HK := hide (fun h => cut_shB n.toNat (bits s) h)
      have HL := hide (shB_length n.toNat (bits s))
      rw [e2, e1]
      clear e1 e2 hn
      obtain ⟨t, ht⟩ : ∃ t, t = tl (bits s) := ⟨_, rfl⟩
      rw [← ht] at hle C1 HC HM HK HL ⊢
      clear ht
      by_cases ht0 : t = 0
      · subst ht0
        go_enter Try.func18, Try.ntmps18
        go_wp2_with (go_at_call 36; refine (C1.out _).mono ?_; rintro e w1 ⟨rfl, hb1, hc1, hz1⟩)
        go_ret2
        exact ⟨by simp; rfl, hb1⟩
      · have z0 : ((t : Int) == 0) = false := beq_eq_false_iff_ne.2 (by omega)
        by_cases hbig : 120 - (t : Int) < n
        · have f1 : (decide (t = 0) || decide (n + (t : Int) ≤ 120)) = false := by simp; omega
          rw [f1]
          clear f1
          go_enter Try.func18, Try.ntmps18
          go_wp2_with (go_at_call 36; refine (C1.out _).mono ?_; rintro e w1 ⟨rfl, hb1, hc1, hz1⟩)
          go_ret2
          exact ⟨rfl, hb1⟩
        · have f1 : (decide (t = 0) || decide (n + (t : Int) ≤ 120)) = true := by simp; omega
          have f2 : (true && !decide (t = 0)) = true := by simp [ht0]
          rw [f1, f2, if_pos rfl]
          have HK2 := hide (HK.out ht0)
          clear f1 f2 HK
          obtain ⟨k, rfl⟩ : ∃ k : Nat, n = (k : Int) := ⟨n.toNat, by omega⟩
          rw [Int.toNat_natCast] at HK2 HL ⊢
          obtain ⟨i0, hi, hz0, hz1, hz2⟩ := info_parts infoB
          have hone : ∀ u ∈ (cut (bits s)).map Value.bool, u.oneCell' = true := by intro u hu; obtain ⟨b, _, rfl⟩ := List.mem_map.1 hu; rfl
          have H1 := hide hone
          clear hone
          go_enter Try.func18, Try.ntmps18
          go_wp2_with fail
          refine (C1.out _).mono ?_
          rintro e w1 ⟨rfl, hb1, hc1, hzz1⟩
          have HCC := hide (show CellsAt w1 w.heap.size ((cut (bits s)).map .bool) by rw [HM.out]; exact hc1.take t)
          have HNL := hide (show ((cut (bits s)).map Value.bool).length = t * 1 by rw [List.length_map, HC.out, Nat.mul_one])
          clear hc1
          go_wp2_with (first | (at_make; refine wpList_make_full _ rfl _ _ 37 rfl w1.heap.size 4 i0 (.bool false) 1 Try.underlying37 hi hz0 hz1 _ _ _ _ k rfl rfl rfl rfl ?b2 ?b3 ?b4 ?_; rotate_right; intro w2 hown hgrow; have hb2 := below_none hgrow; have HSRC := hide (HCC.out.below hb2 hzz1).src; have hs12 := hb2.size; have HOWN := hide hown; clear hown hgrow) | (at_builtin; refine wpList_append_own _ rfl _ _ 37 rfl w1.heap.size 4 i0 (.bool false) 1 1 Try.underlying37 hi hz0 hz1 hz2 rfl (by decide) _ _ _ rfl HOWN.out ⟨w.heap.size, 0, none⟩ t s.size ((cut (bits s)).map .bool) rfl HNL.out HSRC.out H1.out ?b5 ?b6 hs12 ?_; rotate_right; intro v' w3 hown3 hgrow3 _))
          case b2 => rw [hz2]; omega
          case b3 => unfold maxLen; omega
          case b4 => exact Nat.le_refl _
          case b5 => unfold maxLen; omega
          case b6 => omega
          rw [madeB, ← List.map_append] at hown3
          have hb3 := (Below.refl w1.heap.size w2).grown hgrow3 hs12 (fun b e => (HOWN.out.lt b e).1)
          obtain ⟨g, cap, rfl, hg1, hg2, hg3⟩ := ownsRow_form hown3 (by omega)
          have hc3 := CellsAt.of_owns hown3
          clear hown3 hgrow3
          refine (text_any g (k + t) cap (shB k (bits s)) w3 HL.out hc3 hg2 hg3 (by omega)).mono ?_
          rintro e w4 ⟨rfl, hb4⟩
          rw [HK2.out]
          go_wp2_with fail
          go_ret2
          have hb13 := hb1.trans ((hb2.trans hb3).mono hb1.size)
          exact ⟨rfl, hb13.trans (hb4.mono hb13.size)⟩

end Go.Proofs.Ytnaofghngpojgab
