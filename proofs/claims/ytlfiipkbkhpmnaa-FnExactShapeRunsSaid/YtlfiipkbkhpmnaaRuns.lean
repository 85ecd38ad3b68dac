/- THE WALKS of runsOf, run.size, and the program's ShapeRuns. -/
import Derived.Test.YtlfiipkbkhpmnaaRunsP
import Derived.Test.YtlfiipkbkhpmnaaShape1
import Derived.Test.YtlfiipkbkhpmnaaRowBalls
import Derived.Maps.AppendAt
namespace Go.Proofs.Ytlfiipkbkhpmnaa
open Go.RowKit Go.Shelf

attribute [local go_sem] Oper.semAt_some

theorem infoR : (Try.prog.info? 53).map (fun i => (i.zero, i.size, i.bytes)) = some (some (.agg #[.int .i64 0, .int .i64 0]), 2, 16) := by kernel_rfl
theorem own2_slice {w : World} {B e n : Nat} {v : Value} {xs : List Value} (h : w.ownsRow B e 2 v n xs) : ∃ a c, v = .slice a n c ∧ (0 < n → ∃ g, a = some ⟨g, 0, none⟩ ∧ CellsAt w g xs) := by
  have h1 := h.1
  rcases h.2 with ⟨rfl, rfl⟩ | ⟨g, cap, cur, rfl, h2, h3, h4, h5, h6, h7⟩
  · exact ⟨_, _, rfl, fun h => by omega⟩
  · refine ⟨_, _, rfl, fun _ => ⟨g, rfl, fun j v hj => ?_⟩⟩
    have hl : j < n * 2 := by have := (List.getElem?_eq_some_iff.1 hj).1; omega
    exact ⟨by rw [h.cellAt j hl]; exact hj, h.frozenAt j⟩
theorem cell_two_new (w : World) (x y : Value) (t : TypeId) : ∀ j u, [x, y][j]? = some u → (w.alloc (.cells #[x, y] t)).cell? ((⟨w.heap.size, 0, none⟩ : Addr).add j) = some u := by
  intro j u hj
  match j, hj with
  | 0, hj => simp at hj; subst hj; simp [Addr.add]
  | 1, hj => simp at hj; subst hj; simp [Addr.add]
/-- one cell of a row is set -/
theorem owns_set {w : World} {B e size n k : Nat} {a : Option Addr} {g c : Nat} {xs : List Value} (h : w.ownsRow B e size (.slice a n c) n xs) (ha : a = some ⟨g, 0, none⟩) (u : Value) : (w.setCell ⟨g, k, none⟩ u).ownsRow B e size (.slice a n c) n (xs.set k u) := by
  refine ⟨by rw [List.length_set]; exact h.1, ?_⟩
  rcases h.2 with ⟨h1, _⟩ | ⟨g', cap, cur, h1, h2, h3, h4, h5, h6, h7⟩
  · injection h1 with h1; rw [ha] at h1; cases h1
  · injection h1 with h1 _ h8
    rw [ha] at h1
    injection h1 with h1
    injection h1 with h1
    subst h1
    refine .inr ⟨g, cap, cur.set! k u, by rw [ha, h8], h2, ?_, h4, h5, by simpa using h6, ?_⟩
    · show (w.heap.modify g _)[g]? = _
      obtain ⟨hlt, hg⟩ := Array.getElem?_eq_some_iff.1 h3
      rw [Array.getElem?_eq_getElem (by rw [Array.size_modify]; exact hlt), Array.getElem_modify_self, hg]
      rfl
    · rw [← h7]
      simp [List.take_set]

theorem boxed_far {W : World} {B q k t : Nat} {v : Value} (h : Boxed W B t v) (hne : B ≠ q) (u : Value) : Boxed (W.setCell ⟨q, k, none⟩ u) B t v := by
  show (W.heap.modify q _)[B]? = _
  rw [Array.getElem?_modify, if_neg (fun e => hne e.symm)]
  exact h

set_option maxRecDepth 100000 in
set_option maxHeartbeats 2000000 in
theorem runsOf_in (F : Fence) (n : Nat) (h1' : F.fn 37) (h2 : F.fn 55) (h3 : F.fn 65) (hro : F.round = none) (hn : 3 ≤ n) (g len cap : Nat) (bs : List Bool) (hlen : bs.length = len) (hm : len ≤ 1000) (w : World) (hI : CellsAt w g (bs.map .bool)) :
    CallsIn F n Try.prog 37 #[.slice (some ⟨g, 0, none⟩) len cap] w fun e W' => ∃ v, e = .returned v ∧ W'.ownsRow w.heap.size 53 2 v (rsP (pos bs)).length (enc2 (rsP (pos bs))) ∧ Below w.heap.size w W' := by
  have h1 : 1 ≤ n := by omega
  have hgl : 0 < len → g < w.heap.size := fun h => hI.lt (by simp; omega)
  have HI := hide hI
  have HLEN := hide hlen
  have HGL := hide hgl
  clear hI hlen hgl
  obtain ⟨i0, hi, hz0, hz1, hz2⟩ := info_parts infoR
  refine callsIn_of_wp_marks Try.func37 rfl h1' ?_ hro
  simp only [Try.ntmps37, List.size_toArray, List.length_cons, List.length_nil, Nat.reduceAdd, Nat.reduceSub, Array.replicate_succ, Array.replicate_zero, List.push_toArray, List.append_toArray, List.nil_append, List.cons_append]
  gi_wp2_with (gi_at_call 55; refine (balls_in F (n - 1) h2 hro _ _ _ _).mono ?_; rintro e w' ⟨rfl, rfl⟩)
  have bS := Boxed.new w 50 (.slice none 0 0)
  have bN := Boxed.new (w.alloc (.cells #[.slice none 0 0] 50)) 37 (.slice (some ⟨g, 0, none⟩) len cap)
  rw [World.size_alloc] at bN
  have hB0 : Below w.heap.size w ((w.alloc (.cells #[.slice none 0 0] 50)).alloc (.cells #[.slice (some ⟨g, 0, none⟩) len cap] 37)) := ((Below.refl _ w).alloc (Nat.le_refl _) _).alloc (by simp) _
  refine wpIn_rangeFunc_ownG hro h1 (gf := 65) (lb := #[.pointer (some ⟨w.heap.size + 1, 0, none⟩)]) rfl h3 (enters_of Try.func65 (by kernel_rfl) rfl)
    (balls_stopsF F (n - 1) h3 hro (by omega) (w.heap.size + 1) w.heap.size g len cap bs HLEN.out hm _ (by simp) HGL.out bN.cell (HI.out.below' hB0 (Nat.le_refl _))) belowK_t (belowK_b (by simp; omega)) (Below.refl _ _) (fun _ => rfl)
    (fun (pre : List { j : Nat // j < len }) W => (∃ v, Boxed W w.heap.size 50 v ∧ W.ownsRow w.heap.size 53 2 v (rsP (pre.map (·.1))).length (enc2 (rsP (pre.map (·.1)))) ∧ True) ∧ Below w.heap.size w W)
    (fun _ _ _ => False)
    (OwnFrom.and (Own.from (holdsRow_own w.heap.size w.heap.size 50 53 2 (fun (pre : List { j : Nat // j < len }) => (rsP (pre.map (·.1))).length) (fun (pre : List { j : Nat // j < len }) => enc2 (rsP (pre.map (·.1)))) (fun _ _ => True)) _) (ownFrom_below (Nat.le_refl _) (by simp; omega)))
    (fun _ _ _ _ _ hs _ _ => hs)
    ⟨⟨_, bS.alloc _, World.ownsRow_nil _ _ _ _, trivial⟩, hB0⟩
    (fun x => { tmps := #[.slice (some ⟨g, 0, none⟩) len cap, undef, .slice none 0 0, .pointer (some ⟨w.heap.size, 0, none⟩), .int .i64 (x.1 : Int), undef, .slice (some ⟨g, 0, none⟩) len cap, .func (.func 65) #[] #[.pointer (some ⟨w.heap.size + 1, 0, none⟩)], .int .i64 (x.1 : Int), undef, undef, undef, undef, undef, undef, undef, undef, undef, undef, undef, undef, undef, undef, undef, undef, undef, undef, undef, undef, undef, undef, undef, undef, undef, undef, undef, undef, undef, undef], defers := [] }) ?assign ?body ?done ?stop
  case assign =>
    intro l x W K hK
    gi_wp2
    simpa using hK
  case body =>
    rintro l pre ⟨x, hx⟩ W ⟨⟨v, hv, hrow, _⟩, hB⟩ hlt
    have hbd := rsP_bd (pre.map fun y => y.1)
    rw [List.length_map] at hbd
    obtain ⟨pre', hpre⟩ : ∃ q : List { j : Nat // j < len }, q = pre ++ [⟨x, hx⟩] := ⟨_, rfl⟩
    have HS : Hid (rsP (pre'.map fun y => y.1) = stepR (rsP (pre.map fun y => y.1)) x) := by
      show _ = _
      rw [hpre, List.map_append]; exact rsP_snoc _ _
    rw [← hpre]
    obtain ⟨R, hR⟩ : ∃ R, R = rsP (pre.map fun y => y.1) := ⟨_, rfl⟩
    rw [← hR] at hrow hbd HS
    clear hR hpre
    have x0 : (0 : Int) ≤ (x : Int) := by omega
    have x1 : (x : Int) ≤ 1000 := by omega
    rcases List.eq_nil_or_concat R with rfl | ⟨R0, p, hp⟩
    · obtain ⟨a, c, rfl, hf⟩ := own2_slice hrow
      have hc := hv.cell
      have hfz := hv.frozen
      have HS2 : Hid (rsP (pre'.map fun y => y.1) = [(x, x + 1)]) := HS.out.trans (stepR_new (fun p h => by simp at h))
      clear hf hbd HS
      gi_wp2_with (gi_at_builtin; refine wpListIn_append_own _ rfl _ _ 50 rfl w.heap.size 53 i0 (.agg #[.int .i64 0, .int .i64 0]) 2 16 Try.underlying50 hi hz0 hz1 hz2 rfl (by decide) _ _ _ rfl (hrow.alloc _) ⟨W.heap.size, 0, none⟩ 1 1 [.int .i64 (x : Int), .int .i64 ((x : Int) + 1)] rfl rfl (cell_two_new _ _ _ _) (by intro u hu; simp at hu; rcases hu with rfl | rfl <;> rfl) (by unfold maxLen; simp) (by simp) (by have := hB.size; simp; omega) ?_; intro v' w1 hown' hgrow _; obtain ⟨g', cap', rfl⟩ := ownsRow_succ hown'; obtain ⟨hv1, hv2, hr2, hk2, hb2⟩ := hv.appended (by decide) hrow hB.size (Nat.le_refl _) hown' hgrow; have hc1 := hv1.cell; have hf1 := hv1.frozen)
      exact ⟨hk2.from _, hb2, ⟨_, hv2, by rw [HS2.out]; simpa [enc2] using hr2, trivial⟩, hB.trans hb2⟩
    · rw [List.concat_eq_append] at hp
      subst hp
      obtain ⟨pa, pb⟩ := p
      obtain ⟨nr, hnr⟩ : ∃ n, n = R0.length := ⟨_, rfl⟩
      have HNR := hide hnr
      have hlr : (R0 ++ [(pa, pb)]).length = nr + 1 := by rw [List.length_append, hnr]; rfl
      rw [hlr] at hrow hbd
      obtain ⟨a, c, rfl, hf⟩ := own2_slice hrow
      have hc := hv.cell
      have hfz := hv.frozen
      obtain ⟨q, rfl, hcl⟩ := hf (Nat.succ_pos _)
      have hcell := hcl (nr * 2 + 1) (.int .i64 (pb : Int)) (by rw [hnr]; exact (enc2_get _ _ (pa, pb) (by simp)).2)
      obtain ⟨hc2, hf2⟩ := hcell
      have n0 : (0 : Int) ≤ (nr : Int) := by omega
      have n1 : (nr : Int) ≤ 1000 := by omega
      have n2 : (nr : Int) < ((nr + 1 : Nat) : Int) := by omega
      have hqB : w.heap.size ≠ q := fun e => (hv.not_row (by decide) hrow) (by rw [e]; rfl)
      clear hcl hf hnr hlr
      by_cases hpx : pb = x
      · subst hpx
        have HS2 : Hid (rsP (pre'.map fun y => y.1) = R0 ++ [(pa, pb + 1)]) := HS.out.trans (stepR_more R0 pa pb)
        clear HS
        have hge := (hrow.lt q rfl).1
        have HE : Hid ((enc2 (R0 ++ [(pa, pb)])).set (nr * 2 + 1) (.int .i64 ((pb + 1 : Nat) : Int)) = enc2 (R0 ++ [(pa, pb + 1)])) := by rw [HNR.out]; exact enc2_set R0 pa pb (pb + 1)
        gi_wp2
        refine ⟨(KeepsOthers.setCell _ _ _).from _, (Below.refl w.heap.size W).setCell (p := ⟨q, nr * 2 + 1, none⟩) hge _, ⟨_, boxed_far hv hqB _, ?_, trivial⟩, hB.setCell (p := ⟨q, nr * 2 + 1, none⟩) hge _⟩
        have h5 := owns_set hrow rfl (k := nr * 2 + 1) (.int .i64 ((pb + 1 : Nat) : Int))
        rw [HE.out] at h5
        rw [HS2.out, List.length_append, ← HNR.out]
        exact h5
      · have HS2 : Hid (rsP (pre'.map fun y => y.1) = (R0 ++ [(pa, pb)]) ++ [(x, x + 1)]) := HS.out.trans (stepR_new (fun p h => by rw [List.getLast?_concat] at h; injection h with h; rw [← h]; exact hpx))
        clear HS
        have hpx2 : ((pb : Int) == (x : Int)) = false := beq_eq_false_iff_ne.2 (by omega)
        clear hpx
        gi_wp2_with (gi_at_builtin; refine wpListIn_append_own _ rfl _ _ 50 rfl w.heap.size 53 i0 (.agg #[.int .i64 0, .int .i64 0]) 2 16 Try.underlying50 hi hz0 hz1 hz2 rfl (by decide) _ _ _ rfl (hrow.alloc _) ⟨W.heap.size, 0, none⟩ 1 1 [.int .i64 (x : Int), .int .i64 ((x : Int) + 1)] rfl rfl (cell_two_new _ _ _ _) (by intro u hu; simp at hu; rcases hu with rfl | rfl <;> rfl) (by unfold maxLen; omega) (by omega) (by have := hB.size; simp; omega) ?_; intro v' w1 hown' hgrow _; obtain ⟨g', cap', rfl⟩ := ownsRow_succ hown'; obtain ⟨hv1, hv2, hr2, hk2, hb2⟩ := hv.appended (by decide) hrow hB.size (Nat.le_refl _) hown' hgrow; have hc1 := hv1.cell; have hf1 := hv1.frozen)
        exact ⟨hk2.from _, hb2, ⟨_, hv2, by rw [HS2.out, List.length_append, List.length_append, HNR.out, enc2_snoc]; simpa [HNR.out] using hr2, trivial⟩, hB.trans hb2⟩
  case done =>
    rintro D ys W hD hys ⟨⟨v, hv, hrow, _⟩, hB⟩ hK
    rw [hys] at hrow
    have hc := hv.cell
    obtain ⟨a, c, rfl, _⟩ := own2_slice hrow
    gi_wp2
    refine ⟨by simp, .inl ⟨_, _, rfl, run_takeDeferred hK, ?_⟩⟩
    exact ⟨_, results_tmp rfl _ _ _, _, rfl, ownsRow_putObj hrow _ hK rfl, hB.trans (belowK_b (w := w) (Nat.le_refl _) W D _ _ (by simp at hD; omega) hK rfl rfl)⟩
  case stop =>
    rintro D c pre W _ _ h _
    exact h.elim

theorem runsOf_any (g len cap : Nat) (bs : List Bool) (hlen : bs.length = len) (hm : len ≤ 1000) (w : World) (hI : CellsAt w g (bs.map .bool)) :
    Calls Try.prog 37 #[.slice (some ⟨g, 0, none⟩) len cap] w fun e W' => ∃ v, e = .returned v ∧ W'.ownsRow w.heap.size 53 2 v (rsP (pos bs)).length (enc2 (rsP (pos bs))) ∧ Below w.heap.size w W' :=
  callsIn_wide.1 (runsOf_in Fence.wide 3 trivial trivial trivial rfl (Nat.le_refl _) g len cap bs hlen hm w hI)

set_option maxRecDepth 100000 in
theorem size_any (a b : Nat) (w : World) (ha : a ≤ b) (hb : b ≤ 1000) :
    Calls Try.prog 38 #[.agg #[.int .i64 (a : Int), .int .i64 (b : Int)]] w fun e w' => e = .returned (.int .i64 ((b - a : Nat) : Int)) ∧ w' = w.alloc (.cells #[.int .i64 (a : Int), .int .i64 (b : Int)] 53) := by
  have e : ((b - a : Nat) : Int) = (b : Int) - (a : Int) := by omega
  have h0 : (a : Int) ≤ (b : Int) := by omega
  have h1 : (b : Int) ≤ 1000 := by omega
  have h2 : (0 : Int) ≤ (a : Int) := by omega
  rw [e]
  clear e
  go_enter Try.func38, Try.ntmps38
  go_wp2
  go_ret
  exact ⟨rfl, rfl⟩
end Go.Proofs.Ytlfiipkbkhpmnaa
