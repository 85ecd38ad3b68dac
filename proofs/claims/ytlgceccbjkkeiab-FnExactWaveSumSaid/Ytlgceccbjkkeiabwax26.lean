/- TEXTS Apart. -/
import Derived.Test.Ytlgceccbjkkeiabwax16
import Derived.Test.Ytlgceccbjkkeiabwax03
import Derived.Test.Ytlgceccbjkkeiabwax21
import Derived.Test.Ytlgceccbjkkeiabwax25
import Derived.Maps.AppendAt
import Derived.Shelf.SlSortCmp.QuietGrown
import Derived.IntWalk
/- THE RUNS OF A ROW, AS PAIRS OF INDEXES. Pure: nothing of the program is walked here. -/
namespace Go.Proofs.Ytlgceccbjkkeiab

/-- one more ball, at an index -/
def stepR (R : List (Nat × Nat)) (i : Nat) : List (Nat × Nat) :=
  match R.getLast? with
  | some p => if p.2 = i then R.dropLast ++ [(p.1, p.2 + 1)] else R ++ [(i, i + 1)]
  | none => R ++ [(i, i + 1)]
def rsP (ps : List Nat) : List (Nat × Nat) := ps.foldl stepR []
theorem rsP_snoc (ps : List Nat) (i : Nat) : rsP (ps ++ [i]) = stepR (rsP ps) i := by unfold rsP; rw [List.foldl_append]; rfl
theorem stepR_new {R : List (Nat × Nat)} {i : Nat} (h : ∀ p, R.getLast? = some p → p.2 ≠ i) : stepR R i = R ++ [(i, i + 1)] := by
  unfold stepR
  cases hl : R.getLast? with
  | none => rfl
  | some p => show (if p.2 = i then _ else _) = _; rw [if_neg (h p hl)]
theorem stepR_more (R : List (Nat × Nat)) (a i : Nat) : stepR (R ++ [(a, i)]) i = R ++ [(a, i + 1)] := by
  unfold stepR
  rw [List.getLast?_concat]
  show (if i = i then _ else _) = _
  rw [if_pos rfl, List.dropLast_concat]
/-- box by box -/
def runsF : List Bool → Nat → List (Nat × Nat) → List (Nat × Nat)
  | [], _, R => R
  | b :: t, i, R => runsF t (i + 1) (if b then stepR R i else R)
theorem runsF_app : ∀ (a b : List Bool) (i : Nat) (R : List (Nat × Nat)), runsF (a ++ b) i R = runsF b (i + a.length) (runsF a i R) := by
  intro a
  induction a with
  | nil => intro b i R; rfl
  | cons x a ih => intro b i R; show runsF (a ++ b) (i + 1) _ = _; rw [ih, List.length_cons, show i + 1 + a.length = i + (a.length + 1) by omega]; rfl
theorem runsF_pos (bs : List Bool) : ∀ k, k ≤ bs.length → rsP (posU bs k) = runsF (bs.take k) 0 [] := by
  intro k
  induction k with
  | zero => intro _; simp [posU, rsP, runsF]
  | succ k ih =>
    intro hk
    have e : bs[k]? = some bs[k] := List.getElem?_eq_getElem (by omega)
    have ih := ih (by omega)
    rw [posU_succ, List.take_succ_eq_append_getElem (by omega), runsF_app, ← ih, List.length_take, Nat.min_eq_left (by omega), e]
    cases bs[k]
    · rfl
    · show rsP (posU bs k ++ [k]) = stepR (rsP (posU bs k)) (0 + k)
      rw [rsP_snoc, Nat.zero_add]
theorem rsP_pos (bs : List Bool) : rsP (pos bs) = runsF bs 0 [] := by
  unfold pos
  rw [runsF_pos bs _ (Nat.le_refl _), List.take_of_length_le (Nat.le_refl _)]
theorem runsF_gap (g i : Nat) (R : List (Nat × Nat)) : runsF (List.replicate g false) i R = R := by
  induction g generalizing i with
  | zero => rfl
  | succ g ih => rw [List.replicate_succ]; exact ih (i + 1)
theorem runsF_more (r a i : Nat) (R : List (Nat × Nat)) : runsF (List.replicate r true) i (R ++ [(a, i)]) = R ++ [(a, i + r)] := by
  induction r generalizing i with
  | zero => rfl
  | succ r ih =>
    rw [List.replicate_succ]
    show runsF _ (i + 1) (stepR _ i) = _
    rw [stepR_more, ih, show i + 1 + r = i + (r + 1) by omega]
theorem runsF_run (r i : Nat) (R : List (Nat × Nat)) (h : ∀ p, R.getLast? = some p → p.2 ≠ i) (hr : 1 ≤ r) : runsF (List.replicate r true) i R = R ++ [(i, i + r)] := by
  obtain ⟨q, rfl⟩ : ∃ q, r = q + 1 := ⟨r - 1, by omega⟩
  rw [List.replicate_succ]
  show runsF _ (i + 1) (stepR R i) = _
  rw [stepR_new h, runsF_more, show i + 1 + q = i + (q + 1) by omega]
/-- where the runs of blocks lie -/
def posR : List (Nat × Nat) → Nat → List (Nat × Nat)
  | [], _ => []
  | p :: ps, i => (i, i + p.1) :: posR ps (i + p.1 + p.2)
theorem runsF_wb : ∀ (ps : List (Nat × Nat)) (i : Nat) (R : List (Nat × Nat)), good ps → (∀ p, R.getLast? = some p → p.2 ≠ i) → runsF (wb ps) i R = R ++ posR ps i := by
  intro ps
  induction ps with
  | nil => intro i R _ _; exact (List.append_nil R).symm
  | cons p ps ih =>
    intro i R hg hR
    obtain ⟨h1, h2, h3⟩ := hg
    show runsF (List.replicate p.1 true ++ (List.replicate p.2 false ++ wb ps)) i R = _
    rw [runsF_app, runsF_app, runsF_run _ _ _ hR h1, runsF_gap, List.length_replicate, List.length_replicate]
    cases ps with
    | nil => rfl
    | cons q qs =>
      rw [ih _ _ h3 (fun x hx => by rw [List.getLast?_concat] at hx; injection hx with hx; rw [← hx]; have := h2 (by simp); show i + p.1 ≠ _; omega), List.append_assoc]
      rfl
/-- the empty boxes between runs -/
def gapsP : List (Nat × Nat) → List Nat
  | p :: q :: r => (q.1 - p.2) :: gapsP (q :: r)
  | _ => []
theorem posR_sizes : ∀ (ps : List (Nat × Nat)) (i : Nat), (posR ps i).map (fun p => p.2 - p.1) = ps.map (·.1) := by
  intro ps
  induction ps with
  | nil => intro i; rfl
  | cons p ps ih => intro i; show (i + p.1 - i) :: _ = p.1 :: _; rw [ih, show i + p.1 - i = p.1 by omega]
theorem posR_gaps : ∀ (ps : List (Nat × Nat)) (i : Nat), gapsP (posR ps i) = (ps.map (·.2)).dropLast := by
  intro ps
  induction ps with
  | nil => intro i; rfl
  | cons p ps ih =>
    intro i
    cases ps with
    | nil => rfl
    | cons q qs =>
      show (i + p.1 + p.2 - (i + p.1)) :: gapsP (posR (q :: qs) (i + p.1 + p.2)) = p.2 :: _
      rw [ih, show i + p.1 + p.2 - (i + p.1) = p.2 by omega]; rfl
/-- runs lie one behind the other -/
def lineP : List (Nat × Nat) → Prop
  | p :: q :: r => p.1 ≤ p.2 ∧ p.2 ≤ q.1 ∧ lineP (q :: r)
  | [p] => p.1 ≤ p.2
  | [] => True
theorem posR_line : ∀ (ps : List (Nat × Nat)) (i : Nat), lineP (posR ps i) := by
  intro ps
  induction ps with
  | nil => intro i; exact True.intro
  | cons p ps ih =>
    intro i
    cases ps with
    | nil => show i ≤ i + p.1; omega
    | cons q qs =>
      refine ⟨?_, ?_, ih (i + p.1 + p.2)⟩
      · show i ≤ i + p.1; omega
      · show i + p.1 ≤ i + p.1 + p.2; omega
theorem lineP_get : ∀ (R : List (Nat × Nat)) (j : Nat) (p q : Nat × Nat), lineP R → R[j]? = some p → R[j + 1]? = some q → p.1 ≤ p.2 ∧ p.2 ≤ q.1 ∧ q.1 ≤ q.2 := by
  intro R
  induction R with
  | nil => intro j p q _ h; simp at h
  | cons x t ih =>
    intro j p q hl hp hq
    cases t with
    | nil => simp at hq
    | cons y r =>
      obtain ⟨h1, h2, h3⟩ := hl
      cases j with
      | zero =>
        simp at hp hq
        subst hp; subst hq
        refine ⟨h1, h2, ?_⟩
        cases r with
        | nil => exact h3
        | cons z r => exact h3.1
      | succ j => exact ih j p q h3 (by simpa using hp) (by simpa using hq)
theorem gapsP_get : ∀ (R : List (Nat × Nat)) (j : Nat) (p q : Nat × Nat), R[j]? = some p → R[j + 1]? = some q → (gapsP R)[j]? = some (q.1 - p.2) := by
  intro R
  induction R with
  | nil => intro j p q h; simp at h
  | cons x t ih =>
    intro j p q hp hq
    cases t with
    | nil => simp at hq
    | cons y r =>
      cases j with
      | zero => simp at hp hq; subst hp; subst hq; rfl
      | succ j => show (gapsP (y :: r))[j]? = _; exact ih j p q (by simpa using hp) (by simpa using hq)
theorem gapsP_length : ∀ R : List (Nat × Nat), (gapsP R).length = R.length - 1 := by
  intro R
  induction R with
  | nil => rfl
  | cons x t ih =>
    cases t with
    | nil => rfl
    | cons y r => show (gapsP (y :: r)).length + 1 = _; rw [ih]; simp
/-- what the program's runs say of the model's -/
theorem rsP_rr (bs : List Bool) : (rsP (pos bs)).map (fun p => p.2 - p.1) = (rr bs).1 ∧ gapsP (rsP (pos bs)) = (rr bs).2 ∧ lineP (rsP (pos bs)) := by
  obtain ⟨g, ps, hg, rfl⟩ := blocks bs
  rw [rsP_pos, runsF_app, runsF_gap, runsF_wb ps _ [] hg (fun p h => by simp at h), List.nil_append, rr_blocks hg]
  exact ⟨posR_sizes _ _, posR_gaps _ _, posR_line _ _⟩
/-- two next runs are as they are to be -/
def okP (R : List (Nat × Nat)) (j : Nat) : Prop := ∀ p q, R[j]? = some p → R[j + 1]? = some q → p.2 - p.1 ≤ q.2 - q.1 ∧ p.2 - p.1 ≤ q.1 - p.2
theorem apB_pairs (R : List (Nat × Nat)) (h : ∀ j, j + 1 < R.length → okP R j) : apB (R.map fun p => p.2 - p.1) (gapsP R) = true := by
  unfold apB
  rw [List.all_eq_true]
  intro j hj
  rw [List.mem_range, gapsP_length] at hj
  obtain ⟨p, hp⟩ : ∃ p, R[j]? = some p := ⟨_, List.getElem?_eq_getElem (by omega)⟩
  obtain ⟨q, hq⟩ : ∃ q, R[j + 1]? = some q := ⟨_, List.getElem?_eq_getElem (by omega)⟩
  obtain ⟨h1, h2⟩ := h j (by omega) p q hp hq
  have hgp := gapsP_get R j p q hp hq
  simp only [List.getD_eq_getElem?_getD, List.getElem?_map, hp, hq, hgp, Option.map_some, Option.getD_some, Bool.and_eq_true, decide_eq_true_eq]
  exact ⟨h1, h2⟩
theorem apB_unpaired (R : List (Nat × Nat)) (j : Nat) (p q : Nat × Nat) (hp : R[j]? = some p) (hq : R[j + 1]? = some q) (h : ¬ (p.2 - p.1 ≤ q.2 - q.1 ∧ p.2 - p.1 ≤ q.1 - p.2)) : apB (R.map fun p => p.2 - p.1) (gapsP R) = false := by
  unfold apB
  rw [List.all_eq_false]
  have hl := (List.getElem?_eq_some_iff.1 hq).1
  refine ⟨j, by rw [List.mem_range, gapsP_length]; omega, ?_⟩
  have hgp := gapsP_get R j p q hp hq
  simp only [List.getD_eq_getElem?_getD, List.getElem?_map, hp, hq, hgp, Option.map_some, Option.getD_some, Bool.and_eq_true, decide_eq_true_eq]
  exact h
/-- pairs as cells -/
def enc2 (R : List (Nat × Nat)) : List Value := R.flatMap fun p => [.int .i64 (p.1 : Int), .int .i64 (p.2 : Int)]
theorem enc2_snoc (R : List (Nat × Nat)) (a b : Nat) : enc2 (R ++ [(a, b)]) = enc2 R ++ [.int .i64 (a : Int), .int .i64 (b : Int)] := by unfold enc2; rw [List.flatMap_append]; rfl
theorem enc2_length (R : List (Nat × Nat)) : (enc2 R).length = R.length * 2 := by
  induction R with
  | nil => rfl
  | cons p R ih => show (enc2 R).length + 1 + 1 = _; rw [ih, List.length_cons]; omega
theorem enc2_get : ∀ (R : List (Nat × Nat)) (j : Nat) (p : Nat × Nat), R[j]? = some p → (enc2 R)[j * 2]? = some (.int .i64 (p.1 : Int)) ∧ (enc2 R)[j * 2 + 1]? = some (.int .i64 (p.2 : Int)) := by
  intro R
  induction R with
  | nil => intro j p h; simp at h
  | cons x R ih =>
    intro j p h
    have e : enc2 (x :: R) = .int .i64 (x.1 : Int) :: .int .i64 (x.2 : Int) :: enc2 R := rfl
    cases j with
    | zero => simp at h; subst h; exact ⟨rfl, rfl⟩
    | succ j =>
      obtain ⟨h1, h2⟩ := ih j p (by simpa using h)
      rw [e, show (j + 1) * 2 = j * 2 + 1 + 1 by omega]
      exact ⟨by simpa using h1, by simpa using h2⟩
theorem enc2_set (R : List (Nat × Nat)) (a b b' : Nat) : (enc2 (R ++ [(a, b)])).set (R.length * 2 + 1) (.int .i64 (b' : Int)) = enc2 (R ++ [(a, b')]) := by
  rw [enc2_snoc, enc2_snoc, List.set_append_right _ _ (by rw [enc2_length]; omega), enc2_length, show R.length * 2 + 1 - R.length * 2 = 1 by omega]; rfl
theorem stepR_bd (R : List (Nat × Nat)) (i : Nat) : (stepR R i).length ≤ R.length + 1 := by
  unfold stepR
  cases R.getLast? with
  | none => simp
  | some p =>
    show (if p.2 = i then _ else _ : List (Nat × Nat)).length ≤ _
    by_cases h : p.2 = i
    · rw [if_pos h]; simp
    · rw [if_neg h]; simp
theorem rsP_bd (ps : List Nat) : (rsP ps).length ≤ ps.length := by
  have h : ∀ (ps : List Nat) (R : List (Nat × Nat)), (ps.foldl stepR R).length ≤ R.length + ps.length := by
    intro ps
    induction ps with
    | nil => intro R; simp
    | cons i ps ih => intro R; rw [List.foldl_cons]; have := ih (stepR R i); have := stepR_bd R i; rw [List.length_cons]; omega
  have := h ps []
  unfold rsP; simpa using this
end Go.Proofs.Ytlgceccbjkkeiab

/- THE WALKS of runsOf, run.size, and the program's ShapeRuns. -/
namespace Go.Proofs.Ytlgceccbjkkeiab
open Go.RowKit Go.Shelf

attribute [local go_sem] Oper.semAt_some

theorem infoR : (Try.prog.info? 60).map (fun i => (i.zero, i.size, i.bytes)) = some (some (.agg #[.int .i64 0, .int .i64 0]), 2, 16) := by kernel_rfl
theorem own2_slice {w : World} {B e n : Nat} {v : Value} {xs : List Value} (h : w.ownsRow B e 2 v n xs) : ∃ a c, v = .slice a n c ∧ (0 < n → ∃ g, a = some ⟨g, 0, none⟩ ∧ CellsAt w g xs) := by
  have h1 := h.1
  rcases h.2 with ⟨rfl, rfl⟩ | ⟨g, cap, cur, rfl, h2, h3, h4, h5, h6, h7⟩
  · exact ⟨_, _, rfl, fun h => by omega⟩
  · refine ⟨_, _, rfl, fun _ => ⟨g, rfl, fun j v hj => ?_⟩⟩
    have hl : j < n * 2 := by have := (List.getElem?_eq_some_iff.1 hj).1; omega
    exact ⟨by rw [h.cellAt j hl]; exact hj, h.frozenAt j⟩
theorem cell_two_new (w : World) (x y : Value) (t : TypeId) : ∀ j u, [x, y][j]? = some u → (w.alloc (.cells #[x, y] t)).cell? ((⟨w.heap.size, 0, none⟩ : Addr).add j) = some u := by
  intro j u hj
  match j, hj with
  | 0, hj => simp at hj; subst hj; simp [Addr.add]
  | 1, hj => simp at hj; subst hj; simp [Addr.add]
/-- one cell of a row is set -/
theorem owns_set {w : World} {B e size n k : Nat} {a : Option Addr} {g c : Nat} {xs : List Value} (h : w.ownsRow B e size (.slice a n c) n xs) (ha : a = some ⟨g, 0, none⟩) (u : Value) : (w.setCell ⟨g, k, none⟩ u).ownsRow B e size (.slice a n c) n (xs.set k u) := by
  refine ⟨by rw [List.length_set]; exact h.1, ?_⟩
  rcases h.2 with ⟨h1, _⟩ | ⟨g', cap, cur, h1, h2, h3, h4, h5, h6, h7⟩
  · injection h1 with h1; rw [ha] at h1; cases h1
  · injection h1 with h1 _ h8
    rw [ha] at h1
    injection h1 with h1
    injection h1 with h1
    subst h1
    refine .inr ⟨g, cap, cur.set! k u, by rw [ha, h8], h2, ?_, h4, h5, by simpa using h6, ?_⟩
    · show (w.heap.modify g _)[g]? = _
      obtain ⟨hlt, hg⟩ := Array.getElem?_eq_some_iff.1 h3
      rw [Array.getElem?_eq_getElem (by rw [Array.size_modify]; exact hlt), Array.getElem_modify_self, hg]
      rfl
    · rw [← h7]
      simp [List.take_set]

theorem boxed_far {W : World} {B q k t : Nat} {v : Value} (h : Boxed W B t v) (hne : B ≠ q) (u : Value) : Boxed (W.setCell ⟨q, k, none⟩ u) B t v := by
  show (W.heap.modify q _)[B]? = _
  rw [Array.getElem?_modify, if_neg (fun e => hne e.symm)]
  exact h

set_option maxRecDepth 100000 in
set_option maxHeartbeats 2000000 in
theorem runsOf_in (F : Fence) (n : Nat) (h1' : F.fn 40) (h2 : F.fn 39) (h3 : F.fn 46) (hro : F.round = none) (hn : 3 ≤ n) (g len cap : Nat) (bs : List Bool) (hlen : bs.length = len) (hm : len ≤ 1000) (w : World) (hI : CellsAt w g (bs.map .bool)) :
    CallsIn F n Try.prog 40 #[.slice (some ⟨g, 0, none⟩) len cap] w fun e W' => ∃ v, e = .returned v ∧ W'.ownsRow w.heap.size 60 2 v (rsP (pos bs)).length (enc2 (rsP (pos bs))) ∧ Below w.heap.size w W' := by
  have h1 : 1 ≤ n := by omega
  have hgl : 0 < len → g < w.heap.size := fun h => hI.lt (by simp; omega)
  have HI := hide hI
  have HLEN := hide hlen
  have HGL := hide hgl
  clear hI hlen hgl
  obtain ⟨i0, hi, hz0, hz1, hz2⟩ := info_parts infoR
  refine callsIn_of_wp_marks Try.func40 rfl h1' ?_ hro
  simp only [Try.ntmps40, List.size_toArray, List.length_cons, List.length_nil, Nat.reduceAdd, Nat.reduceSub, Array.replicate_succ, Array.replicate_zero, List.push_toArray, List.append_toArray, List.nil_append, List.cons_append]
  gi_wp2_with (gi_at_call 39; refine (balls_in F (n - 1) h2 hro _ _ _ _).mono ?_; rintro e w' ⟨rfl, rfl⟩)
  have bS := Boxed.new w 57 (.slice none 0 0)
  have bN := Boxed.new (w.alloc (.cells #[.slice none 0 0] 57)) 44 (.slice (some ⟨g, 0, none⟩) len cap)
  rw [World.size_alloc] at bN
  have hB0 : Below w.heap.size w ((w.alloc (.cells #[.slice none 0 0] 57)).alloc (.cells #[.slice (some ⟨g, 0, none⟩) len cap] 44)) := ((Below.refl _ w).alloc (Nat.le_refl _) _).alloc (by simp) _
  refine wpIn_rangeFunc_ownG hro h1 (gf := 46) (lb := #[.pointer (some ⟨w.heap.size + 1, 0, none⟩)]) rfl h3 (enters_of Try.func46 (by kernel_rfl) rfl)
    (balls_stopsF F (n - 1) h3 hro (by omega) (w.heap.size + 1) w.heap.size g len cap bs HLEN.out hm _ (by simp) HGL.out bN.cell (HI.out.below' hB0 (Nat.le_refl _))) belowK_t (belowK_b (by simp; omega)) (Below.refl _ _) (fun _ => rfl)
    (fun (pre : List { j : Nat // j < len }) W => (∃ v, Boxed W w.heap.size 57 v ∧ W.ownsRow w.heap.size 60 2 v (rsP (pre.map (·.1))).length (enc2 (rsP (pre.map (·.1)))) ∧ True) ∧ Below w.heap.size w W)
    (fun _ _ _ => False)
    (OwnFrom.and (Own.from (holdsRow_own w.heap.size w.heap.size 57 60 2 (fun (pre : List { j : Nat // j < len }) => (rsP (pre.map (·.1))).length) (fun (pre : List { j : Nat // j < len }) => enc2 (rsP (pre.map (·.1)))) (fun _ _ => True)) _) (ownFrom_below (Nat.le_refl _) (by simp; omega)))
    (fun _ _ _ _ _ hs _ _ => hs)
    ⟨⟨_, bS.alloc _, World.ownsRow_nil _ _ _ _, trivial⟩, hB0⟩
    (fun x => { tmps := #[.slice (some ⟨g, 0, none⟩) len cap, undef, .slice none 0 0, .pointer (some ⟨w.heap.size, 0, none⟩), .int .i64 (x.1 : Int), undef, .slice (some ⟨g, 0, none⟩) len cap, .func (.func 46) #[] #[.pointer (some ⟨w.heap.size + 1, 0, none⟩)], .int .i64 (x.1 : Int), undef, undef, undef, undef, undef, undef, undef, undef, undef, undef, undef, undef, undef, undef, undef, undef, undef, undef, undef, undef, undef, undef, undef, undef, undef, undef, undef, undef, undef, undef], defers := [] }) ?assign ?body ?done ?stop
  case assign =>
    intro l x W K hK
    gi_wp2
    simpa using hK
  case body =>
    rintro l pre ⟨x, hx⟩ W ⟨⟨v, hv, hrow, _⟩, hB⟩ hlt
    have hbd := rsP_bd (pre.map fun y => y.1)
    rw [List.length_map] at hbd
    obtain ⟨pre', hpre⟩ : ∃ q : List { j : Nat // j < len }, q = pre ++ [⟨x, hx⟩] := ⟨_, rfl⟩
    have HS : Hid (rsP (pre'.map fun y => y.1) = stepR (rsP (pre.map fun y => y.1)) x) := by
      show _ = _
      rw [hpre, List.map_append]; exact rsP_snoc _ _
    rw [← hpre]
    obtain ⟨R, hR⟩ : ∃ R, R = rsP (pre.map fun y => y.1) := ⟨_, rfl⟩
    rw [← hR] at hrow hbd HS
    clear hR hpre
    have x0 : (0 : Int) ≤ (x : Int) := by omega
    have x1 : (x : Int) ≤ 1000 := by omega
    rcases List.eq_nil_or_concat R with rfl | ⟨R0, p, hp⟩
    · obtain ⟨a, c, rfl, hf⟩ := own2_slice hrow
      have hc := hv.cell
      have hfz := hv.frozen
      have HS2 : Hid (rsP (pre'.map fun y => y.1) = [(x, x + 1)]) := HS.out.trans (stepR_new (fun p h => by simp at h))
      clear hf hbd HS
      gi_wp2_with (gi_at_builtin; refine wpListIn_append_own _ rfl _ _ 57 rfl w.heap.size 60 i0 (.agg #[.int .i64 0, .int .i64 0]) 2 16 Try.underlying57 hi hz0 hz1 hz2 rfl (by decide) _ _ _ rfl (hrow.alloc _) ⟨W.heap.size, 0, none⟩ 1 1 [.int .i64 (x : Int), .int .i64 ((x : Int) + 1)] rfl rfl (cell_two_new _ _ _ _) (by intro u hu; simp at hu; rcases hu with rfl | rfl <;> rfl) (by unfold maxLen; simp) (by simp) (by have := hB.size; simp; omega) ?_; intro v' w1 hown' hgrow _; obtain ⟨g', cap', rfl⟩ := ownsRow_succ hown'; obtain ⟨hv1, hv2, hr2, hk2, hb2⟩ := hv.appended (by decide) hrow hB.size (Nat.le_refl _) hown' hgrow; have hc1 := hv1.cell; have hf1 := hv1.frozen)
      exact ⟨hk2.from _, hb2, ⟨_, hv2, by rw [HS2.out]; simpa [enc2] using hr2, trivial⟩, hB.trans hb2⟩
    · rw [List.concat_eq_append] at hp
      subst hp
      obtain ⟨pa, pb⟩ := p
      obtain ⟨nr, hnr⟩ : ∃ n, n = R0.length := ⟨_, rfl⟩
      have HNR := hide hnr
      have hlr : (R0 ++ [(pa, pb)]).length = nr + 1 := by rw [List.length_append, hnr]; rfl
      rw [hlr] at hrow hbd
      obtain ⟨a, c, rfl, hf⟩ := own2_slice hrow
      have hc := hv.cell
      have hfz := hv.frozen
      obtain ⟨q, rfl, hcl⟩ := hf (Nat.succ_pos _)
      have hcell := hcl (nr * 2 + 1) (.int .i64 (pb : Int)) (by rw [hnr]; exact (enc2_get _ _ (pa, pb) (by simp)).2)
      obtain ⟨hc2, hf2⟩ := hcell
      have n0 : (0 : Int) ≤ (nr : Int) := by omega
      have n1 : (nr : Int) ≤ 1000 := by omega
      have n2 : (nr : Int) < ((nr + 1 : Nat) : Int) := by omega
      have hqB : w.heap.size ≠ q := fun e => (hv.not_row (by decide) hrow) (by rw [e]; rfl)
      clear hcl hf hnr hlr
      by_cases hpx : pb = x
      · subst hpx
        have HS2 : Hid (rsP (pre'.map fun y => y.1) = R0 ++ [(pa, pb + 1)]) := HS.out.trans (stepR_more R0 pa pb)
        clear HS
        have hge := (hrow.lt q rfl).1
        have HE : Hid ((enc2 (R0 ++ [(pa, pb)])).set (nr * 2 + 1) (.int .i64 ((pb + 1 : Nat) : Int)) = enc2 (R0 ++ [(pa, pb + 1)])) := by rw [HNR.out]; exact enc2_set R0 pa pb (pb + 1)
        gi_wp2
        refine ⟨(KeepsOthers.setCell _ _ _).from _, (Below.refl w.heap.size W).setCell (p := ⟨q, nr * 2 + 1, none⟩) hge _, ⟨_, boxed_far hv hqB _, ?_, trivial⟩, hB.setCell (p := ⟨q, nr * 2 + 1, none⟩) hge _⟩
        have h5 := owns_set hrow rfl (k := nr * 2 + 1) (.int .i64 ((pb + 1 : Nat) : Int))
        rw [HE.out] at h5
        rw [HS2.out, List.length_append, ← HNR.out]
        exact h5
      · have HS2 : Hid (rsP (pre'.map fun y => y.1) = (R0 ++ [(pa, pb)]) ++ [(x, x + 1)]) := HS.out.trans (stepR_new (fun p h => by rw [List.getLast?_concat] at h; injection h with h; rw [← h]; exact hpx))
        clear HS
        have hpx2 : ((pb : Int) == (x : Int)) = false := beq_eq_false_iff_ne.2 (by omega)
        clear hpx
        gi_wp2_with (gi_at_builtin; refine wpListIn_append_own _ rfl _ _ 57 rfl w.heap.size 60 i0 (.agg #[.int .i64 0, .int .i64 0]) 2 16 Try.underlying57 hi hz0 hz1 hz2 rfl (by decide) _ _ _ rfl (hrow.alloc _) ⟨W.heap.size, 0, none⟩ 1 1 [.int .i64 (x : Int), .int .i64 ((x : Int) + 1)] rfl rfl (cell_two_new _ _ _ _) (by intro u hu; simp at hu; rcases hu with rfl | rfl <;> rfl) (by unfold maxLen; omega) (by omega) (by have := hB.size; simp; omega) ?_; intro v' w1 hown' hgrow _; obtain ⟨g', cap', rfl⟩ := ownsRow_succ hown'; obtain ⟨hv1, hv2, hr2, hk2, hb2⟩ := hv.appended (by decide) hrow hB.size (Nat.le_refl _) hown' hgrow; have hc1 := hv1.cell; have hf1 := hv1.frozen)
        exact ⟨hk2.from _, hb2, ⟨_, hv2, by rw [HS2.out, List.length_append, List.length_append, HNR.out, enc2_snoc]; simpa [HNR.out] using hr2, trivial⟩, hB.trans hb2⟩
  case done =>
    rintro D ys W hD hys ⟨⟨v, hv, hrow, _⟩, hB⟩ hK
    rw [hys] at hrow
    have hc := hv.cell
    obtain ⟨a, c, rfl, _⟩ := own2_slice hrow
    gi_wp2
    refine ⟨by simp, .inl ⟨_, _, rfl, run_takeDeferred hK, ?_⟩⟩
    exact ⟨_, results_tmp rfl _ _ _, _, rfl, ownsRow_putObj hrow _ hK rfl, hB.trans (belowK_b (w := w) (Nat.le_refl _) W D _ _ (by simp at hD; omega) hK rfl rfl)⟩
  case stop =>
    rintro D c pre W _ _ h _
    exact h.elim

theorem runsOf_any (g len cap : Nat) (bs : List Bool) (hlen : bs.length = len) (hm : len ≤ 1000) (w : World) (hI : CellsAt w g (bs.map .bool)) :
    Calls Try.prog 40 #[.slice (some ⟨g, 0, none⟩) len cap] w fun e W' => ∃ v, e = .returned v ∧ W'.ownsRow w.heap.size 60 2 v (rsP (pos bs)).length (enc2 (rsP (pos bs))) ∧ Below w.heap.size w W' :=
  callsIn_wide.1 (runsOf_in Fence.wide 3 trivial trivial trivial rfl (Nat.le_refl _) g len cap bs hlen hm w hI)

set_option maxRecDepth 100000 in
theorem size_any (a b : Nat) (w : World) (ha : a ≤ b) (hb : b ≤ 1000) :
    Calls Try.prog 41 #[.agg #[.int .i64 (a : Int), .int .i64 (b : Int)]] w fun e w' => e = .returned (.int .i64 ((b - a : Nat) : Int)) ∧ w' = w.alloc (.cells #[.int .i64 (a : Int), .int .i64 (b : Int)] 60) := by
  have e : ((b - a : Nat) : Int) = (b : Int) - (a : Int) := by omega
  have h0 : (a : Int) ≤ (b : Int) := by omega
  have h1 : (b : Int) ≤ 1000 := by omega
  have h2 : (0 : Int) ≤ (a : Int) := by omega
  rw [e]
  clear e
  go_enter Try.func41, Try.ntmps41
  go_wp2
  go_ret
  exact ⟨rfl, rfl⟩
end Go.Proofs.Ytlgceccbjkkeiab

/- THE WALK of the program's ShapeRuns. -/
namespace Go.Proofs.Ytlgceccbjkkeiab
open Go.RowKit

/-- a row that is read, and its runs -/
def rsS (s : ByteArray) : List (Nat × Nat) := rsP (pos (cut (bits s)))
theorem rsS_rr (s : ByteArray) : (rsS s).map (fun p => p.2 - p.1) = (rr (bits s)).1 ∧ gapsP (rsS s) = (rr (bits s)).2 ∧ lineP (rsS s) := by
  have h := rsP_rr (cut (bits s))
  have e : rr (cut (bits s)) = rr (bits s) := rr_ext (bx_fun_cut (bits s))
  rw [e] at h
  exact h
/-- runs end in the row -/
theorem runsF_lt : ∀ (l : List Bool) (i m : Nat) (R : List (Nat × Nat)), i + l.length ≤ m → (∀ p ∈ R, p.1 ≤ p.2 ∧ p.2 ≤ m) → ∀ p ∈ runsF l i R, p.1 ≤ p.2 ∧ p.2 ≤ m := by
  intro l
  induction l with
  | nil => intro i m R _ h; exact h
  | cons b t ih =>
    intro i m R hi h
    rw [List.length_cons] at hi
    refine ih (i + 1) m _ (by omega) ?_
    cases b
    · exact h
    · intro p hp
      have hp2 : p ∈ stepR R i := hp
      unfold stepR at hp2
      cases hl : R.getLast? with
      | none =>
        rw [hl] at hp2
        have hp3 : p ∈ R ++ [(i, i + 1)] := hp2
        rw [List.mem_append, List.mem_singleton] at hp3
        rcases hp3 with h3 | rfl
        · exact h p h3
        · exact ⟨Nat.le_succ i, by show i + 1 ≤ m; omega⟩
      | some q =>
        rw [hl] at hp2
        have hq : q ∈ R := List.mem_of_getLast? hl
        have hp3 : p ∈ (if q.2 = i then R.dropLast ++ [(q.1, q.2 + 1)] else R ++ [(i, i + 1)]) := hp2
        by_cases e : q.2 = i
        · rw [if_pos e, List.mem_append, List.mem_singleton] at hp3
          rcases hp3 with h3 | rfl
          · exact h p (List.dropLast_subset R h3)
          · have := h q hq
            exact ⟨by show q.1 ≤ q.2 + 1; omega, by show q.2 + 1 ≤ m; omega⟩
        · rw [if_neg e, List.mem_append, List.mem_singleton] at hp3
          rcases hp3 with h3 | rfl
          · exact h p h3
          · exact ⟨Nat.le_succ i, by show i + 1 ≤ m; omega⟩
theorem rsS_lt (s : ByteArray) : ∀ p ∈ rsS s, p.1 ≤ p.2 ∧ p.2 ≤ s.size := by
  intro p hp
  unfold rsS at hp
  rw [rsP_pos] at hp
  have hl := tl_le (bits s)
  rw [length_bits] at hl
  exact runsF_lt (cut (bits s)) 0 s.size [] (by rw [cut_length]; omega) (fun p h => by simp at h) p hp
theorem rsS_len (s : ByteArray) : (rsS s).length ≤ s.size := by
  unfold rsS
  have h1 := rsP_bd (pos (cut (bits s)))
  have h2 := posU_le (cut (bits s)) (cut (bits s)).length
  have hl := tl_le (bits s)
  rw [length_bits] at hl
  rw [cut_length] at h2
  unfold pos at h1 ⊢
  rw [cut_length] at h1 ⊢
  omega
theorem readRuns (s : ByteArray) (w w1 : World) (hv : vld s = true) (hc1 : CellsAt w1 w.heap.size ((bits s).map .bool)) :
    Calls Try.prog 40 #[.slice (some ⟨w.heap.size, 0, none⟩) (tl (bits s)) s.size] w1 fun e w' => ∃ v, e = .returned v ∧ w'.ownsRow w1.heap.size 60 2 v (rsS s).length (enc2 (rsS s)) ∧ Below w1.heap.size w1 w' := by
  have h120 := vld_le s hv
  have hle := tl_le (bits s)
  rw [length_bits] at hle
  exact runsOf_any w.heap.size (tl (bits s)) s.size (cut (bits s)) (cut_length _) (by omega) w1 (by rw [cut_map]; exact hc1.take _)

end Go.Proofs.Ytlgceccbjkkeiab

/- THE WALK of the program's ShapeApart. -/
namespace Go.Proofs.Ytlgceccbjkkeiab
open Go.RowKit Go.Sort

theorem okP_next {R : List (Nat × Nat)} {k : Nat} {p q : Nat × Nat} (h : ∀ j, j + 1 < k + 1 → okP R j) (hp : R[k]? = some p) (hq : R[k + 1]? = some q) (h1 : p.2 - p.1 ≤ q.2 - q.1) (h2 : p.2 - p.1 ≤ q.1 - p.2) : ∀ j, j + 1 < k + 2 → okP R j := by
  intro j hj
  by_cases e : j = k
  · subst e
    intro p' q' hp' hq'
    rw [hp] at hp'
    rw [hq] at hq'
    injection hp' with hp'
    injection hq' with hq'
    subst hp'; subst hq'
    exact ⟨h1, h2⟩
  · exact h j (by omega)

def ApRel (R : List (Nat × Nat)) (n : Nat) (w2 : World) (i : Value) (wr : World) : Prop :=
  ∃ k : Nat, k ≤ n ∧ i = .int .i64 ((k : Int) + 1) ∧ Hid (∀ j, j + 1 < k + 1 → okP R j) ∧ Hid (Below w2.heap.size w2 wr) ∧ w2.heap.size ≤ wr.heap.size
theorem sizeG_any (a b : Nat) (w : World) (ha : a ≤ b) (hb : b ≤ 1000) :
    Calls Try.prog 41 #[.agg #[.int .i64 (a : Int), .int .i64 (b : Int)]] w fun e w' => e = .returned (.int .i64 ((b : Int) - (a : Int))) ∧ ∃ q os', w' = grow (w.drewN q) os' := by
  refine (size_any a b w ha hb).mono ?_
  rintro e w' ⟨rfl, rfl⟩
  refine ⟨by rw [show ((b - a : Nat) : Int) = (b : Int) - (a : Int) by omega], 0, #[.cells #[.int .i64 (a : Int), .int .i64 (b : Int)] 60], ?_⟩
  rw [alloc_eq_grow]; rfl
theorem below_grow (w : World) (n : Nat) (os : Array Obj) : Below w.heap.size w (grow (w.drewN n) os) := by
  refine ⟨rfl, rfl, rfl, ?_, ?_⟩
  · show w.heap.size ≤ (w.heap ++ os).size
    simp
  · intro k hk
    show (w.heap ++ os)[k]? = w.heap[k]?
    rw [Array.getElem?_append_left hk]

end Go.Proofs.Ytlgceccbjkkeiab
