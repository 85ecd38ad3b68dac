/- TEXTS Apart. -/
import Derived.Test.YtdooboibmllfkabGreatDoorExb09
import Derived.Test.YtdooboibmllfkabGreatDoorExb02
import Derived.Test.YtdooboibmllfkabGreatDoorExb10
import Derived.Test.YtdooboibmllfkabGreatDoorExb27
import Derived.Maps.AppendAt
import Derived.Shelf.SlSortCmp.QuietGrown
import Derived.IntWalk
namespace Go.Proofs.YtdooboibmllfkabGreatDoor
set_option maxRecDepth 100000

def stepR (R : List (Nat × Nat)) (i : Nat) : List (Nat × Nat) :=
  match R.getLast? with
  | some p => if p.2 = i then R.dropLast ++ [(p.1, p.2 + 1)] else R ++ [(i, i + 1)]
  | none => R ++ [(i, i + 1)]
def rsP (ps : List Nat) : List (Nat × Nat) := ps.foldl stepR []
theorem rsP_snoc (ps : List Nat) (i : Nat) : rsP (ps ++ [i]) = stepR (rsP ps) i := by unfold rsP; rw [List.foldl_append]; rfl
theorem stepR_new {R : List (Nat × Nat)} {i : Nat} (h : ∀ p, R.getLast? = some p → p.2 ≠ i) : stepR R i = R ++ [(i, i + 1)] := by
  unfold stepR
  cases hl : R.getLast? with
  | none => rfl
  | some p => show (if p.2 = i then _ else _) = _; rw [if_neg (h p hl)]
theorem stepR_more (R : List (Nat × Nat)) (a i : Nat) : stepR (R ++ [(a, i)]) i = R ++ [(a, i + 1)] := by
  unfold stepR
  rw [List.getLast?_concat]
  show (if i = i then _ else _) = _
  rw [if_pos rfl, List.dropLast_concat]
def runsF : List Bool → Nat → List (Nat × Nat) → List (Nat × Nat)
  | [], _, R => R
  | b :: t, i, R => runsF t (i + 1) (if b then stepR R i else R)
theorem runsF_app : ∀ (a b : List Bool) (i : Nat) (R : List (Nat × Nat)), runsF (a ++ b) i R = runsF b (i + a.length) (runsF a i R) := by
  intro a
  induction a with
  | nil => intro b i R; rfl
  | cons x a ih => intro b i R; show runsF (a ++ b) (i + 1) _ = _; rw [ih, List.length_cons, show i + 1 + a.length = i + (a.length + 1) by omega]; rfl
theorem runsF_pos (bs : List Bool) : ∀ k, k ≤ bs.length → rsP (posU bs k) = runsF (bs.take k) 0 [] := by
  intro k
  induction k with
  | zero => intro _; simp [posU, rsP, runsF]
  | succ k ih =>
    intro hk
    have e : bs[k]? = some bs[k] := List.getElem?_eq_getElem (by omega)
    have ih := ih (by omega)
    rw [posU_succ, List.take_succ_eq_append_getElem (by omega), runsF_app, ← ih, List.length_take, Nat.min_eq_left (by omega), e]
    cases bs[k]
    · rfl
    · show rsP (posU bs k ++ [k]) = stepR (rsP (posU bs k)) (0 + k)
      rw [rsP_snoc, Nat.zero_add]
theorem rsP_pos (bs : List Bool) : rsP (pos bs) = runsF bs 0 [] := by
  unfold pos
  rw [runsF_pos bs _ (Nat.le_refl _), List.take_of_length_le (Nat.le_refl _)]
theorem runsF_gap (g i : Nat) (R : List (Nat × Nat)) : runsF (List.replicate g false) i R = R := by
  induction g generalizing i with
  | zero => rfl
  | succ g ih => rw [List.replicate_succ]; exact ih (i + 1)
theorem runsF_more (r a i : Nat) (R : List (Nat × Nat)) : runsF (List.replicate r true) i (R ++ [(a, i)]) = R ++ [(a, i + r)] := by
  induction r generalizing i with
  | zero => rfl
  | succ r ih =>
    rw [List.replicate_succ]
    show runsF _ (i + 1) (stepR _ i) = _
    rw [stepR_more, ih, show i + 1 + r = i + (r + 1) by omega]
theorem runsF_run (r i : Nat) (R : List (Nat × Nat)) (h : ∀ p, R.getLast? = some p → p.2 ≠ i) (hr : 1 ≤ r) : runsF (List.replicate r true) i R = R ++ [(i, i + r)] := by
  obtain ⟨q, rfl⟩ : ∃ q, r = q + 1 := ⟨r - 1, by omega⟩
  rw [List.replicate_succ]
  show runsF _ (i + 1) (stepR R i) = _
  rw [stepR_new h, runsF_more, show i + 1 + q = i + (q + 1) by omega]
def posR : List (Nat × Nat) → Nat → List (Nat × Nat)
  | [], _ => []
  | p :: ps, i => (i, i + p.1) :: posR ps (i + p.1 + p.2)
theorem runsF_wb : ∀ (ps : List (Nat × Nat)) (i : Nat) (R : List (Nat × Nat)), good ps → (∀ p, R.getLast? = some p → p.2 ≠ i) → runsF (wb ps) i R = R ++ posR ps i := by
  intro ps
  induction ps with
  | nil => intro i R _ _; exact (List.append_nil R).symm
  | cons p ps ih =>
    intro i R hg hR
    obtain ⟨h1, h2, h3⟩ := hg
    show runsF (List.replicate p.1 true ++ (List.replicate p.2 false ++ wb ps)) i R = _
    rw [runsF_app, runsF_app, runsF_run _ _ _ hR h1, runsF_gap, List.length_replicate, List.length_replicate]
    cases ps with
    | nil => rfl
    | cons q qs =>
      rw [ih _ _ h3 (fun x hx => by rw [List.getLast?_concat] at hx; injection hx with hx; rw [← hx]; have := h2 (by simp); show i + p.1 ≠ _; omega), List.append_assoc]
      rfl
def gapsP : List (Nat × Nat) → List Nat
  | p :: q :: r => (q.1 - p.2) :: gapsP (q :: r)
  | _ => []
theorem posR_sizes : ∀ (ps : List (Nat × Nat)) (i : Nat), (posR ps i).map (fun p => p.2 - p.1) = ps.map (·.1) := by
  intro ps
  induction ps with
  | nil => intro i; rfl
  | cons p ps ih => intro i; show (i + p.1 - i) :: _ = p.1 :: _; rw [ih, show i + p.1 - i = p.1 by omega]
theorem posR_gaps : ∀ (ps : List (Nat × Nat)) (i : Nat), gapsP (posR ps i) = (ps.map (·.2)).dropLast := by
  intro ps
  induction ps with
  | nil => intro i; rfl
  | cons p ps ih =>
    intro i
    cases ps with
    | nil => rfl
    | cons q qs =>
      show (i + p.1 + p.2 - (i + p.1)) :: gapsP (posR (q :: qs) (i + p.1 + p.2)) = p.2 :: _
      rw [ih, show i + p.1 + p.2 - (i + p.1) = p.2 by omega]; rfl
def lineP : List (Nat × Nat) → Prop
  | p :: q :: r => p.1 ≤ p.2 ∧ p.2 ≤ q.1 ∧ lineP (q :: r)
  | [p] => p.1 ≤ p.2
  | [] => True
theorem posR_line : ∀ (ps : List (Nat × Nat)) (i : Nat), lineP (posR ps i) := by
  intro ps
  induction ps with
  | nil => intro i; exact True.intro
  | cons p ps ih =>
    intro i
    cases ps with
    | nil => show i ≤ i + p.1; omega
    | cons q qs =>
      refine ⟨?_, ?_, ih (i + p.1 + p.2)⟩
      · show i ≤ i + p.1; omega
      · show i + p.1 ≤ i + p.1 + p.2; omega
theorem lineP_get : ∀ (R : List (Nat × Nat)) (j : Nat) (p q : Nat × Nat), lineP R → R[j]? = some p → R[j + 1]? = some q → p.1 ≤ p.2 ∧ p.2 ≤ q.1 ∧ q.1 ≤ q.2 := by
  intro R
  induction R with
  | nil => intro j p q _ h; simp at h
  | cons x t ih =>
    intro j p q hl hp hq
    cases t with
    | nil => simp at hq
    | cons y r =>
      obtain ⟨h1, h2, h3⟩ := hl
      cases j with
      | zero =>
        simp at hp hq
        subst hp; subst hq
        refine ⟨h1, h2, ?_⟩
        cases r with
        | nil => exact h3
        | cons z r => exact h3.1
      | succ j => exact ih j p q h3 (by simpa using hp) (by simpa using hq)
theorem gapsP_get : ∀ (R : List (Nat × Nat)) (j : Nat) (p q : Nat × Nat), R[j]? = some p → R[j + 1]? = some q → (gapsP R)[j]? = some (q.1 - p.2) := by
  intro R
  induction R with
  | nil => intro j p q h; simp at h
  | cons x t ih =>
    intro j p q hp hq
    cases t with
    | nil => simp at hq
    | cons y r =>
      cases j with
      | zero => simp at hp hq; subst hp; subst hq; rfl
      | succ j => show (gapsP (y :: r))[j]? = _; exact ih j p q (by simpa using hp) (by simpa using hq)
theorem gapsP_length : ∀ R : List (Nat × Nat), (gapsP R).length = R.length - 1 := by
  intro R
  induction R with
  | nil => rfl
  | cons x t ih =>
    cases t with
    | nil => rfl
    | cons y r => show (gapsP (y :: r)).length + 1 = _; rw [ih]; simp
theorem rsP_rr (bs : List Bool) : (rsP (pos bs)).map (fun p => p.2 - p.1) = (rr bs).1 ∧ gapsP (rsP (pos bs)) = (rr bs).2 ∧ lineP (rsP (pos bs)) := by
  obtain ⟨g, ps, hg, rfl⟩ := blocks bs
  rw [rsP_pos, runsF_app, runsF_gap, runsF_wb ps _ [] hg (fun p h => by simp at h), List.nil_append, rr_blocks hg]
  exact ⟨posR_sizes _ _, posR_gaps _ _, posR_line _ _⟩
def okP (R : List (Nat × Nat)) (j : Nat) : Prop := ∀ p q, R[j]? = some p → R[j + 1]? = some q → p.2 - p.1 ≤ q.2 - q.1 ∧ p.2 - p.1 ≤ q.1 - p.2
theorem apB_pairs (R : List (Nat × Nat)) (h : ∀ j, j + 1 < R.length → okP R j) : apB (R.map fun p => p.2 - p.1) (gapsP R) = true := by
  unfold apB
  rw [List.all_eq_true]
  intro j hj
  rw [List.mem_range, gapsP_length] at hj
  obtain ⟨p, hp⟩ : ∃ p, R[j]? = some p := ⟨_, List.getElem?_eq_getElem (by omega)⟩
  obtain ⟨q, hq⟩ : ∃ q, R[j + 1]? = some q := ⟨_, List.getElem?_eq_getElem (by omega)⟩
  obtain ⟨h1, h2⟩ := h j (by omega) p q hp hq
  have hgp := gapsP_get R j p q hp hq
  simp only [List.getD_eq_getElem?_getD, List.getElem?_map, hp, hq, hgp, Option.map_some, Option.getD_some, Bool.and_eq_true, decide_eq_true_eq]
  exact ⟨h1, h2⟩
theorem apB_unpaired (R : List (Nat × Nat)) (j : Nat) (p q : Nat × Nat) (hp : R[j]? = some p) (hq : R[j + 1]? = some q) (h : ¬ (p.2 - p.1 ≤ q.2 - q.1 ∧ p.2 - p.1 ≤ q.1 - p.2)) : apB (R.map fun p => p.2 - p.1) (gapsP R) = false := by
  unfold apB
  rw [List.all_eq_false]
  have hl := (List.getElem?_eq_some_iff.1 hq).1
  refine ⟨j, by rw [List.mem_range, gapsP_length]; omega, ?_⟩
  have hgp := gapsP_get R j p q hp hq
  simp only [List.getD_eq_getElem?_getD, List.getElem?_map, hp, hq, hgp, Option.map_some, Option.getD_some, Bool.and_eq_true, decide_eq_true_eq]
  exact h
def enc2 (R : List (Nat × Nat)) : List Value := R.flatMap fun p => [.int .i64 (p.1 : Int), .int .i64 (p.2 : Int)]
theorem enc2_snoc (R : List (Nat × Nat)) (a b : Nat) : enc2 (R ++ [(a, b)]) = enc2 R ++ [.int .i64 (a : Int), .int .i64 (b : Int)] := by unfold enc2; rw [List.flatMap_append]; rfl
theorem enc2_length (R : List (Nat × Nat)) : (enc2 R).length = R.length * 2 := by
  induction R with
  | nil => rfl
  | cons p R ih => show (enc2 R).length + 1 + 1 = _; rw [ih, List.length_cons]; omega
theorem enc2_get : ∀ (R : List (Nat × Nat)) (j : Nat) (p : Nat × Nat), R[j]? = some p → (enc2 R)[j * 2]? = some (.int .i64 (p.1 : Int)) ∧ (enc2 R)[j * 2 + 1]? = some (.int .i64 (p.2 : Int)) := by
  intro R
  induction R with
  | nil => intro j p h; simp at h
  | cons x R ih =>
    intro j p h
    have e : enc2 (x :: R) = .int .i64 (x.1 : Int) :: .int .i64 (x.2 : Int) :: enc2 R := rfl
    cases j with
    | zero => simp at h; subst h; exact ⟨rfl, rfl⟩
    | succ j =>
      obtain ⟨h1, h2⟩ := ih j p (by simpa using h)
      rw [e, show (j + 1) * 2 = j * 2 + 1 + 1 by omega]
      exact ⟨by simpa using h1, by simpa using h2⟩
theorem enc2_set (R : List (Nat × Nat)) (a b b' : Nat) : (enc2 (R ++ [(a, b)])).set (R.length * 2 + 1) (.int .i64 (b' : Int)) = enc2 (R ++ [(a, b')]) := by
  rw [enc2_snoc, enc2_snoc, List.set_append_right _ _ (by rw [enc2_length]; omega), enc2_length, show R.length * 2 + 1 - R.length * 2 = 1 by omega]; rfl
theorem stepR_bd (R : List (Nat × Nat)) (i : Nat) : (stepR R i).length ≤ R.length + 1 := by
  unfold stepR
  cases R.getLast? with
  | none => simp
  | some p =>
    show (if p.2 = i then _ else _ : List (Nat × Nat)).length ≤ _
    by_cases h : p.2 = i
    · rw [if_pos h]; simp
    · rw [if_neg h]; simp
theorem rsP_bd (ps : List Nat) : (rsP ps).length ≤ ps.length := by
  have h : ∀ (ps : List Nat) (R : List (Nat × Nat)), (ps.foldl stepR R).length ≤ R.length + ps.length := by
    intro ps
    induction ps with
    | nil => intro R; simp
    | cons i ps ih => intro R; rw [List.foldl_cons]; have := ih (stepR R i); have := stepR_bd R i; rw [List.length_cons]; omega
  have := h ps []
  unfold rsP; simpa using this
end Go.Proofs.YtdooboibmllfkabGreatDoor

namespace Go.Proofs.YtdooboibmllfkabGreatDoor
set_option maxRecDepth 100000
open Go.RowKit Go.Shelf

attribute [local go_sem] Oper.semAt_some

theorem infoR : (Tryz.prog.info? 164).map (fun i => (i.zero, i.size, i.bytes)) = some (some (.agg #[.int .i64 0, .int .i64 0]), 2, 16) := by kernel_rfl
theorem own2_slice {w : World} {B e n : Nat} {v : Value} {xs : List Value} (h : w.ownsRow B e 2 v n xs) : ∃ a c, v = .slice a n c ∧ (0 < n → ∃ g, a = some ⟨g, 0, none⟩ ∧ CellsAt w g xs) := by
  have h1 := h.1
  rcases h.2 with ⟨rfl, rfl⟩ | ⟨g, cap, cur, rfl, h2, h3, h4, h5, h6, h7⟩
  · exact ⟨_, _, rfl, fun h => by omega⟩
  · refine ⟨_, _, rfl, fun _ => ⟨g, rfl, fun j v hj => ?_⟩⟩
    have hl : j < n * 2 := by have := (List.getElem?_eq_some_iff.1 hj).1; omega
    exact ⟨by rw [h.cellAt j hl]; exact hj, h.frozenAt j⟩
theorem cell_two_new (w : World) (x y : Value) (t : TypeId) : ∀ j u, [x, y][j]? = some u → (w.alloc (.cells #[x, y] t)).cell? ((⟨w.heap.size, 0, none⟩ : Addr).add j) = some u := by
  intro j u hj
  match j, hj with
  | 0, hj => simp at hj; subst hj; simp [Addr.add]
  | 1, hj => simp at hj; subst hj; simp [Addr.add]
theorem owns_set {w : World} {B e size n k : Nat} {a : Option Addr} {g c : Nat} {xs : List Value} (h : w.ownsRow B e size (.slice a n c) n xs) (ha : a = some ⟨g, 0, none⟩) (u : Value) : (w.setCell ⟨g, k, none⟩ u).ownsRow B e size (.slice a n c) n (xs.set k u) := by
  refine ⟨by rw [List.length_set]; exact h.1, ?_⟩
  rcases h.2 with ⟨h1, _⟩ | ⟨g', cap, cur, h1, h2, h3, h4, h5, h6, h7⟩
  · injection h1 with h1; rw [ha] at h1; cases h1
  · injection h1 with h1 _ h8
    rw [ha] at h1
    injection h1 with h1
    injection h1 with h1
    subst h1
    refine .inr ⟨g, cap, cur.set! k u, by rw [ha, h8], h2, ?_, h4, h5, by simpa using h6, ?_⟩
    · show (w.heap.modify g _)[g]? = _
      obtain ⟨hlt, hg⟩ := Array.getElem?_eq_some_iff.1 h3
      rw [Array.getElem?_eq_getElem (by rw [Array.size_modify]; exact hlt), Array.getElem_modify_self, hg]
      rfl
    · rw [← h7]
      simp [List.take_set]

theorem boxed_far {W : World} {B q k t : Nat} {v : Value} (h : Boxed W B t v) (hne : B ≠ q) (u : Value) : Boxed (W.setCell ⟨q, k, none⟩ u) B t v := by
  show (W.heap.modify q _)[B]? = _
  rw [Array.getElem?_modify, if_neg (fun e => hne e.symm)]
  exact h

set_option maxRecDepth 100000 in
set_option maxHeartbeats 2000000 in
theorem runsOf_in (F : Fence) (n : Nat) (h1' : F.fn 168) (h2 : F.fn 46) (h3 : F.fn 67) (hro : F.round = none) (hn : 3 ≤ n) (g len cap : Nat) (bs : List Bool) (hlen : bs.length = len) (hm : len ≤ 1000) (w : World) (hI : CellsAt w g (bs.map .bool)) :
    CallsIn F n Tryz.prog 168 #[.slice (some ⟨g, 0, none⟩) len cap] w fun e W' => ∃ v, e = .returned v ∧ W'.ownsRow w.heap.size 164 2 v (rsP (pos bs)).length (enc2 (rsP (pos bs))) ∧ Below w.heap.size w W' := by
  have h1 : 1 ≤ n := by omega
  have hgl : 0 < len → g < w.heap.size := fun h => hI.lt (by simp; omega)
  have HI := hide hI
  have HLEN := hide hlen
  have HGL := hide hgl
  clear hI hlen hgl
  obtain ⟨i0, hi, hz0, hz1, hz2⟩ := info_parts infoR
  refine callsIn_of_wp_marks Tryz.func168 rfl h1' ?_ hro
  simp only [Tryz.ntmps168, List.size_toArray, List.length_cons, List.length_nil, Nat.reduceAdd, Nat.reduceSub, Array.replicate_succ, Array.replicate_zero, List.push_toArray, List.append_toArray, List.nil_append, List.cons_append]
  gi_wp2_with (gi_at_call 46; refine (balls_in F (n - 1) h2 hro _ _ _ _).mono ?_; rintro e w' ⟨rfl, rfl⟩)
  have bS := Boxed.new w 161 (.slice none 0 0)
  have bN := Boxed.new (w.alloc (.cells #[.slice none 0 0] 161)) 36 (.slice (some ⟨g, 0, none⟩) len cap)
  rw [World.size_alloc] at bN
  have hB0 : Below w.heap.size w ((w.alloc (.cells #[.slice none 0 0] 161)).alloc (.cells #[.slice (some ⟨g, 0, none⟩) len cap] 36)) := ((Below.refl _ w).alloc (Nat.le_refl _) _).alloc (by simp) _
  refine wpIn_rangeFunc_ownG hro h1 (gf := 67) (lb := #[.pointer (some ⟨w.heap.size + 1, 0, none⟩)]) rfl h3 (enters_of Tryz.func67 (by kernel_rfl) rfl)
    (balls_stopsF F (n - 1) h3 hro (by omega) (w.heap.size + 1) w.heap.size g len cap bs HLEN.out hm _ (by simp) HGL.out bN.cell (HI.out.below' hB0 (Nat.le_refl _))) belowK_t (belowK_b (by simp; omega)) (Below.refl _ _) (fun _ => rfl)
    (fun (pre : List { j : Nat // j < len }) W => (∃ v, Boxed W w.heap.size 161 v ∧ W.ownsRow w.heap.size 164 2 v (rsP (pre.map (·.1))).length (enc2 (rsP (pre.map (·.1)))) ∧ True) ∧ Below w.heap.size w W)
    (fun _ _ _ => False)
    (OwnFrom.and (Own.from (holdsRow_own w.heap.size w.heap.size 161 164 2 (fun (pre : List { j : Nat // j < len }) => (rsP (pre.map (·.1))).length) (fun (pre : List { j : Nat // j < len }) => enc2 (rsP (pre.map (·.1)))) (fun _ _ => True)) _) (ownFrom_below (Nat.le_refl _) (by simp; omega)))
    (fun _ _ _ _ _ hs _ _ => hs)
    ⟨⟨_, bS.alloc _, World.ownsRow_nil _ _ _ _, trivial⟩, hB0⟩
    (fun x => { tmps := #[.slice (some ⟨g, 0, none⟩) len cap, undef, .slice none 0 0, .pointer (some ⟨w.heap.size, 0, none⟩), .int .i64 (x.1 : Int), undef, .slice (some ⟨g, 0, none⟩) len cap, .func (.func 67) #[] #[.pointer (some ⟨w.heap.size + 1, 0, none⟩)], .int .i64 (x.1 : Int), undef, undef, undef, undef, undef, undef, undef, undef, undef, undef, undef, undef, undef, undef, undef, undef, undef, undef, undef, undef, undef, undef, undef, undef, undef, undef, undef, undef, undef, undef], defers := [] }) ?assign ?body ?done ?stop
  case assign =>
    intro l x W K hK
    gi_wp2
    simpa using hK
  case body =>
    rintro l pre ⟨x, hx⟩ W ⟨⟨v, hv, hrow, _⟩, hB⟩ hlt
    have hbd := rsP_bd (pre.map fun y => y.1)
    rw [List.length_map] at hbd
    obtain ⟨pre', hpre⟩ : ∃ q : List { j : Nat // j < len }, q = pre ++ [⟨x, hx⟩] := ⟨_, rfl⟩
    have HS : Hid (rsP (pre'.map fun y => y.1) = stepR (rsP (pre.map fun y => y.1)) x) := by
      show _ = _
      rw [hpre, List.map_append]; exact rsP_snoc _ _
    rw [← hpre]
    obtain ⟨R, hR⟩ : ∃ R, R = rsP (pre.map fun y => y.1) := ⟨_, rfl⟩
    rw [← hR] at hrow hbd HS
    clear hR hpre
    have x0 : (0 : Int) ≤ (x : Int) := by omega
    have x1 : (x : Int) ≤ 1000 := by omega
    rcases List.eq_nil_or_concat R with rfl | ⟨R0, p, hp⟩
    · obtain ⟨a, c, rfl, hf⟩ := own2_slice hrow
      have hc := hv.cell
      have hfz := hv.frozen
      have HS2 : Hid (rsP (pre'.map fun y => y.1) = [(x, x + 1)]) := HS.out.trans (stepR_new (fun p h => by simp at h))
      clear hf hbd HS
      gi_wp2_with (gi_at_builtin; refine wpListIn_append_own _ rfl _ _ 161 rfl w.heap.size 164 i0 (.agg #[.int .i64 0, .int .i64 0]) 2 16 Tryz.underlying161 hi hz0 hz1 hz2 rfl (by decide) _ _ _ rfl (hrow.alloc _) ⟨W.heap.size, 0, none⟩ 1 1 [.int .i64 (x : Int), .int .i64 ((x : Int) + 1)] rfl rfl (cell_two_new _ _ _ _) (by intro u hu; simp at hu; rcases hu with rfl | rfl <;> rfl) (by unfold maxLen; simp) (by simp) (by have := hB.size; simp; omega) ?_; intro v' w1 hown' hgrow _; obtain ⟨g', cap', rfl⟩ := ownsRow_succ hown'; obtain ⟨hv1, hv2, hr2, hk2, hb2⟩ := hv.appended (by decide) hrow hB.size (Nat.le_refl _) hown' hgrow; have hc1 := hv1.cell; have hf1 := hv1.frozen)
      exact ⟨hk2.from _, hb2, ⟨_, hv2, by rw [HS2.out]; simpa [enc2] using hr2, trivial⟩, hB.trans hb2⟩
    · rw [List.concat_eq_append] at hp
      subst hp
      obtain ⟨pa, pb⟩ := p
      obtain ⟨nr, hnr⟩ : ∃ n, n = R0.length := ⟨_, rfl⟩
      have HNR := hide hnr
      have hlr : (R0 ++ [(pa, pb)]).length = nr + 1 := by rw [List.length_append, hnr]; rfl
      rw [hlr] at hrow hbd
      obtain ⟨a, c, rfl, hf⟩ := own2_slice hrow
      have hc := hv.cell
      have hfz := hv.frozen
      obtain ⟨q, rfl, hcl⟩ := hf (Nat.succ_pos _)
      have hcell := hcl (nr * 2 + 1) (.int .i64 (pb : Int)) (by rw [hnr]; exact (enc2_get _ _ (pa, pb) (by simp)).2)
      obtain ⟨hc2, hf2⟩ := hcell
      have n0 : (0 : Int) ≤ (nr : Int) := by omega
      have n1 : (nr : Int) ≤ 1000 := by omega
      have n2 : (nr : Int) < ((nr + 1 : Nat) : Int) := by omega
      have hqB : w.heap.size ≠ q := fun e => (hv.not_row (by decide) hrow) (by rw [e]; rfl)
      clear hcl hf hnr hlr
      by_cases hpx : pb = x
      · subst hpx
        have HS2 : Hid (rsP (pre'.map fun y => y.1) = R0 ++ [(pa, pb + 1)]) := HS.out.trans (stepR_more R0 pa pb)
        clear HS
        have hge := (hrow.lt q rfl).1
        have HE : Hid ((enc2 (R0 ++ [(pa, pb)])).set (nr * 2 + 1) (.int .i64 ((pb + 1 : Nat) : Int)) = enc2 (R0 ++ [(pa, pb + 1)])) := by rw [HNR.out]; exact enc2_set R0 pa pb (pb + 1)
        gi_wp2
        refine ⟨(KeepsOthers.setCell _ _ _).from _, (Below.refl w.heap.size W).setCell (p := ⟨q, nr * 2 + 1, none⟩) hge _, ⟨_, boxed_far hv hqB _, ?_, trivial⟩, hB.setCell (p := ⟨q, nr * 2 + 1, none⟩) hge _⟩
        have h5 := owns_set hrow rfl (k := nr * 2 + 1) (.int .i64 ((pb + 1 : Nat) : Int))
        rw [HE.out] at h5
        rw [HS2.out, List.length_append, ← HNR.out]
        exact h5
      · have HS2 : Hid (rsP (pre'.map fun y => y.1) = (R0 ++ [(pa, pb)]) ++ [(x, x + 1)]) := HS.out.trans (stepR_new (fun p h => by rw [List.getLast?_concat] at h; injection h with h; rw [← h]; exact hpx))
        clear HS
        have hpx2 : ((pb : Int) == (x : Int)) = false := beq_eq_false_iff_ne.2 (by omega)
        clear hpx
        gi_wp2_with (gi_at_builtin; refine wpListIn_append_own _ rfl _ _ 161 rfl w.heap.size 164 i0 (.agg #[.int .i64 0, .int .i64 0]) 2 16 Tryz.underlying161 hi hz0 hz1 hz2 rfl (by decide) _ _ _ rfl (hrow.alloc _) ⟨W.heap.size, 0, none⟩ 1 1 [.int .i64 (x : Int), .int .i64 ((x : Int) + 1)] rfl rfl (cell_two_new _ _ _ _) (by intro u hu; simp at hu; rcases hu with rfl | rfl <;> rfl) (by unfold maxLen; omega) (by omega) (by have := hB.size; simp; omega) ?_; intro v' w1 hown' hgrow _; obtain ⟨g', cap', rfl⟩ := ownsRow_succ hown'; obtain ⟨hv1, hv2, hr2, hk2, hb2⟩ := hv.appended (by decide) hrow hB.size (Nat.le_refl _) hown' hgrow; have hc1 := hv1.cell; have hf1 := hv1.frozen)
        exact ⟨hk2.from _, hb2, ⟨_, hv2, by rw [HS2.out, List.length_append, List.length_append, HNR.out, enc2_snoc]; simpa [HNR.out] using hr2, trivial⟩, hB.trans hb2⟩
  case done =>
    rintro D ys W hD hys ⟨⟨v, hv, hrow, _⟩, hB⟩ hK
    rw [hys] at hrow
    have hc := hv.cell
    obtain ⟨a, c, rfl, _⟩ := own2_slice hrow
    gi_wp2
    refine ⟨by simp, .inl ⟨_, _, rfl, run_takeDeferred hK, ?_⟩⟩
    exact ⟨_, results_tmp rfl _ _ _, _, rfl, ownsRow_putObj hrow _ hK rfl, hB.trans (belowK_b (w := w) (Nat.le_refl _) W D _ _ (by simp at hD; omega) hK rfl rfl)⟩
  case stop =>
    rintro D c pre W _ _ h _
    exact h.elim

theorem runsOf_any (g len cap : Nat) (bs : List Bool) (hlen : bs.length = len) (hm : len ≤ 1000) (w : World) (hI : CellsAt w g (bs.map .bool)) :
    Calls Tryz.prog 168 #[.slice (some ⟨g, 0, none⟩) len cap] w fun e W' => ∃ v, e = .returned v ∧ W'.ownsRow w.heap.size 164 2 v (rsP (pos bs)).length (enc2 (rsP (pos bs))) ∧ Below w.heap.size w W' :=
  callsIn_wide.1 (runsOf_in Fence.wide 3 trivial trivial trivial rfl (Nat.le_refl _) g len cap bs hlen hm w hI)

set_option maxRecDepth 100000 in
theorem size_any (a b : Nat) (w : World) (ha : a ≤ b) (hb : b ≤ 1000) :
    Calls Tryz.prog 169 #[.agg #[.int .i64 (a : Int), .int .i64 (b : Int)]] w fun e w' => e = .returned (.int .i64 ((b - a : Nat) : Int)) ∧ w' = w.alloc (.cells #[.int .i64 (a : Int), .int .i64 (b : Int)] 164) := by
  have e : ((b - a : Nat) : Int) = (b : Int) - (a : Int) := by omega
  have h0 : (a : Int) ≤ (b : Int) := by omega
  have h1 : (b : Int) ≤ 1000 := by omega
  have h2 : (0 : Int) ≤ (a : Int) := by omega
  rw [e]
  clear e
  go_enter Tryz.func169, Tryz.ntmps169
  go_wp2
  go_ret
  exact ⟨rfl, rfl⟩
end Go.Proofs.YtdooboibmllfkabGreatDoor

namespace Go.Proofs.YtdooboibmllfkabGreatDoor
set_option maxRecDepth 100000
open Go.RowKit

def rsS (s : ByteArray) : List (Nat × Nat) := rsP (pos (cut (bits s)))
theorem rsS_rr (s : ByteArray) : (rsS s).map (fun p => p.2 - p.1) = (rr (bits s)).1 ∧ gapsP (rsS s) = (rr (bits s)).2 ∧ lineP (rsS s) := by
  have h := rsP_rr (cut (bits s))
  have e : rr (cut (bits s)) = rr (bits s) := rr_ext (bx_fun_cut (bits s))
  rw [e] at h
  exact h
theorem runsF_lt : ∀ (l : List Bool) (i m : Nat) (R : List (Nat × Nat)), i + l.length ≤ m → (∀ p ∈ R, p.1 ≤ p.2 ∧ p.2 ≤ m) → ∀ p ∈ runsF l i R, p.1 ≤ p.2 ∧ p.2 ≤ m := by
  intro l
  induction l with
  | nil => intro i m R _ h; exact h
  | cons b t ih =>
    intro i m R hi h
    rw [List.length_cons] at hi
    refine ih (i + 1) m _ (by omega) ?_
    cases b
    · exact h
    · intro p hp
      have hp2 : p ∈ stepR R i := hp
      unfold stepR at hp2
      cases hl : R.getLast? with
      | none =>
        rw [hl] at hp2
        have hp3 : p ∈ R ++ [(i, i + 1)] := hp2
        rw [List.mem_append, List.mem_singleton] at hp3
        rcases hp3 with h3 | rfl
        · exact h p h3
        · exact ⟨Nat.le_succ i, by show i + 1 ≤ m; omega⟩
      | some q =>
        rw [hl] at hp2
        have hq : q ∈ R := List.mem_of_getLast? hl
        have hp3 : p ∈ (if q.2 = i then R.dropLast ++ [(q.1, q.2 + 1)] else R ++ [(i, i + 1)]) := hp2
        by_cases e : q.2 = i
        · rw [if_pos e, List.mem_append, List.mem_singleton] at hp3
          rcases hp3 with h3 | rfl
          · exact h p (List.dropLast_subset R h3)
          · have := h q hq
            exact ⟨by show q.1 ≤ q.2 + 1; omega, by show q.2 + 1 ≤ m; omega⟩
        · rw [if_neg e, List.mem_append, List.mem_singleton] at hp3
          rcases hp3 with h3 | rfl
          · exact h p h3
          · exact ⟨Nat.le_succ i, by show i + 1 ≤ m; omega⟩
theorem rsS_lt (s : ByteArray) : ∀ p ∈ rsS s, p.1 ≤ p.2 ∧ p.2 ≤ s.size := by
  intro p hp
  unfold rsS at hp
  rw [rsP_pos] at hp
  have hl := tl_le (bits s)
  rw [length_bits] at hl
  exact runsF_lt (cut (bits s)) 0 s.size [] (by rw [cut_length]; omega) (fun p h => by simp at h) p hp
theorem rsS_len (s : ByteArray) : (rsS s).length ≤ s.size := by
  unfold rsS
  have h1 := rsP_bd (pos (cut (bits s)))
  have h2 := posU_le (cut (bits s)) (cut (bits s)).length
  have hl := tl_le (bits s)
  rw [length_bits] at hl
  rw [cut_length] at h2
  unfold pos at h1 ⊢
  rw [cut_length] at h1 ⊢
  omega
theorem readRuns (s : ByteArray) (w w1 : World) (hv : vld s = true) (hc1 : CellsAt w1 w.heap.size ((bits s).map .bool)) :
    Calls Tryz.prog 168 #[.slice (some ⟨w.heap.size, 0, none⟩) (tl (bits s)) s.size] w1 fun e w' => ∃ v, e = .returned v ∧ w'.ownsRow w1.heap.size 164 2 v (rsS s).length (enc2 (rsS s)) ∧ Below w1.heap.size w1 w' := by
  have h120 := vld_le s hv
  have hle := tl_le (bits s)
  rw [length_bits] at hle
  exact runsOf_any w.heap.size (tl (bits s)) s.size (cut (bits s)) (cut_length _) (by omega) w1 (by rw [cut_map]; exact hc1.take _)

set_option maxRecDepth 100000 in
set_option maxHeartbeats 2000000 in
theorem implShapeRuns_any (s : ByteArray) (w : World) (hs : s.size ≤ maxLen) :
    Calls Tryz.prog 140 #[.string s] w fun e w' => ∃ v, e = .returned (.tuple #[v, .bool (vld s)]) ∧ IntsV w.heap.size w' v (rnR s) ∧ Below w.heap.size w w' := by
  unfold rnR
  cases hv : vld s
  · go_enter Tryz.func140, Tryz.ntmps140
    go_wp2_with (go_at_call 37; refine (readRow_no _ _ hs hv).mono ?_; rintro e w' ⟨rfl, rfl⟩)
    go_ret2
    exact ⟨_, rfl, .inl ⟨_, _, rfl, rfl⟩, Below.refl _ _⟩
  · have h120 := vld_le s hv
    obtain ⟨i0, hi, hz0, hz1, hz2⟩ := info_parts infoI
    have C1 := hide (fun w => readRow_yes s w hv)
    have C2 := hide (fun (w1 : World) (hc1 : CellsAt w1 w.heap.size ((bits s).map .bool)) => readRuns s w w1 hv hc1)
    rw [if_pos rfl, ← (rsS_rr s).1]
    have HLT := hide (rsS_lt s)
    have hlen := rsS_len s
    obtain ⟨R, hR⟩ : ∃ R, R = rsS s := ⟨_, rfl⟩
    obtain ⟨t, ht⟩ : ∃ t, t = tl (bits s) := ⟨_, rfl⟩
    rw [← ht] at C1 C2
    rw [← hR] at C2 HLT hlen ⊢
    clear ht hR
    go_enter Tryz.func140, Tryz.ntmps140
    go_wp2_with fail
    refine (C1.out _).mono ?_
    rintro e w1 ⟨rfl, hb1, hc1, hz1'⟩
    have C3 := hide (C2.out w1 hc1)
    have HB1 := hide hb1
    clear hc1 C1 C2 hb1
    go_wp2_with fail
    refine C3.out.mono ?_
    rintro e w2 ⟨v, rfl, hv2, hb2⟩
    have HB2 := hide (HB1.out.trans (hb2.mono (Nat.le_of_lt hz1')))
    have hz2' : w.heap.size ≤ w2.heap.size := by have := hb2.size; omega
    obtain ⟨a, c, rfl, hf⟩ := own2_slice hv2
    obtain ⟨n, hn⟩ : ∃ n, n = R.length := ⟨_, rfl⟩
    have HN := hide hn
    have HF := hide hf
    rw [← hn] at hlen HF ⊢
    clear hn hf hv2 hb2 C3
    go_wp2
    go_loopw [6, 8, 19] (fun o _ i wr => ∃ k : Nat, k ≤ n ∧ i = .int .i64 (k : Int) ∧ Hid (wr.ownsRow w2.heap.size 3 1 o k ((ni ((R.map fun p => p.2 - p.1).take k)).map (.int .i64))) ∧ Hid (Below w2.heap.size w2 wr) ∧ w2.heap.size ≤ wr.heap.size) (fun _ _ i _ => n - (Go.RowKit.intOf i).toNat)
    case atStart => exact ⟨0, Nat.zero_le _, rfl, World.ownsRow_nil _ _ _ _, Below.refl _ _, Nat.le_refl _⟩
    case round =>
      obtain ⟨k, hk, rfl, HO, HBW, hz0'⟩ := hrel
      by_cases hlt : k < n
      · obtain ⟨q, rfl, hq⟩ := HF.out (by omega)
        obtain ⟨p, hp⟩ : ∃ p, R[k]? = some p := ⟨_, List.getElem?_eq_getElem (by rw [← HN.out]; exact hlt)⟩
        obtain ⟨p1, p2⟩ := HLT.out p (List.mem_of_getElem? hp)
        obtain ⟨g1, g2⟩ := enc2_get R k p hp
        have hqr := hq.below' HBW.out (Nat.le_refl _)
        have c1 := (hqr _ _ g1).1
        have c2 := (hqr _ _ g2).1
        have HS : Hid ((R.map fun p => p.2 - p.1).take (k + 1) = (R.map fun p => p.2 - p.1).take k ++ [p.2 - p.1]) := by
          show _ = _
          rw [List.take_add_one, List.getElem?_map, hp]; rfl
        have CS := hide (fun W => size_any p.1 p.2 W p1 (by omega))
        have q0 : (0 : Int) ≤ (k : Int) := by omega
        have q1 : (k : Int) < (n : Int) := by omega
        obtain ⟨pa, pb⟩ := p
        obtain ⟨z, hzz⟩ : ∃ z, z = pb - pa := ⟨_, rfl⟩
        have zb : z ≤ 1000 := by omega
        rw [← hzz] at CS HS
        clear hp g1 g2 hqr hq hzz
        obtain ⟨o, ho⟩ : ∃ o, o = Obj.cells #[.int .i64 (pa : Int), .int .i64 (pb : Int)] 164 := ⟨_, rfl⟩
        have HO2 := hide ((HO.out.alloc o).alloc o)
        have HB3 := hide ((HBW.out.alloc hz0' o).alloc (by simp; omega) o)
        rw [ho] at HO2 HB3
        have hz3 : w2.heap.size ≤ ((wr.alloc o).alloc o).heap.size := by simp; omega
        rw [ho] at hz3
        clear ho
        go_wp2_with fail
        refine (CS.out _).mono ?_
        rintro e w3 ⟨rfl, rfl⟩
        go_wp2_with (at_builtin; refine wpList_append_own _ rfl _ _ 39 rfl w2.heap.size 3 i0 (.int .i64 0) 1 8 Tryz.underlying39 hi hz0 hz1 hz2 rfl (by decide) _ _ _ rfl (HO2.out.alloc _) ⟨wr.heap.size + 1 + 1, 0, none⟩ 1 1 [.int .i64 (z : Int)] rfl rfl (by simpa using cell_one_new ((wr.alloc (.cells #[.int .i64 (pa : Int), .int .i64 (pb : Int)] 164)).alloc (.cells #[.int .i64 (pa : Int), .int .i64 (pb : Int)] 164)) (.int .i64 (z : Int)) 3) (one_of_int _) (by unfold maxLen; omega) (by omega) (by simp; omega) ?_; intro v' w4 hown' hgrow _)
        go_roundw
        case rel =>
          have hsg := hgrow.size
          rw [World.size_alloc] at hsg
          refine ⟨k + 1, by omega, by go_num, ?_, (HB3.out.alloc hz3 _).grown hgrow (by simp; omega) (fun b e => (HO2.out.lt b e).1), by omega⟩
          show World.ownsRow _ _ _ _ _ _ _
          rw [HS.out, ni_snoc, List.map_append]; exact hown'
        case measure => simp [Go.RowKit.intOf]; omega
      · have hkn : k = n := by omega
        have hfin : (R.map fun p => p.2 - p.1).take k = R.map fun p => p.2 - p.1 := List.take_of_length_le (by rw [List.length_map, ← HN.out]; omega)
        rw [hfin] at HO
        clear hfin
        go_wp2
        go_ret2
        exact ⟨_, rfl, (IntsV.of_owns (e := 3) (n := k) HO.out).mono hz2', HB2.out.trans (HBW.out.mono hz2')⟩
end Go.Proofs.YtdooboibmllfkabGreatDoor

namespace Go.Proofs.YtdooboibmllfkabGreatDoor
set_option maxRecDepth 100000
open Go.RowKit Go.Sort

theorem okP_next {R : List (Nat × Nat)} {k : Nat} {p q : Nat × Nat} (h : ∀ j, j + 1 < k + 1 → okP R j) (hp : R[k]? = some p) (hq : R[k + 1]? = some q) (h1 : p.2 - p.1 ≤ q.2 - q.1) (h2 : p.2 - p.1 ≤ q.1 - p.2) : ∀ j, j + 1 < k + 2 → okP R j := by
  intro j hj
  by_cases e : j = k
  · subst e
    intro p' q' hp' hq'
    rw [hp] at hp'
    rw [hq] at hq'
    injection hp' with hp'
    injection hq' with hq'
    subst hp'; subst hq'
    exact ⟨h1, h2⟩
  · exact h j (by omega)

def ApRel (R : List (Nat × Nat)) (n : Nat) (w2 : World) (i : Value) (wr : World) : Prop :=
  ∃ k : Nat, k ≤ n ∧ i = .int .i64 ((k : Int) + 1) ∧ Hid (∀ j, j + 1 < k + 1 → okP R j) ∧ Hid (Below w2.heap.size w2 wr) ∧ w2.heap.size ≤ wr.heap.size
theorem sizeG_any (a b : Nat) (w : World) (ha : a ≤ b) (hb : b ≤ 1000) :
    Calls Tryz.prog 169 #[.agg #[.int .i64 (a : Int), .int .i64 (b : Int)]] w fun e w' => e = .returned (.int .i64 ((b : Int) - (a : Int))) ∧ ∃ q os', w' = grow (w.drewN q) os' := by
  refine (size_any a b w ha hb).mono ?_
  rintro e w' ⟨rfl, rfl⟩
  refine ⟨by rw [show ((b - a : Nat) : Int) = (b : Int) - (a : Int) by omega], 0, #[.cells #[.int .i64 (a : Int), .int .i64 (b : Int)] 164], ?_⟩
  rw [alloc_eq_grow]; rfl
theorem below_grow (w : World) (n : Nat) (os : Array Obj) : Below w.heap.size w (grow (w.drewN n) os) := by
  refine ⟨rfl, rfl, rfl, ?_, ?_⟩
  · show w.heap.size ≤ (w.heap ++ os).size
    simp
  · intro k hk
    show (w.heap ++ os)[k]? = w.heap[k]?
    rw [Array.getElem?_append_left hk]

set_option maxRecDepth 100000 in
set_option maxHeartbeats 1000000 in
theorem implShapeApart_any (s : ByteArray) (w : World) (hs : s.size ≤ maxLen) :
    Calls Tryz.prog 143 #[.string s] w fun e w' => e = .returned (.bool (apOk s)) ∧ Below w.heap.size w w' := by
  unfold apOk
  cases hv : vld s
  · go_enter Tryz.func143, Tryz.ntmps143
    go_wp2_with (go_at_call 37; refine (readRow_no _ _ hs hv).mono ?_; rintro e w' ⟨rfl, rfl⟩)
    go_ret
    exact ⟨rfl, Below.refl _ _⟩
  · have h120 := vld_le s hv
    have mixed : Tryz.prog.follows .mixedOrders = true := by kernel_rfl
    have C1 := hide (fun w => readRow_yes s w hv)
    have C2 := hide (fun (w1 : World) (hc1 : CellsAt w1 w.heap.size ((bits s).map .bool)) => readRuns s w w1 hv hc1)
    rw [Bool.true_and, ← (rsS_rr s).1, ← (rsS_rr s).2.1]
    have HLT := hide (rsS_lt s)
    have HLN := hide (rsS_rr s).2.2
    have hlen := rsS_len s
    obtain ⟨R, hR⟩ : ∃ R, R = rsS s := ⟨_, rfl⟩
    obtain ⟨t, ht⟩ : ∃ t, t = tl (bits s) := ⟨_, rfl⟩
    rw [← ht] at C1 C2
    rw [← hR] at C2 HLT HLN hlen ⊢
    obtain ⟨ans, hans⟩ : ∃ b, b = apB (R.map fun p => p.2 - p.1) (gapsP R) := ⟨_, rfl⟩
    have HANS := hide hans
    rw [← hans]
    clear ht hR hans
    go_enter Tryz.func143, Tryz.ntmps143
    go_wp2_with fail
    refine (C1.out _).mono ?_
    rintro e w1 ⟨rfl, hb1, hc1, hz1'⟩
    have C3 := hide (C2.out w1 hc1)
    have HB1 := hide hb1
    clear hc1 C1 C2 hb1
    go_wp2_with fail
    refine C3.out.mono ?_
    rintro e w2 ⟨v, rfl, hv2, hb2⟩
    have HB2 := hide (HB1.out.trans (hb2.mono (Nat.le_of_lt hz1')))
    have hz2' : w.heap.size ≤ w2.heap.size := by have := hb2.size; omega
    obtain ⟨a, c, rfl, hf⟩ := own2_slice hv2
    obtain ⟨n, hn⟩ : ∃ n, n = R.length := ⟨_, rfl⟩
    have HN := hide hn
    have HF := hide hf
    rw [← hn] at hlen HF ⊢
    clear hn hf hv2 hb2 C3
    go_wp2
    go_loopw [6, 7, 8] (fun i _ _ wr => ApRel R n w2 i wr) (fun i _ _ _ => n + 2 - (Go.RowKit.intOf i).toNat)
    case atStart => exact ⟨0, Nat.zero_le _, rfl, fun j hj => by omega, Below.refl _ _, Nat.le_refl _⟩
    case round =>
      obtain ⟨k, hk, rfl, HK, HBW, hz⟩ := hrel
      by_cases hlt : k + 1 < n
      · obtain ⟨q, rfl, hq⟩ := HF.out (by omega)
        obtain ⟨⟨pa, pb⟩, hp⟩ : ∃ p, R[k]? = some p := ⟨_, List.getElem?_eq_getElem (by rw [← HN.out]; omega)⟩
        obtain ⟨⟨qa, qb⟩, hq'⟩ : ∃ p, R[k + 1]? = some p := ⟨_, List.getElem?_eq_getElem (by rw [← HN.out]; exact hlt)⟩
        obtain ⟨p1, p2⟩ := HLT.out _ (List.mem_of_getElem? hp)
        obtain ⟨q1, q2⟩ := HLT.out _ (List.mem_of_getElem? hq')
        obtain ⟨_, l1, _⟩ := lineP_get R k _ _ HLN.out hp hq'
        obtain ⟨g1, g2⟩ := enc2_get R k _ hp
        obtain ⟨g3, g4⟩ := enc2_get R (k + 1) _ hq'
        have hqr := hq.below' HBW.out (Nat.le_refl _)
        have hql : q < wr.heap.size := hqr.lt (by rw [enc2_length, ← HN.out]; omega)
        have hqn : q ≠ wr.heap.size := by omega
        have hqn2 : q ≠ wr.heap.size + 1 := by omega
        have c1 := (hqr _ _ g1).1
        have c2 := (hqr _ _ g2).1
        have c3 := (hqr _ _ g3).1
        have c4 := (hqr _ _ g4).1
        have HNX := hide (fun h1 h2 => okP_next HK.out hp hq' h1 h2)
        have HNO := hide (fun h => HANS.out.trans (apB_unpaired R k _ _ hp hq' h))
        have j0 : (0 : Int) ≤ (k : Int) := by omega
        have j1 : (k : Int) < (n : Int) := by omega
        have j2 : (k : Int) + 1 < (n : Int) := by omega
        have j3 : (0 : Int) ≤ (k : Int) + 1 := by omega
        have j4 : (k : Int) + 1 - 1 = (k : Int) := by omega
        have p3 : pb ≤ 120 := by omega
        have q3 : qb ≤ 120 := by omega
        clear hp hq' g1 g2 g3 g4 hqr hq p2 q2
        obtain ⟨oL, hoL⟩ : ∃ o, o = Obj.cells #[.int .i64 (pa : Int), .int .i64 (pb : Int)] 164 := ⟨_, rfl⟩
        obtain ⟨oR, hoR⟩ : ∃ o, o = Obj.cells #[.int .i64 (qa : Int), .int .i64 (qb : Int)] 164 := ⟨_, rfl⟩
        have two : ∀ (o o' : Obj) (x y x' y' : Value) (t : TypeId), o = .cells #[x, y] t → o' = .cells #[x', y'] t → ∃ W, W = ((wr.alloc o).alloc o').drew ∧
            Hid (∀ n os, (grow (W.drewN n) os).cell? ⟨wr.heap.size, 0, none⟩ = some x ∧ (grow (W.drewN n) os).cell? ⟨wr.heap.size, 1, none⟩ = some y ∧ (grow (W.drewN n) os).cell? ⟨wr.heap.size + 1, 0, none⟩ = some x' ∧ (grow (W.drewN n) os).cell? ⟨wr.heap.size + 1, 1, none⟩ = some y') ∧
            Hid (Below w2.heap.size w2 W) ∧ w2.heap.size ≤ W.heap.size := by
          rintro o o' x y x' y' t rfl rfl
          refine ⟨_, rfl, ?_, ((HBW.out.alloc hz _).alloc (by simp; omega) _).drew, by show _ ≤ ((wr.alloc _).alloc _).heap.size; simp; omega⟩
          intro n os
          refine ⟨cell_grown ?_ ?_ n os, cell_grown ?_ ?_ n os, cell_grown ?_ ?_ n os, cell_grown ?_ ?_ n os⟩
          all_goals first | (show wr.heap.size < ((wr.alloc _).alloc _).heap.size; simp; omega) | (show wr.heap.size + 1 < ((wr.alloc _).alloc _).heap.size; simp; done) | (show ((wr.alloc _).alloc _).cell? _ = _; simp; done)
        have T1 := hide (two oL oR _ _ _ _ _ hoL hoR)
        have T2 := hide (two oR oL _ _ _ _ _ hoR hoL)
        rw [hoL, hoR] at T1 T2
        clear two hoL hoR
        go_wp2
        go_region
        all_goals (first | (obtain ⟨W, hW, HD, HBW3, hzW⟩ := T1.out; rw [← hW]) | (obtain ⟨W, hW, HD, HBW3, hzW⟩ := T2.out; rw [← hW]))
        all_goals
          have d1 := fun n os => (HD.out n os).1
          have d2 := fun n os => (HD.out n os).2.1
          have d3 := fun n os => (HD.out n os).2.2.1
          have d4 := fun n os => (HD.out n os).2.2.2
          clear hW T1 T2 c1 c2 c3 c4 HBW
          have m0 : (0 : Int) ≤ (pa : Int) := by omega
          have m1 : (pa : Int) ≤ (pb : Int) := by omega
          have m2 : (pb : Int) ≤ 120 := by omega
          have m3 : (0 : Int) ≤ (qa : Int) := by omega
          have m4 : (qa : Int) ≤ (qb : Int) := by omega
          have m5 : (qb : Int) ≤ 120 := by omega
          have m6 : (pb : Int) ≤ (qa : Int) := by omega
          have SP := hide (fun W => sizeG_any pa pb W p1 (by omega))
          have SQ := hide (fun W => sizeG_any qa qb W q1 (by omega))
          by_cases h1 : (qb : Int) - (qa : Int) < (pb : Int) - (pa : Int)
          · have e1 : decide ((qb : Int) - (qa : Int) < (pb : Int) - (pa : Int)) = true := by simpa using h1
            have HA := hide (HNO.out (by intro h; have := h.1; omega))
            clear HNX HNO
            go_wp2
            refine wp_region_quiet_grown (by assumption) (by kernel_rfl) ?_
            repeat (first | go_big_quiet_skip | quiet_step ((go_at_call 169; first | (with_reducible refine Calls.grown_of (SQ.out _)) | (with_reducible refine Calls.grown_of (SP.out _)))))
            refine wpQuiet_nil ?_
            intro _ hw'
            obtain ⟨⟨nq, osq⟩, hw''⟩ := hw'
            subst hw''
            go_wp2
            go_ret
            exact ⟨by rw [HA.out]; rfl, HB2.out.trans ((HBW3.out.trans ((below_grow W _ _).mono hzW)).mono hz2')⟩
          · have e1 : decide ((qb : Int) - (qa : Int) < (pb : Int) - (pa : Int)) = false := by simpa using h1
            by_cases h2 : (qa : Int) - (pb : Int) < (pb : Int) - (pa : Int)
            · have e2 : decide ((qa : Int) - (pb : Int) < (pb : Int) - (pa : Int)) = true := by simpa using h2
              have HA := hide (HNO.out (by intro h; have := h.2; omega))
              have hwr : IntKind.i64.wrap ((qa : Int) - (pb : Int)) = (qa : Int) - (pb : Int) := IntWalk.i64_in _ (by omega)
              clear HNX HNO
              go_wp2
              refine wp_region_quiet_grown (by assumption) (by kernel_rfl) ?_
              repeat (first | go_big_quiet_skip | quiet_step ((go_at_call 169; first | (with_reducible refine Calls.grown_of (SQ.out _)) | (with_reducible refine Calls.grown_of (SP.out _)))))
              refine wpQuiet_nil ?_
              intro _ hw'
              obtain ⟨⟨nq, osq⟩, hw''⟩ := hw'
              subst hw''
              clear hwr
              go_wp2
              go_ret
              exact ⟨by rw [HA.out]; rfl, HB2.out.trans ((HBW3.out.trans ((below_grow W _ _).mono hzW)).mono hz2')⟩
            · have e2 : decide ((qa : Int) - (pb : Int) < (pb : Int) - (pa : Int)) = false := by simpa using h2
              have HN2 := hide (HNX.out (by show pb - pa ≤ qb - qa; omega) (by show pb - pa ≤ qa - pb; omega))
              have hwr : IntKind.i64.wrap ((qa : Int) - (pb : Int)) = (qa : Int) - (pb : Int) := IntWalk.i64_in _ (by omega)
              clear HNX HNO
              go_wp2
              refine wp_region_quiet_grown (by assumption) (by kernel_rfl) ?_
              repeat (first | go_big_quiet_skip | quiet_step ((go_at_call 169; first | (with_reducible refine Calls.grown_of (SQ.out _)) | (with_reducible refine Calls.grown_of (SP.out _)))))
              refine wpQuiet_nil ?_
              intro _ hw'
              obtain ⟨⟨nq, osq⟩, hw''⟩ := hw'
              subst hw''
              clear hwr
              go_wp2
              go_roundw
              case rel => exact ⟨k + 1, by omega, by go_num, HN2, HBW3.out.trans ((below_grow W _ _).mono hzW), Nat.le_trans hzW (below_grow W _ _).size⟩
              case measure => simp [Go.RowKit.intOf]; omega
      · have HA : Hid (ans = true) := by
          show _ = _
          rw [HANS.out]
          exact apB_pairs R (fun j hj => HK.out j (by rw [← HN.out] at hj; omega))
        have j2 : ¬ (k : Int) + 1 < (n : Int) := by omega
        go_wp2
        go_ret
        exact ⟨by rw [HA.out]; rfl, HB2.out.trans (HBW.out.mono hz2')⟩
end Go.Proofs.YtdooboibmllfkabGreatDoor
