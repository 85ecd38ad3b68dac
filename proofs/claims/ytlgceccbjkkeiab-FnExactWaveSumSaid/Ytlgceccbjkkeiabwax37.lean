/- TEXTS Parts, Seg. -/
import Derived.Test.Ytlgceccbjkkeiabwax36
import Derived.Test.Ytlgceccbjkkeiabwax02
import Derived.Deep.RegionLaw
import Derived.Laws.CopyOwn
import Derived.Laws.CopyRow
import Derived.Lib.AppendZerosOnto
import Derived.Lib.AppendZeros
/- LISTS OF PARTS, slices of structs of two numbers; THE WALKS of the model's helpers over them. -/
namespace Go.Proofs.Ytlgceccbjkkeiab
open Go.RowKit

/-- a part as a value; parts as cells -/
def pV (a : Int × Int) : Value := .agg #[.int .i64 a.1, .int .i64 a.2]
def encZ (l : List (Int × Int)) : List Value := l.flatMap fun a => [.int .i64 a.1, .int .i64 a.2]
theorem encZ_snoc (l : List (Int × Int)) (a : Int × Int) : encZ (l ++ [a]) = encZ l ++ [.int .i64 a.1, .int .i64 a.2] := by unfold encZ; rw [List.flatMap_append]; rfl
theorem encZ_length (l : List (Int × Int)) : (encZ l).length = l.length * 2 := by
  induction l with
  | nil => rfl
  | cons p l ih => show (encZ l).length + 1 + 1 = _; rw [ih, List.length_cons]; omega
theorem encZ_get : ∀ (l : List (Int × Int)) (j : Nat) (a : Int × Int), l[j]? = some a → (encZ l)[j * 2]? = some (.int .i64 a.1) ∧ (encZ l)[j * 2 + 1]? = some (.int .i64 a.2) := by
  intro l
  induction l with
  | nil => intro j p h; simp at h
  | cons x l ih =>
    intro j p h
    have e : encZ (x :: l) = .int .i64 x.1 :: .int .i64 x.2 :: encZ l := rfl
    cases j with
    | zero => simp at h; subst h; exact ⟨rfl, rfl⟩
    | succ j =>
      obtain ⟨h1, h2⟩ := ih j p (by simpa using h)
      rw [e, show (j + 1) * 2 = j * 2 + 1 + 1 by omega]
      exact ⟨by simpa using h1, by simpa using h2⟩
def PartsV (lo : Nat) (w : World) (v : Value) (l : List (Int × Int)) : Prop :=
  (∃ a cap, v = .slice a 0 cap ∧ l = []) ∨ (∃ g cap, v = .slice (some ⟨g, 0, none⟩) l.length cap ∧ l.length ≤ cap ∧ lo ≤ g ∧ g < w.heap.size ∧ CellsAt w g (encZ l))
theorem PartsV.below {lo : Nat} {w w' : World} {v : Value} {l : List (Int × Int)} (h : PartsV lo w v l) {B : Nat} (hb : Below B w w') (hB : w.heap.size ≤ B) : PartsV lo w' v l := by
  rcases h with h | ⟨g, cap, rfl, h1, h2, h3, h4⟩
  · exact .inl h
  · exact .inr ⟨g, cap, rfl, h1, h2, Nat.lt_of_lt_of_le h3 hb.size, h4.below hb (by omega)⟩
theorem PartsV.form {lo : Nat} {w : World} {v : Value} {l : List (Int × Int)} {n : Nat} (h : PartsV lo w v l) (hn : l.length = n) : ∃ a c, v = .slice a n c ∧ (0 < n → ∃ g, a = some ⟨g, 0, none⟩ ∧ g < w.heap.size ∧ CellsAt w g (encZ l)) := by
  subst hn
  rcases h with ⟨a, c, rfl, rfl⟩ | ⟨g, c, rfl, _, _, h3, hc⟩
  · exact ⟨a, c, rfl, fun h => by simp at h⟩
  · exact ⟨_, c, rfl, fun _ => ⟨g, rfl, h3, hc⟩⟩
/-- numbers of a part are ints -/
def I64 (x : Int) : Prop := -9223372036854775808 ≤ x ∧ x ≤ 9223372036854775807

theorem room_take (l : List (Int × Int)) (n j : Int) (k : Nat) (a : Int × Int) (h : l[k]? = some a) : pRoom (l.take (k + 1)) n j = pRoom (l.take k) n j - 2 * min j a.1 := by
  unfold pRoom
  rw [List.take_add_one, h, List.map_append, List.sum_append]
  simp
  omega
theorem room_bd (l : List (Int × Int)) (n j : Int) (hj : 0 ≤ j ∧ j ≤ 1000) (h : ∀ a ∈ l, 0 ≤ a.1) : pRoom l n j ≤ n ∧ n - 2000 * (l.length : Int) ≤ pRoom l n j := by
  induction l with
  | nil => exact ⟨by show n - 2 * 0 ≤ n; omega, by show n - 2000 * 0 ≤ n - 2 * 0; omega⟩
  | cons x l ih =>
    have := ih (fun a ha => h a (List.mem_cons_of_mem _ ha))
    have hx := h x (List.mem_cons_self ..)
    rw [room_cons, List.length_cons]
    omega

/-- the index of the first part (or the last one) that is looked for, or -1 -/
def fIx (f : Int × Int → Bool) (g : Bool) (l : List (Int × Int)) : Nat → Int
  | 0 => -1
  | k + 1 => match l[k]? with
    | some a => if f a && (decide (fIx f g l k < 0) || !g) then (k : Int) else fIx f g l k
    | none => fIx f g l k
theorem fIx_bd (f : Int × Int → Bool) (g : Bool) (l : List (Int × Int)) : ∀ k, -1 ≤ fIx f g l k ∧ fIx f g l k < k
  | 0 => ⟨Int.le_refl _, by show (-1 : Int) < 0; omega⟩
  | k + 1 => by
    have := fIx_bd f g l k
    unfold fIx
    split
    · split <;> omega
    · omega
theorem fIx_at (f : Int × Int → Bool) (g : Bool) (l : List (Int × Int)) (k : Nat) (a : Int × Int) (h : l[k]? = some a) : fIx f g l (k + 1) = if f a && (decide (fIx f g l k < 0) || !g) then (k : Int) else fIx f g l k := by
  show (match l[k]? with | some a => _ | none => _) = _
  rw [h]

theorem fIx_true (f : Int × Int → Bool) (l : List (Int × Int)) : ∀ k, k ≤ l.length → (fIx f true l k = -1 ∧ (l.take k).find? f = none) ∨ ∃ (j : Nat) (a : Int × Int), j < k ∧ fIx f true l k = (j : Int) ∧ l[j]? = some a ∧ (l.take k).find? f = some a
  | 0, _ => .inl ⟨rfl, rfl⟩
  | k + 1, h => by
    obtain ⟨x, hx⟩ : ∃ x, l[k]? = some x := ⟨_, List.getElem?_eq_getElem (by omega)⟩
    have e := fIx_at f true l k x hx
    have et : (l.take (k + 1)).find? f = ((l.take k).find? f).or (if f x then some x else none) := by
      rw [List.take_add_one, hx, List.find?_append]
      congr 1
      show [x].find? f = _
      rw [List.find?_cons]
      cases f x <;> rfl
    rcases fIx_true f l k (by omega) with ⟨e1, e2⟩ | ⟨j, a, hj, e1, e2, e3⟩
    · rw [e1] at e
      cases hf : f x
      · exact .inl ⟨by rw [e, hf]; rfl, by rw [et, e2, hf]; rfl⟩
      · exact .inr ⟨k, x, by omega, by rw [e, hf]; rfl, hx, by rw [et, e2, hf]; rfl⟩
    · refine .inr ⟨j, a, by omega, ?_, e2, by rw [et, e3]; rfl⟩
      rw [e, e1, decide_eq_false (by omega)]
      simp
theorem fIx_false (f : Int × Int → Bool) (l : List (Int × Int)) : ∀ k, k ≤ l.length → (fIx f false l k = -1 ∧ (l.take k).reverse.find? f = none) ∨ ∃ (j : Nat) (a : Int × Int), j < k ∧ fIx f false l k = (j : Int) ∧ l[j]? = some a ∧ (l.take k).reverse.find? f = some a
  | 0, _ => .inl ⟨rfl, rfl⟩
  | k + 1, h => by
    obtain ⟨x, hx⟩ : ∃ x, l[k]? = some x := ⟨_, List.getElem?_eq_getElem (by omega)⟩
    have e := fIx_at f false l k x hx
    have et : (l.take (k + 1)).reverse.find? f = if f x then some x else (l.take k).reverse.find? f := by
      rw [List.take_add_one, hx, List.reverse_append]
      show (x :: (l.take k).reverse).find? f = _
      rw [List.find?_cons]
      cases f x <;> rfl
    cases hf : f x
    · rw [hf] at e et
      rcases fIx_false f l k (by omega) with ⟨e1, e2⟩ | ⟨j, a, hj, e1, e2, e3⟩
      · exact .inl ⟨by rw [e, e1]; rfl, by rw [et, e2]; rfl⟩
      · exact .inr ⟨j, a, by omega, by rw [e, e1]; rfl, e2, by rw [et, e3]; rfl⟩
    · exact .inr ⟨k, x, by omega, by rw [e, hf]; simp, hx, by rw [et, hf]; rfl⟩
theorem eraseIdx_perm : ∀ (l : List (Int × Int)) (j : Nat) (a : Int × Int), l[j]? = some a → (a :: l.eraseIdx j).Perm l
  | [], j, a, h => by simp at h
  | x :: l, 0, a, h => by simp at h; subst h; exact List.Perm.refl _
  | x :: l, j + 1, a, h => by
    have ih := eraseIdx_perm l j a (by simpa using h)
    exact (List.Perm.swap x a _).trans (List.Perm.cons x ih)
theorem eraseIdx_erase {l : List (Int × Int)} (hl : pSorted l) {j : Nat} {a : Int × Int} (h : l[j]? = some a) : l.eraseIdx j = l.erase a := by
  refine pSorted_eq _ _ (List.Pairwise.sublist (List.eraseIdx_sublist ..) hl) (erase_sorted _ hl) ?_
  exact (List.perm_cons _).1 ((eraseIdx_perm l j a h).trans (List.perm_cons_erase (List.mem_of_getElem? h)))

end Go.Proofs.Ytlgceccbjkkeiab

/- ROWS OF PARTS THAT A CALL OWNS: the built-ins copy, clear and append over elements of two cells, as equations; what a call leaves as it was. Nothing of the program is named but the type Part. -/
namespace Go.Proofs.Ytlgceccbjkkeiab
open Go.RowKit

theorem encZ_one (l : List (Int × Int)) : ∀ u ∈ encZ l, u.oneCell' = true := by
  intro u hu
  unfold encZ at hu
  obtain ⟨a, _, ha⟩ := List.mem_flatMap.1 hu
  simp at ha
  rcases ha with rfl | rfl <;> rfl
theorem encZ_app (l m : List (Int × Int)) : encZ (l ++ m) = encZ l ++ encZ m := by unfold encZ; rw [List.flatMap_append]
theorem encZ_nil : encZ [] = [] := rfl
theorem encZ_cons (a : Int × Int) (l : List (Int × Int)) : encZ (a :: l) = .int .i64 a.1 :: .int .i64 a.2 :: encZ l := rfl
theorem encZ_take (l : List (Int × Int)) (k : Nat) : encZ (l.take k) = (encZ l).take (k * 2) := by
  by_cases hk : k ≤ l.length
  · have e := encZ_app (l.take k) (l.drop k)
    rw [List.take_append_drop] at e
    rw [e, List.take_left' (by rw [encZ_length, List.length_take, Nat.min_eq_left hk])]
  · rw [List.take_of_length_le (by omega), List.take_of_length_le (by rw [encZ_length]; omega)]
theorem encZ_drop (l : List (Int × Int)) (k : Nat) : encZ (l.drop k) = (encZ l).drop (k * 2) := by
  by_cases hk : k ≤ l.length
  · have e := encZ_app (l.take k) (l.drop k)
    rw [List.take_append_drop] at e
    rw [e, List.drop_left' (by rw [encZ_length, List.length_take, Nat.min_eq_left hk])]
  · rw [List.drop_of_length_le (by omega), List.drop_of_length_le (by rw [encZ_length]; omega)]; rfl
theorem PartsV.of_owns {w : World} {base e n : Nat} {v : Value} {l : List (Int × Int)} (h : w.ownsRow base e 2 v n (encZ l)) : PartsV base w v l := by
  have hl : l.length = n := by have := h.1; rw [encZ_length] at this; omega
  have hlt := h.lt
  rcases h.2 with ⟨rfl, rfl⟩ | ⟨g, cap, cur, rfl, hb, hg, hnc, hcm, hcs, htake⟩
  · exact .inl ⟨_, _, rfl, List.eq_nil_of_length_eq_zero hl⟩
  · refine .inr ⟨g, cap, by rw [hl], by omega, hb, (hlt g rfl).2, ?_⟩
    intro j u hu
    have hj : j < n * 2 := by have := h.1; have := (List.getElem?_eq_some_iff.1 hu).1; omega
    exact ⟨by rw [h.cellAt j hj]; exact hu, h.frozenAt j⟩
/-- what a call owns stays its own where nothing but other blocks turn -/
theorem owns_far {w w' : World} {b e n s : Nat} {v : Value} {xs : List Value} (h : w.ownsRow b e s v n xs) (hk : ∀ g, v.ownBlock = some g → w'.heap[g]? = w.heap[g]?) : w'.ownsRow b e s v n xs := by
  refine ⟨h.1, ?_⟩
  rcases h.2 with h2 | ⟨g, cap, cur, rfl, hb, hg, h3⟩
  · exact .inl h2
  · exact .inr ⟨g, cap, cur, rfl, hb, (hk g rfl).trans hg, h3⟩
theorem owns_below2 {w w' : World} {B b e n s : Nat} {v : Value} {xs : List Value} (h : w.ownsRow b e s v n xs) (hb : Below B w w') (hB : w.heap.size ≤ B) : w'.ownsRow b e s v n xs :=
  owns_far h (fun g hg => hb.block g (by have := (h.lt g hg).2; omega))
theorem owns_lo {w : World} {b b' e n s : Nat} {v : Value} {xs : List Value} (h : w.ownsRow b e s v n xs) (hb : b' ≤ b) : w.ownsRow b' e s v n xs := by
  refine ⟨h.1, ?_⟩
  rcases h.2 with h2 | ⟨g, cap, cur, rfl, h1, h3⟩
  · exact .inl h2
  · exact .inr ⟨g, cap, cur, rfl, by omega, h3⟩
theorem owns_take {w : World} {b e n k : Nat} {a : Option Addr} {c : Nat} {l : List (Int × Int)} (h : w.ownsRow b e 2 (.slice a n c) n (encZ l)) (hk : k ≤ n) (hn : 0 < n) : w.ownsRow b e 2 (.slice a k c) k (encZ (l.take k)) := by
  have hl : l.length = n := by have := h.1; rw [encZ_length] at this; omega
  rcases h.2 with ⟨h1, h2⟩ | ⟨g, cap, cur, h1, hb, hg, h3, h4, h5, h6⟩
  · omega
  · injection h1 with h1 _ h2
    subst h1 h2
    refine ⟨by rw [encZ_length, List.length_take]; omega, .inr ⟨g, c, cur, rfl, hb, hg, by omega, h4, h5, ?_⟩⟩
    rw [encZ_take, ← h6, List.take_take, Nat.min_eq_left (by omega)]

/-! ### the built-ins -/
/-- copy, of elements of k cells, into a row that is known whole -/
theorem run_copy_rowK {P : Program} (k : Nat) (w : World) (dT sT ty elem : TypeId) (g o dLen dCap : Nat) (a : Addr) (sLen sCap : Nat) (cur : Array Value) (t : TypeId) (cs : List Value)
    (hu : P.underlying dT = some (.slice elem)) (hs : (P.info? elem).map (·.size) = some k)
    (hg : w.heap[g]? = some (.cells cur t (0, 0))) (hn : cs.length = Nat.min sLen dLen * k)
    (hsrc : ∀ j v, cs[j]? = some v → w.cell? (a.add j) = some v) (hfit : o + cs.length ≤ cur.size) (h1 : ∀ v ∈ cs, v.oneCell' = true) :
    (Builtin.copy_ #[dT, sT] ty #[.slice (some ⟨g, o, none⟩) dLen dCap, .slice (some a) sLen sCap]).run P w =
      .ok (goInt (Nat.min sLen dLen)) (w.setRow g (cur.toList.take o ++ cs ++ cur.toList.drop (o + cs.length)).toArray) := by
  have hl := run_loadCells_list (P := P) w a cs hsrc
  have hst := run_storeCells_at P g o t cs 0 cur w hg (by simpa using hfit) h1
  simp only [Nat.add_zero] at hst
  cases hq : P.info? elem with
  | none => simp [hq] at hs
  | some i =>
    have hi : i.size = k := by simpa [hq] using hs
    simp [Builtin.copy_, run_underlying hu, Builtin.lenOf, Builtin.firstCells, sizeOf, typeInfo, hq, hi, ← hn, hl, hst]
/-- clear, of elements whose zero value has the cells zs -/
theorem run_clear_rowK {P : Program} (w : World) (t e ty : TypeId) (z : Value) (ht : P.underlying t = some (.slice e)) (hv : ∀ w, (zeroValue e).run P w = .ok z w) (h1 : ∀ u ∈ z.cells.toList, u.oneCell' = true) (g o n c : Nat) (cur : Array Value) (tt : TypeId) (hn : 0 < n)
    (hg : w.heap[g]? = some (.cells cur tt (0, 0))) (hfit : o + n * z.cells.size ≤ cur.size) (hzs : 0 < z.cells.size) :
    (Builtin.clear_ #[t] ty #[.slice (some ⟨g, o, none⟩) n c]).run P w = .ok (.tuple #[]) (w.setRow g (cur.toList.take o ++ (Builtin.zeroCells z.cells n).toList ++ cur.toList.drop (o + n * z.cells.size)).toArray) := by
  have hlen : (Builtin.zeroCells z.cells n).toList.length = n * z.cells.size := by rw [Array.length_toList, size_zeroCells]
  have hst := run_storeCells_at P g o tt (Builtin.zeroCells z.cells n).toList 0 cur w hg (by rw [hlen]; simpa using hfit) (by
    intro u hu
    unfold Builtin.zeroCells at hu
    simp only [Array.toList_map, List.mem_map] at hu
    obtain ⟨j, _, rfl⟩ := hu
    have hj : j % z.cells.size < z.cells.size := Nat.mod_lt _ hzs
    rw [getElem!_pos z.cells (j % z.cells.size) hj]
    exact h1 _ (Array.getElem_mem_toList hj))
  rw [hlen] at hst
  simp only [Nat.add_zero] at hst
  obtain ⟨m, rfl⟩ : ∃ m, n = m + 1 := ⟨n - 1, by omega⟩
  simp [Builtin.clear_, run_underlying ht, hv, hst]

/-- a built-in of two arguments whose run is known, at a place of the walk, and at a step of a region that draws -/
theorem wpList_copy_eq {P : Program} (w : World) {ops : Array Oper} {rest : List Oper} {o : Oper} {a : Act} {Q : Exit → Act → World → Prop} (hgd : o.guard = none) (d s : Operand) (t t' : TypeId)
    (ho : o.op = .call { callee := .builtin .copy, args := #[d, s], argTypes := #[t, t'] }) (v u : Value) (hd : a.eval d = v) (hs : a.eval s = u) {v' : Value} {w' : World}
    (hr : (Builtin.copy_ #[t, t'] o.type #[v, u]).run P w = .ok v' w') (h : wpList P ops Q rest (a.put o.dst v') w') : wpList P ops Q (o :: rest) a w := by
  refine wpList_plain hgd fun K hK => ?_
  unfold Oper.wp execOp
  simp only [ho, resolve, invoke, builtin, Sem.run_bind, Sem.run_pure, Result.andThen_ok, List.map_toArray, List.map_cons, List.map_nil, hd, hs, hr]
  exact hK _ _ h
theorem step_copy_eq {P : Program} {ops : Array Oper} {o : Oper} {a : Act} {w : World} {K : Act → World → Prop} {Q : Exit → Act → World → Prop} {E : Prop} (hgd : o.guard = none) (d s : Operand) (t t' : TypeId)
    (ho : o.op = .call { callee := .builtin .copy, args := #[d, s], argTypes := #[t, t'] }) (v u : Value) (hd : a.eval d = v) (hs : a.eval s = u) {v' : Value} {w' : World}
    (hr : (Builtin.copy_ #[t, t'] o.type #[v, u]).run P w = .ok v' w') (h : K (a.put o.dst v') w') : if Region.wanted o (yielded ops a.tmps) = true then Oper.wp P o a w K Q else E := by
  have hw : Region.wanted o (yielded ops a.tmps) = true := by simp [Region.wanted, hgd]
  rw [if_pos hw]
  unfold Oper.wp execOp
  simp only [ho, resolve, invoke, builtin, Sem.run_bind, Sem.run_pure, Result.andThen_ok, List.map_toArray, List.map_cons, List.map_nil, hd, hs, hr]
  exact h
theorem step_append_eq {P : Program} {ops : Array Oper} {o : Oper} {a : Act} {w : World} {K : Act → World → Prop} {Q : Exit → Act → World → Prop} {E : Prop} (hgd : o.guard = none) (d s : Operand) (t t' : TypeId)
    (ho : o.op = .call { callee := .builtin .append, args := #[d, s], argTypes := #[t, t'] }) (v u : Value) (hd : a.eval d = v) (hs : a.eval s = u) {v' : Value} {w' : World}
    (hr : (Builtin.append_ #[t, t'] o.type #[v, u]).run P w = .ok v' w') (h : K (a.put o.dst v') w') : if Region.wanted o (yielded ops a.tmps) = true then Oper.wp P o a w K Q else E := by
  have hw : Region.wanted o (yielded ops a.tmps) = true := by simp [Region.wanted, hgd]
  rw [if_pos hw]
  unfold Oper.wp execOp
  simp only [ho, resolve, invoke, builtin, Sem.run_bind, Sem.run_pure, Result.andThen_ok, List.map_toArray, List.map_cons, List.map_nil, hd, hs, hr]
  exact h
theorem wpList_clear_eq {P : Program} (w : World) {ops : Array Oper} {rest : List Oper} {o : Oper} {a : Act} {Q : Exit → Act → World → Prop} (hgd : o.guard = none) (s : Operand) (t : TypeId)
    (ho : o.op = .call { callee := .builtin .clear, args := #[s], argTypes := #[t] }) (u : Value) (hs : a.eval s = u) {v' : Value} {w' : World}
    (hr : (Builtin.clear_ #[t] o.type #[u]).run P w = .ok v' w') (h : wpList P ops Q rest (a.put o.dst v') w') : wpList P ops Q (o :: rest) a w := by
  refine wpList_plain hgd fun K hK => ?_
  unfold Oper.wp execOp
  simp only [ho, resolve, invoke, builtin, Sem.run_bind, Sem.run_pure, Result.andThen_ok, List.map_toArray, List.map_cons, List.map_nil, hs, hr]
  exact hK _ _ h

/-! ### what a call leaves as it was: all but a block and a row -/
structure Only (r : Nat) (row : Option Nat) (w w' : World) : Prop where
  os : w'.os = w.os
  tape : w'.tape = w.tape
  output : w'.output = w.output
  size : w.heap.size ≤ w'.heap.size
  block : ∀ k, k < w.heap.size → k ≠ r → some k ≠ row → w'.heap[k]? = w.heap[k]?
theorem Only.refl (r : Nat) (row : Option Nat) (w : World) : Only r row w w := ⟨rfl, rfl, rfl, Nat.le_refl _, fun _ _ _ _ => rfl⟩
theorem Only.below {r : Nat} {row : Option Nat} {w w' : World} {lo : Nat} (h : Only r row w w') (h1 : lo ≤ r) (h2 : ∀ g, row = some g → lo ≤ g) (h3 : lo ≤ w.heap.size) : Below lo w w' :=
  ⟨h.os, h.tape, h.output, h.size, fun k hk => h.block k (by omega) (by omega) (fun e => by have := h2 k e.symm; omega)⟩
theorem Only.of_below {w w' : World} (r : Nat) (row : Option Nat) (h : Below w.heap.size w w') : Only r row w w' := ⟨h.os, h.tape, h.output, h.size, fun k hk _ _ => h.block k hk⟩
theorem Only.of_grown {w w' : World} (r : Nat) {row : Option Nat} (h : w.grownBy w' row) : Only r row w w' := ⟨h.os, h.tape, h.output, h.size, fun k hk _ hne => h.block k hk hne⟩
theorem Only.setCell {w : World} (r j : Nat) (row : Option Nat) (u : Value) : Only r row w (w.setCell ⟨r, j, none⟩ u) :=
  ⟨rfl, rfl, rfl, by simp [World.setCell], fun k _ hr _ => Below.heap_setCell _ _ _ _ hr⟩
theorem Only.trans {r : Nat} {row row' : Option Nat} {a b c : World} (h : Only r row a b) (k : Only r row' b c) (hr : row' = row ∨ ∃ g, row' = some g ∧ a.heap.size ≤ g) : Only r row a c := by
  refine ⟨k.os.trans h.os, k.tape.trans h.tape, k.output.trans h.output, Nat.le_trans h.size k.size, fun i hi h1 h2 => ?_⟩
  refine (k.block i (Nat.lt_of_lt_of_le hi h.size) h1 ?_).trans (h.block i hi h1 h2)
  rcases hr with rfl | ⟨g, rfl, hg⟩
  · exact h2
  · intro e; injection e with e; omega
theorem Only.cells {r g : Nat} {row : Option Nat} {w w' : World} {l : List Value} (h : Only r row w w') (hc : CellsAt w g l) (h1 : g ≠ r) (h2 : some g ≠ row) : CellsAt w' g l := by
  intro j v hv
  obtain ⟨a, b⟩ := hc j v hv
  have hlt : g < w.heap.size := World.block_lt_of_cell? w _ a
  have e := h.block g hlt h1 h2
  exact ⟨(World.cell?_of_block (a := ⟨g, j, none⟩) e).trans a, (World.frozen?_of_block (a := ⟨g, j, none⟩) e).trans b⟩
/-- the place of a row behind an append: as it was, or new -/
def RowNext (w : World) (v v' : Value) : Prop := v'.ownBlock = v.ownBlock ∨ ∃ g, v'.ownBlock = some g ∧ w.heap.size ≤ g
theorem RowNext.refl (w : World) (v : Value) : RowNext w v v := .inl rfl
theorem RowNext.trans {w w' : World} {a b c : Value} (h : RowNext w a b) (k : RowNext w' b c) (hs : w.heap.size ≤ w'.heap.size) : RowNext w a c := by
  rcases k with e | ⟨g, e, hg⟩
  · rcases h with e' | ⟨g', e', hg'⟩
    · exact .inl (e.trans e')
    · exact .inr ⟨g', e.trans e', hg'⟩
  · exact .inr ⟨g, e, by omega⟩
theorem RowNext.only {r : Nat} {a b c : World} {v v' : Value} (h : Only r v.ownBlock a b) (n : RowNext a v v') (k : Only r v'.ownBlock b c) : Only r v.ownBlock a c := h.trans k n
end Go.Proofs.Ytlgceccbjkkeiab
