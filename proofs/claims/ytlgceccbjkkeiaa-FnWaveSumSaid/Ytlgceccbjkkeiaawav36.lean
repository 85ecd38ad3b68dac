/- TEXTS Seg, SWav3. -/
import Derived.Test.Ytlgceccbjkkeiaawav35
import Derived.Deep.RegionLaw
import Derived.Laws.CopyOwn
import Derived.Laws.CopyRow
import Derived.Lib.AppendZerosOnto
import Derived.Lib.AppendZeros
import Derived.Test.Ytlgceccbjkkeiaawav30
/- ROWS OF PARTS THAT A CALL OWNS: the built-ins copy, clear and append over elements of two cells, as equations; what a call leaves as it was. Nothing of the program is named but the type Part. -/
namespace Go.Proofs.Ytlgceccbjkkeiaa
open Go.RowKit

theorem encZ_one (l : List (Int × Int)) : ∀ u ∈ encZ l, u.oneCell' = true := by
  intro u hu
  unfold encZ at hu
  obtain ⟨a, _, ha⟩ := List.mem_flatMap.1 hu
  simp at ha
  rcases ha with rfl | rfl <;> rfl
theorem encZ_app (l m : List (Int × Int)) : encZ (l ++ m) = encZ l ++ encZ m := by unfold encZ; rw [List.flatMap_append]
theorem encZ_nil : encZ [] = [] := rfl
theorem encZ_cons (a : Int × Int) (l : List (Int × Int)) : encZ (a :: l) = .int .i64 a.1 :: .int .i64 a.2 :: encZ l := rfl
theorem encZ_take (l : List (Int × Int)) (k : Nat) : encZ (l.take k) = (encZ l).take (k * 2) := by
  by_cases hk : k ≤ l.length
  · have e := encZ_app (l.take k) (l.drop k)
    rw [List.take_append_drop] at e
    rw [e, List.take_left' (by rw [encZ_length, List.length_take, Nat.min_eq_left hk])]
  · rw [List.take_of_length_le (by omega), List.take_of_length_le (by rw [encZ_length]; omega)]
theorem encZ_drop (l : List (Int × Int)) (k : Nat) : encZ (l.drop k) = (encZ l).drop (k * 2) := by
  by_cases hk : k ≤ l.length
  · have e := encZ_app (l.take k) (l.drop k)
    rw [List.take_append_drop] at e
    rw [e, List.drop_left' (by rw [encZ_length, List.length_take, Nat.min_eq_left hk])]
  · rw [List.drop_of_length_le (by omega), List.drop_of_length_le (by rw [encZ_length]; omega)]; rfl
theorem PartsV.of_owns {w : World} {base e n : Nat} {v : Value} {l : List (Int × Int)} (h : w.ownsRow base e 2 v n (encZ l)) : PartsV base w v l := by
  have hl : l.length = n := by have := h.1; rw [encZ_length] at this; omega
  have hlt := h.lt
  rcases h.2 with ⟨rfl, rfl⟩ | ⟨g, cap, cur, rfl, hb, hg, hnc, hcm, hcs, htake⟩
  · exact .inl ⟨_, _, rfl, List.eq_nil_of_length_eq_zero hl⟩
  · refine .inr ⟨g, cap, by rw [hl], by omega, hb, (hlt g rfl).2, ?_⟩
    intro j u hu
    have hj : j < n * 2 := by have := h.1; have := (List.getElem?_eq_some_iff.1 hu).1; omega
    exact ⟨by rw [h.cellAt j hj]; exact hu, h.frozenAt j⟩
/-- what a call owns stays its own where nothing but other blocks turn -/
theorem owns_far {w w' : World} {b e n s : Nat} {v : Value} {xs : List Value} (h : w.ownsRow b e s v n xs) (hk : ∀ g, v.ownBlock = some g → w'.heap[g]? = w.heap[g]?) : w'.ownsRow b e s v n xs := by
  refine ⟨h.1, ?_⟩
  rcases h.2 with h2 | ⟨g, cap, cur, rfl, hb, hg, h3⟩
  · exact .inl h2
  · exact .inr ⟨g, cap, cur, rfl, hb, (hk g rfl).trans hg, h3⟩
theorem owns_below2 {w w' : World} {B b e n s : Nat} {v : Value} {xs : List Value} (h : w.ownsRow b e s v n xs) (hb : Below B w w') (hB : w.heap.size ≤ B) : w'.ownsRow b e s v n xs :=
  owns_far h (fun g hg => hb.block g (by have := (h.lt g hg).2; omega))
theorem owns_lo {w : World} {b b' e n s : Nat} {v : Value} {xs : List Value} (h : w.ownsRow b e s v n xs) (hb : b' ≤ b) : w.ownsRow b' e s v n xs := by
  refine ⟨h.1, ?_⟩
  rcases h.2 with h2 | ⟨g, cap, cur, rfl, h1, h3⟩
  · exact .inl h2
  · exact .inr ⟨g, cap, cur, rfl, by omega, h3⟩
theorem owns_take {w : World} {b e n k : Nat} {a : Option Addr} {c : Nat} {l : List (Int × Int)} (h : w.ownsRow b e 2 (.slice a n c) n (encZ l)) (hk : k ≤ n) (hn : 0 < n) : w.ownsRow b e 2 (.slice a k c) k (encZ (l.take k)) := by
  have hl : l.length = n := by have := h.1; rw [encZ_length] at this; omega
  rcases h.2 with ⟨h1, h2⟩ | ⟨g, cap, cur, h1, hb, hg, h3, h4, h5, h6⟩
  · omega
  · injection h1 with h1 _ h2
    subst h1 h2
    refine ⟨by rw [encZ_length, List.length_take]; omega, .inr ⟨g, c, cur, rfl, hb, hg, by omega, h4, h5, ?_⟩⟩
    rw [encZ_take, ← h6, List.take_take, Nat.min_eq_left (by omega)]

/-! ### the built-ins -/
/-- copy, of elements of k cells, into a row that is known whole -/
theorem run_copy_rowK {P : Program} (k : Nat) (w : World) (dT sT ty elem : TypeId) (g o dLen dCap : Nat) (a : Addr) (sLen sCap : Nat) (cur : Array Value) (t : TypeId) (cs : List Value)
    (hu : P.underlying dT = some (.slice elem)) (hs : (P.info? elem).map (·.size) = some k)
    (hg : w.heap[g]? = some (.cells cur t (0, 0))) (hn : cs.length = Nat.min sLen dLen * k)
    (hsrc : ∀ j v, cs[j]? = some v → w.cell? (a.add j) = some v) (hfit : o + cs.length ≤ cur.size) (h1 : ∀ v ∈ cs, v.oneCell' = true) :
    (Builtin.copy_ #[dT, sT] ty #[.slice (some ⟨g, o, none⟩) dLen dCap, .slice (some a) sLen sCap]).run P w =
      .ok (goInt (Nat.min sLen dLen)) (w.setRow g (cur.toList.take o ++ cs ++ cur.toList.drop (o + cs.length)).toArray) := by
  have hl := run_loadCells_list (P := P) w a cs hsrc
  have hst := run_storeCells_at P g o t cs 0 cur w hg (by simpa using hfit) h1
  simp only [Nat.add_zero] at hst
  cases hq : P.info? elem with
  | none => simp [hq] at hs
  | some i =>
    have hi : i.size = k := by simpa [hq] using hs
    simp [Builtin.copy_, run_underlying hu, Builtin.lenOf, Builtin.firstCells, sizeOf, typeInfo, hq, hi, ← hn, hl, hst]
/-- clear, of elements whose zero value has the cells zs -/
theorem run_clear_rowK {P : Program} (w : World) (t e ty : TypeId) (z : Value) (ht : P.underlying t = some (.slice e)) (hv : ∀ w, (zeroValue e).run P w = .ok z w) (h1 : ∀ u ∈ z.cells.toList, u.oneCell' = true) (g o n c : Nat) (cur : Array Value) (tt : TypeId) (hn : 0 < n)
    (hg : w.heap[g]? = some (.cells cur tt (0, 0))) (hfit : o + n * z.cells.size ≤ cur.size) (hzs : 0 < z.cells.size) :
    (Builtin.clear_ #[t] ty #[.slice (some ⟨g, o, none⟩) n c]).run P w = .ok (.tuple #[]) (w.setRow g (cur.toList.take o ++ (Builtin.zeroCells z.cells n).toList ++ cur.toList.drop (o + n * z.cells.size)).toArray) := by
  have hlen : (Builtin.zeroCells z.cells n).toList.length = n * z.cells.size := by rw [Array.length_toList, size_zeroCells]
  have hst := run_storeCells_at P g o tt (Builtin.zeroCells z.cells n).toList 0 cur w hg (by rw [hlen]; simpa using hfit) (by
    intro u hu
    unfold Builtin.zeroCells at hu
    simp only [Array.toList_map, List.mem_map] at hu
    obtain ⟨j, _, rfl⟩ := hu
    have hj : j % z.cells.size < z.cells.size := Nat.mod_lt _ hzs
    rw [getElem!_pos z.cells (j % z.cells.size) hj]
    exact h1 _ (Array.getElem_mem_toList hj))
  rw [hlen] at hst
  simp only [Nat.add_zero] at hst
  obtain ⟨m, rfl⟩ : ∃ m, n = m + 1 := ⟨n - 1, by omega⟩
  simp [Builtin.clear_, run_underlying ht, hv, hst]

/-- a built-in of two arguments whose run is known, at a place of the walk, and at a step of a region that draws -/
theorem wpList_copy_eq {P : Program} (w : World) {ops : Array Oper} {rest : List Oper} {o : Oper} {a : Act} {Q : Exit → Act → World → Prop} (hgd : o.guard = none) (d s : Operand) (t t' : TypeId)
    (ho : o.op = .call { callee := .builtin .copy, args := #[d, s], argTypes := #[t, t'] }) (v u : Value) (hd : a.eval d = v) (hs : a.eval s = u) {v' : Value} {w' : World}
    (hr : (Builtin.copy_ #[t, t'] o.type #[v, u]).run P w = .ok v' w') (h : wpList P ops Q rest (a.put o.dst v') w') : wpList P ops Q (o :: rest) a w := by
  refine wpList_plain hgd fun K hK => ?_
  unfold Oper.wp execOp
  simp only [ho, resolve, invoke, builtin, Sem.run_bind, Sem.run_pure, Result.andThen_ok, List.map_toArray, List.map_cons, List.map_nil, hd, hs, hr]
  exact hK _ _ h
theorem step_copy_eq {P : Program} {ops : Array Oper} {o : Oper} {a : Act} {w : World} {K : Act → World → Prop} {Q : Exit → Act → World → Prop} {E : Prop} (hgd : o.guard = none) (d s : Operand) (t t' : TypeId)
    (ho : o.op = .call { callee := .builtin .copy, args := #[d, s], argTypes := #[t, t'] }) (v u : Value) (hd : a.eval d = v) (hs : a.eval s = u) {v' : Value} {w' : World}
    (hr : (Builtin.copy_ #[t, t'] o.type #[v, u]).run P w = .ok v' w') (h : K (a.put o.dst v') w') : if Region.wanted o (yielded ops a.tmps) = true then Oper.wp P o a w K Q else E := by
  have hw : Region.wanted o (yielded ops a.tmps) = true := by simp [Region.wanted, hgd]
  rw [if_pos hw]
  unfold Oper.wp execOp
  simp only [ho, resolve, invoke, builtin, Sem.run_bind, Sem.run_pure, Result.andThen_ok, List.map_toArray, List.map_cons, List.map_nil, hd, hs, hr]
  exact h
theorem step_append_eq {P : Program} {ops : Array Oper} {o : Oper} {a : Act} {w : World} {K : Act → World → Prop} {Q : Exit → Act → World → Prop} {E : Prop} (hgd : o.guard = none) (d s : Operand) (t t' : TypeId)
    (ho : o.op = .call { callee := .builtin .append, args := #[d, s], argTypes := #[t, t'] }) (v u : Value) (hd : a.eval d = v) (hs : a.eval s = u) {v' : Value} {w' : World}
    (hr : (Builtin.append_ #[t, t'] o.type #[v, u]).run P w = .ok v' w') (h : K (a.put o.dst v') w') : if Region.wanted o (yielded ops a.tmps) = true then Oper.wp P o a w K Q else E := by
  have hw : Region.wanted o (yielded ops a.tmps) = true := by simp [Region.wanted, hgd]
  rw [if_pos hw]
  unfold Oper.wp execOp
  simp only [ho, resolve, invoke, builtin, Sem.run_bind, Sem.run_pure, Result.andThen_ok, List.map_toArray, List.map_cons, List.map_nil, hd, hs, hr]
  exact h
theorem wpList_clear_eq {P : Program} (w : World) {ops : Array Oper} {rest : List Oper} {o : Oper} {a : Act} {Q : Exit → Act → World → Prop} (hgd : o.guard = none) (s : Operand) (t : TypeId)
    (ho : o.op = .call { callee := .builtin .clear, args := #[s], argTypes := #[t] }) (u : Value) (hs : a.eval s = u) {v' : Value} {w' : World}
    (hr : (Builtin.clear_ #[t] o.type #[u]).run P w = .ok v' w') (h : wpList P ops Q rest (a.put o.dst v') w') : wpList P ops Q (o :: rest) a w := by
  refine wpList_plain hgd fun K hK => ?_
  unfold Oper.wp execOp
  simp only [ho, resolve, invoke, builtin, Sem.run_bind, Sem.run_pure, Result.andThen_ok, List.map_toArray, List.map_cons, List.map_nil, hs, hr]
  exact hK _ _ h

/-! ### what a call leaves as it was: all but a block and a row -/
structure Only (r : Nat) (row : Option Nat) (w w' : World) : Prop where
  os : w'.os = w.os
  tape : w'.tape = w.tape
  output : w'.output = w.output
  size : w.heap.size ≤ w'.heap.size
  block : ∀ k, k < w.heap.size → k ≠ r → some k ≠ row → w'.heap[k]? = w.heap[k]?
theorem Only.refl (r : Nat) (row : Option Nat) (w : World) : Only r row w w := ⟨rfl, rfl, rfl, Nat.le_refl _, fun _ _ _ _ => rfl⟩
theorem Only.below {r : Nat} {row : Option Nat} {w w' : World} {lo : Nat} (h : Only r row w w') (h1 : lo ≤ r) (h2 : ∀ g, row = some g → lo ≤ g) (h3 : lo ≤ w.heap.size) : Below lo w w' :=
  ⟨h.os, h.tape, h.output, h.size, fun k hk => h.block k (by omega) (by omega) (fun e => by have := h2 k e.symm; omega)⟩
theorem Only.of_below {w w' : World} (r : Nat) (row : Option Nat) (h : Below w.heap.size w w') : Only r row w w' := ⟨h.os, h.tape, h.output, h.size, fun k hk _ _ => h.block k hk⟩
theorem Only.of_grown {w w' : World} (r : Nat) {row : Option Nat} (h : w.grownBy w' row) : Only r row w w' := ⟨h.os, h.tape, h.output, h.size, fun k hk _ hne => h.block k hk hne⟩
theorem Only.setCell {w : World} (r j : Nat) (row : Option Nat) (u : Value) : Only r row w (w.setCell ⟨r, j, none⟩ u) :=
  ⟨rfl, rfl, rfl, by simp [World.setCell], fun k _ hr _ => Below.heap_setCell _ _ _ _ hr⟩
theorem Only.trans {r : Nat} {row row' : Option Nat} {a b c : World} (h : Only r row a b) (k : Only r row' b c) (hr : row' = row ∨ ∃ g, row' = some g ∧ a.heap.size ≤ g) : Only r row a c := by
  refine ⟨k.os.trans h.os, k.tape.trans h.tape, k.output.trans h.output, Nat.le_trans h.size k.size, fun i hi h1 h2 => ?_⟩
  refine (k.block i (Nat.lt_of_lt_of_le hi h.size) h1 ?_).trans (h.block i hi h1 h2)
  rcases hr with rfl | ⟨g, rfl, hg⟩
  · exact h2
  · intro e; injection e with e; omega
theorem Only.cells {r g : Nat} {row : Option Nat} {w w' : World} {l : List Value} (h : Only r row w w') (hc : CellsAt w g l) (h1 : g ≠ r) (h2 : some g ≠ row) : CellsAt w' g l := by
  intro j v hv
  obtain ⟨a, b⟩ := hc j v hv
  have hlt : g < w.heap.size := World.block_lt_of_cell? w _ a
  have e := h.block g hlt h1 h2
  exact ⟨(World.cell?_of_block (a := ⟨g, j, none⟩) e).trans a, (World.frozen?_of_block (a := ⟨g, j, none⟩) e).trans b⟩
/-- the place of a row behind an append: as it was, or new -/
def RowNext (w : World) (v v' : Value) : Prop := v'.ownBlock = v.ownBlock ∨ ∃ g, v'.ownBlock = some g ∧ w.heap.size ≤ g
theorem RowNext.refl (w : World) (v : Value) : RowNext w v v := .inl rfl
theorem RowNext.trans {w w' : World} {a b c : Value} (h : RowNext w a b) (k : RowNext w' b c) (hs : w.heap.size ≤ w'.heap.size) : RowNext w a c := by
  rcases k with e | ⟨g, e, hg⟩
  · rcases h with e' | ⟨g', e', hg'⟩
    · exact .inl (e.trans e')
    · exact .inr ⟨g', e.trans e', hg'⟩
  · exact .inr ⟨g, e, by omega⟩
theorem RowNext.only {r : Nat} {a b c : World} {v v' : Value} (h : Only r v.ownBlock a b) (n : RowNext a v v') (k : Only r v'.ownBlock b c) : Only r v.ownBlock a c := h.trans k n
end Go.Proofs.Ytlgceccbjkkeiaa

/- THE WALK of the model's WaveOf. -/
namespace Go.Proofs.Ytlgceccbjkkeiaa
open Go.RowKit

theorem lz_count : ∀ (l : List Bool), l.count true ≠ 0 → lz l < l.length ∧ (∀ k < lz l, l[k]? = some false) ∧ l[lz l]? = some true
  | [], h => by simp at h
  | true :: l, _ => ⟨by simp [lz], fun k hk => by simp [lz] at hk, by simp [lz]⟩
  | false :: l, h => by
    obtain ⟨h1, h2, h3⟩ := lz_count l (by simpa using h)
    have e : lz (false :: l) = lz l + 1 := by simp [lz]
    refine ⟨by rw [e, List.length_cons]; omega, ?_, by rw [e]; simpa using h3⟩
    intro k hk
    cases k with
    | zero => rfl
    | succ k => rw [List.getElem?_cons_succ]; exact h2 k (by omega)

theorem res4 {fn : Func} {t u v x : Tmp} (h : fn.results = #[.tmp t, .tmp u, .tmp v, .tmp x]) (a : Array Value) (P : Program) (w : World) :
    (results fn a).run P w = .ok (.tuple #[a.getD t undef, a.getD u undef, a.getD v undef, a.getD x undef]) w := by simp [results, h]

theorem woR_len (s : ByteArray) : (woR s).length ≤ 200 ∧ (woG s).length ≤ 200 := by
  unfold woR woG
  cases h : woOk s
  · simp
  · have h120 := vld_le s ((woOk_iff s).1 h).1
    obtain ⟨h1, h2, _⟩ := rr_len (bits s)
    rw [length_bits] at h1
    rw [if_pos rfl, if_pos rfl, ni_length, ni_length]
    rcases h2 with h2 | h2
    · rw [h2]; simp; omega
    · omega

set_option maxRecDepth 100000 in
set_option maxHeartbeats 1000000 in
theorem specWaveOf_any (s : ByteArray) (w : World) (hs : s.size ≤ maxLen) :
    Calls Try.prog 14 #[.string s] w fun e w' => ∃ u v, e = .returned (.tuple #[.int .i64 (woN s), u, v, .bool (woOk s)]) ∧ IntsV w.heap.size w' u (woR s) ∧ IntsV w.heap.size w' v (woG s) ∧ ApV u v ∧ Below w.heap.size w w' := by
  have CV := hide (fun w => specRowValid_any s w hs)
  have CB := hide (fun w => l1Balls_any s w hs)
  obtain ⟨i0, hi, hz0, hz1, hz2⟩ := info_parts infoI
  cases hv : vld s
  · have e1 : woOk s = false := by unfold woOk; rw [hv, Bool.false_and]
    have e2 : woN s = 0 ∧ woR s = [] ∧ woG s = [] := by unfold woN woR woG; rw [e1]; exact ⟨rfl, rfl, rfl⟩
    rw [hv] at CV
    rw [e1, e2.1, e2.2.1, e2.2.2]
    clear e1 e2 hs hv CB
    go_enter Try.func14, Try.ntmps14
    go_wp2_with (go_at_call 37; refine (CV.out _).mono ?_; rintro e w' ⟨rfl, rfl⟩)
    (try simp only [Exit.inBlock, Exit.then]); refine bodyPost_ret (res4 rfl _ _ _) rfl ?_
    exact ⟨_, _, rfl, .inl ⟨_, _, rfl, rfl⟩, .inl ⟨_, _, rfl, rfl⟩, .nil, ((Below.refl _ _).alloc (Nat.le_refl _) _).alloc (by simp) _⟩
  rw [hv] at CV
  cases hn : decide (nballs (bits s) = 0)
  case true =>
    have e1 : woOk s = false := by unfold woOk; rw [hv, hn]; rfl
    have e2 : woN s = 0 ∧ woR s = [] ∧ woG s = [] := by unfold woN woR woG; rw [e1]; exact ⟨rfl, rfl, rfl⟩
    rw [of_decide_eq_true hn] at CB
    rw [e1, e2.1, e2.2.1, e2.2.2]
    clear e1 e2 hs hv hn
    go_enter Try.func14, Try.ntmps14
    go_wp2_with (first | (go_at_call 37; refine (CV.out _).mono ?_; rintro e w' ⟨rfl, rfl⟩) | (go_at_call 38; refine (CB.out _).mono ?_; rintro e w' ⟨rfl, rfl⟩))
    (try simp only [Exit.inBlock, Exit.then]); refine bodyPost_ret (res4 rfl _ _ _) rfl ?_
    exact ⟨_, _, rfl, .inl ⟨_, _, rfl, rfl⟩, .inl ⟨_, _, rfl, rfl⟩, .nil, ((Below.refl _ _).alloc (Nat.le_refl _) _).alloc (by simp) _⟩
  have h120 := vld_le s hv
  have hne := of_decide_eq_false hn
  have e1 : woOk s = true := by unfold woOk; rw [hv, hn]; rfl
  have e2 : woN s = (lz (bits s) : Int) ∧ woR s = ni (rr (bits s)).1 ∧ woG s = ni (rr (bits s)).2 := by unfold woN woR woG; rw [e1]; exact ⟨rfl, rfl, rfl⟩
  rw [e1, e2.1, e2.2.1, e2.2.2]
  obtain ⟨l1, l2, l3⟩ := lz_count (bits s) (by unfold nballs at hne; exact hne)
  rw [length_bits] at l1
  have HZ : Hid (∀ k (h : k < s.size), k < lz (bits s) → ((s[k].toNat : Int) == 48) = true) := hide (fun k h hk => by
    rw [sgn_bit s k h (vld_sgn s hv)]
    have := (bits_getElem s k h).symm.trans (l2 k hk)
    simp only [Option.some.injEq] at this
    rw [this]; rfl)
  have HZ2 : Hid (((s[lz (bits s)].toNat : Int) == 48) = false) := hide (by
    rw [sgn_bit s _ l1 (vld_sgn s hv)]
    have := (bits_getElem s _ l1).symm.trans l3
    simp only [Option.some.injEq] at this
    rw [this]; rfl)
  have CR := hide (fun w => l3Runs_any s w h120)
  have HGL := hide (rr_len (bits s))
  obtain ⟨c, hc⟩ : ∃ c, c = nballs (bits s) := ⟨_, rfl⟩
  have hc0 : ((c : Int) == 0) = false := beq_eq_false_iff_ne.2 (by omega)
  rw [← hc] at CB
  obtain ⟨z, hz⟩ : ∃ z, z = lz (bits s) := ⟨_, rfl⟩
  have HZ3 : Hid (∀ h : z < s.size, ((s[z].toNat : Int) == 48) = false) := hide (by subst hz; exact fun _ => HZ2.out)
  rw [← hz] at l1 HZ ⊢
  have hbl : (bits s).length ≤ 120 := by rw [length_bits]; exact h120
  have HBL := hide hbl
  clear e1 e2 hs hv hn hne hc hz l2 l3 HZ2 hbl
  go_enter Try.func14, Try.ntmps14
  go_wp2_with (first | (go_at_call 37; refine (CV.out _).mono ?_; rintro e w' ⟨rfl, rfl⟩) | (go_at_call 38; refine (CB.out _).mono ?_; rintro e w' ⟨rfl, rfl⟩))
  clear CV CB hc0
  go_loop [6] (fun i => ∃ k : Nat, k ≤ z ∧ i = .int .i64 (k : Int)) (fun i => z - (Go.RowKit.intOf i).toNat)
  case atStart => exact ⟨0, Nat.zero_le _, rfl⟩
  case round =>
    obtain ⟨k, hk, rfl⟩ := hrel
    have hlt : k < s.size := by omega
    by_cases hkz : k < z
    · have hb := HZ.out k hlt hkz
      go_wp2
      go_round
      case rel => exact ⟨k + 1, by omega, by go_num⟩
      case measure => simp [Go.RowKit.intOf]; omega
    · obtain rfl : k = z := by omega
      have hb := HZ3.out l1
      clear HZ HZ3
      go_wp2_with fail
      refine (CR.out _).mono ?_
      rintro e w1 ⟨u, v, rfl, hu, hv, hbw⟩
      have HU := hide hu
      have HV := hide hv
      have HBW := hide hbw
      clear hu hv hbw
      have hsz := HBW.out.size
      have O0 := hide (World.ownsRow_lit (base := w.heap.size) (e := 3) (size := 1) w1 #[] 0 hsz (by unfold maxLen; omega) rfl)
      have HB2 := hide (HBW.out.alloc hsz (.cells #[] 3))
      have HU2 := hide (HU.out.below ((Below.refl w1.heap.size w1).alloc (Nat.le_refl _) (.cells #[] 3)) (Nat.le_refl _))
      have hgl : (ni (rr (bits s)).2).length ≤ 120 := by
        obtain ⟨q1, q2, _⟩ := HGL.out
        have := HBL.out
        rw [ni_length]
        rcases q2 with h2 | h2
        · rw [h2]; simp
        · omega
      have APN : Hid (∀ v' : Value, (v'.ownBlock = (Value.slice (some ⟨w1.heap.size, 0, none⟩) 0 0).ownBlock ∨ v'.ownBlock = some (w1.alloc (.cells #[] 3)).heap.size) → ApV u v') := hide (fun v' h => ApV.new HU.out (fun x hx => by
        rcases h with h | h
        · rw [hx] at h; simp [Value.ownBlock] at h; omega
        · rw [hx, World.size_alloc] at h; injection h with h; omega))
      have NEXT : Hid (∀ v' (w2 : World), (w1.alloc (.cells #[] 3)).grownBy w2 (Value.slice (some ⟨w1.heap.size, 0, none⟩) 0 0).ownBlock → Below w1.heap.size w1 w2 ∧ IntsV w.heap.size w2 u (ni (rr (bits s)).1) ∧ (w2.ownsRow w.heap.size 3 1 v' (ni (rr (bits s)).2).length ((ni (rr (bits s)).2).map (.int .i64)) → IntsV w.heap.size w2 v' (ni (rr (bits s)).2)) ∧ Below w.heap.size w w2) := hide (by
        intro v' w2 hg
        have hb := ((Below.refl w1.heap.size w1).alloc (Nat.le_refl _) (.cells #[] 3)).grown hg (by simp) (fun b e => by simp [Value.ownBlock] at e; omega)
        exact ⟨hb, HU.out.below hb (Nat.le_refl _), fun h => IntsV.of_owns h, (HBW.out.alloc hsz (.cells #[] 3)).grown hg (by simp; omega) (fun b e => by simp [Value.ownBlock] at e; omega)⟩)
      rcases HV.out with ⟨a, cap, rfl, h0⟩ | ⟨g, cap, rfl, hcap, hg1, hg2, hcells⟩
      · have H0 := hide h0
        clear HV HU h0
        cases a with
        | none =>
          go_wp2_with fail
          (try simp only [Exit.inBlock, Exit.then]); refine bodyPost_ret (res4 rfl _ _ _) rfl ?_
          exact ⟨_, _, rfl, HU2.out, .inl ⟨_, _, rfl, H0.out⟩, .nil, HB2.out⟩
        | some ad =>
          have SRC : Hid (∀ w0 : World, ∀ j u, ([] : List Value)[j]? = some u → w0.cell? (ad.add j) = some u) := hide (fun w0 j u hu => by simp at hu)
          go_wp2_with (at_builtin; refine wpList_append_own_at _ rfl _ _ 23 rfl w.heap.size 3 i0 (.int .i64 0) 1 8 Try.underlying23 hi hz0 hz1 hz2 rfl (by decide) _ _ _ rfl O0.out ad 0 cap [] rfl rfl (SRC.out _) (by simp) (by unfold maxLen; omega) (by omega) (by simp; omega) ?_; intro v' w2 hown' hgrow _ hat)
          (try simp only [Exit.inBlock, Exit.then]); refine bodyPost_ret (res4 rfl _ _ _) rfl ?_
          obtain ⟨_, n2, n3, n4⟩ := NEXT.out v' w2 hgrow
          exact ⟨_, _, rfl, n2, n3 (by rw [H0.out]; exact hown'), APN.out _ hat, n4⟩
      · have SRC := hide ((hcells.alloc (.cells #[] 3)).src)
        have HN := NEXT
        obtain ⟨L, hL⟩ : ∃ L, L = ni (rr (bits s)).2 := ⟨_, rfl⟩
        rw [← hL] at hgl SRC HN hcap ⊢
        have HLN : Hid ((L.map (Value.int .i64)).length = L.length * 1) := hide (by simp)
        have HLE := hide hL
        clear HV HU hcells hL NEXT
        go_wp2_with (at_builtin; refine wpList_append_own_at _ rfl _ _ 23 rfl w.heap.size 3 i0 (.int .i64 0) 1 8 Try.underlying23 hi hz0 hz1 hz2 rfl (by decide) _ _ _ rfl O0.out ⟨g, 0, none⟩ L.length cap (L.map (.int .i64)) rfl HLN.out SRC.out ints_of (by unfold maxLen; omega) (by omega) (by simp; omega) ?_; intro v' w2 hown' hgrow _ hat)
        (try simp only [Exit.inBlock, Exit.then]); refine bodyPost_ret (res4 rfl _ _ _) rfl ?_
        obtain ⟨_, n2, n3, n4⟩ := HN.out v' w2 hgrow
        rw [Nat.zero_add] at hown'
        have n5 := n3 hown'
        rw [HLE.out] at n5
        exact ⟨_, _, rfl, n2, n5, APN.out _ hat, n4⟩
end Go.Proofs.Ytlgceccbjkkeiaa
