/- TEXTS Bwd, InLaws. -/
import Derived.Test.YteibopcneflidaaDoorRa08
import Derived.WalkKit
import Derived.OwnWalk
import Derived.OwnWalkIn
import Derived.Laws.CopyOwn
/- THE WALKS of slices.Backward at a row, and of its iterator, while the body writes the row. -/
namespace Go.Proofs.YteibopcneflidaaDoor
open Go.RowKit Go.Shelf

attribute [local go_sem] Oper.semAt_some

set_option maxHeartbeats 400000 in
theorem backward_in (F : Fence) (n : Nat) (hf : F.fn 64) (hro : F.round = none) (a : Option Addr) (len cap : Nat) (w : World) :
    CallsIn F n Tryd.prog 64 #[.slice a len cap] w fun e w' => e = .returned (.func (.func 86) #[] #[.pointer (some ⟨w.heap.size, 0, none⟩)]) ∧ w' = w.alloc (.cells #[.slice a len cap] 68) := by
  refine callsIn_of_wp Tryd.func64 rfl hf ?_ hro
  simp only [Tryd.ntmps64, List.size_toArray, List.length_cons, List.length_nil, Nat.reduceAdd, Nat.reduceSub, Array.replicate_succ, Array.replicate_zero, List.push_toArray, List.append_toArray, List.nil_append, List.cons_append]
  gi_wp2
  go_ret
  exact ⟨rfl, rfl⟩

/-- what a body keeps for the iterator: the iterator's variable, and that the row's cells are booleans -/
def BwdK (Bs g len : Nat) (W W' : World) : Prop := W'.heap[Bs]? = W.heap[Bs]? ∧ ∀ j, j < len → (∃ b, W.cell? ⟨g, j, none⟩ = some (.bool b)) → ∃ b, W'.cell? ⟨g, j, none⟩ = some (.bool b)
theorem BwdK.refl (Bs g len : Nat) (W : World) : BwdK Bs g len W W := ⟨rfl, fun _ _ h => h⟩
theorem BwdK.trans {Bs g len : Nat} {A B C : World} (h : BwdK Bs g len A B) (k : BwdK Bs g len B C) : BwdK Bs g len A C := ⟨k.1.trans h.1, fun j hj hb => k.2 j hj (h.2 j hj hb)⟩
theorem rev_take {n j : Nat} (h : j < n) : ((List.range n).reverse).take (n - j) = ((List.range n).reverse).take (n - (j + 1)) ++ [j] := by
  have e : n - j = (n - (j + 1)) + 1 := by omega
  have e2 : ((List.range n).reverse)[n - (j + 1)]? = some j := by
    rw [List.getElem?_reverse (by rw [List.length_range]; omega), List.length_range, show n - 1 - (n - (j + 1)) = j by omega, List.getElem?_range h]
  rw [e, List.take_add_one, e2]
  rfl

set_option maxRecDepth 100000 in
set_option maxHeartbeats 2000000 in
theorem backward_stops (F : Fence) (n : Nat) (hf : F.fn 86) (hro : F.round = none) (hn : 1 ≤ n) (Bs g len cap : Nat) (y : Option Addr) (hy : 0 < len → y = some ⟨g, 0, none⟩) (hm : len ≤ 1000) (w : World) (hBs : w.cell? ⟨Bs, 0, none⟩ = some (.slice y len cap))
    (hgl : 0 < len → g < w.heap.size) (hc : ∀ j, j < len → ∃ b, w.cell? ⟨g, j, none⟩ = some (.bool b)) :
    SeqStopsK F n Tryd.prog 86 #[.pointer (some ⟨Bs, 0, none⟩)] (fun p : { q : Nat × Bool // q.1 < len } => #[Value.int .i64 (p.1.1 : Int), .bool p.1.2]) (BwdK Bs g len) (fun ys => ys.map (·.1.1) = (List.range len).reverse) (fun _ => True) len w := fun l J Jx W hW _ _ hY h0 => by
  have hBl : Bs < w.heap.size := World.block_lt_of_cell? w _ hBs
  have hBW : W.cell? ⟨Bs, 0, none⟩ = some (.slice y len cap) := (hW.cell (p := ⟨Bs, 0, none⟩) hBl).trans hBs
  have hcW : Hid (∀ j, j < len → ∃ b, W.cell? ⟨g, j, none⟩ = some (.bool b)) := hide (fun j hj => by
    obtain ⟨b, hb⟩ := hc j hj
    exact ⟨b, (hW.cell (p := ⟨g, j, none⟩) (hgl (by omega))).trans hb⟩)
  have HBW := hide hBW
  clear hc hBs
  refine callsIn_of_wp Tryd.func86 rfl hf ?_ hro
  simp only [Tryd.ntmps86, List.size_toArray, List.length_cons, List.length_nil, Nat.reduceAdd, Nat.reduceSub, Array.replicate_succ, Array.replicate_zero, List.push_toArray, List.append_toArray, List.nil_append, List.cons_append]
  gi_wp2
  gi_loopw [3] (fun i wr => ∃ (k : Nat) (pre : List { q : Nat × Bool // q.1 < len }), k ≤ len ∧ i = .int .i64 ((k : Int) - 1) ∧ Hid (pre.map (·.1.1) = ((List.range len).reverse).take (len - k)) ∧ J pre wr ∧ Hid (BwdK Bs g len W wr))
    (fun i _ => (intOf i + 1).toNat)
  case atStart => exact ⟨len, [], Nat.le_refl _, by go_num, by show _ = _; rw [Nat.sub_self]; rfl, h0, BwdK.refl _ _ _ _⟩
  case round =>
    obtain ⟨k, pre, hk, rfl, HP, hJs, HK⟩ := hrel
    have hBr : wr.cell? ⟨Bs, 0, none⟩ = some (.slice y len cap) := (World.cell?_of_block (a := ⟨Bs, 0, none⟩) HK.out.1).trans HBW.out
    by_cases h0 : k = 0
    · subst h0
      gi_wp2
      go_end0
      refine ⟨⟨_, rfl⟩, .inl ⟨pre, ?_, hJs⟩⟩
      have h := HP.out
      rw [List.take_of_length_le (by simp)] at h
      exact h
    · obtain ⟨j, rfl⟩ : ∃ j, k = j + 1 := ⟨k - 1, by omega⟩
      have ej : ((j + 1 : Nat) : Int) - 1 = (j : Int) := by omega
      rw [ej]
      clear ej h0
      obtain rfl := hy (by omega)
      obtain ⟨b, hb⟩ := HK.out.2 j (by omega) (hcW.out j (by omega))
      have hlen : pre.length < len := by
        have := congrArg List.length HP.out
        simp at this
        omega
      obtain ⟨fn, tmps, assign, body, hyy, hR⟩ := hY pre ⟨(j, b), by omega⟩ wr hJs hlen
      have HPN : Hid ((pre ++ [(⟨(j, b), by omega⟩ : { q : Nat × Bool // q.1 < len })]).map (·.1.1) = ((List.range len).reverse).take (len - j)) := by
        show _ = _
        rw [rev_take (show j < len by omega), List.map_append, HP.out]
        rfl
      have i0 : (0 : Int) ≤ (j : Int) := by omega
      have i1 : (j : Int) < (len : Int) := by omega
      have hj : j ≤ len := by omega
      gi_wp2
      refine hR.mono ?_
      rintro e W3 (⟨rfl, hJ3, hk3⟩ | ⟨rfl, hJx3⟩)
      · gi_wp2
        go_roundw
        case rel => exact ⟨j, _, hj, by go_num, HPN, hJ3, HK.out.trans hk3⟩
        case measure => simp [intOf]
      · gi_wp2
        refine bodyPost_ret (results_none rfl _ _ _) rfl ?_
        exact ⟨⟨_, rfl⟩, .inr ⟨_, trivial, hJx3⟩⟩
end Go.Proofs.YteibopcneflidaaDoor

/- TWO LAWS INSIDE A FENCE that the library has for the plain walk alone: a make of n zero elements; a copy into a row. Nothing of the program is named here. -/
namespace Go.Proofs.YteibopcneflidaaDoor
open Go.RowKit

theorem wpListIn_make_full {F : Fence} {f : Nat} {P : Program} (w : World) {ops : Array Oper} {rest : List Oper} {o : Oper} {a : Act} {Q : Exit → Act → World → Prop}
    (hg : o.guard = none) (l c : Operand) (t : TypeId) (hop : o.op = Op.makeSlice t l c)
    (base : Nat) (e : TypeId) (i : TypeInfo) (z : Value) (size : Nat) (h1 : P.underlying t = some (.slice e)) (h2 : P.info? e = some i) (h3 : i.zero = some z) (h4 : i.size = size)
    (kl kc : IntKind) (L C : Int) (n : Nat) (hl : a.eval l = .int kl L) (hc : a.eval c = .int kc C) (hL : L = (n : Int)) (hC : C = (n : Int)) (b2 : i.bytes * n ≤ 281474976710656) (b3 : n ≤ maxLen) (b4 : base ≤ w.heap.size)
    (hK : ∀ w', w'.ownsRow base e size (.slice (some ⟨w.heap.size, 0, none⟩) n n) n (madeCells z.cells (n * size)).toList → w.grownBy w' none → wpListIn F f P ops Q rest (a.put o.dst (.slice (some ⟨w.heap.size, 0, none⟩) n n)) w') :
    wpListIn F f P ops Q (o :: rest) a w := by
  refine wpListIn_plain hg fun K hK' => ?_
  obtain ⟨w', hrun, r1, r2⟩ := run_make_full (P := P) w base t e i z size h1 h2 h3 h4 kl kc n b2 b3 b4
  subst hL
  subst hC
  unfold Oper.wpIn
  refine ⟨?_, ?_⟩
  · simp [Oper.about, hop]
  · rw [Oper.semAt_plain F _ _ (by rw [hop]; intro c hc'; cases hc')]
    simp [execOp, hop, hl, hc, hrun, Result.andThen]
    exact hK' _ _ (hK w' r1 r2)

theorem wpListIn_copy_nothing {F : Fence} {f : Nat} {P : Program} {w : World} {ops : Array Oper} {rest : List Oper} {o : Oper} {a : Act} {Q : Exit → Act → World → Prop} (hgd : o.guard = none) (d s : Operand) (dT sT : TypeId)
    (ho : o.op = .call { callee := .builtin .copy, args := #[d, s], argTypes := #[dT, sT] }) (elem : TypeId) (hu : P.underlying dT = some (.slice elem)) (hsz : (P.info? elem).map (·.size) = some 1)
    (dp sp : Option Addr) (dLen dCap sLen sCap : Nat) (hd : a.eval d = .slice dp dLen dCap) (hs : a.eval s = .slice sp sLen sCap) (hn : Nat.min sLen dLen = 0)
    (h : wpListIn F f P ops Q rest (a.put o.dst (goInt 0)) w) : wpListIn F f P ops Q (o :: rest) a w := by
  refine wpListIn_plain hgd fun K hK => ?_
  have hrun := run_copy_none (P := P) w dT sT o.type elem dp sp dLen dCap sLen sCap hu hsz hn
  unfold Oper.wpIn
  refine ⟨?_, ?_⟩
  · simp [Oper.about, ho, resolve, Target.leads, Sem.run_pure]
  · rw [Oper.semAt_plain F _ _ (by rw [ho]; intro c hc'; cases hc')]
    simp [execOp, ho, resolve, invoke, builtin, hd, hs, hrun, Result.andThen]
    exact hK _ _ h

theorem wpListIn_copy_splice {F : Fence} {f : Nat} {P : Program} {w : World} {ops : Array Oper} {rest : List Oper} {o : Oper} {a : Act} {Q : Exit → Act → World → Prop} (hgd : o.guard = none) (d s : Operand) (dT sT : TypeId)
    (ho : o.op = .call { callee := .builtin .copy, args := #[d, s], argTypes := #[dT, sT] }) (elem : TypeId) (hu : P.underlying dT = some (.slice elem)) (hsz : (P.info? elem).map (·.size) = some 1)
    (dp sp : Option Addr) (dLen dCap sLen sCap : Nat) (hd : a.eval d = .slice dp dLen dCap) (hs : a.eval s = .slice sp sLen sCap)
    (g off : Nat) (cur : List Value) (t : TypeId) (hg : w.heap[g]? = some (.cells cur.toArray t (0, 0))) (cs : List Value) (hn : cs.length = Nat.min sLen dLen)
    (hpos : 0 < cs.length → dp = some ⟨g, off, none⟩ ∧ ∃ ad, sp = some ad ∧ ∀ j v, cs[j]? = some v → w.cell? (ad.add j) = some v)
    (hfit : off + cs.length ≤ cur.length) (h1 : ∀ v ∈ cs, v.oneCell' = true)
    (h : ∀ w', Hid (w'.heap[g]? = some (.cells (splice cur off cs).toArray t (0, 0))) → w.grownBy w' (some g) → Hid (w'.heap.size = w.heap.size) → wpListIn F f P ops Q rest (a.put o.dst (goInt cs.length)) w') :
    wpListIn F f P ops Q (o :: rest) a w := by
  by_cases h0 : cs.length = 0
  · obtain rfl : cs = [] := List.eq_nil_of_length_eq_zero h0
    refine wpListIn_copy_nothing hgd d s dT sT ho elem hu hsz dp sp dLen dCap sLen sCap hd hs (by simpa using hn.symm) ?_
    exact h w (show _ = _ by simpa [splice] using hg) ⟨rfl, rfl, rfl, Nat.le_refl _, fun _ _ _ => rfl⟩ (show _ = _ from rfl)
  · obtain ⟨rfl, ad, rfl, hsrc⟩ := hpos (by omega)
    refine wpListIn_plain hgd fun K hK => ?_
    have hrun := run_copy_row (P := P) w dT sT o.type elem g off dLen dCap ad sLen sCap cur.toArray t cs hu hsz hg hn hsrc (by simpa using hfit) h1
    unfold Oper.wpIn
    refine ⟨?_, ?_⟩
    · simp [Oper.about, ho, resolve, Target.leads, Sem.run_pure]
    · rw [Oper.semAt_plain F _ _ (by rw [ho]; intro c hc'; cases hc')]
      simp [execOp, ho, resolve, invoke, builtin, hd, hs, hrun, Result.andThen]
      exact hK _ _ (h _ (show _ = _ by simpa [splice] using setRow_heap w g _ _ t _ hg) ⟨rfl, rfl, rfl, by simp [World.setRow], fun k _ hk => setRow_other w g k _ (fun e => hk (by rw [e]))⟩ (show _ = _ by simp [World.setRow]))
end Go.Proofs.YteibopcneflidaaDoor
