/- TEXTS LawQ, LawR. -/
import Derived.Test.YteibopcneflidabDoorRl13
import Derived.Test.YteibopcneflidabDoorRl10
import Derived.Test.YteibopcneflidabDoorRl02
import Derived.Laws.StructEq
/- THE WALKS of the laws' own helpers over lists of parts: toPart, toPartS, szPartS, eqPart, eqPartS, sameParts, markPartS, heldPartS. -/
namespace Go.Proofs.YteibopcneflidabDoor
open Go.RowKit Go.Sort Go.Shelf

theorem encZ_many (n : Nat) (a : Int) : encZ (List.replicate n (a, a)) = List.replicate (n * 2) (.int .i64 a) := by
  induction n with
  | zero => rfl
  | succ n ih => rw [List.replicate_succ, encZ_cons, ih, show (n + 1) * 2 = n * 2 + 1 + 1 by omega, List.replicate_succ, List.replicate_succ]
theorem madeZ (n : Nat) : (madeCells (Value.agg #[.int .i64 0, .int .i64 0]).cells (n * 2)).toList = encZ (List.replicate n ((0 : Int), (0 : Int))) := by
  rw [encZ_many]
  have hc : (Value.agg #[.int .i64 0, .int .i64 0]).cells = #[.int .i64 0, .int .i64 0] := rfl
  rw [hc]
  apply List.ext_getElem?
  intro j
  by_cases hj : j < n * 2
  · have h2 : j % 2 = 0 ∨ j % 2 = 1 := by omega
    rcases h2 with h2 | h2 <;> simp [madeCells, hj, h2]
  · simp [madeCells, hj]
theorem encZ_set : ∀ (l : List (Int × Int)) (k : Nat) (p : Int × Int), encZ (l.set k p) = ((encZ l).set (k * 2) (.int .i64 p.1)).set (k * 2 + 1) (.int .i64 p.2)
  | [], k, p => rfl
  | x :: l, 0, p => rfl
  | x :: l, k + 1, p => by
    have ih := encZ_set l k p
    rw [List.set_cons_succ, encZ_cons, ih, encZ_cons, show (k + 1) * 2 = k * 2 + 1 + 1 by omega]
    rfl
theorem CellsAt.setPart {w : World} {g : Nat} {l : List (Int × Int)} (h : CellsAt w g (encZ l)) (k : Nat) (hk : k < l.length) (p : Int × Int) :
    CellsAt ((w.setCell ⟨g, k * 2, none⟩ (.int .i64 p.1)).setCell ⟨g, k * 2 + 1, none⟩ (.int .i64 p.2)) g (encZ (l.set k p)) := by
  rw [encZ_set]
  exact (h.set (k * 2) (by rw [encZ_length]; omega) _).set (k * 2 + 1) (by rw [List.length_set, encZ_length]; omega) _

theorem results_cell_one {fn : Func} {p : Tmp} {ty : TypeId} (h : fn.results = #[.cell p ty]) (tmps : Array Value) (P : Program) (w : World) :
    (results fn tmps).run P w = ((asAddr (tmps.getD p undef)).run P w).andThen fun a w₁ => (loadVar ty a).run P w₁ := by
  simp only [results, h]
  simp [Sem.run_bind, Result.andThen]

end Go.Proofs.YteibopcneflidabDoor

/- THE WALKS of the laws' helpers that mark lists of parts, hold what was marked, compare. -/
namespace Go.Proofs.YteibopcneflidabDoor
open Go.RowKit Go.Sort Go.Shelf

theorem grown_refl (w : World) (row : Option Nat) : w.grownBy w row := ⟨rfl, rfl, rfl, Nat.le_refl _, fun _ _ _ => rfl⟩
theorem grown_set {w w' : World} {g : Nat} (h : w.grownBy w' (some g)) (j : Nat) (u : Value) : w.grownBy (w'.setCell ⟨g, j, none⟩ u) (some g) :=
  ⟨h.os, h.tape, h.output, by simpa [World.setCell] using h.size, fun k hk hne => (Below.heap_setCell w' ⟨g, j, none⟩ u k (fun e => hne (by rw [e]))).trans (h.block k hk hne)⟩
/-- (1, 2), (3, 4), .. -/
def marksP (n : Nat) : List (Int × Int) := (List.range n).map fun (j : Nat) => (1 + 2 * (j : Int), 2 + 2 * (j : Int))
theorem marksP_length (n : Nat) : (marksP n).length = n := by simp [marksP]
theorem marksP_get (n j : Nat) (h : j < n) : (marksP n)[j]? = some (1 + 2 * (j : Int), 2 + 2 * (j : Int)) := by simp [marksP, h]

/-- ints, at the head of a block from lo on and below hi, or none -/
def IntsIn (lo hi : Nat) (w : World) (v : Value) (l : List Int) : Prop :=
  (∃ a cap, v = .slice a 0 cap ∧ l = []) ∨ ∃ g cap, v = .slice (some ⟨g, 0, none⟩) l.length cap ∧ l.length ≤ cap ∧ lo ≤ g ∧ g < hi ∧ g < w.heap.size ∧ CellsAt w g (l.map (.int .i64))
def PartsIn (lo hi : Nat) (w : World) (v : Value) (l : List (Int × Int)) : Prop :=
  (∃ a cap, v = .slice a 0 cap ∧ l = []) ∨ ∃ g cap, v = .slice (some ⟨g, 0, none⟩) l.length cap ∧ l.length ≤ cap ∧ lo ≤ g ∧ g < hi ∧ g < w.heap.size ∧ CellsAt w g (encZ l)
theorem IntsV.into {lo : Nat} {w : World} {v : Value} {l : List Int} (h : IntsV lo w v l) : IntsIn lo w.heap.size w v l := by
  rcases h with h | ⟨g, c, h1, h2, h3, h4, h5⟩
  · exact .inl h
  · exact .inr ⟨g, c, h1, h2, h3, h4, h4, h5⟩
theorem IntsIn.v {lo hi : Nat} {w : World} {v : Value} {l : List Int} (h : IntsIn lo hi w v l) : IntsV lo w v l := by
  rcases h with h | ⟨g, c, h1, h2, h3, h4, h5, h6⟩
  · exact .inl h
  · exact .inr ⟨g, c, h1, h2, h3, h5, h6⟩
theorem PartsV.into {lo : Nat} {w : World} {v : Value} {l : List (Int × Int)} (h : PartsV lo w v l) : PartsIn lo w.heap.size w v l := by
  rcases h with h | ⟨g, c, h1, h2, h3, h4, h5⟩
  · exact .inl h
  · exact .inr ⟨g, c, h1, h2, h3, h4, h4, h5⟩
theorem PartsIn.v {lo hi : Nat} {w : World} {v : Value} {l : List (Int × Int)} (h : PartsIn lo hi w v l) : PartsV lo w v l := by
  rcases h with h | ⟨g, c, h1, h2, h3, h4, h5, h6⟩
  · exact .inl h
  · exact .inr ⟨g, c, h1, h2, h3, h5, h6⟩
theorem cells_block {w w' : World} {g : Nat} {l : List Value} (h : CellsAt w g l) (e : w'.heap[g]? = w.heap[g]?) : CellsAt w' g l := fun j v hv =>
  ⟨(World.cell?_of_block (a := ⟨g, j, none⟩) e).trans (h j v hv).1, (World.frozen?_of_block (a := ⟨g, j, none⟩) e).trans (h j v hv).2⟩
theorem IntsIn.kept {lo hi : Nat} {w w' : World} {v : Value} {l : List Int} (h : IntsIn lo hi w v l) (hs : w.heap.size ≤ w'.heap.size) (hk : ∀ g, lo ≤ g → g < hi → g < w.heap.size → w'.heap[g]? = w.heap[g]?) : IntsIn lo hi w' v l := by
  rcases h with h | ⟨g, c, h1, h2, h3, h4, h5, h6⟩
  · exact .inl h
  · exact .inr ⟨g, c, h1, h2, h3, h4, by omega, cells_block h6 (hk g h3 h4 h5)⟩
theorem PartsIn.kept {lo hi : Nat} {w w' : World} {v : Value} {l : List (Int × Int)} (h : PartsIn lo hi w v l) (hs : w.heap.size ≤ w'.heap.size) (hk : ∀ g, lo ≤ g → g < hi → g < w.heap.size → w'.heap[g]? = w.heap[g]?) : PartsIn lo hi w' v l := by
  rcases h with h | ⟨g, c, h1, h2, h3, h4, h5, h6⟩
  · exact .inl h
  · exact .inr ⟨g, c, h1, h2, h3, h4, by omega, cells_block h6 (hk g h3 h4 h5)⟩
theorem IntsIn.below {lo hi B : Nat} {w w' : World} {v : Value} {l : List Int} (h : IntsIn lo hi w v l) (hb : Below B w w') (hB : hi ≤ B ∨ w.heap.size ≤ B) : IntsIn lo hi w' v l := h.kept hb.size (fun g _ h2 h3 => hb.block g (by omega))
theorem PartsIn.below {lo hi B : Nat} {w w' : World} {v : Value} {l : List (Int × Int)} (h : PartsIn lo hi w v l) (hb : Below B w w') (hB : hi ≤ B ∨ w.heap.size ≤ B) : PartsIn lo hi w' v l := h.kept hb.size (fun g _ h2 h3 => hb.block g (by omega))
theorem IntsIn.grown {lo hi : Nat} {w w' : World} {v : Value} {l : List Int} {row : Option Nat} (h : IntsIn lo hi w v l) (hg : w.grownBy w' row) (hr : ∀ g, row = some g → g < lo ∨ hi ≤ g) : IntsIn lo hi w' v l :=
  h.kept hg.size (fun g h1 h2 h3 => hg.block g h3 (fun e => by have := hr g e.symm; omega))
theorem PartsIn.grown {lo hi : Nat} {w w' : World} {v : Value} {l : List (Int × Int)} {row : Option Nat} (h : PartsIn lo hi w v l) (hg : w.grownBy w' row) (hr : ∀ g, row = some g → g < lo ∨ hi ≤ g) : PartsIn lo hi w' v l :=
  h.kept hg.size (fun g h1 h2 h3 => hg.block g h3 (fun e => by have := hr g e.symm; omega))

theorem part_neq (a1 a2 : Int) (w : World) : (binOp .neq 44 (.agg #[.int .i64 a1, .int .i64 a2]) (.agg #[.int .i64 a1, .int .i64 a2])).run Tryd.prog w = .ok (.bool false) w := by
  have u3 := Tryd.underlying3
  have a3 := Tryd.isAgg3
  have z3 := Tryd.sizeOf3
  have hS : Tryd.prog.underlying 44 = some (.struct (Tryd.prog.fieldsOf 44)) := by kernel_rfl
  have hp : Tryd.prog.stoodInHeld 44 = false := by kernel_rfl
  rw [run_neq_struct, show (10000 : Nat) = 9999 + 1 from rfl, run_equalIn_agg w 9999 44 _ _ hS hp]
  simp only [Program.fieldsOf, Tryd.underlying44]
  go_simp

set_option maxHeartbeats 1000000 in
theorem sameParts_same {lo lo' : Nat} {w : World} {v v' : Value} {l : List (Int × Int)} (hm : l.length ≤ maxLen) (h : PartsV lo w v l) (h' : PartsV lo' w v' l) :
    Calls Tryd.prog 7 #[v, v'] w fun e w' => e = .returned (.bool true) ∧ Quiet w w' := by
  unfold maxLen at hm
  obtain ⟨n, hn⟩ : ∃ n, l.length = n := ⟨_, rfl⟩
  obtain ⟨a, c, rfl, hf⟩ := h.form hn
  obtain ⟨a', c', rfl, hf'⟩ := h'.form hn
  have HN := hide hn
  have HF := hide hf
  have HF' := hide hf'
  rw [hn] at hm
  clear h h' hn hf hf'
  have b0 : ((n : Int) != (n : Int)) = false := by simp
  go_enter Tryd.func7, Tryd.ntmps7
  go_wp2
  go_loopw [5] (fun i wr => ∃ k : Nat, k ≤ n ∧ i = .int .i64 k ∧ Hid (Quiet w wr)) (fun i _ => n - (intOf i).toNat)
  case atStart => exact ⟨0, Nat.zero_le _, rfl, Quiet.refl w⟩
  case round =>
    obtain ⟨k, hk, rfl, HQ⟩ := hrel
    by_cases hlt : k < n
    · obtain ⟨q, rfl, hq0, hq⟩ := HF.out (by omega)
      obtain ⟨q', rfl, hq0', hq'⟩ := HF'.out (by omega)
      obtain ⟨x, hx⟩ : ∃ x, l[k]? = some x := ⟨_, List.getElem?_eq_getElem (by rw [HN.out]; exact hlt)⟩
      obtain ⟨g1, g2⟩ := encZ_get l k x hx
      have d1 := ((HQ.out.cells hq) _ _ g1).1
      have d2 := ((HQ.out.cells hq) _ _ g2).1
      have d3 := ((HQ.out.cells hq') _ _ g1).1
      have d4 := ((HQ.out.cells hq') _ _ g2).1
      obtain ⟨x1, hx1⟩ : ∃ y, y = x.1 := ⟨_, rfl⟩
      obtain ⟨x2, hx2⟩ : ∃ y, y = x.2 := ⟨_, rfl⟩
      rw [← hx1] at d1 d3
      rw [← hx2] at d2 d4
      have hne := part_neq x1 x2
      have hgd : ∀ (op : BinOp) (a b : Operand) (w : World), (eqGuard op 44 a b (.agg #[.int .i64 x1, .int .i64 x2]) (.agg #[.int .i64 x1, .int .i64 x2])).run Tryd.prog w = .ok () w := fun op a b w => run_eqGuard_agg w op 44 a b _ _ (by kernel_rfl)
      have i0 : (0 : Int) ≤ (k : Int) := by omega
      have i1 : (k : Int) < (n : Int) := by omega
      clear hx g1 g2 hx1 hx2
      go_wp2
      go_quiet (fail)
      go_wp2
      go_roundw
      case rel => exact ⟨k + 1, by omega, by go_num, HQ.out.trans (Quiet.drewN _)⟩
      case measure => simp [intOf]; omega
    · go_wp2
      go_ret
      exact ⟨rfl, HQ.out⟩
end Go.Proofs.YteibopcneflidabDoor
