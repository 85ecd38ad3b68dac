/- TEXTS LawR. -/
import Derived.Test.YteibopcneflidabGreatDoorRo12
import Derived.Test.YteibopcneflidabGreatDoorRo01
import Derived.Laws.StructEq
/- THE WALKS of the laws' helpers that mark lists of parts, hold what was marked, compare. -/
namespace Go.Proofs.YteibopcneflidabGreatDoor
open Go.RowKit Go.Sort Go.Shelf

theorem grown_refl (w : World) (row : Option Nat) : w.grownBy w row := ⟨rfl, rfl, rfl, Nat.le_refl _, fun _ _ _ => rfl⟩
theorem grown_set {w w' : World} {g : Nat} (h : w.grownBy w' (some g)) (j : Nat) (u : Value) : w.grownBy (w'.setCell ⟨g, j, none⟩ u) (some g) :=
  ⟨h.os, h.tape, h.output, by simpa [World.setCell] using h.size, fun k hk hne => (Below.heap_setCell w' ⟨g, j, none⟩ u k (fun e => hne (by rw [e]))).trans (h.block k hk hne)⟩
/-- (1, 2), (3, 4), .. -/
def marksP (n : Nat) : List (Int × Int) := (List.range n).map fun (j : Nat) => (1 + 2 * (j : Int), 2 + 2 * (j : Int))
theorem marksP_length (n : Nat) : (marksP n).length = n := by simp [marksP]
theorem marksP_get (n j : Nat) (h : j < n) : (marksP n)[j]? = some (1 + 2 * (j : Int), 2 + 2 * (j : Int)) := by simp [marksP, h]

/-- ints, at the head of a block from lo on and below hi, or none -/
def IntsIn (lo hi : Nat) (w : World) (v : Value) (l : List Int) : Prop :=
  (∃ a cap, v = .slice a 0 cap ∧ l = []) ∨ ∃ g cap, v = .slice (some ⟨g, 0, none⟩) l.length cap ∧ l.length ≤ cap ∧ lo ≤ g ∧ g < hi ∧ g < w.heap.size ∧ CellsAt w g (l.map (.int .i64))
def PartsIn (lo hi : Nat) (w : World) (v : Value) (l : List (Int × Int)) : Prop :=
  (∃ a cap, v = .slice a 0 cap ∧ l = []) ∨ ∃ g cap, v = .slice (some ⟨g, 0, none⟩) l.length cap ∧ l.length ≤ cap ∧ lo ≤ g ∧ g < hi ∧ g < w.heap.size ∧ CellsAt w g (encZ l)
theorem IntsV.into {lo : Nat} {w : World} {v : Value} {l : List Int} (h : IntsV lo w v l) : IntsIn lo w.heap.size w v l := by
  rcases h with h | ⟨g, c, h1, h2, h3, h4, h5⟩
  · exact .inl h
  · exact .inr ⟨g, c, h1, h2, h3, h4, h4, h5⟩
theorem IntsIn.v {lo hi : Nat} {w : World} {v : Value} {l : List Int} (h : IntsIn lo hi w v l) : IntsV lo w v l := by
  rcases h with h | ⟨g, c, h1, h2, h3, h4, h5, h6⟩
  · exact .inl h
  · exact .inr ⟨g, c, h1, h2, h3, h5, h6⟩
theorem PartsV.into {lo : Nat} {w : World} {v : Value} {l : List (Int × Int)} (h : PartsV lo w v l) : PartsIn lo w.heap.size w v l := by
  rcases h with h | ⟨g, c, h1, h2, h3, h4, h5⟩
  · exact .inl h
  · exact .inr ⟨g, c, h1, h2, h3, h4, h4, h5⟩
theorem PartsIn.v {lo hi : Nat} {w : World} {v : Value} {l : List (Int × Int)} (h : PartsIn lo hi w v l) : PartsV lo w v l := by
  rcases h with h | ⟨g, c, h1, h2, h3, h4, h5, h6⟩
  · exact .inl h
  · exact .inr ⟨g, c, h1, h2, h3, h5, h6⟩
theorem cells_block {w w' : World} {g : Nat} {l : List Value} (h : CellsAt w g l) (e : w'.heap[g]? = w.heap[g]?) : CellsAt w' g l := fun j v hv =>
  ⟨(World.cell?_of_block (a := ⟨g, j, none⟩) e).trans (h j v hv).1, (World.frozen?_of_block (a := ⟨g, j, none⟩) e).trans (h j v hv).2⟩
theorem IntsIn.kept {lo hi : Nat} {w w' : World} {v : Value} {l : List Int} (h : IntsIn lo hi w v l) (hs : w.heap.size ≤ w'.heap.size) (hk : ∀ g, lo ≤ g → g < hi → g < w.heap.size → w'.heap[g]? = w.heap[g]?) : IntsIn lo hi w' v l := by
  rcases h with h | ⟨g, c, h1, h2, h3, h4, h5, h6⟩
  · exact .inl h
  · exact .inr ⟨g, c, h1, h2, h3, h4, by omega, cells_block h6 (hk g h3 h4 h5)⟩
theorem PartsIn.kept {lo hi : Nat} {w w' : World} {v : Value} {l : List (Int × Int)} (h : PartsIn lo hi w v l) (hs : w.heap.size ≤ w'.heap.size) (hk : ∀ g, lo ≤ g → g < hi → g < w.heap.size → w'.heap[g]? = w.heap[g]?) : PartsIn lo hi w' v l := by
  rcases h with h | ⟨g, c, h1, h2, h3, h4, h5, h6⟩
  · exact .inl h
  · exact .inr ⟨g, c, h1, h2, h3, h4, by omega, cells_block h6 (hk g h3 h4 h5)⟩
theorem IntsIn.below {lo hi B : Nat} {w w' : World} {v : Value} {l : List Int} (h : IntsIn lo hi w v l) (hb : Below B w w') (hB : hi ≤ B ∨ w.heap.size ≤ B) : IntsIn lo hi w' v l := h.kept hb.size (fun g _ h2 h3 => hb.block g (by omega))
theorem PartsIn.below {lo hi B : Nat} {w w' : World} {v : Value} {l : List (Int × Int)} (h : PartsIn lo hi w v l) (hb : Below B w w') (hB : hi ≤ B ∨ w.heap.size ≤ B) : PartsIn lo hi w' v l := h.kept hb.size (fun g _ h2 h3 => hb.block g (by omega))
theorem IntsIn.grown {lo hi : Nat} {w w' : World} {v : Value} {l : List Int} {row : Option Nat} (h : IntsIn lo hi w v l) (hg : w.grownBy w' row) (hr : ∀ g, row = some g → g < lo ∨ hi ≤ g) : IntsIn lo hi w' v l :=
  h.kept hg.size (fun g h1 h2 h3 => hg.block g h3 (fun e => by have := hr g e.symm; omega))
theorem PartsIn.grown {lo hi : Nat} {w w' : World} {v : Value} {l : List (Int × Int)} {row : Option Nat} (h : PartsIn lo hi w v l) (hg : w.grownBy w' row) (hr : ∀ g, row = some g → g < lo ∨ hi ≤ g) : PartsIn lo hi w' v l :=
  h.kept hg.size (fun g h1 h2 h3 => hg.block g h3 (fun e => by have := hr g e.symm; omega))

theorem part_neq (a1 a2 : Int) (w : World) : (binOp .neq 48 (.agg #[.int .i64 a1, .int .i64 a2]) (.agg #[.int .i64 a1, .int .i64 a2])).run Tryz.prog w = .ok (.bool false) w := by
  have u3 := Tryz.underlying3
  have a3 := Tryz.isAgg3
  have z3 := Tryz.sizeOf3
  have hS : Tryz.prog.underlying 48 = some (.struct (Tryz.prog.fieldsOf 48)) := by kernel_rfl
  have hp : Tryz.prog.stoodInHeld 48 = false := by kernel_rfl
  rw [run_neq_struct, show (10000 : Nat) = 9999 + 1 from rfl, run_equalIn_agg w 9999 48 _ _ hS hp]
  simp only [Program.fieldsOf, Tryz.underlying48]
  go_simp

set_option maxHeartbeats 1000000 in
theorem sameParts_same {lo lo' : Nat} {w : World} {v v' : Value} {l : List (Int × Int)} (hm : l.length ≤ maxLen) (h : PartsV lo w v l) (h' : PartsV lo' w v' l) :
    Calls Tryz.prog 7 #[v, v'] w fun e w' => e = .returned (.bool true) ∧ Quiet w w' := by
  unfold maxLen at hm
  obtain ⟨n, hn⟩ : ∃ n, l.length = n := ⟨_, rfl⟩
  obtain ⟨a, c, rfl, hf⟩ := h.form hn
  obtain ⟨a', c', rfl, hf'⟩ := h'.form hn
  have HN := hide hn
  have HF := hide hf
  have HF' := hide hf'
  rw [hn] at hm
  clear h h' hn hf hf'
  have b0 : ((n : Int) != (n : Int)) = false := by simp
  go_enter Tryz.func7, Tryz.ntmps7
  go_wp2
  go_loopw [5] (fun i wr => ∃ k : Nat, k ≤ n ∧ i = .int .i64 k ∧ Hid (Quiet w wr)) (fun i _ => n - (intOf i).toNat)
  case atStart => exact ⟨0, Nat.zero_le _, rfl, Quiet.refl w⟩
  case round =>
    obtain ⟨k, hk, rfl, HQ⟩ := hrel
    by_cases hlt : k < n
    · obtain ⟨q, rfl, hq0, hq⟩ := HF.out (by omega)
      obtain ⟨q', rfl, hq0', hq'⟩ := HF'.out (by omega)
      obtain ⟨x, hx⟩ : ∃ x, l[k]? = some x := ⟨_, List.getElem?_eq_getElem (by rw [HN.out]; exact hlt)⟩
      obtain ⟨g1, g2⟩ := encZ_get l k x hx
      have d1 := ((HQ.out.cells hq) _ _ g1).1
      have d2 := ((HQ.out.cells hq) _ _ g2).1
      have d3 := ((HQ.out.cells hq') _ _ g1).1
      have d4 := ((HQ.out.cells hq') _ _ g2).1
      obtain ⟨x1, hx1⟩ : ∃ y, y = x.1 := ⟨_, rfl⟩
      obtain ⟨x2, hx2⟩ : ∃ y, y = x.2 := ⟨_, rfl⟩
      rw [← hx1] at d1 d3
      rw [← hx2] at d2 d4
      have hne := part_neq x1 x2
      have hgd : ∀ (op : BinOp) (a b : Operand) (w : World), (eqGuard op 48 a b (.agg #[.int .i64 x1, .int .i64 x2]) (.agg #[.int .i64 x1, .int .i64 x2])).run Tryz.prog w = .ok () w := fun op a b w => run_eqGuard_agg w op 48 a b _ _ (by kernel_rfl)
      have i0 : (0 : Int) ≤ (k : Int) := by omega
      have i1 : (k : Int) < (n : Int) := by omega
      clear hx g1 g2 hx1 hx2
      go_wp2
      go_quiet (fail)
      go_wp2
      go_roundw
      case rel => exact ⟨k + 1, by omega, by go_num, HQ.out.trans (Quiet.drewN _)⟩
      case measure => simp [intOf]; omega
    · go_wp2
      go_ret
      exact ⟨rfl, HQ.out⟩
end Go.Proofs.YteibopcneflidabGreatDoor
