/- TEXTS Step1, Step2. -/
import Derived.Test.Ytlgceccbjkkeiabwax01
import Derived.Test.Ytlgceccbjkkeiabwax07
import Derived.Test.Ytlgceccbjkkeiabwax08
import Derived.Test.Ytlgceccbjkkeiabwax06
/- A STEP OF A ROW AS A LIST; the walks of the model's l2Room and l2Step. -/
namespace Go.Proofs.Ytlgceccbjkkeiab
open Go.RowKit

/-- has box i of the row a ball? -/
def bx (l : List Bool) (i : Nat) : Bool := l[i]?.getD false
/-- the box at which the carrier is empty, at or behind the row's end -/
def fin (K : Nat) (l : List Bool) : Nat := l.length + ld K (bx l) l.length
/-- the first k boxes behind a step; the first k loads -/
def stpU (K : Nat) (f : Nat → Bool) (k : Nat) : List Bool := (List.range k).map (tr K f)
def ldsU (K : Nat) (f : Nat → Bool) (k : Nat) : List Int := (List.range k).map fun i => (ld K f i : Int)
def stp (K : Nat) (l : List Bool) : List Bool := stpU K (bx l) (fin K l)
def lds (K : Nat) (l : List Bool) : List Int := ldsU K (bx l) (fin K l + 1)

theorem bx_out (l : List Bool) (i : Nat) (h : l.length ≤ i) : bx l i = false := by unfold bx; rw [List.getElem?_eq_none_iff.2 h]; rfl
theorem bx_some (l : List Bool) (i : Nat) (b : Bool) (h : l[i]? = some b) : bx l i = b := by unfold bx; rw [h]; rfl
theorem stpU_length (K : Nat) (f : Nat → Bool) (k : Nat) : (stpU K f k).length = k := by simp [stpU]
theorem ldsU_length (K : Nat) (f : Nat → Bool) (k : Nat) : (ldsU K f k).length = k := by simp [ldsU]
theorem stpU_succ (K : Nat) (f : Nat → Bool) (k : Nat) : stpU K f (k + 1) = stpU K f k ++ [tr K f k] := by simp [stpU, List.range_succ]
theorem ldsU_succ (K : Nat) (f : Nat → Bool) (k : Nat) : ldsU K f (k + 1) = ldsU K f k ++ [(ld K f k : Int)] := by simp [ldsU, List.range_succ]
theorem ldsU_getElem (K : Nat) (f : Nat → Bool) (k i : Nat) (h : i < k) : (ldsU K f k)[i]? = some (ld K f i : Int) := by simp [ldsU, h]
theorem ldsU_take (K : Nat) (f : Nat → Bool) (k n : Nat) (h : n ≤ k) : (ldsU K f k).take n = ldsU K f n := by
  unfold ldsU; rw [← List.map_take, List.take_range, Nat.min_eq_left h]
theorem stpU_chars (K : Nat) (f : Nat → Bool) (k : Nat) : chars (stpU K f (k + 1)) = chars (stpU K f k) ++ [if tr K f k then 49 else 48] := by rw [stpU_succ]; simp [chars]
theorem bx_stp (K : Nat) (l : List Bool) (i : Nat) : bx (stp K l) i = tr K (bx l) i := by
  by_cases h : i < fin K l
  · simp [bx, stp, stpU, h]
  · rw [bx_out _ _ (by rw [stp, stpU_length]; omega)]
    have h1 := ld_tail (K := K) (f := bx l) (n := l.length) (fun j hj => bx_out l j hj) (i - l.length)
    unfold fin at h
    rw [show l.length + (i - l.length) = i by omega] at h1
    unfold tr
    rw [h1, bx_out l i (by omega), show ld K (bx l) l.length - (i - l.length) = 0 by omega]; rfl
theorem ld_fin (K : Nat) (l : List Bool) : ld K (bx l) (fin K l) = 0 := by
  unfold fin; rw [ld_tail (fun j hj => bx_out l j hj)]; omega
theorem fin_lt (K : Nat) (l : List Bool) (k : Nat) (hk : k ≤ fin K l) : k < fin K l ↔ (k < l.length ∨ 0 < ld K (bx l) k) := by
  by_cases h : k < l.length
  · unfold fin; omega
  · have h1 := ld_tail (K := K) (f := bx l) (n := l.length) (fun j hj => bx_out l j hj) (k - l.length)
    rw [show l.length + (k - l.length) = k by omega] at h1
    unfold fin at *; omega
theorem fin_le (K : Nat) (l : List Bool) : fin K l ≤ 2 * l.length := by have := ld_le_i K (bx l) l.length; unfold fin; omega
theorem tk_fin (K : Nat) (l : List Bool) : tk K (bx l) (fin K l) = tk K (bx l) l.length := by unfold fin; exact tk_tail (fun j hj => bx_out l j hj) _
theorem stp_length (K : Nat) (l : List Bool) : (stp K l).length = fin K l := stpU_length _ _ _
theorem lds_length (K : Nat) (l : List Bool) : (lds K l).length = fin K l + 1 := ldsU_length _ _ _

theorem box_take {K : Nat} {f : Nat → Bool} {k : Nat} (hf : f k = true) (hu : ld K f k < K) : tr K f k = false ∧ ld K f (k + 1) = ld K f k + 1 ∧ tk K f (k + 1) = tk K f k + 1 := by
  refine ⟨?_, ?_, ?_⟩
  · unfold tr ot; simp [hf, hu]
  · rw [ld_succ]; unfold nx; simp [hf, hu]
  · show tk K f k + _ = _; simp [hf, hu]
theorem box_full {K : Nat} {f : Nat → Bool} {k : Nat} (hf : f k = true) (hu : ¬ ld K f k < K) : tr K f k = true ∧ ld K f (k + 1) = ld K f k ∧ tk K f (k + 1) = tk K f k := by
  refine ⟨?_, ?_, ?_⟩
  · unfold tr ot; simp [hf]; omega
  · rw [ld_succ]; unfold nx; simp [hf, hu]
  · show tk K f k + _ = _; simp [hu]
theorem box_put {K : Nat} {f : Nat → Bool} {k : Nat} (hf : f k = false) (hu : 0 < ld K f k) : tr K f k = true ∧ ld K f (k + 1) = ld K f k - 1 ∧ tk K f (k + 1) = tk K f k := by
  refine ⟨?_, ?_, ?_⟩
  · unfold tr ot; simp [hf, hu]
  · rw [ld_succ]; unfold nx; simp [hf]
  · show tk K f k + _ = _; simp [hf]
theorem box_none {K : Nat} {f : Nat → Bool} {k : Nat} (hf : f k = false) (hu : ¬ 0 < ld K f k) : tr K f k = false ∧ ld K f (k + 1) = ld K f k ∧ tk K f (k + 1) = tk K f k := by
  refine ⟨?_, ?_, ?_⟩
  · unfold tr ot; simp [hf]; omega
  · rw [ld_succ]; unfold nx; simp [hf]; omega
  · show tk K f k + _ = _; simp [hf]

/-- a room in its range -/
def roomOk (room : Int) : Bool := decide (1 ≤ room) && decide (room ≤ 200)
/-- the loop of l2Step, between two boxes -/
def StepRel (s : ByteArray) (K B : Nat) (w : World) (o u v t i : Value) (wr : World) : Prop :=
  ∃ (x : ByteArray) (k : Nat), k ≤ fin K (bits s) ∧ i = .int .i64 (k : Int) ∧ o = .string x ∧ x.size = k ∧ u = .int .i64 (ld K (bx (bits s)) k : Int) ∧ t = .int .i64 (tk K (bx (bits s)) k : Int) ∧
    Hid (x.data.toList = chars (stpU K (bx (bits s)) k)) ∧ Hid (wr.ownsRow B 3 1 v k ((ldsU K (bx (bits s)) k).map (.int .i64))) ∧ Hid (Below B w wr) ∧ B ≤ wr.heap.size

theorem StepRel.next {s : ByteArray} {K B : Nat} {w w1 : World} {x : ByteArray} {k : Nat} {v' : Value} (hk : k < fin K (bits s)) (hx : x.size = k) (HX : Hid (x.data.toList = chars (stpU K (bx (bits s)) k)))
    (own : w1.ownsRow B 3 1 v' (k + 1) ((ldsU K (bx (bits s)) k).map (.int .i64) ++ [.int .i64 (ld K (bx (bits s)) k : Int)])) (hb : Below B w w1) (hsz : B ≤ w1.heap.size) (c : UInt8) (u t : Int)
    (hc : (if tr K (bx (bits s)) k then 49 else 48) = c) (hu : (ld K (bx (bits s)) (k + 1) : Int) = u) (ht : (tk K (bx (bits s)) (k + 1) : Int) = t) :
    StepRel s K B w (.string (x ++ ⟨#[c]⟩)) (.int .i64 u) v' (.int .i64 t) (.int .i64 ((k : Int) + 1)) w1 := by
  refine ⟨_, k + 1, by omega, by rw [show ((k : Int) + 1) = ((k + 1 : Nat) : Int) by omega], rfl, ?_, by rw [hu], by rw [ht], ?_, ?_, hb, hsz⟩
  · rw [ByteArray.size_append]; show x.size + 1 = _; omega
  · show (x ++ _).data.toList = _
    rw [ByteArray.data_append, Array.toList_append, HX.out, stpU_chars, hc]
  · rw [ldsU_succ, List.map_append]; exact own

theorem one_of_int (x : Int) : ∀ u ∈ [Value.int .i64 x], u.oneCell' = true := by intro u hu; simp at hu; subst hu; rfl

end Go.Proofs.Ytlgceccbjkkeiab

/- THE WALKS of the model's StepOf, StepTaken, StepLoads. -/
namespace Go.Proofs.Ytlgceccbjkkeiab
open Go.RowKit

/-- what StepOf answers -/
def stOk (s : ByteArray) (room : Int) : Bool := vld s && roomOk room && decide (tl (stp room.toNat (bits s)) ≤ 120)
def stS (s : ByteArray) (room : Int) : ByteArray := if stOk s room then ofBits (cut (stp room.toNat (bits s))) else ByteArray.empty
/-- what StepTaken answers -/
def tkOk (s : ByteArray) (room : Int) : Bool := vld s && roomOk room
def tkN (s : ByteArray) (room : Int) : Int := if tkOk s room then (tk room.toNat (bx (bits s)) s.size : Int) else 0
/-- what StepLoads answers -/
def ldOk (s : ByteArray) (room : Int) : Bool := vld s && decide (tl (bits s) = s.size) && roomOk room
def ldR (s : ByteArray) (room : Int) : List Int := if ldOk s room then ldsU room.toNat (bx (bits s)) (s.size + 1) else []

theorem room_nat {room : Int} (h : roomOk room = true) : ∃ K : Nat, room = (K : Int) ∧ 1 ≤ K ∧ K ≤ 200 ∧ room.toNat = K := by
  unfold roomOk at h; simp at h
  exact ⟨room.toNat, by omega, by omega, by omega, rfl⟩

/-- a text of a row that a step made -/
theorem stp_text {K : Nat} {l : List Bool} {x : ByteArray} (h : x.data.toList = chars (stp K l)) : allSgn x.data.toList = true ∧ bits x = stp K l ∧ tidyS x = ofBits (cut (stp K l)) ∧ x.size = fin K l := by
  have h1 : allSgn x.data.toList = true := by rw [h]; exact chars_sgn _
  have h2 := bits_chars _ x h
  refine ⟨h1, h2, by rw [← tidyS_eq x h1, h2], ?_⟩
  have := congrArg List.length h
  rw [chars_length, stp_length] at this
  exact this

theorem IntsV.some {lo : Nat} {w : World} {v : Value} {l : List Int} (h : IntsV lo w v l) (hl : 0 < l.length) : ∃ g cap, v = .slice (some ⟨g, 0, none⟩) l.length cap ∧ l.length ≤ cap ∧ lo ≤ g ∧ g < w.heap.size ∧ CellsAt w g (l.map (.int .i64)) := by
  rcases h with ⟨a, cap, rfl, rfl⟩ | h
  · simp at hl
  · exact h

end Go.Proofs.Ytlgceccbjkkeiab
