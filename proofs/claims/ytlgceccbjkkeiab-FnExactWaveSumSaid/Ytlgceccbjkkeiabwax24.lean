/- TEXTS Shape2. -/
import Derived.Test.Ytlgceccbjkkeiabwax21
import Derived.Test.Ytlgceccbjkkeiabwax05
/- THE WALKS of the model's l3Rounds, l3Shape, ShapeRounds, ShapeOf. -/
namespace Go.Proofs.Ytlgceccbjkkeiab
open Go.RowKit

theorem drop_two (l : List Bool) (k : Nat) (a b : Bool) (ha : l[k]? = some a) (hb : l[k + 1]? = some b) : l.drop k = a :: b :: l.drop (k + 2) := by
  obtain ⟨h1, e1⟩ := List.getElem?_eq_some_iff.1 ha
  obtain ⟨h2, e2⟩ := List.getElem?_eq_some_iff.1 hb
  rw [List.drop_eq_getElem_cons h1, List.drop_eq_getElem_cons h2, e1, e2]
theorem drop_one (l : List Bool) (k : Nat) (a : Bool) (ha : l[k]? = some a) : l.drop k = a :: l.drop (k + 1) := by
  obtain ⟨h1, e1⟩ := List.getElem?_eq_some_iff.1 ha
  rw [List.drop_eq_getElem_cons h1, e1]
theorem el_keep (a b : Bool) (t : List Bool) (h : (a && !b) = false) : el (a :: b :: t) = a :: el (b :: t) ∧ np (a :: b :: t) = np (b :: t) := by
  show (if a && !b then el t else a :: el (b :: t)) = _ ∧ (if a && !b then np t + 1 else np (b :: t)) = _
  rw [h]; exact ⟨rfl, rfl⟩
theorem el_step {l : List Bool} {k : Nat} {b : Bool} (hb : l[k]? = some b) (h : b = true → ∀ c, l[k + 1]? = some c → c = true) : el (l.drop k) = b :: el (l.drop (k + 1)) ∧ np (l.drop k) = np (l.drop (k + 1)) := by
  rw [drop_one l k b hb]
  cases hc : l[k + 1]? with
  | none => rw [List.drop_of_length_le (by have := List.getElem?_eq_none_iff.1 hc; omega)]; exact ⟨rfl, rfl⟩
  | some c =>
    rw [drop_one l (k + 1) c hc]
    apply el_keep
    cases b
    · rfl
    · rw [h rfl c hc]; rfl
theorem el_pair_step {l : List Bool} {k : Nat} (hb : l[k]? = some true) (hc : l[k + 1]? = some false) : el (l.drop k) = el (l.drop (k + 2)) ∧ np (l.drop k) = np (l.drop (k + 2)) + 1 := by
  rw [drop_two l k true false hb hc]; exact ⟨rfl, rfl⟩
theorem np_le (l : List Bool) : 2 * np l ≤ l.length := by have := el_length l; omega

/-- the loop over the signs of a round -/
def PairRel (s : ByteArray) (o n i : Value) : Prop :=
  ∃ (x : ByteArray) (c k : Nat), k ≤ s.size ∧ i = .int .i64 (k : Int) ∧ n = .int .i64 (c : Int) ∧ o = .string x ∧ x.size ≤ k ∧ c ≤ k ∧ Hid (el (bits s) = bits x ++ el ((bits s).drop k)) ∧ Hid (np (bits s) = c + np ((bits s).drop k)) ∧ Hid (allSgn x.data.toList = true)
theorem sgn48 (s : ByteArray) (k : Nat) (h : k < s.size) (g : allSgn s.data.toList = true) : ((s[k].toNat : Int) == 48) = !((s[k].toNat : Int) == 49) := by rw [sgn_bit s k h g, bit_int]
theorem bits_app (x y : ByteArray) : bits (x ++ y) = bits x ++ bits y := by unfold bits; rw [ByteArray.data_append, Array.toList_append, List.map_append]
theorem bits_sub (s : ByteArray) (k : Nat) (h : k < s.size) : bits (s.extract k (k + 1)) = [s[k] == 49] := by unfold bits; rw [sub_toList s k h]; rfl
theorem sgn_app {x y : ByteArray} (h1 : allSgn x.data.toList = true) (h2 : allSgn y.data.toList = true) : allSgn (x ++ y).data.toList = true := by
  unfold allSgn at *
  rw [ByteArray.data_append, Array.toList_append, List.all_append, h1, h2]; rfl
theorem sgn_sub {s : ByteArray} (k : Nat) (h : k < s.size) (g : allSgn s.data.toList = true) : allSgn (s.extract k (k + 1)).data.toList = true := by
  rw [sub_toList s k h]
  unfold allSgn at g ⊢
  rw [List.all_eq_true] at g
  have := g s[k] (List.getElem_mem (l := s.data.toList) (by simpa using h))
  simp [this]

/-- the loop over the rounds -/
def RoundRel (s0 : ByteArray) (B : Nat) (w : World) (sv v : Value) (wr : World) : Prop :=
  ∃ (s : ByteArray) (out : List Nat), sv = .string s ∧ s.size ≤ 240 ∧ nballs (bits s) + out.length ≤ 120 ∧ Hid (allSgn s.data.toList = true) ∧ Hid (Still (bits s)) ∧ Hid (rdB (bits s0) = out ++ rds (nballs (bits s)) (bits s)) ∧
    Hid (wr.ownsRow B 3 1 v out.length ((ni out).map (.int .i64))) ∧ Hid (Below B w wr) ∧ B ≤ wr.heap.size
def ballsOf : Value → Nat
  | .string s => nballs (bits s)
  | _ => 0

theorem rdB_bd (l : List Bool) : (rdB l).length ≤ nballs l ∧ ∀ x ∈ rdB l, x ≤ nballs l := by
  refine ⟨rds_len _ _, fun x hx => ?_⟩
  have := mem_le_sum _ x hx
  rw [rdB_total] at this
  exact this
/-- what ShapeRounds and ShapeOf answer -/
def rdR (s : ByteArray) : List Int := if vld s then ni (rdB (bits s)) else []
def shR (s : ByteArray) : List Int := if vld s then ni (shB3 (bits s)) else []

end Go.Proofs.Ytlgceccbjkkeiab
