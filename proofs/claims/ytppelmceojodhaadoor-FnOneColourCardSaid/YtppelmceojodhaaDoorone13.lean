/- TEXTS SCol5, SCol6. -/
import Derived.Test.YtppelmceojodhaaDoorone11
import Derived.Test.YtppelmceojodhaaDoorone02
/- THE WALKS of the model's ColourCounts and ColourPlain. -/
namespace Go.Proofs.YtppelmceojodhaaDoor
open Go.RowKit Go.Lib

/-- ColourCounts -/
def ccT (l : List UInt8) : List Int := [(l.count 49 : Int), (l.count 50 : Int), (l.count 51 : Int)]
def ccL (s : ByteArray) : List Int := if cIn s then ccT (lst s) else []
theorem ccL_in {s : ByteArray} (h : cIn s = true) : ccL s = ccT (lst s) := by unfold ccL; rw [if_pos h]
theorem ccL_length (s : ByteArray) : (ccL s).length ≤ 3 := by
  unfold ccL
  split
  · exact Nat.le_refl _
  · exact Nat.zero_le _
theorem count_next {l : List UInt8} {k : Nat} {y : UInt8} (h : l[k]? = some y) (d : UInt8) : (l.take (k + 1)).count d = (l.take k).count d + if y = d then 1 else 0 := by
  rw [(take_one h).1, List.count_append, List.count_cons, List.count_nil]
  simp
theorem ccT_none {l : List UInt8} {k : Nat} (h : l[k]? = some 48) : ccT (l.take (k + 1)) = ccT (l.take k) := by
  unfold ccT
  rw [count_next h, count_next h, count_next h]
  rfl
theorem ccT_one {l : List UInt8} {k : Nat} (h : l[k]? = some 49) : ccT (l.take (k + 1)) = (ccT (l.take k)).set 0 (((l.take k).count 49 : Int) + 1) := by
  unfold ccT
  rw [count_next h, count_next h, count_next h]
  rfl
theorem ccT_two {l : List UInt8} {k : Nat} (h : l[k]? = some 50) : ccT (l.take (k + 1)) = (ccT (l.take k)).set 1 (((l.take k).count 50 : Int) + 1) := by
  unfold ccT
  rw [count_next h, count_next h, count_next h]
  rfl
theorem ccT_three {l : List UInt8} {k : Nat} (h : l[k]? = some 51) : ccT (l.take (k + 1)) = (ccT (l.take k)).set 2 (((l.take k).count 51 : Int) + 1) := by
  unfold ccT
  rw [count_next h, count_next h, count_next h]
  rfl
theorem infoI64 : (Tryd.prog.info? 3).map (fun i => (i.zero, i.size, i.bytes)) = some (some (.int .i64 0), 1, 8) := by kernel_rfl

end Go.Proofs.YtppelmceojodhaaDoor

/- THE WALK of the model's ColourPlain. -/
namespace Go.Proofs.YtppelmceojodhaaDoor
open Go.RowKit Go.Lib

/-- a box with a ball of the colour or a greater one -/
def plB (c : Int) (x : UInt8) : Bool := decide (c ≤ (x.toNat : Int) - 48)
def plL (c : Int) (l : List UInt8) : List Bool := l.map (plB c)
def cpOk (s : ByteArray) (c : Int) : Bool := cIn s && c3 c
def cpS (s : ByteArray) (c : Int) : ByteArray := if cpOk s c then ofL (chC 49 (cut (plL c (lst s)))) else ByteArray.empty
theorem plL_next {l : List UInt8} {k : Nat} {y : UInt8} (h : l[k]? = some y) (c : Int) : chC 49 (plL c (l.take (k + 1))) = chC 49 (plL c (l.take k)) ++ [if plB c y then 49 else 48] := by
  unfold chC plL
  rw [(take_one h).1, List.map_append, List.map_append]
  rfl
theorem lst_push (x t : ByteArray) : lst (x ++ t) = lst x ++ lst t := by unfold lst; rw [ByteArray.data_append, Array.toList_append]

end Go.Proofs.YtppelmceojodhaaDoor
