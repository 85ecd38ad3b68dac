/- THE WALK of the model's ColourPlain. -/
import Derived.Test.YtppelmceojodhaaDoorSCol5
namespace Go.Proofs.YtppelmceojodhaaDoor
open Go.RowKit Go.Lib

/-- a box with a ball of the colour or a greater one -/
def plB (c : Int) (x : UInt8) : Bool := decide (c ≤ (x.toNat : Int) - 48)
def plL (c : Int) (l : List UInt8) : List Bool := l.map (plB c)
def cpOk (s : ByteArray) (c : Int) : Bool := cIn s && c3 c
def cpS (s : ByteArray) (c : Int) : ByteArray := if cpOk s c then ofL (chC 49 (cut (plL c (lst s)))) else ByteArray.empty
theorem plL_next {l : List UInt8} {k : Nat} {y : UInt8} (h : l[k]? = some y) (c : Int) : chC 49 (plL c (l.take (k + 1))) = chC 49 (plL c (l.take k)) ++ [if plB c y then 49 else 48] := by
  unfold chC plL
  rw [(take_one h).1, List.map_append, List.map_append]
  rfl
theorem lst_push (x t : ByteArray) : lst (x ++ t) = lst x ++ lst t := by unfold lst; rw [ByteArray.data_append, Array.toList_append]

end Go.Proofs.YtppelmceojodhaaDoor
