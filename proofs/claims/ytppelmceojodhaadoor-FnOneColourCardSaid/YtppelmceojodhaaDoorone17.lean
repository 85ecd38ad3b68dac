/- TEXTS Collect. -/
import Derived.Test.YtppelmceojodhaaDoorone06
import Derived.Test.YtppelmceojodhaaDoorone16
import Derived.Maps.AppendAt
/- slices.Collect over the balls of a row: the indexes, in ascending order, in memory of its own. -/
namespace Go.Proofs.YtppelmceojodhaaDoor
open Go.RowKit Go.Shelf

attribute [local go_sem] Oper.semAt_some

theorem balls_any (a : Option Addr) (len cap : Nat) (w : World) :
    Calls Tryd.prog 36 #[.slice a len cap] w fun e w' => e = .returned (.func (.func 50) #[] #[.pointer (some ⟨w.heap.size, 0, none⟩)]) ∧ w' = w.alloc (.cells #[.slice a len cap] 54) :=
  callsIn_wide.1 (balls_in Fence.wide 1 trivial rfl a len cap w)
end Go.Proofs.YtppelmceojodhaaDoor

/- THE WALKS of RowAt, of the model and of the program, and of its exact law. -/
namespace Go.Proofs.YtppelmceojodhaaDoor
open Go.RowKit

def posI (l : List Bool) : List Int := (pos l).map fun (j : Nat) => (j : Int)
def atR (s : ByteArray) : List Int := if vld s then posI (bits s) else []
theorem posI_map (l : List Bool) : (posI l).map (Value.int .i64) = (pos l).map fun (j : Nat) => Value.int .i64 (j : Int) := by unfold posI; rw [List.map_map]; rfl
theorem pos_pad (l : List Bool) (n : Nat) : pos (l ++ List.replicate n false) = pos l := by
  unfold pos posU
  rw [List.length_append, List.length_replicate, List.range_add, List.filter_append]
  have h2 : ((List.range n).map (l.length + ·)).filter (fun j => (l ++ List.replicate n false)[j]?.getD false) = [] := by
    rw [List.filter_eq_nil_iff]
    intro a ha
    obtain ⟨i, hi, rfl⟩ := List.mem_map.1 ha
    rw [List.getElem?_append_right (by omega)]
    simp [List.getElem?_replicate]
    split <;> simp
  rw [h2, List.append_nil]
  apply List.filter_congr
  intro j hj
  rw [List.getElem?_append_left (by simpa using hj)]
theorem pos_cut (l : List Bool) : pos (cut l) = pos l := by
  obtain ⟨n, hn⟩ := cut_eq l
  have h := pos_pad (cut l) n
  rw [← hn] at h
  exact h.symm
theorem pos_len (l : List Bool) : (pos l).length ≤ l.length := posU_le l l.length

theorem atR_len (s : ByteArray) : (atR s).length ≤ 120 := by
  unfold atR
  cases h : vld s
  · simp
  · have := vld_le s h
    have h2 := pos_len (bits s)
    rw [length_bits] at h2
    simp [posI]; omega

end Go.Proofs.YtppelmceojodhaaDoor
