/- TEXTS Levels, L6In. -/
import Derived.Test.Ytlgceccbjkkeiabwax02
import Derived.Test.YtlgceccbjkkeiabChecked
import Derived.Test.Ytlgceccbjkkeiabwax01
/- THE WALKS of the levels, of the model and of the program. -/
namespace Go.Proofs.Ytlgceccbjkkeiab
open Go.RowKit

/-- the number of empty boxes among the first i ones, less that of balls -/
def levAt (l : List Bool) (i : Nat) : Int := (i : Int) - 2 * (nballs (l.take i) : Int)
def lev (l : List Bool) : List Int := (List.range (l.length + 1)).map (levAt l)
theorem levAt_succ (l : List Bool) (k : Nat) (b : Bool) (h : l[k]? = some b) : levAt l (k + 1) = levAt l k + if b then -1 else 1 := by
  unfold levAt; rw [nballs_snoc l k b h]; cases b <;> simp <;> omega
theorem levAt_zero (l : List Bool) : levAt l 0 = 0 := by simp [levAt, nballs]
theorem levAt_bd (l : List Bool) (k : Nat) : -(k : Int) ≤ levAt l k ∧ levAt l k ≤ k := by
  have := nballs_le l k; unfold levAt; omega
theorem lev_length (l : List Bool) : (lev l).length = l.length + 1 := by simp [lev]
theorem lev_getElem (l : List Bool) (k : Nat) (h : k ≤ l.length) : (lev l)[k]? = some (levAt l k) := by simp [lev, show k < l.length + 1 by omega]
theorem lev_take_succ (l : List Bool) (k : Nat) (h : k ≤ l.length) : (lev l).take (k + 1) = (lev l).take k ++ [levAt l k] := by
  have hb : k < (lev l).length := by rw [lev_length]; omega
  have e := lev_getElem l k h
  rw [List.getElem?_eq_getElem hb] at e
  simp only [Option.some.injEq] at e
  rw [List.take_succ_eq_append_getElem hb, e]

theorem infoI : (Try.prog.info? 3).map (fun i => (i.zero, i.size, i.bytes)) = some (some (.int .i64 0), 1, 8) := by kernel_rfl

theorem cell_one_new' (w : World) (v : Value) (t : TypeId) : ∀ j u, [v][j]? = some u → (w.alloc (.cells #[v] t)).cell? ((⟨w.heap.size, 0, none⟩ : Addr).add j) = some u := cell_one_new _ _ _

theorem lev_step (l : List Bool) (xs : List Int) (k : Nat) (h : k < l.length) (hx : xs.length = l.length + 1) (ht : xs.take (k + 1) = (lev l).take (k + 1)) (y : Int) (hy : levAt l (k + 1) = y) :
    (xs.set (k + 1) y).take (k + 1 + 1) = (lev l).take (k + 1 + 1) := by
  rw [lev_take_succ l (k + 1) (by omega), List.take_succ_eq_append_getElem (by simp; omega), List.take_set_of_le (Nat.le_refl _), ht, hy]; simp

end Go.Proofs.Ytlgceccbjkkeiab

/- THE WALKS of RowLevels, of the model and of the program, and of its exact law. -/
namespace Go.Proofs.Ytlgceccbjkkeiab
open Go.RowKit

/-- a row that is tidy -/
def levOk (s : ByteArray) : Bool := vld s && decide (tl (bits s) = s.size)
def levR (s : ByteArray) : List Int := if levOk s then lev (bits s) else []

theorem tidyS_self (s : ByteArray) (h : tl (bits s) = s.size) : tidyS s = s := by
  unfold tidyS; rw [h]; simp
theorem tidyS_size (s : ByteArray) : (tidyS s).size = tl (bits s) := by
  have := tl_le (bits s)
  rw [length_bits] at this
  unfold tidyS; simp; omega

theorem levR_len (s : ByteArray) : (levR s).length ≤ 121 := by
  unfold levR
  cases h : levOk s
  · simp
  · have : vld s = true := by unfold levOk at h; simp at h; exact h.1
    have := vld_le s this
    simp [lev_length, length_bits]; omega

end Go.Proofs.Ytlgceccbjkkeiab

/- THE WALK of the model's l6In. -/
namespace Go.Proofs.Ytlgceccbjkkeiab
open Go.RowKit

theorem l6In_any (n low high : Int) (b : Bool) (w : World) (hb : (decide (low ≤ n) && decide (n ≤ high)) = b) :
    Calls Try.prog 22 #[.int .i64 n, .int .i64 low, .int .i64 high] w fun e w' => e = .returned (.bool b) ∧ w = w' := by
  by_cases h1 : low ≤ n
  · by_cases h2 : n ≤ high
    · obtain rfl : true = b := by rw [← hb]; simp [h1, h2]
      clear hb
      go_enter Try.func22, Try.ntmps22
      go_wp2
      go_ret
      exact ⟨rfl, rfl⟩
    · obtain rfl : false = b := by rw [← hb]; simp [h2]
      clear hb
      go_enter Try.func22, Try.ntmps22
      go_wp2
      go_ret
      exact ⟨rfl, rfl⟩
  · obtain rfl : false = b := by rw [← hb]; simp [h1]
    clear hb
    go_enter Try.func22, Try.ntmps22
    go_wp2
    go_ret
    exact ⟨rfl, rfl⟩
end Go.Proofs.Ytlgceccbjkkeiab
