/- THE WALKS of RowAt, of the model and of the program, and of its exact law. -/
import Derived.Test.YtaonngmjfemadabCollect
namespace Go.Proofs.Ytaonngmjfemadab
open Go.RowKit

def posI (l : List Bool) : List Int := (pos l).map fun (j : Nat) => (j : Int)
def atR (s : ByteArray) : List Int := if vld s then posI (bits s) else []
theorem posI_map (l : List Bool) : (posI l).map (Value.int .i64) = (pos l).map fun (j : Nat) => Value.int .i64 (j : Int) := by unfold posI; rw [List.map_map]; rfl
theorem pos_pad (l : List Bool) (n : Nat) : pos (l ++ List.replicate n false) = pos l := by
  unfold pos posU
  rw [List.length_append, List.length_replicate, List.range_add, List.filter_append]
  have h2 : ((List.range n).map (l.length + ·)).filter (fun j => (l ++ List.replicate n false)[j]?.getD false) = [] := by
    rw [List.filter_eq_nil_iff]
    intro a ha
    obtain ⟨i, hi, rfl⟩ := List.mem_map.1 ha
    rw [List.getElem?_append_right (by omega)]
    simp [List.getElem?_replicate]
    split <;> simp
  rw [h2, List.append_nil]
  apply List.filter_congr
  intro j hj
  rw [List.getElem?_append_left (by simpa using hj)]
theorem pos_cut (l : List Bool) : pos (cut l) = pos l := by
  obtain ⟨n, hn⟩ := cut_eq l
  have h := pos_pad (cut l) n
  rw [← hn] at h
  exact h.symm
theorem pos_len (l : List Bool) : (pos l).length ≤ l.length := posU_le l l.length

set_option maxHeartbeats 400000 in
theorem implRowAt_any (s : ByteArray) (w : World) (hs : s.size ≤ maxLen) :
    Calls Try.prog 23 #[.string s] w fun e w' => ∃ v, e = .returned (.tuple #[v, .bool (vld s)]) ∧ IntsV w.heap.size w' v (atR s) ∧ Below w.heap.size w w' := by
  unfold atR
  cases hv : vld s
  · go_enter Try.func23, Try.ntmps23
    go_wp2_with (go_at_call 31; refine (readRow_no _ _ hs hv).mono ?_; rintro e w' ⟨rfl, rfl⟩)
    go_ret2
    exact ⟨_, rfl, .inl ⟨_, _, rfl, rfl⟩, Below.refl _ _⟩
  · have h120 := vld_le s hv
    have hle := tl_le (bits s)
    rw [length_bits] at hle
    have C1 := hide (fun w => readRow_yes s w hv)
    have HC := hide (cut_length (bits s))
    have HM := hide (cut_map (bits s))
    have HN := hide (pos_cut (bits s))
    obtain ⟨t, ht⟩ : ∃ t, t = tl (bits s) := ⟨_, rfl⟩
    rw [← ht] at hle C1 HC HM
    clear ht
    go_enter Try.func23, Try.ntmps23
    go_wp2_with fail
    refine (C1.out _).mono ?_
    rintro e w1 ⟨rfl, hb1, hc1, hz1⟩
    go_wp2_with fail
    refine (balls_any _ t s.size w1).mono ?_
    rintro e w2 ⟨rfl, rfl⟩
    go_wp2_with fail
    have hnew : (w1.alloc (.cells #[.slice (some ⟨w.heap.size, 0, none⟩) t s.size] 44)).cell? ⟨w1.heap.size, 0, none⟩ = some (.slice (some ⟨w.heap.size, 0, none⟩) t s.size) := (Boxed.new w1 44 _).cell
    refine (collect_any w1.heap.size w.heap.size t s.size (cut (bits s)) HC.out (by omega) _ (by simp) hnew ((show CellsAt w1 w.heap.size ((cut (bits s)).map .bool) by rw [HM.out]; exact hc1.take t).alloc _)).mono ?_
    rintro e w3 ⟨v, rfl, ho, hb3⟩
    clear hnew
    rw [HN.out, ← posI_map] at ho
    go_wp2_with fail
    go_ret2
    have hb2 := hb1.alloc (Nat.le_of_lt hz1) (.cells #[.slice (some ⟨w.heap.size, 0, none⟩) t s.size] 44)
    exact ⟨_, rfl, (IntsV.of_owns ho).mono hb2.size, hb2.trans (hb3.mono hb2.size)⟩

theorem atR_len (s : ByteArray) : (atR s).length ≤ 120 := by
  unfold atR
  cases h : vld s
  · simp
  · have := vld_le s h
    have h2 := pos_len (bits s)
    rw [length_bits] at h2
    simp [posI]; omega

end Go.Proofs.Ytaonngmjfemadab
