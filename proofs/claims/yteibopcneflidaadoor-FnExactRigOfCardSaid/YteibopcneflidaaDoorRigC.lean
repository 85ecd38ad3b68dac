/- THE PARTS OF A HIGH ROW ARE A RIGGED PARTITION. Pure: no walk. -/
import Derived.Test.YteibopcneflidaaDoorRig7
namespace Go.Proofs.YteibopcneflidaaDoor
open Go.RowKit

theorem rvB_length (s : ByteArray) : (rvB s).length = s.size := by unfold rvB; rw [List.length_reverse, length_bits]
theorem levOk_iff (s : ByteArray) : levOk s = true ↔ vld s = true ∧ tl (bits s) = s.size := by unfold levOk; simp
theorem mem_sizes {l : List (Int × Int)} (h : ∀ a ∈ l, 1 ≤ a.1) : (l.length : Int) ≤ pSizes l ∧ ∀ a ∈ l, a.1 ≤ pSizes l := by
  induction l with
  | nil => exact ⟨Int.le_refl _, fun a ha => by cases ha⟩
  | cons x l ih =>
    obtain ⟨i1, i2⟩ := ih (fun a ha => h a (List.mem_cons_of_mem _ ha))
    have hx := h x (List.mem_cons_self ..)
    have e : pSizes (x :: l) = x.1 + pSizes l := by unfold pSizes; simp
    rw [e]
    refine ⟨by simp; omega, fun a ha => ?_⟩
    rcases List.mem_cons.1 ha with rfl | ha
    · omega
    · have := i2 a ha; omega
theorem rc_in {p : List Bool} (h : kHi p) (hl : p.length ≤ 120) : rgFits (kRc p) p.length = true ∧ ∀ a ∈ kRc p, a.2 ≤ 120 := by
  have hp := (kInv_of p h).part
  have hb := kHi_bal h
  rw [kBal_rc] at hb
  obtain ⟨m1, m2⟩ := mem_sizes (fun a ha => (hp a ha).1)
  have hr : ∀ a ∈ kRc p, a.2 ≤ 120 := fun a ha => by
    have h1 := (hp a ha).2.2
    have h2 := room_le (kRc p) p.length a.1 (by have := (hp a ha).1; omega) (fun a ha => (hp a ha).1)
    omega
  refine ⟨(rgFits_iff _ _).2 ⟨(rgIn_iff _).2 ⟨fun a ha => ?_, kRc_sorted p, by omega⟩, by omega, fun a ha => (hp a ha).2.2⟩, hr⟩
  have := hp a ha
  have := m2 a ha
  have := hr a ha
  omega
theorem rc_next {l : List Bool} {k : Nat} {b : Bool} (h : l[k]? = some b) : (l.take (k + 1)).reverse = b :: (l.take k).reverse := by
  obtain ⟨hk, e⟩ := List.getElem?_eq_some_iff.1 h
  rw [List.take_succ_eq_append_getElem hk, List.reverse_append, e]
  rfl
theorem kHi_take {l : List Bool} (h : kHi l.reverse) (k : Nat) (hk : k ≤ l.length) : kHi (l.take k).reverse := by
  rw [kHi_lev l k hk]
  have := (kHi_lev l l.length (Nat.le_refl _)).1 (by rw [List.take_length]; exact h)
  exact fun j hj => this j (by omega)
end Go.Proofs.YteibopcneflidaaDoor
