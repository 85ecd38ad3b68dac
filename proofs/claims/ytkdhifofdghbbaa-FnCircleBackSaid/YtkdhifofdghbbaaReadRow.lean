/- THE WALKS of readRow and of its method tidy. -/
import Derived.Test.YtkdhifofdghbbaaValid
import Derived.Test.YtkdhifofdghbbaaCells
namespace Go.Proofs.Ytkdhifofdghbbaa
open Go.RowKit

theorem ret_slice {a : Option Addr} {n m c : Nat} (h : n = m) : Ending.returned (.slice a n c) = .returned (.slice a m c) := by rw [h]

set_option maxHeartbeats 400000 in
theorem tidy_g (x : Option Addr) (g n cap : Nat) (l : List Bool) (w : World) (hx : 0 < n → x = some ⟨g, 0, none⟩) (hl : l.length = n) (hc : CellsAt w g (l.map .bool)) (hn : n ≤ cap) (hm : cap ≤ maxLen) :
    Calls Try.prog 60 #[.slice x n cap] w fun e w' => e = .returned (.slice x (tl l) cap) ∧ w = w' := by
  unfold maxLen at hm
  have HL := hide hl
  have HC := hide hc
  clear hl hc
  go_enter Try.func60, Try.ntmps60
  go_wp2
  go_loop [3] (fun i => ∃ k : Nat, k ≤ n ∧ i = .int .i64 k ∧ Hid (tl (l.take k) = tl l)) (fun i => (intOf i).toNat)
  case atStart => exact ⟨n, Nat.le_refl _, rfl, by rw [List.take_of_length_le (by rw [HL.out]; exact Nat.le_refl _)]; rfl⟩
  case round =>
    obtain ⟨k, hk, rfl, HT⟩ := hrel
    by_cases hk0 : k = 0
    · subst hk0
      go_wp2
      go_ret
      exact ⟨ret_slice (by rw [← HT.out]; rfl), rfl⟩
    · obtain ⟨j, rfl⟩ : ∃ j, k = j + 1 := ⟨k - 1, by omega⟩
      have hj : j < l.length := by rw [HL.out]; omega
      obtain rfl := hx (by omega)
      cases hb : l[j]? with
      | none => rw [List.getElem?_eq_none_iff] at hb; omega
      | some b =>
        have hcell : w.cell? ⟨g, j, none⟩ = some (.bool b) := (HC.out j (.bool b) (by simp [hb])).1
        have HB := hide hb
        have HJ := hide hj
        clear hb hj
        cases b
        · go_wp2
          go_round
          case rel => exact ⟨j, by omega, rfl, (tl_take_pred l j HJ.out HB.out).symm.trans HT.out⟩
          case measure => simp [intOf]
        · go_wp2
          go_ret
          exact ⟨ret_slice (by rw [← HT.out, tl_take_stop l j HJ.out HB.out]), rfl⟩

theorem tidy_any (g n cap : Nat) (l : List Bool) (w : World) (hl : l.length = n) (hc : CellsAt w g (l.map .bool)) (hn : n ≤ cap) (hm : cap ≤ maxLen) :
    Calls Try.prog 60 #[.slice (some ⟨g, 0, none⟩) n cap] w fun e w' => e = .returned (.slice (some ⟨g, 0, none⟩) (tl l) cap) ∧ w = w' :=
  tidy_g _ g n cap l w (fun _ => rfl) hl hc hn hm

theorem infoB : (Try.prog.info? 4).map (fun i => (i.zero, i.size, i.bytes)) = some (some (.bool false), 1, 1) := by kernel_rfl

theorem vld_len (s : ByteArray) (h : vld s = true) : s.size ≤ 120 := by
  unfold vld at h; simp at h; exact h.2

set_option maxHeartbeats 400000 in
theorem readRow_no (s : ByteArray) (w : World) (hs : s.size ≤ maxLen) (hv : vld s = false) :
    Calls Try.prog 41 #[.string s] w fun e w' => e = .returned (.tuple #[.slice none 0 0, .bool false]) ∧ w = w' := by
  go_enter Try.func41, Try.ntmps41
  go_wp2_with (go_at_call 33; refine (implRowValid_any _ _ hs).mono ?_; rintro e w' ⟨rfl, rfl⟩)
  go_ret2
  exact ⟨rfl, rfl⟩

set_option maxHeartbeats 400000 in
theorem readRow_yes (s : ByteArray) (w : World) (hv : vld s = true) :
    Calls Try.prog 41 #[.string s] w fun e w' => e = .returned (.tuple #[.slice (some ⟨w.heap.size, 0, none⟩) (tl (bits s)) s.size, .bool true]) ∧
      Below w.heap.size w w' ∧ CellsAt w' w.heap.size ((bits s).map .bool) ∧ w.heap.size < w'.heap.size := by
  have h120 := vld_len s hv
  have hs : s.size ≤ maxLen := by unfold maxLen; omega
  obtain ⟨i0, hi, hz0, hz1, hz2⟩ := info_parts infoB
  go_enter Try.func41, Try.ntmps41
  go_wp2_with (first | (go_at_call 33; refine (implRowValid_any _ _ hs).mono ?_; rintro e w' ⟨rfl, rfl⟩) | (at_make; refine wpList_make_full _ rfl _ _ 47 rfl w.heap.size 4 i0 (.bool false) 1 Try.underlying47 hi hz0 hz1 _ _ _ _ s.size rfl rfl rfl rfl ?b2 ?b3 ?b4 ?_; rotate_right; intro w1 hown hgrow))
  case b2 => rw [hz2]; omega
  case b3 => exact hs
  case b4 => exact Nat.le_refl _
  rw [madeB] at hown
  have hb1 : Below w.heap.size w w1 := (Below.refl _ _).grown hgrow (Nat.le_refl _) (fun k e => by cases e)
  have hz : w.heap.size < w1.heap.size := (hown.lt _ rfl).2
  have hc1 := CellsAt.of_owns hown
  clear hown hgrow
  obtain ⟨g, hg⟩ : ∃ g, w.heap.size = g := ⟨_, rfl⟩
  rw [hg] at hb1 hz hc1 ⊢
  have HG := hide hg
  clear hg
  go_loopw [14] (fun i wr => ∃ k : Nat, k ≤ s.size ∧ i = .int .i64 k ∧ Below g w wr ∧ g < wr.heap.size ∧ ∃ xs : List Bool, Hid (xs.length = s.size) ∧ Hid (xs.take k = (bits s).take k) ∧ CellsAt wr g (xs.map .bool)) (fun i _ => s.size - (intOf i).toNat)
  case atStart => exact ⟨0, Nat.zero_le _, rfl, hb1, hz, List.replicate s.size false, by simp [Hid], rfl, hc1⟩
  case round =>
    obtain ⟨k, hk, rfl, hbr, hzr, xs, HX, HT, hcr⟩ := hrel
    have HC := hide hcr
    clear hcr hc1 hb1 hz
    by_cases hlt : k < s.size
    · obtain ⟨x, hx⟩ : ∃ x, xs[k]? = some x := ⟨_, List.getElem?_eq_getElem (by rw [HX.out]; omega)⟩
      obtain ⟨hcell, hfr⟩ := HC.out k (.bool x) (by simp [hx])
      have HE := hide hx
      clear hx
      go_wp2
      go_roundw
      case rel =>
        refine ⟨k + 1, by omega, by go_num, hbr.setCell (Nat.le_refl _) _, by simpa [World.setCell] using hzr, xs.set k (s[k] == 49), by simp [Hid, HX.out], ?_, ?_⟩
        · exact bits_step s xs k hlt HX.out HT.out
        · have := HC.out.set k (by simp [HX.out, hlt]) (.bool (s[k] == 49))
          rw [← bit_int, List.map_set]; exact this
      case measure => simp [intOf]; omega
    · have hxs : xs = bits s := by
        have := HT.out
        rw [List.take_of_length_le (by rw [HX.out]; omega), List.take_of_length_le (by rw [length_bits]; omega)] at this
        exact this
      subst hxs
      go_wp2_with (go_at_call 60; refine (tidy_any _ _ _ _ _ HX.out HC.out (Nat.le_refl _) hs).mono ?_; rintro e w' ⟨rfl, rfl⟩)
      go_ret2
      have hg := HG.out
      subst hg
      exact ⟨rfl, hbr, HC.out, hzr⟩
end Go.Proofs.Ytkdhifofdghbbaa
