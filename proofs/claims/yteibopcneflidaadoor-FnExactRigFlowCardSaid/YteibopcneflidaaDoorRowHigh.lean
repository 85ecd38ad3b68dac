/- THE WALKS of RowHigh, of the model and of the program, and of its exact law. -/
import Derived.Test.YteibopcneflidaaDoorLevels
namespace Go.Proofs.YteibopcneflidaaDoor
open Go.RowKit

def nn (x : Int) : Bool := decide (0 ≤ x)
def highB (s : ByteArray) : Bool := levOk s && (levR s).all nn
theorem all_snoc (l : List Int) (k : Nat) (x : Int) (h : l[k]? = some x) : (l.take (k + 1)).all nn = ((l.take k).all nn && nn x) := by
  obtain ⟨hk, he⟩ := List.getElem?_eq_some_iff.1 h
  rw [List.take_succ_eq_append_getElem hk, List.all_append, he]; simp

theorem nn_min (x y : Int) : nn (if y < x then y else x) = (nn x && nn y) := by
  unfold nn; rw [Bool.eq_iff_iff]; simp; split <;> omega

set_option maxHeartbeats 400000 in
theorem specRowHigh_any (s : ByteArray) (w : World) (hs : s.size ≤ maxLen) :
    Calls Tryd.prog 40 #[.string s] w fun e w' => e = .returned (.bool (highB s)) ∧ Below w.heap.size w w' := by
  have hlen := levR_len s
  have C1 := hide (fun w => specRowLevels_any s w hs)
  obtain ⟨l, hl⟩ : ∃ l, l = levR s := ⟨_, rfl⟩
  obtain ⟨b, hb⟩ : ∃ b, b = levOk s := ⟨_, rfl⟩
  have HR : Hid (highB s = (b && l.all nn)) := by unfold highB; rw [hl, hb]; exact rfl
  rw [← hl, ← hb] at C1
  rw [← hl] at hlen
  clear hl hb hs
  go_enter Tryd.func40, Tryd.ntmps40
  go_wp2_with fail
  refine (C1.out _).mono ?_
  rintro e w1 ⟨v, rfl, hi, hb1⟩
  rcases hi with ⟨a, cap, rfl, rfl⟩ | ⟨g, cap, rfl, hcap, hlo, hlt, hc⟩
  · go_wp2_with fail
    go_loopw [4, 5] (fun o i wr => o = .bool b ∧ i = .int .i64 0 ∧ Hid (w1 = wr)) (fun _ _ _ => 0)
    case atStart => exact ⟨rfl, rfl, rfl⟩
    case round =>
      obtain ⟨rfl, rfl, HQ⟩ := hrel
      go_wp2
      go_ret
      have hw := HQ.out
      subst hw
      exact ⟨ret_bool (by rw [HR.out]; simp), hb1⟩
  · obtain ⟨n, hn⟩ : ∃ n, n = l.length := ⟨_, rfl⟩
    have HN := hide hn
    have HC := hide hc
    have HB := hide hb1
    rw [← hn] at hlen
    clear hn hc hb1 hlo hlt hcap
    go_wp2_with fail
    rw [← HN.out]
    go_loopw [4, 5] (fun o i wr => ∃ (k : Nat) (x : Bool), k ≤ n ∧ i = .int .i64 k ∧ o = .bool x ∧ Hid (x = (b && (l.take k).all nn)) ∧ Hid (w1 = wr)) (fun _ i _ => n - (intOf i).toNat)
    case atStart => exact ⟨0, b, Nat.zero_le _, rfl, rfl, by simp [Hid], rfl⟩
    case round =>
      obtain ⟨k, x, hk, rfl, rfl, HX, HQ⟩ := hrel
      by_cases hltk : k < n
      · obtain ⟨y, hy⟩ : ∃ y, l[k]? = some y := ⟨_, List.getElem?_eq_getElem (by rw [← HN.out]; exact hltk)⟩
        have hw := HQ.out
        subst hw
        have hcell := (HC.out k (.int .i64 y) (by simp [hy])).1
        have HA := hide (all_snoc l k y hy)
        clear hy
        cases x
        · go_wp2
          go_roundw
          case rel => exact ⟨k + 1, false, by omega, by go_num, rfl, by rw [HA.out, ← Bool.and_assoc, ← HX.out]; rfl, True.intro⟩
          case measure => simp [intOf]; omega
        · by_cases hy0 : 0 ≤ y
          · have HY := hide (show nn y = true by simp [nn, hy0])
            go_wp2
            go_roundw
            case rel => exact ⟨k + 1, true, by omega, by go_num, rfl, by rw [HA.out, ← Bool.and_assoc, ← HX.out, HY.out]; rfl, True.intro⟩
            case measure => simp [intOf]; omega
          · have HY := hide (show nn y = false by simp [nn]; omega)
            go_wp2
            go_roundw
            case rel => exact ⟨k + 1, false, by omega, by go_num, rfl, by rw [HA.out, ← Bool.and_assoc, ← HX.out, HY.out]; rfl, True.intro⟩
            case measure => simp [intOf]; omega
      · go_wp2
        go_ret
        have hw := HQ.out
        subst hw
        exact ⟨ret_bool (by rw [HR.out, HX.out, List.take_of_length_le (by rw [← HN.out]; omega)]), HB.out⟩

/-- slices.Min of a slice that is not empty: not less than 0 just where no number is -/
theorem min_any (g cap : Nat) (l : List Int) (w : World) (hl : 0 < l.length) (hm : l.length ≤ 1000) (hc : CellsAt w g (l.map (.int .i64))) :
    Calls Tryd.prog 52 #[.slice (some ⟨g, 0, none⟩) l.length cap] w fun e w' => ∃ m : Int, e = .returned (.int .i64 m) ∧ nn m = l.all nn ∧ w = w' := by
  obtain ⟨n, hn⟩ : ∃ n, n = l.length := ⟨_, rfl⟩
  have HN := hide hn
  have HC := hide hc
  rw [← hn] at hl hm ⊢
  obtain ⟨y0, hy0⟩ : ∃ y, l[0]? = some y := ⟨_, List.getElem?_eq_getElem (by rw [← HN.out]; exact hl)⟩
  have hcell0 := (HC.out 0 (.int .i64 y0) (by simp [hy0])).1
  have HA0 := hide (all_snoc l 0 y0 hy0)
  clear hn hc hy0
  go_enter Tryd.func52, Tryd.ntmps52
  go_wp2
  go_loop [3, 4] (fun m i => ∃ (k : Nat) (x : Int), 1 ≤ k ∧ k ≤ n ∧ i = .int .i64 k ∧ m = .int .i64 x ∧ Hid (nn x = (l.take k).all nn)) (fun _ i => n - (intOf i).toNat)
  case atStart => exact ⟨1, y0, by omega, by omega, rfl, rfl, by rw [HA0.out]; simp [Hid]⟩
  case round =>
    obtain ⟨k, x, hk1, hk, rfl, rfl, HX⟩ := hrel
    by_cases hltk : k < n
    · obtain ⟨y, hy⟩ : ∃ y, l[k]? = some y := ⟨_, List.getElem?_eq_getElem (by rw [← HN.out]; exact hltk)⟩
      have hcell := (HC.out k (.int .i64 y) (by simp [hy])).1
      have HA := hide (all_snoc l k y hy)
      clear hy
      go_wp2
      go_round
      case rel => exact ⟨k + 1, if y < x then y else x, by omega, by omega, by go_num, rfl, by rw [HA.out, ← HX.out]; exact nn_min x y⟩
      case measure => simp [intOf]; omega
    · go_wp2
      go_ret
      exact ⟨x, rfl, by rw [HX.out, List.take_of_length_le (by rw [← HN.out]; omega)], rfl⟩

set_option maxHeartbeats 400000 in
theorem implRowHigh_any (s : ByteArray) (w : World) (hs : s.size ≤ maxLen) :
    Calls Tryd.prog 28 #[.string s] w fun e w' => e = .returned (.bool (highB s)) ∧ Below w.heap.size w w' := by
  have hlen := levR_len s
  have hpos : levOk s = true → 0 < (levR s).length := by
    intro h; simp [levR, h, lev_length]
  have C1 := hide (fun w => implRowLevels_any s w hs)
  obtain ⟨l, hl⟩ : ∃ l, l = levR s := ⟨_, rfl⟩
  obtain ⟨b, hb⟩ : ∃ b, b = levOk s := ⟨_, rfl⟩
  have HR : Hid (highB s = (b && l.all nn)) := by unfold highB; rw [hl, hb]; exact rfl
  rw [← hl, ← hb] at C1
  rw [← hl] at hlen
  rw [← hl, ← hb] at hpos
  clear hl hb hs
  cases b
  · clear hpos
    go_enter Tryd.func28, Tryd.ntmps28
    go_wp2_with (go_at_call 51; refine (C1.out _).mono ?_; rintro e w1 ⟨v, rfl, hi, hb1⟩)
    go_ret
    exact ⟨ret_bool (by rw [HR.out]; rfl), hb1⟩
  · have hq := hpos rfl
    clear hpos
    go_enter Tryd.func28, Tryd.ntmps28
    go_wp2_with fail
    refine (C1.out _).mono ?_
    rintro e w1 ⟨v, rfl, hi, hb1⟩
    rcases hi with ⟨a, cap, rfl, rfl⟩ | ⟨g, cap, rfl, hcap, hlo, hlt, hc⟩
    · simp at hq
    · go_wp2_with fail
      refine (min_any _ _ l _ hq (by omega) hc).mono ?_
      rintro e w2 ⟨m, rfl, hm, rfl⟩
      have HM := hide hm
      clear hm
      go_wp2_with fail
      go_ret
      exact ⟨ret_bool (by rw [HR.out, ← HM.out]; rfl), hb1⟩

end Go.Proofs.YteibopcneflidaaDoor
