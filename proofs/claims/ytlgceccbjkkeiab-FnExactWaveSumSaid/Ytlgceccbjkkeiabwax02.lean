/- TEXTS ReadRow, Ints, Spec1. -/
import Derived.Test.Ytlgceccbjkkeiabwax01
import Derived.Test.YtlgceccbjkkeiabChecked
import Derived.Deep.QuietTactic
import Derived.BigQuiet
/- THE WALKS of readRow and of its method tidy. -/
namespace Go.Proofs.Ytlgceccbjkkeiab
open Go.RowKit

theorem ret_slice {a : Option Addr} {n m c : Nat} (h : n = m) : Ending.returned (.slice a n c) = .returned (.slice a m c) := by rw [h]

set_option maxHeartbeats 400000 in
theorem tidy_g (x : Option Addr) (g n cap : Nat) (l : List Bool) (w : World) (hx : 0 < n → x = some ⟨g, 0, none⟩) (hl : l.length = n) (hc : CellsAt w g (l.map .bool)) (hn : n ≤ cap) (hm : cap ≤ maxLen) :
    Calls Try.prog 38 #[.slice x n cap] w fun e w' => e = .returned (.slice x (tl l) cap) ∧ w = w' := by
  unfold maxLen at hm
  have HL := hide hl
  have HC := hide hc
  clear hl hc
  go_enter Try.func38, Try.ntmps38
  go_wp2
  go_loop [3] (fun i => ∃ k : Nat, k ≤ n ∧ i = .int .i64 k ∧ Hid (tl (l.take k) = tl l)) (fun i => (Go.RowKit.intOf i).toNat)
  case atStart => exact ⟨n, Nat.le_refl _, rfl, by rw [List.take_of_length_le (by rw [HL.out]; exact Nat.le_refl _)]; rfl⟩
  case round =>
    obtain ⟨k, hk, rfl, HT⟩ := hrel
    by_cases hk0 : k = 0
    · subst hk0
      go_wp2
      go_ret
      exact ⟨ret_slice (by rw [← HT.out]; rfl), rfl⟩
    · obtain ⟨j, rfl⟩ : ∃ j, k = j + 1 := ⟨k - 1, by omega⟩
      have hj : j < l.length := by rw [HL.out]; omega
      obtain rfl := hx (by omega)
      cases hb : l[j]? with
      | none => rw [List.getElem?_eq_none_iff] at hb; omega
      | some b =>
        have hcell : w.cell? ⟨g, j, none⟩ = some (.bool b) := (HC.out j (.bool b) (by simp [hb])).1
        have HB := hide hb
        have HJ := hide hj
        clear hb hj
        cases b
        · go_wp2
          go_round
          case rel => exact ⟨j, by omega, rfl, (tl_take_pred l j HJ.out HB.out).symm.trans HT.out⟩
          case measure => simp [Go.RowKit.intOf]
        · go_wp2
          go_ret
          exact ⟨ret_slice (by rw [← HT.out, tl_take_stop l j HJ.out HB.out]), rfl⟩

theorem tidy_any (g n cap : Nat) (l : List Bool) (w : World) (hl : l.length = n) (hc : CellsAt w g (l.map .bool)) (hn : n ≤ cap) (hm : cap ≤ maxLen) :
    Calls Try.prog 38 #[.slice (some ⟨g, 0, none⟩) n cap] w fun e w' => e = .returned (.slice (some ⟨g, 0, none⟩) (tl l) cap) ∧ w = w' :=
  tidy_g _ g n cap l w (fun _ => rfl) hl hc hn hm

theorem infoB : (Try.prog.info? 4).map (fun i => (i.zero, i.size, i.bytes)) = some (some (.bool false), 1, 1) := by kernel_rfl

theorem vld_len (s : ByteArray) (h : vld s = true) : s.size ≤ 120 := by
  unfold vld at h; simp at h; exact h.2

set_option maxHeartbeats 400000 in
theorem readRow_no (s : ByteArray) (w : World) (hs : s.size ≤ maxLen) (hv : vld s = false) :
    Calls Try.prog 27 #[.string s] w fun e w' => e = .returned (.tuple #[.slice none 0 0, .bool false]) ∧ w = w' := by
  go_enter Try.func27, Try.ntmps27
  go_wp2_with (go_at_call 37; refine (implRowValid_any _ _ hs).mono ?_; rintro e w' ⟨rfl, rfl⟩)
  go_ret2
  exact ⟨rfl, rfl⟩

set_option maxHeartbeats 400000 in
theorem readRow_yes (s : ByteArray) (w : World) (hv : vld s = true) :
    Calls Try.prog 27 #[.string s] w fun e w' => e = .returned (.tuple #[.slice (some ⟨w.heap.size, 0, none⟩) (tl (bits s)) s.size, .bool true]) ∧
      Below w.heap.size w w' ∧ CellsAt w' w.heap.size ((bits s).map .bool) ∧ w.heap.size < w'.heap.size := by
  have h120 := vld_len s hv
  have hs : s.size ≤ maxLen := by unfold maxLen; omega
  obtain ⟨i0, hi, hz0, hz1, hz2⟩ := info_parts infoB
  go_enter Try.func27, Try.ntmps27
  go_wp2_with (first | (go_at_call 37; refine (implRowValid_any _ _ hs).mono ?_; rintro e w' ⟨rfl, rfl⟩) | (at_make; refine wpList_make_full _ rfl _ _ 44 rfl w.heap.size 4 i0 (.bool false) 1 Try.underlying44 hi hz0 hz1 _ _ _ _ s.size rfl rfl rfl rfl ?b2 ?b3 ?b4 ?_; rotate_right; intro w1 hown hgrow))
  case b2 => rw [hz2]; omega
  case b3 => exact hs
  case b4 => exact Nat.le_refl _
  rw [madeB] at hown
  have hb1 : Below w.heap.size w w1 := (Below.refl _ _).grown hgrow (Nat.le_refl _) (fun k e => by cases e)
  have hz : w.heap.size < w1.heap.size := (hown.lt _ rfl).2
  have hc1 := CellsAt.of_owns hown
  clear hown hgrow
  obtain ⟨g, hg⟩ : ∃ g, w.heap.size = g := ⟨_, rfl⟩
  rw [hg] at hb1 hz hc1 ⊢
  have HG := hide hg
  clear hg
  go_loopw [14] (fun i wr => ∃ k : Nat, k ≤ s.size ∧ i = .int .i64 k ∧ Below g w wr ∧ g < wr.heap.size ∧ ∃ xs : List Bool, Hid (xs.length = s.size) ∧ Hid (xs.take k = (bits s).take k) ∧ CellsAt wr g (xs.map .bool)) (fun i _ => s.size - (Go.RowKit.intOf i).toNat)
  case atStart => exact ⟨0, Nat.zero_le _, rfl, hb1, hz, List.replicate s.size false, by simp [Hid], rfl, hc1⟩
  case round =>
    obtain ⟨k, hk, rfl, hbr, hzr, xs, HX, HT, hcr⟩ := hrel
    have HC := hide hcr
    clear hcr hc1 hb1 hz
    by_cases hlt : k < s.size
    · obtain ⟨x, hx⟩ : ∃ x, xs[k]? = some x := ⟨_, List.getElem?_eq_getElem (by rw [HX.out]; omega)⟩
      obtain ⟨hcell, hfr⟩ := HC.out k (.bool x) (by simp [hx])
      have HE := hide hx
      clear hx
      go_wp2
      go_roundw
      case rel =>
        refine ⟨k + 1, by omega, by go_num, hbr.setCell (Nat.le_refl _) _, by simpa [World.setCell] using hzr, xs.set k (s[k] == 49), by simp [Hid, HX.out], ?_, ?_⟩
        · exact bits_step s xs k hlt HX.out HT.out
        · have := HC.out.set k (by simp [HX.out, hlt]) (.bool (s[k] == 49))
          rw [← bit_int, List.map_set]; exact this
      case measure => simp [Go.RowKit.intOf]; omega
    · have hxs : xs = bits s := by
        have := HT.out
        rw [List.take_of_length_le (by rw [HX.out]; omega), List.take_of_length_le (by rw [length_bits]; omega)] at this
        exact this
      subst hxs
      go_wp2_with (go_at_call 38; refine (tidy_any _ _ _ _ _ HX.out HC.out (Nat.le_refl _) hs).mono ?_; rintro e w' ⟨rfl, rfl⟩)
      go_ret2
      have hg := HG.out
      subst hg
      exact ⟨rfl, hbr, HC.out, hzr⟩
end Go.Proofs.Ytlgceccbjkkeiab

/- SLICES OF ints THAT A CALL MADE, and the walks of the laws' own helpers over them: eqIntS, sameInts, markIntS, heldIntS. -/
namespace Go.Proofs.Ytlgceccbjkkeiab
open Go.RowKit

/-- the value is a slice of these numbers: of length 0, or at the head of a block of its own from lo on -/
def IntsV (lo : Nat) (w : World) (v : Value) (l : List Int) : Prop :=
  (∃ a cap, v = .slice a 0 cap ∧ l = []) ∨ (∃ g cap, v = .slice (some ⟨g, 0, none⟩) l.length cap ∧ l.length ≤ cap ∧ lo ≤ g ∧ g < w.heap.size ∧ CellsAt w g (l.map (.int .i64)))

theorem IntsV.below {lo : Nat} {w w' : World} {v : Value} {l : List Int} (h : IntsV lo w v l) {B : Nat} (hb : Below B w w') (hB : w.heap.size ≤ B) : IntsV lo w' v l := by
  rcases h with h | ⟨g, cap, rfl, h1, h2, h3, h4⟩
  · exact .inl h
  · exact .inr ⟨g, cap, rfl, h1, h2, Nat.lt_of_lt_of_le h3 hb.size, h4.below hb (by omega)⟩
theorem IntsV.mono {lo lo' : Nat} {w : World} {v : Value} {l : List Int} (h : IntsV lo w v l) (hl : lo' ≤ lo) : IntsV lo' w v l := by
  rcases h with h | ⟨g, cap, rfl, h1, h2, h3, h4⟩
  · exact .inl h
  · exact .inr ⟨g, cap, rfl, h1, by omega, h3, h4⟩
theorem IntsV.of_owns {w : World} {base e n : Nat} {v : Value} {l : List Int} (h : w.ownsRow base e 1 v n (l.map (.int .i64))) : IntsV base w v l := by
  have hl : l.length = n := by have := h.1; simpa using this
  have hlt := h.lt
  rcases h.2 with ⟨rfl, rfl⟩ | ⟨g, cap, cur, rfl, hb, hg, hnc, hcm, hcs, htake⟩
  · exact .inl ⟨_, _, rfl, List.eq_nil_of_length_eq_zero hl⟩
  · exact .inr ⟨g, cap, by rw [hl], by omega, hb, (hlt g rfl).2, CellsAt.of_owns h⟩

/-- nothing has turned but the draws -/
def Quiet (w w' : World) : Prop := w'.heap.size = w.heap.size ∧ ∀ B, Below B w w'
theorem Quiet.refl (w : World) : Quiet w w := ⟨rfl, fun B => Below.refl B w⟩
theorem Quiet.drewN {w : World} (n : Nat) : Quiet w (w.drewN n) := ⟨rfl, fun _ => ⟨rfl, rfl, rfl, Nat.le_refl _, fun _ _ => rfl⟩⟩
theorem Quiet.trans {a b c : World} (h : Quiet a b) (k : Quiet b c) : Quiet a c := ⟨k.1.trans h.1, fun B => (h.2 B).trans (k.2 B)⟩
theorem Quiet.cells {w w' : World} (h : Quiet w w') {g : Nat} {l : List Value} (hc : CellsAt w g l) : CellsAt w' g l := hc.below (h.2 (g + 1)) (by omega)
theorem Quiet.ints {w w' : World} (h : Quiet w w') {lo : Nat} {v : Value} {l : List Int} (hc : IntsV lo w v l) : IntsV lo w' v l := hc.below (h.2 w.heap.size) (Nat.le_refl _)

/-- k, k + 1, .. -/
def marks (k : Int) (n : Nat) : List Int := (List.range n).map fun (j : Nat) => k + (j : Int)

set_option maxHeartbeats 400000 in
theorem eqIntS_two (g g' cap cap' : Nat) (l : List Int) (w : World) (hm : l.length ≤ maxLen) (hc : CellsAt w g (l.map (.int .i64))) (hc' : CellsAt w g' (l.map (.int .i64))) :
    Calls Try.prog 11 #[.slice (some ⟨g, 0, none⟩) l.length cap, .slice (some ⟨g', 0, none⟩) l.length cap'] w fun e w' => e = .returned (.bool true) ∧ Quiet w w' := by
  unfold maxLen at hm
  obtain ⟨n, hn⟩ : ∃ n, n = l.length := ⟨_, rfl⟩
  have HN := hide hn
  have HC := hide hc
  have HC' := hide hc'
  rw [← hn] at hm ⊢
  clear hn hc hc'
  go_enter Try.func11, Try.ntmps11
  go_wp2
  go_loopw [5] (fun i wr => ∃ k : Nat, k ≤ n ∧ i = .int .i64 k ∧ Hid (Quiet w wr)) (fun i _ => n - (Go.RowKit.intOf i).toNat)
  case atStart => exact ⟨0, Nat.zero_le _, rfl, Quiet.refl w⟩
  case round =>
    obtain ⟨k, hk, rfl, HQ⟩ := hrel
    by_cases hlt : k < n
    · obtain ⟨x, hx⟩ : ∃ x, l[k]? = some x := ⟨_, List.getElem?_eq_getElem (by rw [← HN.out]; exact hlt)⟩
      have c1 : wr.cell? ⟨g, k, none⟩ = some (.int .i64 x) := ((HQ.out.cells HC.out) k (.int .i64 x) (by simp [hx])).1
      have c2 : wr.cell? ⟨g', k, none⟩ = some (.int .i64 x) := ((HQ.out.cells HC'.out) k (.int .i64 x) (by simp [hx])).1
      clear hx
      have hi0 : (0 : Int) ≤ (k : Int) := by omega
      have hi1 : (k : Int) < (n : Int) := by omega
      have hb : ((x : Int) != x) = false := by simp
      go_wp2
      go_quiet (fail)
      go_wp2
      go_roundw
      case rel => exact ⟨k + 1, by omega, by go_num, HQ.out.trans (Quiet.drewN _)⟩
      case measure => simp [Go.RowKit.intOf]; omega
    · go_wp2
      go_ret
      exact ⟨rfl, HQ.out⟩

theorem eqIntS_none (a a' : Option Addr) (cap cap' : Nat) (w : World) :
    Calls Try.prog 11 #[.slice a 0 cap, .slice a' 0 cap'] w fun e w' => e = .returned (.bool true) ∧ Quiet w w' := by
  go_enter Try.func11, Try.ntmps11
  go_wp2
  go_loopw [5] (fun i wr => i = .int .i64 0 ∧ Hid (Quiet w wr)) (fun _ _ => 0)
  case atStart => exact ⟨rfl, Quiet.refl w⟩
  case round =>
    obtain ⟨rfl, HQ⟩ := hrel
    go_wp2
    go_ret
    exact ⟨rfl, HQ.out⟩

theorem eqIntS_same {lo lo' : Nat} {w : World} {v v' : Value} {l : List Int} (hm : l.length ≤ maxLen) (h : IntsV lo w v l) (h' : IntsV lo' w v' l) :
    Calls Try.prog 11 #[v, v'] w fun e w' => e = .returned (.bool true) ∧ Quiet w w' := by
  rcases h with ⟨a, cap, rfl, rfl⟩ | ⟨g, cap, rfl, _, _, _, hc⟩ <;> rcases h' with ⟨a', cap', rfl, h0⟩ | ⟨g', cap', rfl, _, _, _, hc'⟩
  · exact eqIntS_none _ _ _ _ _
  · exact eqIntS_none _ _ _ _ _
  · subst h0; exact eqIntS_none _ _ _ _ _
  · exact eqIntS_two g g' cap cap' l w hm hc hc'

theorem marks_length (k : Int) (n : Nat) : (marks k n).length = n := by simp [marks]
theorem marks_getElem (k : Int) (n j : Nat) (h : j < n) : (marks k n)[j]? = some (k + (j : Int)) := by simp [marks, h]
theorem mark_step (l xs : List Int) (k0 : Int) (k : Nat) (h : k < l.length) (hx : xs.length = l.length) (ht : xs.take k = (marks k0 l.length).take k) :
    (xs.set k (k0 + (k : Int))).take (k + 1) = (marks k0 l.length).take (k + 1) := by
  have hb : k < (marks k0 l.length).length := by rw [marks_length]; exact h
  rw [List.take_succ_eq_append_getElem (by simp; omega), List.take_succ_eq_append_getElem hb, List.take_set_of_le (Nat.le_refl _), ht]
  have e := marks_getElem k0 l.length k h
  rw [List.getElem?_eq_getElem hb] at e
  simp only [Option.some.injEq] at e
  rw [e]; simp
theorem ret_int {k : IntKind} {a b : Int} (h : a = b) : Ending.returned (.int k a) = .returned (.int k b) := by rw [h]

set_option maxHeartbeats 400000 in
/-- marking writes 1, 2, .. into the slice's own block, and nothing else -/
theorem markIntS_any {lo : Nat} {w : World} {v : Value} {l : List Int} (hm : l.length ≤ 4611686018427387904) (h : IntsV lo w v l) :
    Calls Try.prog 14 #[v, .int .i64 1] w fun e w' => e = .returned (.int .i64 (1 + (l.length : Int))) ∧ Below lo w w' ∧ IntsV lo w' v (marks 1 l.length) := by
  rcases h with ⟨a, cap, rfl, rfl⟩ | ⟨g, cap, rfl, hcap, hlo, hlt, hc⟩
  · go_enter Try.func14, Try.ntmps14
    go_wp2
    go_loopw [1, 5] (fun m i wr => m = .int .i64 1 ∧ i = .int .i64 0 ∧ Hid (w = wr)) (fun _ _ _ => 0)
    case atStart => exact ⟨rfl, rfl, rfl⟩
    case round =>
      obtain ⟨rfl, rfl, HQ⟩ := hrel
      go_wp2
      go_ret
      have hw := HQ.out
      subst hw
      exact ⟨rfl, Below.refl _ _, .inl ⟨_, _, rfl, rfl⟩⟩
  · obtain ⟨n, hn⟩ : ∃ n, n = l.length := ⟨_, rfl⟩
    have HN := hide hn
    have HC := hide hc
    have HLO := hide hlo
    have HCAP := hide hcap
    rw [← hn] at hm ⊢
    clear hn hc hlo hcap
    go_enter Try.func14, Try.ntmps14
    go_wp2
    go_loopw [1, 5] (fun m i wr => ∃ k : Nat, k ≤ n ∧ i = .int .i64 k ∧ m = .int .i64 (1 + (k : Int)) ∧ Hid (Below lo w wr) ∧ Hid (g < wr.heap.size) ∧ ∃ xs : List Int, Hid (xs.length = l.length) ∧ Hid (xs.take k = (marks 1 l.length).take k) ∧ Hid (CellsAt wr g (xs.map (.int .i64)))) (fun _ i _ => n - (Go.RowKit.intOf i).toNat)
    case atStart => exact ⟨0, Nat.zero_le _, rfl, rfl, Below.refl _ _, hlt, l, rfl, rfl, HC.out⟩
    case round =>
      obtain ⟨k, hk, rfl, rfl, HB, HS, xs, HX, HT, HR⟩ := hrel
      by_cases hltk : k < n
      · obtain ⟨x, hx⟩ : ∃ x, xs[k]? = some x := ⟨_, List.getElem?_eq_getElem (by rw [HX.out, ← HN.out]; exact hltk)⟩
        obtain ⟨hcell, hfr⟩ := HR.out k (.int .i64 x) (by simp [hx])
        clear hx
        go_wp2
        go_roundw
        case rel =>
          refine ⟨k + 1, by omega, by go_num, ?_, HB.out.setCell HLO.out _, by have := HS.out; simpa [World.setCell, Hid] using this, xs.set k (1 + (k : Int)), by simpa [Hid] using HX.out, mark_step l xs 1 k (by rw [← HN.out]; exact hltk) HX.out HT.out, ?_⟩
          · rw [show (1 : Int) + ((k + 1 : Nat) : Int) = 1 + (k : Int) + 1 by omega]
          · have := HR.out.set k (by rw [List.length_map, HX.out, ← HN.out]; exact hltk) (.int .i64 (1 + (k : Int)))
            rw [List.map_set]; exact this
        case measure => simp [Go.RowKit.intOf]; omega
      · have hxs : xs = marks 1 l.length := by
          have := HT.out
          rw [List.take_of_length_le (by rw [HX.out, ← HN.out]; omega), List.take_of_length_le (by rw [marks_length, ← HN.out]; omega)] at this
          exact this
        subst hxs
        go_wp2
        go_ret
        obtain rfl : k = n := by omega
        exact ⟨rfl, HB.out, .inr ⟨g, cap, by rw [marks_length], by rw [marks_length]; have := HN.out; have := HCAP.out; omega, HLO.out, HS.out, HN.out ▸ HR.out⟩⟩

set_option maxHeartbeats 400000 in
/-- what has been marked is held -/
theorem heldIntS_any {lo : Nat} {w : World} {v : Value} {n : Nat} (hm : n ≤ 4611686018427387904) (h : IntsV lo w v (marks 1 n)) :
    Calls Try.prog 15 #[v, .int .i64 1] w fun e w' => e = .returned (.int .i64 (1 + (n : Int))) ∧ Quiet w w' := by
  rcases h with ⟨a, cap, rfl, hnil⟩ | ⟨g, cap, rfl, hcap, hlo, hlt, hc⟩
  · obtain rfl : n = 0 := by have := congrArg List.length hnil; simpa [marks_length] using this
    clear hnil
    go_enter Try.func15, Try.ntmps15
    go_wp2
    go_loopw [1, 5] (fun m i wr => m = .int .i64 1 ∧ i = .int .i64 0 ∧ Hid (w = wr)) (fun _ _ _ => 0)
    case atStart => exact ⟨rfl, rfl, rfl⟩
    case round =>
      obtain ⟨rfl, rfl, HQ⟩ := hrel
      go_wp2
      go_ret
      have hw := HQ.out
      subst hw
      exact ⟨rfl, Quiet.refl _⟩
  · have HC := hide hc
    clear hc hcap hlo hlt
    rw [marks_length]
    go_enter Try.func15, Try.ntmps15
    go_wp2
    go_loopw [1, 5] (fun m i wr => ∃ k : Nat, k ≤ n ∧ i = .int .i64 k ∧ m = .int .i64 (1 + (k : Int)) ∧ Hid (Quiet w wr)) (fun _ i _ => n - (Go.RowKit.intOf i).toNat)
    case atStart => exact ⟨0, Nat.zero_le _, rfl, rfl, Quiet.refl w⟩
    case round =>
      obtain ⟨k, hk, rfl, rfl, HQ⟩ := hrel
      by_cases hltk : k < n
      · have hcell : wr.cell? ⟨g, k, none⟩ = some (.int .i64 (1 + (k : Int))) := ((HQ.out.cells HC.out) k _ (by simp [marks_getElem 1 n k hltk])).1
        go_wp2
        go_roundw
        case rel =>
          refine ⟨k + 1, by omega, by go_num, ?_, HQ.out⟩
          rw [show (1 : Int) + ((k + 1 : Nat) : Int) = 1 + (k : Int) + 1 by omega]
        case measure => simp [Go.RowKit.intOf]; omega
      · go_wp2
        go_ret
        obtain rfl : k = n := by omega
        exact ⟨rfl, HQ.out⟩
end Go.Proofs.Ytlgceccbjkkeiab

/- THE WALKS of the model's functions of chapter 1: l1Tidy, RowTidy, l1Balls, RowBalls, l1Levels, RowLevels, RowHigh. -/
namespace Go.Proofs.Ytlgceccbjkkeiab
open Go.RowKit

/-- a text cut behind its last ball -/
def tidyS (s : ByteArray) : ByteArray := s.extract 0 (tl (bits s))
theorem ret_string {a b : ByteArray} (h : a = b) : Ending.returned (.string a) = .returned (.string b) := by rw [h]

/-- with signs alone, what is no '0' is a ball -/
theorem sgn_bit (s : ByteArray) (k : Nat) (h : k < s.size) (g : allSgn s.data.toList = true) : ((s[k].toNat : Int) == 48) = !(s[k] == 49) := by
  unfold allSgn at g
  rw [List.all_eq_true] at g
  have := g s[k] (List.getElem_mem (l := s.data.toList) (by simpa using h))
  rw [sgn_of] at this
  rw [bit_int]
  have h2 := of_decide_eq_true this
  rcases h2 with h2 | h2 <;> simp [h2]

theorem vld_sgn (s : ByteArray) (h : vld s = true) : allSgn s.data.toList = true := by
  unfold vld at h; simp at h; exact h.1
theorem vld_le (s : ByteArray) (h : vld s = true) : s.size ≤ 120 := by
  unfold vld at h; simp at h; exact h.2

/-- the number of balls -/
def nballs (l : List Bool) : Nat := l.count true
theorem nballs_snoc (l : List Bool) (k : Nat) (b : Bool) (h : l[k]? = some b) : nballs (l.take (k + 1)) = nballs (l.take k) + if b then 1 else 0 := by
  obtain ⟨hk, he⟩ := List.getElem?_eq_some_iff.1 h
  unfold nballs
  rw [List.take_succ_eq_append_getElem hk, List.count_append, he]
  cases b <;> rfl
theorem nballs_le (l : List Bool) (k : Nat) : nballs (l.take k) ≤ k := by
  unfold nballs; exact Nat.le_trans List.count_le_length (List.length_take_le _ _)

set_option maxHeartbeats 400000 in
theorem l1Balls_any (s : ByteArray) (w : World) (hs : s.size ≤ maxLen) :
    Calls Try.prog 25 #[.string s] w fun e w' => e = .returned (.int .i64 (nballs (bits s))) ∧ w = w' := by
  unfold maxLen at hs
  go_enter Try.func25, Try.ntmps25
  go_wp2
  go_loop [3, 4] (fun n i => ∃ k : Nat, k ≤ s.size ∧ i = .int .i64 k ∧ n = .int .i64 (nballs ((bits s).take k))) (fun _ i => s.size - (Go.RowKit.intOf i).toNat)
  case atStart => exact ⟨0, Nat.zero_le _, rfl, rfl⟩
  case round =>
    obtain ⟨k, hk, rfl, rfl⟩ := hrel
    have hl := nballs_le (bits s) k
    by_cases hlt : k < s.size
    · have HB := hide (bits_getElem s k hlt)
      rw [bit_int] at HB
      obtain ⟨m, hm⟩ : ∃ m, m = nballs ((bits s).take k) := ⟨_, rfl⟩
      have HM := hide hm
      rw [← hm] at hl ⊢
      clear hm
      cases hb : ((s[k].toNat : Int) == 49)
      · have HS := hide ((nballs_snoc (bits s) k _ HB.out).trans (by rw [hb, ← HM.out]; rfl : _ = m))
        clear HB
        go_wp2
        go_round
        case rel => exact ⟨k + 1, by omega, by go_num, by rw [HS.out]⟩
        case measure => simp [Go.RowKit.intOf]; omega
      · have HS := hide ((nballs_snoc (bits s) k _ HB.out).trans (by rw [hb, ← HM.out]; rfl : _ = m + 1))
        clear HB
        go_wp2
        go_round
        case rel => exact ⟨k + 1, by omega, by go_num, by rw [HS.out]; go_num⟩
        case measure => simp [Go.RowKit.intOf]; omega
    · go_wp2
      go_ret
      exact ⟨ret_int (by rw [List.take_of_length_le (by rw [length_bits]; omega)]), rfl⟩

end Go.Proofs.Ytlgceccbjkkeiab
