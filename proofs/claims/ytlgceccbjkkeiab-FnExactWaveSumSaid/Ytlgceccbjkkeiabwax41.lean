/- TEXTS Pick, Ints7, ExE. -/
import Derived.Test.Ytlgceccbjkkeiabwax05
import Derived.Laws.BitsAllLaws
import Derived.Test.Ytlgceccbjkkeiabwax23
import Derived.Test.Ytlgceccbjkkeiabwax07
/- A PICK IS NOT NEGATIVE: the walk of pick once more, with its value's bounds from below. -/
namespace Go.Proofs.Ytlgceccbjkkeiab
open Go.RowKit

/-- what a pick leaves -/
def Picked2 (w : World) (R : Nat) (a : Option Addr) (len cap : Nat) (z : List Int) (p : Nat) (n : Int) (e : Ending) (w' : World) : Prop :=
  ∃ v : Int, e = .returned (.int .i64 v) ∧ 0 ≤ v ∧ v < n ∧ Rd w' R a len cap z (p + 1) ∧ Below R w w' ∧ w'.heap.size = w.heap.size ∧ w.grownBy w' (some R)

theorem picked2_next {w : World} {R : Nat} {a : Option Addr} {len cap : Nat} {z : List Int} {p : Nat} {n v : Int} (h : Rd w R a len cap z p) (h1 : 0 ≤ v) (h2 : v < n) (k : Nat) :
    Picked2 w R a len cap z p n (.returned (.int .i64 v)) ((w.setCell ⟨R, 1, none⟩ (.int .i64 ((p : Int) + 1))).drewN k) := by
  have e : ((p : Int) + 1) = ((p + 1 : Nat) : Int) := by omega
  rw [e]
  refine ⟨v, rfl, h1, h2, h.next.below ((Quiet.drewN k).2 (R + 1)) (Nat.lt_succ_self R), ?_, ?_, ?_⟩
  · exact ((Below.refl R w).setCell (Nat.le_refl _) _).trans ((Quiet.drewN k).2 R)
  · show (World.setCell _ _ _).heap.size = _; simp [World.setCell]
  · exact ⟨rfl, rfl, rfl, by show w.heap.size ≤ (World.setCell _ _ _).heap.size; simp [World.setCell], fun j _ hj => heap_setCell_other w ⟨R, 1, none⟩ j _ (fun e => hj (by simp [e]))⟩

theorem CellsAt.grown {w w' : World} {g R : Nat} {l : List Value} (h : CellsAt w g l) (hg : w.grownBy w' (some R)) (hne : g ≠ R) : CellsAt w' g l := by
  intro j v hv
  obtain ⟨a, b⟩ := h j v hv
  have hb := hg.block g (World.block_lt_of_cell? w _ a) (by intro e; injection e with e; exact hne e)
  exact ⟨(World.cell?_of_block (a := ⟨g, j, none⟩) hb).trans a, (World.frozen?_of_block (a := ⟨g, j, none⟩) hb).trans b⟩
theorem i64_xor_nat (a b : Nat) (ha : a < 9223372036854775808) (hb : b < 9223372036854775808) : Go.bits .xor .i64 (a : Int) (b : Int) = ((a ^^^ b : Nat) : Int) := by
  have hx : a ^^^ b < 2 ^ 63 := Nat.xor_lt_two_pow (by omega) (by omega)
  show IntKind.i64.wrap ((BitVec.ofInt 64 (a : Int) ^^^ BitVec.ofInt 64 (b : Int)).toNat : Int) = _
  rw [BitVec.toNat_xor, ofInt_u64 a (by omega), ofInt_u64 b (by omega), IntKind.wrap_i64]
  omega
theorem pick_nonneg (y1 y2 P D n : Int) (h1 : 0 ≤ y1 ∧ y1 ≤ 255) (h2 : 0 ≤ y2 ∧ y2 ≤ 255) (h3 : 0 ≤ P ∧ P ≤ 100000) (h4 : 0 ≤ D ∧ D ≤ 100000) (hn : 1 ≤ n) (X : Int)
    (hX : X = wrap64 (wrap64 (wrap64 (wrap64 (wrap64 y1 * 131) + wrap64 (wrap64 y2 * 1117)) + P * 29) + wrap64 (wrap64 D * 53))) :
    0 ≤ (Go.bits BinOp.xor IntKind.i64 X (wrap64 (X.tdiv 64))).tmod n ∧ (Go.bits BinOp.xor IntKind.i64 X (wrap64 (X.tdiv 64))).tmod n < n := by
  have e1 : wrap64 y1 = y1 := IntWalk.wrap64_in _ (by omega)
  have e2 : wrap64 y2 = y2 := IntWalk.wrap64_in _ (by omega)
  have e3 : wrap64 (y1 * 131) = y1 * 131 := IntWalk.wrap64_in _ (by omega)
  have e4 : wrap64 (y2 * 1117) = y2 * 1117 := IntWalk.wrap64_in _ (by omega)
  have e5 : wrap64 (y1 * 131 + y2 * 1117) = y1 * 131 + y2 * 1117 := IntWalk.wrap64_in _ (by omega)
  have e6 : wrap64 (y1 * 131 + y2 * 1117 + P * 29) = y1 * 131 + y2 * 1117 + P * 29 := IntWalk.wrap64_in _ (by omega)
  have e7 : wrap64 D = D := IntWalk.wrap64_in _ (by omega)
  have e8 : wrap64 (D * 53) = D * 53 := IntWalk.wrap64_in _ (by omega)
  have e9 : wrap64 (y1 * 131 + y2 * 1117 + P * 29 + D * 53) = y1 * 131 + y2 * 1117 + P * 29 + D * 53 := IntWalk.wrap64_in _ (by omega)
  rw [e1, e2, e3, e4, e5, e6, e7, e8, e9] at hX
  have hx0 : 0 ≤ X := by omega
  have hx1 : X ≤ 100000000 := by omega
  obtain ⟨x, rfl⟩ := Int.eq_ofNat_of_zero_le hx0
  have e10 : (x : Int).tdiv 64 = ((x / 64 : Nat) : Int) := rfl
  rw [e10, IntWalk.wrap64_in _ (by omega), i64_xor_nat x (x / 64) (by omega) (by omega)]
  exact ⟨Int.tmod_nonneg _ (by omega), Int.tmod_lt_of_pos _ (by omega)⟩

end Go.Proofs.Ytlgceccbjkkeiab

/- THE WALKS of the laws' helpers markIntS, heldIntS from any number on (two slices one behind the other). -/
namespace Go.Proofs.Ytlgceccbjkkeiab
open Go.RowKit

theorem grown_set (w : World) (g j : Nat) (x : Value) : w.grownBy (w.setCell ⟨g, j, none⟩ x) (some g) :=
  ⟨rfl, rfl, rfl, by show w.heap.size ≤ (World.setCell _ _ _).heap.size; simp [World.setCell], fun i _ hi => heap_setCell_other w ⟨g, j, none⟩ i _ (fun e => hi (by simp [e]))⟩
theorem ints_other {lo g : Nat} {w w' : World} {u : Value} {l : List Int} (h : IntsV lo w u l) (hg : w.grownBy w' (some g)) (hne : ∀ g' n c, u = .slice (some ⟨g', 0, none⟩) n c → 0 < n → g' ≠ g) : IntsV lo w' u l := by
  rcases h with h | ⟨g', cap, rfl, h1, h2, h3, h4⟩
  · exact .inl h
  · by_cases h0 : l.length = 0
    · exact .inl ⟨_, _, by rw [h0], List.eq_nil_of_length_eq_zero h0⟩
    · exact .inr ⟨g', cap, rfl, h1, h2, Nat.lt_of_lt_of_le h3 hg.size, h4.grown hg (hne g' _ _ rfl (by omega))⟩

set_option maxHeartbeats 1000000 in
/-- marking writes b, b + 1, .. into the slice's own block, and nothing else -/
theorem markIntS_from (b : Int) (hb0 : 0 ≤ b) (hb1 : b ≤ 4611686018427387904) {lo : Nat} {w : World} {v : Value} {l : List Int} (hm : l.length ≤ 1048576) (h : IntsV lo w v l) :
    Calls Try.prog 14 #[v, .int .i64 b] w fun e w' => e = .returned (.int .i64 (b + (l.length : Int))) ∧ Below lo w w' ∧ IntsV lo w' v (marks b l.length) ∧ (∀ lo' u l', IntsV lo' w u l' → ApV u v → IntsV lo' w' u l') := by
  rcases h with ⟨a, cap, rfl, rfl⟩ | ⟨g, cap, rfl, hcap, hlo, hlt, hc⟩
  · go_enter Try.func14, Try.ntmps14
    go_wp2
    go_loopw [1, 5] (fun m i wr => m = .int .i64 b ∧ i = .int .i64 0 ∧ Hid (w = wr)) (fun _ _ _ => 0)
    case atStart => exact ⟨rfl, rfl, rfl⟩
    case round =>
      obtain ⟨rfl, rfl, HQ⟩ := hrel
      go_wp2
      go_ret
      have hw := HQ.out
      subst hw
      exact ⟨by simp, Below.refl _ _, .inl ⟨_, _, rfl, rfl⟩, fun _ _ _ h _ => h⟩
  · obtain ⟨n, hn⟩ : ∃ n, n = l.length := ⟨_, rfl⟩
    have HN := hide hn
    have HC := hide hc
    have HLO := hide hlo
    have HCAP := hide hcap
    rw [← hn] at hm ⊢
    clear hn hc hlo hcap
    go_enter Try.func14, Try.ntmps14
    go_wp2
    go_loopw [1, 5] (fun m i wr => ∃ k : Nat, k ≤ n ∧ i = .int .i64 k ∧ m = .int .i64 (b + (k : Int)) ∧ Hid (Below lo w wr) ∧ Hid (w.grownBy wr (some g)) ∧ Hid (k = 0 → wr = w) ∧ Hid (g < wr.heap.size) ∧ ∃ xs : List Int, Hid (xs.length = l.length) ∧ Hid (xs.take k = (marks b l.length).take k) ∧ Hid (CellsAt wr g (xs.map (.int .i64)))) (fun _ i _ => n - (Go.RowKit.intOf i).toNat)
    case atStart => exact ⟨0, Nat.zero_le _, rfl, by simp, Below.refl _ _, World.grownBy.refl _ _, fun _ => rfl, hlt, l, rfl, rfl, HC.out⟩
    case round =>
      obtain ⟨k, hk, rfl, rfl, HB, HG, HZ, HS, xs, HX, HT, HR⟩ := hrel
      by_cases hltk : k < n
      · obtain ⟨x, hx⟩ : ∃ x, xs[k]? = some x := ⟨_, List.getElem?_eq_getElem (by rw [HX.out, ← HN.out]; exact hltk)⟩
        obtain ⟨hcell, hfr⟩ := HR.out k (.int .i64 x) (by simp [hx])
        clear hx
        go_wp2
        go_roundw
        case rel =>
          refine ⟨k + 1, by omega, by go_num, ?_, HB.out.setCell HLO.out _, HG.out.trans (grown_set _ _ _ _), (fun h => absurd h (by omega)), by have := HS.out; simpa [World.setCell, Hid] using this, xs.set k (b + (k : Int)), by simpa [Hid] using HX.out, mark_step l xs b k (by rw [← HN.out]; exact hltk) HX.out HT.out, ?_⟩
          · rw [show b + ((k + 1 : Nat) : Int) = b + (k : Int) + 1 by omega]
          · have := HR.out.set k (by rw [List.length_map, HX.out, ← HN.out]; exact hltk) (.int .i64 (b + (k : Int)))
            rw [List.map_set]; exact this
        case measure => simp [Go.RowKit.intOf]; omega
      · have hxs : xs = marks b l.length := by
          have := HT.out
          rw [List.take_of_length_le (by rw [HX.out, ← HN.out]; omega), List.take_of_length_le (by rw [marks_length, ← HN.out]; omega)] at this
          exact this
        subst hxs
        go_wp2
        go_ret
        obtain rfl : k = n := by omega
        refine ⟨rfl, HB.out, .inr ⟨g, cap, by rw [marks_length], by rw [marks_length]; have := HN.out; have := HCAP.out; omega, HLO.out, HS.out, HN.out ▸ HR.out⟩, ?_⟩
        intro lo' u l' hu hap
        by_cases h0 : k = 0
        · have := HZ.out h0
          subst this
          exact hu
        · exact ints_other hu HG.out (fun g' n' c' e h => hap g' n' c' g _ _ e rfl h (by omega))

set_option maxHeartbeats 1000000 in
/-- what has been marked is held -/
theorem heldIntS_from (b : Int) (hb0 : 0 ≤ b) (hb1 : b ≤ 4611686018427387904) {lo : Nat} {w : World} {v : Value} {n : Nat} (hm : n ≤ 1048576) (h : IntsV lo w v (marks b n)) :
    Calls Try.prog 15 #[v, .int .i64 b] w fun e w' => e = .returned (.int .i64 (b + (n : Int))) ∧ Quiet w w' := by
  rcases h with ⟨a, cap, rfl, hnil⟩ | ⟨g, cap, rfl, hcap, hlo, hlt, hc⟩
  · obtain rfl : n = 0 := by have := congrArg List.length hnil; simpa [marks_length] using this
    clear hnil
    go_enter Try.func15, Try.ntmps15
    go_wp2
    go_loopw [1, 5] (fun m i wr => m = .int .i64 b ∧ i = .int .i64 0 ∧ Hid (w = wr)) (fun _ _ _ => 0)
    case atStart => exact ⟨rfl, rfl, rfl⟩
    case round =>
      obtain ⟨rfl, rfl, HQ⟩ := hrel
      go_wp2
      go_ret
      have hw := HQ.out
      subst hw
      exact ⟨by simp, Quiet.refl _⟩
  · have HC := hide hc
    clear hc hcap hlo hlt
    rw [marks_length]
    go_enter Try.func15, Try.ntmps15
    go_wp2
    go_loopw [1, 5] (fun m i wr => ∃ k : Nat, k ≤ n ∧ i = .int .i64 k ∧ m = .int .i64 (b + (k : Int)) ∧ Hid (Quiet w wr)) (fun _ i _ => n - (Go.RowKit.intOf i).toNat)
    case atStart => exact ⟨0, Nat.zero_le _, rfl, by simp, Quiet.refl w⟩
    case round =>
      obtain ⟨k, hk, rfl, rfl, HQ⟩ := hrel
      by_cases hltk : k < n
      · have hcell : wr.cell? ⟨g, k, none⟩ = some (.int .i64 (b + (k : Int))) := ((HQ.out.cells HC.out) k _ (by simp [marks_getElem b n k hltk])).1
        go_wp2
        go_roundw
        case rel =>
          refine ⟨k + 1, by omega, by go_num, ?_, HQ.out⟩
          rw [show b + ((k + 1 : Nat) : Int) = b + (k : Int) + 1 by omega]
        case measure => simp [Go.RowKit.intOf]; omega
      · go_wp2
        go_ret
        obtain rfl : k = n := by omega
        exact ⟨rfl, HQ.out⟩
end Go.Proofs.Ytlgceccbjkkeiab

/- THE WALK of the exact law of ShapeEnergy. -/
namespace Go.Proofs.Ytlgceccbjkkeiab
open Go.RowKit

end Go.Proofs.Ytlgceccbjkkeiab
