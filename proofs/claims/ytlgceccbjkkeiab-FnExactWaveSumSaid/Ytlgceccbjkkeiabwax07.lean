/- TEXTS RowOf. -/
import Derived.Test.Ytlgceccbjkkeiabwax04
import Derived.Test.Ytlgceccbjkkeiabwax05
import Derived.Test.Ytlgceccbjkkeiabwax06
/- THE WALKS of RowOf, of the model and of the program, and of its exact law. -/
namespace Go.Proofs.Ytlgceccbjkkeiab
open Go.RowKit

/-- balls put into boxes one by one -/
def ofR : List Bool → List Int → Option (List Bool)
  | h, [] => some h
  | h, x :: r => if 0 ≤ x ∧ x < 120 ∧ h[x.toNat]? = some false then ofR (h.set x.toNat true) r else none
def none120 : List Bool := List.replicate 120 false
def ofS (l : List Int) : ByteArray := match ofR none120 l with | some h => ofBits (cut h) | none => ByteArray.empty
def ofOk (l : List Int) : Bool := (ofR none120 l).isSome
theorem ofR_bad (h : List Bool) (x : Int) (r : List Int) (hx : ¬ (0 ≤ x ∧ x < 120 ∧ h[x.toNat]? = some false)) : ofR h (x :: r) = none := by unfold ofR; rw [if_neg hx]
theorem ofR_good (h : List Bool) (x : Int) (r : List Int) (hx : 0 ≤ x ∧ x < 120 ∧ h[x.toNat]? = some false) : ofR h (x :: r) = ofR (h.set x.toNat true) r := by
  rw [ofR, if_pos hx]
theorem ofS_none {l : List Int} (h : ofR none120 l = none) : ofS l = ByteArray.empty ∧ ofOk l = false := by unfold ofS ofOk; rw [h]; exact ⟨rfl, rfl⟩
theorem ofS_some {l : List Int} {b : List Bool} (h : ofR none120 l = some b) : ofS l = ofBits (cut b) ∧ ofOk l = true := by unfold ofS ofOk; rw [h]; exact ⟨rfl, rfl⟩

set_option maxHeartbeats 1000000 in
theorem toIntS_any {w : World} (a : Option Addr) (len cap : Nat) (z : List Int) (hr : IsRow .i64 w a len cap z) (hlen : len ≤ 1048576) :
    Calls Try.prog 9 #[.slice a len cap] w fun e w' => ∃ v, e = .returned v ∧ IntsV w.heap.size w' v (z.take len) ∧ Below w.heap.size w w' := by
  obtain ⟨i0, hi, hz0, hz1, hz2⟩ := info_parts infoI
  have hcap := hr.le
  have hmax := hr.max
  unfold maxLen at hmax
  have src : 0 < len → ∃ b off, a = some ⟨b, off, none⟩ ∧ b < w.heap.size ∧ z.length = cap ∧ (∀ j, j < len → w.cell? ⟨b, off + j, none⟩ = some (.int .i64 (z.getD j 0))) := by
    intro h0
    rcases hr with ⟨_, rfl, _, _⟩ | ⟨x, rfl, hl, hm, hz, hcell, hwz⟩
    · omega
    · obtain ⟨b, off, spot⟩ := x
      have hc := hcell 0 (by omega)
      have hspot : spot = none := by simpa [Addr.add] using World.cell?_spot hc
      subst hspot
      refine ⟨b, off, rfl, World.block_lt_of_cell? w _ hc, hz, ?_⟩
      intro j hj
      have hcj := hcell j (by omega)
      rw [Addr.add_lit] at hcj
      exact hcj
  by_cases h0 : len = 0
  · subst h0
    clear src hr
    go_enter Try.func9, Try.ntmps9
    go_wp2_with (at_make; refine wpList_make_full _ rfl _ _ 22 rfl w.heap.size 3 i0 (.int .i64 0) 1 Try.underlying22 hi hz0 hz1 _ _ _ _ 0 rfl rfl rfl rfl ?b2 ?b3 ?b4 ?_; rotate_right; intro w1 hown hgrow)
    case b2 => rw [hz2]; omega
    case b3 => unfold maxLen; omega
    case b4 => exact Nat.le_refl _
    have hb1 : Below w.heap.size w w1 := (Below.refl _ _).grown hgrow (Nat.le_refl _) (fun k e => by cases e)
    go_loopw [4] (fun i wr => i = .int .i64 0 ∧ Hid (w1 = wr)) (fun _ _ => 0)
    case atStart => exact ⟨rfl, rfl⟩
    case round =>
      obtain ⟨rfl, HQ⟩ := hrel
      go_wp2
      go_ret
      have hw := HQ.out
      subst hw
      exact ⟨_, rfl, .inl ⟨_, _, rfl, by simp⟩, hb1⟩
  · obtain ⟨b, off, rfl, hb, hzl, hsrc⟩ := src (by omega)
    have HS := hide hsrc
    have hle : len ≤ z.length := by omega
    have HZ := hide hle
    clear src hr hsrc hzl hle
    go_enter Try.func9, Try.ntmps9
    go_wp2_with (at_make; refine wpList_make_full _ rfl _ _ 22 rfl w.heap.size 3 i0 (.int .i64 0) 1 Try.underlying22 hi hz0 hz1 _ _ _ _ len rfl rfl rfl rfl ?b2 ?b3 ?b4 ?_; rotate_right; intro w1 hown hgrow)
    case b2 => rw [hz2]; omega
    case b3 => unfold maxLen; omega
    case b4 => exact Nat.le_refl _
    rw [madeI] at hown
    have hb1 : Below w.heap.size w w1 := (Below.refl _ _).grown hgrow (Nat.le_refl _) (fun k e => by cases e)
    have hz : w.heap.size < w1.heap.size := (hown.lt _ rfl).2
    have hc1 := CellsAt.of_owns hown
    clear hown hgrow
    obtain ⟨q, hq⟩ : ∃ q, w.heap.size = q := ⟨_, rfl⟩
    rw [hq] at hb1 hz hc1 hb ⊢
    have HQ := hide hq
    clear hq
    go_loopw [4] (fun i wr => ∃ k : Nat, k ≤ len ∧ i = .int .i64 k ∧ Hid (Below q w wr) ∧ q < wr.heap.size ∧ ∃ xs : List Int, Hid (xs.length = len) ∧ Hid (xs.take k = z.take k) ∧ Hid (CellsAt wr q (xs.map (.int .i64)))) (fun i _ => len - (Go.RowKit.intOf i).toNat)
    case atStart => exact ⟨0, Nat.zero_le _, rfl, hb1, hz, List.replicate len 0, by simp [Hid], rfl, hc1⟩
    case round =>
      obtain ⟨k, hk, rfl, HB, hsz, xs, HX, HT, HC⟩ := hrel
      by_cases hlt : k < len
      · obtain ⟨x, hx⟩ : ∃ x, xs[k]? = some x := ⟨_, List.getElem?_eq_getElem (by rw [HX.out]; exact hlt)⟩
        obtain ⟨hcell, hfr⟩ := HC.out k (.int .i64 x) (by simp [hx])
        have hsc : wr.cell? ⟨b, off + k, none⟩ = some (.int .i64 (z.getD k 0)) := (HB.out.cell (p := ⟨b, off + k, none⟩) hb).trans (HS.out k hlt)
        obtain ⟨y, hy⟩ : ∃ y, y = z.getD k 0 := ⟨_, rfl⟩
        rw [← hy] at hsc
        have HY := hide hy
        clear hx hy hc1 hb1 hz
        go_wp2
        go_roundw
        case rel =>
          refine ⟨k + 1, by omega, by go_num, HB.out.setCell (Nat.le_refl _) _, by simpa [World.setCell] using hsz, xs.set k y, by simp [Hid, HX.out], ?_, ?_⟩
          · have hkz : k < z.length := Nat.lt_of_lt_of_le hlt HZ.out
            have e : (xs.set k y).take (k + 1) = z.take (k + 1) := by
              rw [List.take_succ_eq_append_getElem (by simp [HX.out]; exact hlt), List.take_succ_eq_append_getElem hkz, List.take_set_of_le (Nat.le_refl _), HT.out, HY.out, List.getD_eq_getElem?_getD, List.getElem?_eq_getElem hkz]; simp
            exact e
          · have := HC.out.set k (by simp [HX.out]; exact hlt) (.int .i64 y)
            rw [List.map_set]; exact this
        case measure => simp [Go.RowKit.intOf]; omega
      · obtain rfl : k = len := by omega
        have hxs : xs = z.take k := by
          have := HT.out
          rw [List.take_of_length_le (by rw [HX.out]; exact Nat.le_refl _)] at this
          exact this
        have hl := HX.out
        go_wp2
        go_ret
        have hq := HQ.out
        subst hq
        rw [← hxs]
        refine ⟨_, rfl, .inr ⟨w.heap.size, k, ?_, by rw [hl]; exact Nat.le_refl _, Nat.le_refl _, hsz, HC.out⟩, HB.out⟩
        rw [hl]; rfl
end Go.Proofs.Ytlgceccbjkkeiab

/- THE WALKS of RowOf, of the model and of the program. -/
namespace Go.Proofs.Ytlgceccbjkkeiab
open Go.RowKit

theorem chars_snoc (h : List Bool) (k : Nat) (b : Bool) (hb : h[k]? = some b) : chars (h.take (k + 1)) = chars (h.take k) ++ [if b then 49 else 48] := by
  obtain ⟨hk, he⟩ := List.getElem?_eq_some_iff.1 hb
  rw [List.take_succ_eq_append_getElem hk, he]; simp [chars]
theorem chars_length (h : List Bool) : (chars h).length = h.length := by simp [chars]
theorem chars_sgn (h : List Bool) : allSgn (chars h) = true := by
  unfold allSgn chars
  rw [List.all_map, List.all_eq_true]
  intro b _
  cases b <;> rfl
theorem bits_chars (h : List Bool) (x : ByteArray) (hx : x.data.toList = chars h) : bits x = h := by
  unfold bits
  rw [hx]; unfold chars
  rw [List.map_map]
  have : h.map ((fun x : UInt8 => x == 49) ∘ fun b => if b = true then 49 else 48) = h.map id := by
    apply List.map_congr_left
    intro b _
    cases b <;> rfl
  rw [this, List.map_id]

/-- the loop of RowOf, between two rounds -/
def OfRel (w : World) (q b : Nat) (l : List Int) (i : Value) (wr : World) : Prop :=
  ∃ (k : Nat) (h : List Bool), k ≤ l.length ∧ i = .int .i64 (k : Int) ∧ Hid (h.length = 120) ∧ Hid (ofR none120 l = ofR h (l.drop k)) ∧ Hid (CellsAt wr q (h.map .bool)) ∧ Hid (CellsAt wr b (l.map (.int .i64))) ∧ Hid (Below q w wr)

theorem drop_at (l : List Int) (k : Nat) (x : Int) (hx : l[k]? = some x) : l.drop k = x :: l.drop (k + 1) := by
  obtain ⟨hk, he⟩ := List.getElem?_eq_some_iff.1 hx
  rw [List.drop_eq_getElem_cons hk, he]

end Go.Proofs.Ytlgceccbjkkeiab

/- THE WALK of the exact law of RowOf. -/
namespace Go.Proofs.Ytlgceccbjkkeiab
open Go.RowKit

/-- an argument that came in lies as it lay -/
theorem IsRow.below {k : IntKind} {w w' : World} {a : Option Addr} {len cap : Nat} {z : List Int} (h : IsRow k w a len cap z) (hb : Below w.heap.size w w') : IsRow k w' a len cap z := by
  rcases h with h | ⟨x, rfl, hl, hm, hz, hcell, hwz⟩
  · exact .inl h
  · refine .inr ⟨x, rfl, hl, hm, hz, fun i hi => ?_, hwz⟩
    have hc := hcell i hi
    have hlt := World.block_lt_of_cell? w _ hc
    exact (hb.cell hlt).trans hc
theorem IsRow.take_len {k : IntKind} {w : World} {a : Option Addr} {len cap : Nat} {z : List Int} (h : IsRow k w a len cap z) : (z.take len).length = len := by
  rcases h with ⟨_, rfl, _, rfl⟩ | ⟨x, rfl, hl, hm, hz, hcell, hwz⟩
  · rfl
  · rw [List.length_take]; omega

end Go.Proofs.Ytlgceccbjkkeiab
