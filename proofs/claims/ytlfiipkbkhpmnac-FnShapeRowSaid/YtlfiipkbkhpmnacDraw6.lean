/- THE WALKS of the drawing of rows and sizes for chapter 3. -/
import Derived.Test.YtlfiipkbkhpmnacDraw5
import Derived.Test.YtlfiipkbkhpmnacShape1
namespace Go.Proofs.Ytlfiipkbkhpmnac
open Go.RowKit

set_option maxRecDepth 100000 in
set_option maxHeartbeats 400000 in
theorem l1Tidy_len (s : ByteArray) (w : World) (hs : s.size ≤ maxLen) :
    Calls Try.prog 42 #[.string s] w fun e w' => (∃ t : ByteArray, e = .returned (.string t) ∧ t.size ≤ s.size) ∧ w = w' := by
  unfold maxLen at hs
  go_enter Try.func42, Try.ntmps42
  go_wp2
  go_loop [3] (fun i => ∃ k : Nat, k ≤ s.size ∧ i = .int .i64 (k : Int)) (fun i => (intOf i).toNat)
  case atStart => exact ⟨s.size, Nat.le_refl _, rfl⟩
  case round =>
    obtain ⟨k, hk, rfl⟩ := hrel
    by_cases hk0 : k = 0
    · subst hk0
      go_wp2
      go_ret
      exact ⟨⟨_, rfl, by simp⟩, rfl⟩
    · obtain ⟨j, rfl⟩ : ∃ j, k = j + 1 := ⟨k - 1, by omega⟩
      have hj : j < s.size := by omega
      cases hb : ((s[j].toNat : Int) == 48)
      · go_wp2
        go_ret
        exact ⟨⟨_, rfl, by simp; omega⟩, rfl⟩
      · go_wp2
        go_round
        case rel => exact ⟨j, by omega, rfl⟩
        case measure => simp [intOf]

/-- what the drawing of sizes leaves -/
def DrawnSizes (w : World) (R : Nat) (a : Option Addr) (len cap : Nat) (z : List Int) (p : Nat) (e : Ending) (w' : World) : Prop :=
  ∃ (v : Value) (l : List Int) (q : Nat), e = .returned v ∧ l.length ≤ 5 ∧ q ≤ p + 10 ∧ IntsV (R + 1) w' v l ∧ Rd w' R a len cap z q ∧ Below R w w'
theorem lit021 (w : World) (t : TypeId) (p : Nat) (h : p < 3) : ∃ x : Int, (w.alloc (.cells #[.int .i64 0, .int .i64 21, .int .i64 201] t)).cell? ⟨w.heap.size, p, none⟩ = some (.int .i64 x) := by
  rcases (show p = 0 ∨ p = 1 ∨ p = 2 by omega) with rfl | rfl | rfl
  · exact ⟨0, by rw [World.cell?_alloc_at _ _ _ _ rfl]; rfl⟩
  · exact ⟨21, by rw [World.cell?_alloc_at _ _ _ _ rfl]; rfl⟩
  · exact ⟨201, by rw [World.cell?_alloc_at _ _ _ _ rfl]; rfl⟩

set_option maxRecDepth 100000 in
set_option maxHeartbeats 4000000 in
theorem l91Sizes_any (w : World) (R : Nat) (a : Option Addr) (len cap : Nat) (z : List Int) (p : Nat) (hrd : Rd w R a len cap z p) (hp : p ≤ 1000) :
    Calls Try.prog 21 #[.pointer (some ⟨R, 0, none⟩)] w (DrawnSizes w R a len cap z p) := by
  obtain ⟨i0, hi, hz0, hz1, hz2⟩ := info_parts infoI
  have hlt := hrd.lt
  have h0 := World.ownsRow_lit (base := R + 1) (e := 3) (size := 1) w #[] 0 (by omega) (by unfold maxLen; omega) rfl
  go_enter Try.func21, Try.ntmps21
  go_wp2_with fail
  refine (pick2_any (w.alloc (.cells #[] 3)) R a len cap z p 5 (hrd.below ((Below.refl (R + 1) w).alloc (by omega) _) (Nat.lt_succ_self R)) (by omega) (by omega) (by omega)).mono ?_
  rintro e w1 ⟨n, rfl, n0, n1, hr1, hb1, hz1', hg1⟩
  have HO1 := hide (h0.kept hg1 (own_ne h0))
  have HB1 := hide (((Below.refl R w).alloc (by omega) (.cells #[] 3)).trans hb1)
  have hsz1 : R + 1 ≤ w1.heap.size := by rw [hz1', World.size_alloc]; omega
  have HR1 := hide hr1
  clear h0 hg1 hb1 hr1 hrd hz1'
  go_wp2_with fail
  go_loopw [3, 5] (fun o i wr => ∃ (k : Nat) (l : List Int), (k : Int) ≤ n ∧ i = .int .i64 (k : Int) ∧ Hid (l.length = k) ∧ Hid (wr.ownsRow (R + 1) 3 1 o k (l.map (.int .i64))) ∧ Hid (Rd wr R a len cap z (p + 1 + k)) ∧ Hid (Below R w wr) ∧ R + 1 ≤ wr.heap.size) (fun _ i _ => (n - intOf i).toNat)
  case atStart => exact ⟨0, [], n0, rfl, rfl, HO1, HR1, HB1, hsz1⟩
  case round =>
    obtain ⟨k, l, hk, rfl, HL, HO, HRD, HB, hsz⟩ := hrel
    clear HO1 HR1 HB1 hsz1
    by_cases hlt2 : (k : Int) < n
    · go_wp2_with fail
      refine (pick2_any wr R a len cap z (p + 1 + k) 5 HRD.out (by omega) (by omega) (by omega)).mono ?_
      rintro e w2 ⟨v, rfl, v0, v1, hr2, hb2, hz2', hg2⟩
      have HO2 := hide (HO.out.kept hg2 (own_ne HO.out))
      have HB2 := hide (HB.out.trans hb2)
      have hsz2 : R + 1 ≤ w2.heap.size := by omega
      have HR2 := hide hr2
      clear hg2 hb2 hr2 hz2'
      go_wp2_with (at_builtin; refine wpList_append_own _ rfl _ _ 25 rfl (R + 1) 3 i0 (.int .i64 0) 1 8 Try.underlying25 hi hz0 hz1 hz2 rfl (by decide) _ _ _ rfl (HO2.out.alloc _) ⟨w2.heap.size, 0, none⟩ 1 1 [.int .i64 (1 + v)] rfl rfl (cell_one_new _ _ _) (one_of_int _) (by unfold maxLen; omega) (by omega) (by simp; omega) ?_; intro v' w3 hown' hgrow _)
      go_roundw
      case rel =>
        have hsg := hgrow.size
        rw [World.size_alloc] at hsg
        refine ⟨k + 1, l ++ [1 + v], by omega, by go_num, ?_, ?_, ?_, ?_, by omega⟩
        · show (l ++ [1 + v]).length = k + 1
          rw [List.length_append, HL.out]; rfl
        · rw [List.map_append]; exact hown'
        · have h1 := HR2.out.below ((Below.refl (R + 1) w2).alloc hsz2 (.cells #[.int .i64 (1 + v)] 3)) (Nat.lt_succ_self R)
          have h2 := h1.below ((Below.refl (R + 1) _).grown hgrow (by simp; omega) (fun b e => (HO2.out.lt b e).1)) (Nat.lt_succ_self R)
          rw [show p + 1 + (k + 1) = p + 1 + k + 1 by omega]; exact h2
        · exact (HB2.out.alloc (by omega) _).grown hgrow (by simp; omega) (fun b e => by have := (HO2.out.lt b e).1; omega)
      case measure => simp [intOf]; omega
    · have hkn : (k : Int) = n := by omega
      have k5 : k ≤ 5 := by omega
      have FIN : Hid (∀ (o : Value) (l2 : List Int) (q : Nat) (W : World), W.ownsRow (R + 1) 3 1 o k (l2.map (.int .i64)) → l2.length = k → q ≤ p + 10 → Rd W R a len cap z q → Below R w W → DrawnSizes w R a len cap z p (.returned o) W) := by
        intro o l2 q W h1 h2 h3 h4 h5
        exact ⟨o, l2, q, rfl, by omega, h3, IntsV.of_owns (e := 3) (n := k) h1, h4, h5⟩
      by_cases hn0 : 0 < n
      · have hd0 : (0 : Int) < n := hn0
        go_wp2_with fail
        refine (pick2_any wr R a len cap z (p + 1 + k) 16 HRD.out (by omega) (by omega) (by omega)).mono ?_
        rintro e w2 ⟨v, rfl, v0, v1, hr2, hb2, hz2', hg2⟩
        have HO2 := hide (HO.out.kept hg2 (own_ne HO.out))
        have HB2 := hide (HB.out.trans hb2)
        have hsz2 : R + 1 ≤ w2.heap.size := by omega
        have HR2 := hide hr2
        clear hg2 hb2 hr2 hz2'
        by_cases hv0 : v = 0
        · subst hv0
          go_wp2_with fail
          refine (pick2_any (w2.alloc (.cells #[.int .i64 0, .int .i64 21, .int .i64 201] 3)) R a len cap z (p + 1 + k + 1) 3 (HR2.out.below ((Below.refl (R + 1) w2).alloc hsz2 _) (Nat.lt_succ_self R)) (by omega) (by omega) (by omega)).mono ?_
          rintro e w3 ⟨v, rfl, a0, a1, hr3, hb3, hz3', hg3⟩
          obtain ⟨j, rfl⟩ := Int.eq_ofNat_of_zero_le a0
          obtain ⟨x, hc⟩ := lit021 w2 3 j (by omega)
          have hc3 := grown_cell hg3 (by omega) hc
          have j0 : (0 : Int) ≤ (j : Int) := by omega
          have HA := hide (HO2.out.alloc (.cells #[.int .i64 0, .int .i64 21, .int .i64 201] 3))
          have ho3 := HA.out.kept hg3 (own_ne HA.out)
          obtain ⟨g, c, rfl, hg0, hgc, hcm⟩ := ownsRow_form ho3 (by omega)
          have hcl := CellsAt.of_owns ho3
          have hlen : (l.map (Value.int .i64)).length = k := by rw [List.length_map, HL.out]
          obtain ⟨y, hy⟩ : ∃ y, l[0]? = some y := ⟨_, List.getElem?_eq_getElem (by rw [HL.out]; omega)⟩
          obtain ⟨c0, f0⟩ := hcl 0 (.int .i64 y) (by rw [List.getElem?_map, hy]; rfl)
          have i2 : (0 : Int) < (k : Int) := by omega
          have HST := hide (ho3.stored 0 (.int .i64 x))
          have HB3 := hide ((HB2.out.alloc (by omega) (.cells #[.int .i64 0, .int .i64 21, .int .i64 201] 3)).trans hb3)
          have HR3 := hide hr3
          clear hc hg3 hb3 hr3 hz3' hy hcl
          have FINX : Hid (DrawnSizes w R a len cap z p (.returned (.slice (some ⟨g, 0, none⟩) k c)) (w3.setCell ⟨g, 0, none⟩ (.int .i64 x))) := by
            refine FIN.out _ (l.set 0 x) _ _ ?_ (by rw [List.length_set, HL.out]) (by omega) (HR3.out.below ((Below.refl (R + 1) w3).setCell (p := ⟨g, 0, none⟩) hg0 _) (Nat.lt_succ_self R)) (HB3.out.setCell (p := ⟨g, 0, none⟩) (show R ≤ g by omega) _)
            rw [List.map_set]; exact HST.out.1
          clear FIN hgc hcm hlen ho3 HA HO HO2
          go_wp2_with fail
          go_ret
          exact FINX.out
        · have hvi : ((v : Int) == 0) = false := beq_eq_false_iff_ne.2 hv0
          go_wp2_with fail
          go_ret
          exact FIN.out _ l _ _ HO2.out HL.out (by omega) HR2.out HB2.out
      · have hd0 : ¬ (0 : Int) < n := hn0
        go_wp2_with fail
        go_ret
        exact FIN.out _ l _ _ HO.out HL.out (by omega) HRD.out HB.out

set_option maxRecDepth 100000 in
set_option maxHeartbeats 400000 in
theorem DrawShapeTime_any (a : Option Addr) (len cap : Nat) (z : List Int) (w : World) (hlen : len ≤ 1048576) (hcap : len ≤ cap) (hb : Bytes w a len z) :
    Calls Try.prog 16 #[.slice a len cap] w (DrawnRow w) := by
  go_enter Try.func16, Try.ntmps16
  go_wp2_with fail
  refine (l6Open_any a len cap z w hlen hcap hb).mono ?_
  rintro e w1 ⟨rfl, hr, hb1, hz1⟩
  go_wp2_with fail
  refine (l91Row_any w1 w.heap.size a _ cap z 0 hr (by omega)).mono ?_
  rintro e w2 ⟨s, q, rfl, hs, hq, hr2, hb2, hz2⟩
  have hB := hb1.trans hb2
  clear hb1 hb2 hr hr2 hz1 hz2
  by_cases h14 : 14 < s.size
  · have hi : (14 : Int) < (s.size : Int) := by omega
    go_wp2_with fail
    refine (l1Tidy_len (s.extract 0 14) w2 (by simp; unfold maxLen; omega)).mono ?_
    rintro e w3 ⟨⟨t, rfl, ht⟩, rfl⟩
    go_wp2_with fail
    go_ret
    exact ⟨t, rfl, by simp at ht; omega, hB⟩
  · go_wp2_with fail
    go_ret
    exact ⟨s, rfl, hs, hB⟩

/-- what the drawing of a list and a room leaves -/
def DrawnListRoom (w : World) (e : Ending) (w' : World) : Prop := ∃ (v : Value) (l : List Int) (n : Int), e = .returned (.tuple #[v, .int .i64 n]) ∧ l.length ≤ 5 ∧ IntsV w.heap.size w' v l ∧ -1 ≤ n ∧ n ≤ 201 ∧ Below w.heap.size w w'
/-- what the drawing of a list leaves -/
def DrawnInts (w : World) (e : Ending) (w' : World) : Prop := ∃ (v : Value) (l : List Int), e = .returned v ∧ l.length ≤ 5 ∧ IntsV w.heap.size w' v l ∧ Below w.heap.size w w'
set_option maxHeartbeats 400000 in
theorem DrawShapeRow_any (a : Option Addr) (len cap : Nat) (z : List Int) (w : World) (hlen : len ≤ 1048576) (hcap : len ≤ cap) (hb : Bytes w a len z) :
    Calls Try.prog 13 #[.slice a len cap] w (DrawnInts w) := by
  go_enter Try.func13, Try.ntmps13
  go_wp2_with fail
  refine (l6Open_any a len cap z w hlen hcap hb).mono ?_
  rintro e w1 ⟨rfl, hr, hb1, hz1⟩
  go_wp2_with fail
  refine (l91Sizes_any w1 w.heap.size a _ cap z 0 hr (by omega)).mono ?_
  rintro e w2 ⟨v, l, q, rfl, hl, hq, hi, hr2, hb2⟩
  go_wp2_with fail
  go_ret
  exact ⟨v, l, rfl, hl, hi.mono (Nat.le_succ _), hb1.trans hb2⟩
end Go.Proofs.Ytlfiipkbkhpmnac
