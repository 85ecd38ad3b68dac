/- TEXTS DrawC. -/
import Derived.Test.YtppelmceojodhaaDoorone04
import Derived.Test.YtppelmceojodhaaDoorone11
/- THE DRAWING of coloured rows. -/
namespace Go.Proofs.YtppelmceojodhaaDoor
open Go.RowKit Go.Lib

/-- one of a list of texts -/
def PickedOf (w : World) (R : Nat) (a : Option Addr) (len cap : Nat) (z : List Int) (p : Nat) (m : Nat) (e : Ending) (w' : World) : Prop :=
  ∃ t : ByteArray, e = .returned (.string t) ∧ t.size ≤ m ∧ Rd w' R a len cap z (p + 1) ∧ Below R w w' ∧ w.grownBy w' (some R)

set_option maxHeartbeats 1000000 in
theorem of_any (w : World) (R : Nat) (a : Option Addr) (len cap : Nat) (z : List Int) (p : Nat) (g n c m : Nat) (hrd : Rd w R a len cap z p) (hp : p ≤ 1000) (hn : 1 ≤ n ∧ n ≤ 1000) (hg : g ≠ R) (hc : ∀ j, j < n → ∃ t : ByteArray, t.size ≤ m ∧ w.cell? ⟨g, j, none⟩ = some (.string t)) :
    Calls Tryd.prog 41 #[.pointer (some ⟨R, 0, none⟩), .slice (some ⟨g, 0, none⟩) n c] w (PickedOf w R a len cap z p m) := by
  obtain ⟨n0, n1⟩ := hn
  have HC := hide hc
  have HP := hide (pick2_any w R a len cap z p (n : Int) hrd (by omega) (by omega) (by omega))
  clear hc hrd
  go_enter Tryd.func41, Tryd.ntmps41
  go_wp2_with fail
  refine HP.out.mono ?_
  rintro e w1 ⟨v, rfl, v0, v1, hr, hb, hz, hgr⟩
  obtain ⟨j, rfl⟩ := Int.eq_ofNat_of_zero_le v0
  obtain ⟨t, ht, hcell⟩ := HC.out j (by omega)
  have c1 := grown_cell hgr hg hcell
  have HR := hide hr
  have HB := hide hb
  have HG := hide hgr
  clear hr hb hz hgr hcell
  go_wp2
  go_ret
  exact ⟨t, rfl, ht, HR.out, HB.out, HG.out⟩

/-- what the drawing of a coloured row leaves -/
def DrawnC (w : World) (R : Nat) (a : Option Addr) (len cap : Nat) (z : List Int) (p : Nat) (e : Ending) (w' : World) : Prop :=
  ∃ (s : ByteArray) (q : Nat), e = .returned (.string s) ∧ s.size ≤ 300 ∧ q ≤ p + 60 ∧ Rd w' R a len cap z q ∧ Below R w w' ∧ w.grownBy w' (some R)
theorem lit7 (w : World) (t : TypeId) (j : Nat) (hj : j < 7) : ∃ x : ByteArray, x.size ≤ 1 ∧ (w.alloc (.cells #[.string ⟨#[48]⟩, .string ⟨#[48]⟩, .string ⟨#[48]⟩, .string ⟨#[49]⟩, .string ⟨#[50]⟩, .string ⟨#[51]⟩, .string ⟨#[49]⟩] t)).cell? ⟨w.heap.size, j, none⟩ = some (.string x) := by
  rcases (show j = 0 ∨ j = 1 ∨ j = 2 ∨ j = 3 ∨ j = 4 ∨ j = 5 ∨ j = 6 by omega) with rfl | rfl | rfl | rfl | rfl | rfl | rfl
  · exact ⟨⟨#[48]⟩, by decide, by rw [World.cell?_alloc_at _ _ _ _ rfl]; rfl⟩
  · exact ⟨⟨#[48]⟩, by decide, by rw [World.cell?_alloc_at _ _ _ _ rfl]; rfl⟩
  · exact ⟨⟨#[48]⟩, by decide, by rw [World.cell?_alloc_at _ _ _ _ rfl]; rfl⟩
  · exact ⟨⟨#[49]⟩, by decide, by rw [World.cell?_alloc_at _ _ _ _ rfl]; rfl⟩
  · exact ⟨⟨#[50]⟩, by decide, by rw [World.cell?_alloc_at _ _ _ _ rfl]; rfl⟩
  · exact ⟨⟨#[51]⟩, by decide, by rw [World.cell?_alloc_at _ _ _ _ rfl]; rfl⟩
  · exact ⟨⟨#[49]⟩, by decide, by rw [World.cell?_alloc_at _ _ _ _ rfl]; rfl⟩

set_option maxHeartbeats 1000000 in
theorem l92Coloured_any (w : World) (R : Nat) (a : Option Addr) (len cap : Nat) (z : List Int) (p : Nat) (hrd : Rd w R a len cap z p) (hp : p ≤ 500) :
    Calls Tryd.prog 23 #[.pointer (some ⟨R, 0, none⟩)] w (DrawnC w R a len cap z p) := by
  go_enter Tryd.func23, Tryd.ntmps23
  go_wp2_with fail
  refine (pick2_any w R a len cap z p 24 hrd (by omega) (by omega) (by omega)).mono ?_
  rintro e w1 ⟨n, rfl, hn1, hn2, hr1, hb1, hz1, hg1⟩
  have HR1 := hide hr1
  have HB1 := hide hb1
  have HG1 := hide hg1
  clear hr1 hb1 hz1 hg1 hrd
  go_wp2_with fail
  go_loopw [3, 5] (fun sv i wr => ∃ (x : ByteArray) (k q : Nat), sv = .string x ∧ i = .int .i64 (k : Int) ∧ x.size ≤ k ∧ k ≤ 24 ∧ q ≤ p + 1 + k ∧ Hid (Rd wr R a len cap z q) ∧ Hid (Below R w wr) ∧ Hid (w.grownBy wr (some R))) (fun _ i => fun _ => (n - Go.RowKit.intOf i).toNat)
  case atStart => exact ⟨_, 0, p + 1, rfl, rfl, Nat.zero_le _, by omega, by omega, HR1, HB1, HG1⟩
  case round =>
    obtain ⟨x, k, q, rfl, rfl, hx, hk, hq, HR, HB, HG⟩ := hrel
    by_cases hlt : (k : Int) < n
    · have hRl := HR.out.lt
      have OF := hide (of_any (wr.alloc (.cells #[.string ⟨#[48]⟩, .string ⟨#[48]⟩, .string ⟨#[48]⟩, .string ⟨#[49]⟩, .string ⟨#[50]⟩, .string ⟨#[51]⟩, .string ⟨#[49]⟩] 9)) R a len cap z q wr.heap.size 7 7 1 (HR.out.below ((Below.refl (R + 1) wr).alloc hRl _) (Nat.lt_succ_self R)) (by omega) (by omega) (by omega) (fun j hj => lit7 wr _ j hj))
      have HBA := hide (HB.out.alloc (by omega) (.cells #[.string ⟨#[48]⟩, .string ⟨#[48]⟩, .string ⟨#[48]⟩, .string ⟨#[49]⟩, .string ⟨#[50]⟩, .string ⟨#[51]⟩, .string ⟨#[49]⟩] 9))
      have HGA := hide (HG.out.trans (World.grownBy_alloc wr (.cells #[.string ⟨#[48]⟩, .string ⟨#[48]⟩, .string ⟨#[48]⟩, .string ⟨#[49]⟩, .string ⟨#[50]⟩, .string ⟨#[51]⟩, .string ⟨#[49]⟩] 9) (some R)))
      go_wp2_with fail
      refine OF.out.mono ?_
      rintro e w2 ⟨t, rfl, ht, hr2, hb2, hg2⟩
      have HR2 := hide hr2
      have HB2 := hide (HBA.out.trans hb2)
      have HG2 := hide (HGA.out.trans hg2)
      have hxt : x.size + t.size ≤ 100 := by omega
      clear hr2 hb2 hg2
      go_wp2_with fail
      go_roundw
      case rel => exact ⟨_, k + 1, q + 1, rfl, by go_num, by rw [ByteArray.size_append]; omega, by omega, by omega, HR2, HB2, HG2⟩
      case measure => simp [Go.RowKit.intOf]; omega
    · go_wp2_with fail
      refine (pick2_any wr R a len cap z q 24 HR.out (by omega) (by omega) (by omega)).mono ?_
      rintro e w2 ⟨v, rfl, v0, v1, hr2, hb2, hz2, hg2⟩
      have HR2 := hide hr2
      have HB2 := hide (HB.out.trans hb2)
      have HG2 := hide (HG.out.trans hg2)
      clear hr2 hb2 hz2 hg2
      cases h0 : (v == 0)
      · go_wp2_with (go_at_call 42; refine (l1TidyC_any x _ (by unfold maxLen; omega)).mono ?_; rintro e w3 ⟨rfl, rfl⟩)
        go_ret
        exact ⟨_, q + 1, rfl, by have h1 := tidyC_size x; have h2 := cz_le (lst x); rw [lst_size] at h2; omega, by omega, HR2.out, HB2.out, HG2.out⟩
      · go_wp2_with fail
        go_ret
        exact ⟨_, q + 1, rfl, by rw [ByteArray.size_append]; show x.size + 1 ≤ 300; omega, by omega, HR2.out, HB2.out, HG2.out⟩

set_option maxHeartbeats 400000 in
theorem DrawColourStep_any (a : Option Addr) (len cap : Nat) (z : List Int) (w : World) (hlen : len ≤ 1048576) (hcap : len ≤ cap) (hb : Bytes w a len z) :
    Calls Tryd.prog 12 #[.slice a len cap] w (DrawnRow w) := by
  go_enter Tryd.func12, Tryd.ntmps12
  go_wp2_with fail
  refine (l6Open_any a len cap z w hlen hcap hb).mono ?_
  rintro e w1 ⟨rfl, hr, hb1, hz1⟩
  go_wp2_with fail
  refine (l92Coloured_any w1 w.heap.size a _ cap z 0 hr (by omega)).mono ?_
  rintro e w2 ⟨s, q, rfl, hs, hq, hr2, hb2, hg2⟩
  go_wp2_with fail
  go_ret
  exact ⟨s, rfl, hs, hb1.trans hb2⟩

/-- a drawing of a text and a number -/
def DrawnSN (w : World) (e : Ending) (w' : World) : Prop := ∃ (s : ByteArray) (n : Int), e = .returned (.tuple #[.string s, .int .i64 n]) ∧ s.size ≤ 300 ∧ -3 ≤ n ∧ n ≤ 3 ∧ Below w.heap.size w w'
theorem tdiv19b (v : Int) (h1 : 0 ≤ v) (h2 : v < 20) : 0 ≤ v.tdiv 19 ∧ v.tdiv 19 ≤ 1 := by
  obtain ⟨n, rfl⟩ := Int.eq_ofNat_of_zero_le h1
  have e : (n : Int).tdiv 19 = ((n / 19 : Nat) : Int) := rfl
  rw [e]
  omega

set_option maxHeartbeats 1000000 in
theorem DrawColourMove_any (a : Option Addr) (len cap : Nat) (z : List Int) (w : World) (hlen : len ≤ 1048576) (hcap : len ≤ cap) (hb : Bytes w a len z) :
    Calls Tryd.prog 7 #[.slice a len cap] w (DrawnSN w) := by
  go_enter Tryd.func7, Tryd.ntmps7
  go_wp2_with fail
  refine (l6Open_any a len cap z w hlen hcap hb).mono ?_
  rintro e w1 ⟨rfl, hr, hb1, hz1⟩
  go_wp2_with fail
  refine (l92Coloured_any w1 w.heap.size a _ cap z 0 hr (by omega)).mono ?_
  rintro e w2 ⟨s, q, rfl, hs, hq, hr2, hb2, hg2⟩
  have HR2 := hide hr2
  have HB2 := hide (hb1.trans hb2)
  clear hr hb1 hz1 hr2 hb2 hg2
  go_wp2_with fail
  refine (pick2_any w2 w.heap.size a _ cap z q 3 HR2.out (by omega) (by omega) (by omega)).mono ?_
  rintro e w3 ⟨u, rfl, u0, u1, hr3, hb3, hz3, hg3⟩
  have HR3 := hide hr3
  have HB3 := hide (HB2.out.trans hb3)
  clear hr3 hb3 hz3 hg3
  go_wp2_with fail
  refine (pick2_any w3 w.heap.size a _ cap z (q + 1) 20 HR3.out (by omega) (by omega) (by omega)).mono ?_
  rintro e w4 ⟨v, rfl, v0, v1, hr4, hb4, hz4, hg4⟩
  have HB4 := hide (HB3.out.trans hb4)
  clear hr4 hb4 hz4 hg4
  obtain ⟨d0, d1⟩ := tdiv19b v v0 v1
  obtain ⟨d, hd⟩ : ∃ d, v.tdiv 19 = d := ⟨_, rfl⟩
  rw [hd] at d0 d1
  have e1 : IntKind.i64.wrap d = d := by rw [IntKind.wrap_i64]; omega
  have e2 : IntKind.i64.wrap (d * 4) = d * 4 := by rw [IntKind.wrap_i64]; omega
  have e3 : IntKind.i64.wrap (1 + u) = 1 + u := by rw [IntKind.wrap_i64]; omega
  have e4 : IntKind.i64.wrap (1 + u - d * 4) = 1 + u - d * 4 := by rw [IntKind.wrap_i64]; omega
  have hb : -3 ≤ 1 + u - d * 4 ∧ 1 + u - d * 4 ≤ 3 := by omega
  have HBD := hide hb
  clear hb d0 d1 u0 u1 v0 v1
  go_wp2_with fail
  go_ret2
  exact ⟨s, _, rfl, hs, HBD.out.1, HBD.out.2, HB4.out⟩

set_option maxHeartbeats 1000000 in
theorem DrawColourBack_any (a : Option Addr) (len cap : Nat) (z : List Int) (w : World) (hlen : len ≤ 1048576) (hcap : len ≤ cap) (hb : Bytes w a len z) :
    Calls Tryd.prog 20 #[.slice a len cap] w (DrawnRow w) := by
  go_enter Tryd.func20, Tryd.ntmps20
  go_wp2_with fail
  refine (l6Open_any a len cap z w hlen hcap hb).mono ?_
  rintro e w1 ⟨rfl, hr, hb1, hz1⟩
  go_wp2_with fail
  refine (l92Coloured_any w1 w.heap.size a _ cap z 0 hr (by omega)).mono ?_
  rintro e w2 ⟨s, q, rfl, hs, hq, hr2, hb2, hg2⟩
  have HR2 := hide hr2
  have HB2 := hide (hb1.trans hb2)
  have CS := hide (specColourStep_any s w2 (by unfold maxLen; omega))
  have hts : csOk s = true → (csS s).size ≤ 300 := fun h => by
    obtain ⟨_, h2⟩ := csOk_some h
    have := (stepL_some h2).2.2.2
    rw [lst_size] at this
    omega
  have HTS := hide hts
  obtain ⟨t, ht⟩ : ∃ t, t = csS s := ⟨_, rfl⟩
  rw [← ht] at CS HTS
  clear hr hb1 hz1 hr2 hb2 hg2 hts ht
  cases hok : csOk s
  · rw [hok] at CS
    clear hok HTS
    go_wp2_with fail
    refine CS.out.mono ?_
    rintro e w3 ⟨rfl, b3⟩
    have B3 := hide (HB2.out.trans (b3.mono HB2.out.size))
    clear b3
    go_wp2_with fail
    go_ret
    exact ⟨s, rfl, hs, B3.out⟩
  · rw [hok] at CS
    have ht := HTS.out hok
    clear hok HTS
    go_wp2_with fail
    refine CS.out.mono ?_
    rintro e w3 ⟨rfl, b3⟩
    have B3 := hide (HB2.out.trans (b3.mono HB2.out.size))
    have R3 := hide (HR2.out.below b3 HR2.out.lt)
    clear b3
    go_wp2_with fail
    refine (pick2_any w3 w.heap.size a _ cap z q 3 R3.out (by omega) (by omega) (by omega)).mono ?_
    rintro e w4 ⟨v, rfl, v0, v1, hr4, hb4, hz4, hg4⟩
    have B4 := hide (B3.out.trans hb4)
    clear hr4 hb4 hz4 hg4
    by_cases hv : 0 < v
    · go_wp2_with fail
      go_ret
      exact ⟨t, rfl, ht, B4.out⟩
    · go_wp2_with fail
      go_ret
      exact ⟨s, rfl, hs, B4.out⟩
end Go.Proofs.YtppelmceojodhaaDoor
