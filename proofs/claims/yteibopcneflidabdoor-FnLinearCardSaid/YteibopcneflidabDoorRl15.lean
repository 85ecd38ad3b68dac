/- TEXTS DrawP, DrawRO. -/
import Derived.Test.YteibopcneflidabDoorRl03
import Derived.Test.YteibopcneflidabDoorRl04
import Derived.Test.YteibopcneflidabDoorRl13
import Derived.Test.YteibopcneflidabDoorRl14
/- THE DRAWING of rigged partitions. -/
namespace Go.Proofs.YteibopcneflidabDoor
open Go.RowKit Go.Sort Go.Shelf

/-- what the drawing of a high row leaves, with the reader -/
def DrawnH2 (w : World) (R : Nat) (a : Option Addr) (len cap : Nat) (z : List Int) (p : Nat) (e : Ending) (w' : World) : Prop :=
  ∃ (s : ByteArray) (q : Nat), e = .returned (.string s) ∧ s.size ≤ 300 ∧ q ≤ p + 110 ∧ Rd w' R a len cap z q ∧ Below R w w' ∧ w'.heap.size = w.heap.size

set_option maxHeartbeats 2000000 in
theorem l91High2_any (w : World) (R : Nat) (a : Option Addr) (len cap : Nat) (z : List Int) (p : Nat) (hrd : Rd w R a len cap z p) (hp : p ≤ 500) :
    Calls Tryd.prog 10 #[.pointer (some ⟨R, 0, none⟩)] w (DrawnH2 w R a len cap z p) := by
  go_enter Tryd.func10, Tryd.ntmps10
  go_wp2_with fail
  refine (pick_any w R a len cap z p 28 hrd (by omega) (by omega) (by omega)).mono ?_
  rintro e w1 ⟨n, rfl, hn1, hn2, hr1, hb1, hz1⟩
  go_wp2_with fail
  go_loopw [3, 4, 6] (HighRel w R a len cap z p) (fun _ _ i _ => (n - intOf i).toNat)
  case atStart => exact ⟨_, 0, _, 0, rfl, rfl, rfl, by omega, by omega, rfl, by omega, rfl, by omega, hr1, hb1, hz1⟩
  case round =>
    obtain ⟨x, k, q, l, rfl, rfl, rfl, hl1, hl2, hx, hk, hs, hq, hr, hb, hz⟩ := hrel
    have HS := hide hs
    have HX := hide hx
    have HB := hide hb
    have HZ := hide hz
    clear hs hx hb hz hr1 hb1 hz1
    by_cases hlt : (k : Int) < n
    · have hsz : x.size + 1 ≤ 1000 := by rw [HX.out]; omega
      by_cases hl0 : 0 < l
      · go_wp2_with fail
        refine (pick_any wr R a len cap z q 2 hr (by omega) (by omega) (by omega)).mono ?_
        rintro e w2 ⟨v, rfl, hv1, hv2, hr2, hb2, hz2⟩
        have HR2 := hide hr2
        have HB2 := hide hb2
        have HZ2 := hide hz2
        clear hr2 hb2 hz2 hr
        cases hv : (v == 0)
        all_goals
          go_wp2_with fail
          go_roundw
          case rel => exact ⟨_, k + 1, q + 1, _, rfl, rfl, by go_num, by omega, by omega, by simp [HX.out]; rfl, by omega, allSgn_push x _ (by rfl) HS.out, by omega, HR2.out, HB.out.trans HB2.out, HZ2.out.trans HZ.out⟩
          case measure => simp [intOf]; omega
      · have HR := hide hr
        clear hr
        go_wp2_with fail
        go_roundw
        case rel => exact ⟨_, k + 1, q, _, rfl, rfl, by go_num, by omega, by omega, by simp [HX.out]; rfl, by omega, allSgn_push x _ (by rfl) HS.out, by omega, HR.out, HB.out, HZ.out⟩
        case measure => simp [intOf]; omega
    · have hsz : x.size ≤ 28 := by rw [HX.out]; omega
      go_wp2_with fail
      refine (pick_any wr R a len cap z q 10 hr (by omega) (by omega) (by omega)).mono ?_
      rintro e w2 ⟨v, rfl, hv1, hv2, hr2, hb2, hz2⟩
      have HB2 := hide (HB.out.trans hb2)
      have HZ2 := hide (hz2.trans HZ.out)
      clear hr hb2 hz2 hrd
      cases h0 : (v == 0)
      · go_wp2_with (go_at_call 25; refine (l1Tidy_any x _ (by unfold maxLen; omega) HS.out).mono ?_; rintro e w3 ⟨rfl, rfl⟩)
        go_ret
        exact ⟨_, q + 1, rfl, by have := tidyS_le x; omega, by omega, hr2, HB2.out, HZ2.out⟩
      · go_wp2_with fail
        refine (l91Row_any w2 R a len cap z (q + 1) hr2 (by omega)).mono ?_
        rintro e w3 ⟨t, q3, rfl, ht, hq3, hr3, hb3, hz3⟩
        go_wp2_with fail
        go_ret
        exact ⟨t, q3, rfl, ht, by omega, hr3, HB2.out.trans hb3, hz3.trans HZ2.out⟩


theorem PartsS.kept {lo R : Nat} {w w' : World} {v : Value} {l : List (Int × Int)} (h : PartsS lo w v l) (hg : w.grownBy w' (some R)) (hR : R < lo) : PartsS lo w' v l := by
  obtain ⟨_, g, c, rfl, h1, h2, h3, h4⟩ := h
  have h5 := h4.grown hg (by omega)
  have h6 : g < w'.heap.size := Nat.lt_of_lt_of_le h3 hg.size
  exact ⟨.inr ⟨g, c, rfl, h1, h2, h6, h5⟩, g, c, rfl, h1, h2, h6, h5⟩
/-- bounds of what is drawn -/
def PBd (l : List (Int × Int)) : Prop := ∀ x ∈ l, 0 ≤ x.1 ∧ x.1 ≤ 60 ∧ -10000 ≤ x.2 ∧ x.2 ≤ 10000
theorem bd_zero {l : List (Int × Int)} (h : PBd l) {y : Int × Int} (hy : l[0]? = some y) : PBd (l.set 0 (0, y.2)) := by
  intro x hx
  rcases List.mem_or_eq_of_mem_set hx with hx | rfl
  · exact h x hx
  · have := h y (List.mem_of_getElem? hy)
    show (0 : Int) ≤ 0 ∧ (0 : Int) ≤ 60 ∧ -10000 ≤ y.2 ∧ y.2 ≤ 10000
    omega
theorem enc_zero {l : List (Int × Int)} {y : Int × Int} (hy : l[0]? = some y) : encZ (l.set 0 (0, y.2)) = (encZ l).set 0 (.int .i64 0) := by
  cases l with
  | nil => simp at hy
  | cons x l => simp at hy; subst hy; rfl
theorem parts_zero {lo g c n : Nat} {w : World} {l : List (Int × Int)} {y : Int × Int} (h : PartsS lo w (.slice (some ⟨g, 0, none⟩) n c) l) (hy : l[0]? = some y) (_hn : l.length = n) :
    PartsS lo (w.setCell ⟨g, 0, none⟩ (.int .i64 0)) (.slice (some ⟨g, 0, none⟩) n c) (l.set 0 (0, y.2)) := by
  obtain ⟨_, g', c', e, h1, h2, h3, h4⟩ := h
  injection e with e1 e2 e3
  injection e1 with e1
  injection e1 with e1 _ _
  subst e1 e3
  have hl : 0 < l.length := (List.getElem?_eq_some_iff.1 hy).1
  have h5 := h4.set 0 (by rw [encZ_length]; omega) (.int .i64 0)
  rw [← enc_zero hy] at h5
  have h6 : g < (w.setCell ⟨g, 0, none⟩ (.int .i64 0)).heap.size := Nat.lt_of_lt_of_le h3 ((Below.refl g w).setCell (p := ⟨g, 0, none⟩) (Nat.le_refl _) (.int .i64 0)).size
  have e4 : n = (l.set 0 (0, y.2)).length := by rw [List.length_set]; exact e2
  refine ⟨.inr ⟨g, c, by rw [e4], by rw [List.length_set]; exact h1, h2, h6, h5⟩, g, c, by rw [e4], by rw [List.length_set]; exact h1, h2, h6, h5⟩
theorem parts_head {lo g c n : Nat} {w : World} {l : List (Int × Int)} {y : Int × Int} (h : PartsS lo w (.slice (some ⟨g, 0, none⟩) n c) l) (hy : l[0]? = some y) :
    w.cell? ⟨g, 0, none⟩ = some (.int .i64 y.1) ∧ w.frozen? ⟨g, 0, none⟩ = false ∧ lo ≤ g := by
  obtain ⟨_, g', c', e, h1, h2, h3, h4⟩ := h
  injection e with e1 e2 e3
  injection e1 with e1
  injection e1 with e1 _ _
  subst e1
  have := h4 _ _ (encZ_get l 0 y hy).1
  rw [Nat.zero_mul] at this
  exact ⟨this.1, this.2, h2⟩
/-- what the drawing of parts leaves -/
def DrawnParts (w : World) (R : Nat) (a : Option Addr) (len cap : Nat) (z : List Int) (p : Nat) (e : Ending) (w' : World) : Prop :=
  ∃ (v : Value) (l : List (Int × Int)) (q : Nat), e = .returned v ∧ PartsS (R + 1) w' v l ∧ PBd l ∧ l.length ≤ 100 ∧ q ≤ p + 200 ∧ Rd w' R a len cap z q ∧ Below R w w'
def PartsRel (w : World) (R : Nat) (a : Option Addr) (len cap : Nat) (z : List Int) (p : Nat) (n : Int) (v i : Value) (wr : World) : Prop :=
  ∃ (k : Nat) (l : List (Int × Int)) (q : Nat), (k : Int) ≤ n ∧ i = .int .i64 (k : Int) ∧ Hid (l.length = k) ∧ PBd l ∧ q ≤ p + 2 * k ∧ Hid (PartsS (R + 1) wr v l) ∧ Hid (Rd wr R a len cap z q) ∧ Hid (Below R w wr) ∧ R + 1 ≤ wr.heap.size
theorem rgOf_bd (s : ByteArray) : PBd (rgOf s) ∧ (rgOf s).length ≤ 60 := by
  unfold rgOf
  cases h : highB s
  · show PBd [] ∧ ([] : List (Int × Int)).length ≤ 60
    exact ⟨(fun x hx => by cases hx), Nat.zero_le _⟩
  · obtain ⟨h1, h2⟩ := (highB_iff s).1 h
    obtain ⟨h3, _⟩ := (levOk_iff s).1 h1
    obtain ⟨r1, _⟩ := rc_in h2 (by rw [rvB_length]; exact vld_le s h3)
    obtain ⟨r2, _, r4⟩ := (rgIn_iff _).1 ((rgFits_iff _ _).1 r1).1
    show PBd (kRc (rvB s)) ∧ (kRc (rvB s)).length ≤ 60
    exact ⟨fun x hx => by have := r2 x hx; omega, r4⟩

/-- what a drawing of parts leaves -/
def DrawnP (w : World) (e : Ending) (w' : World) : Prop := ∃ (v : Value) (l : List (Int × Int)), e = .returned v ∧ PartsS w.heap.size w' v l ∧ PBd l ∧ l.length ≤ 100 ∧ Below w.heap.size w w'

/-- a drawing of parts and two numbers -/
def DrawnPNN (w : World) (e : Ending) (w' : World) : Prop := ∃ (v : Value) (l : List (Int × Int)) (n j : Int), e = .returned (.tuple #[v, .int .i64 n, .int .i64 j]) ∧ -1000 ≤ n ∧ n ≤ 1000 ∧ 0 ≤ j ∧ j ≤ 8 ∧ PartsS w.heap.size w' v l ∧ PBd l ∧ l.length ≤ 100 ∧ Below w.heap.size w w'
theorem tdiv19 (v : Int) (h1 : 0 ≤ v) (h2 : v < 20) : 0 ≤ v.tdiv 19 ∧ v.tdiv 19 ≤ 1 := by
  rw [Int.tdiv_eq_ediv_of_nonneg h1]; omega
end Go.Proofs.YteibopcneflidabDoor

/- THE DRAWING of a high row. -/
namespace Go.Proofs.YteibopcneflidabDoor
open Go.RowKit Go.Sort Go.Shelf

set_option maxHeartbeats 400000 in
theorem DrawRigOf_any (a : Option Addr) (len cap : Nat) (z : List Int) (w : World) (hlen : len ≤ 1048576) (hcap : len ≤ cap) (hb : Bytes w a len z) :
    Calls Tryd.prog 4 #[.slice a len cap] w (DrawnRow w) := by
  go_enter Tryd.func4, Tryd.ntmps4
  go_wp2_with fail
  refine (l6Open_any a len cap z w hlen hcap hb).mono ?_
  rintro e w1 ⟨rfl, hr, hb1, hz1⟩
  go_wp2_with fail
  refine (l91High_any w1 w.heap.size a _ cap z 0 hr (by omega)).mono ?_
  rintro e w2 ⟨s, rfl, hs, hb2⟩
  go_wp2_with fail
  go_ret
  exact ⟨s, rfl, hs, hb1.trans hb2⟩

theorem rgOf_length (s : ByteArray) : (rgOf s).length ≤ 60 := (rgOf_bd s).2
end Go.Proofs.YteibopcneflidabDoor
