/- THE WALK of DrawRowOf: of the list that is drawn it is only said how long it may be. -/
import Derived.Test.YtaonngmjfemadacPick
import Derived.Test.YtaonngmjfemadacDraw3
import Derived.Test.YtaonngmjfemadacLevels
import Derived.Deep.RegionHeld3
import Derived.Deep.RegionWith
namespace Go.Proofs.Ytaonngmjfemadac
open Go.RowKit

/-- what the drawing of a list leaves -/
def DrawnList (w : World) (e : Ending) (w' : World) : Prop := ∃ (v : Value) (l : List Int), e = .returned v ∧ l.length ≤ 8 ∧ IntsV w.heap.size w' v l ∧ Below w.heap.size w w'

/-- between two rounds -/
def OfDraw (w : World) (R : Nat) (a : Option Addr) (len cap : Nat) (z : List Int) (p : Nat) (out at' i : Value) (wr : World) : Prop :=
  ∃ (k g c : Nat) (x : Int) (l : List Int), i = .int .i64 (k : Int) ∧ at' = .int .i64 x ∧ 0 ≤ x ∧ x ≤ 10 * (k : Int) ∧ out = .slice (some ⟨g, 0, none⟩) k c ∧ k ≤ 8 ∧ R < g ∧ g < wr.heap.size ∧
    Hid (l.length = k) ∧ Hid (k ≤ c) ∧ Hid (CellsAt wr g (l.map (.int .i64))) ∧ Rd wr R a len cap z (p + k) ∧ Hid (Below R w wr)
theorem ownsRow_form' {w : World} {base e n : Nat} {v : Value} {xs : List Value} (h : w.ownsRow base e 1 v n xs) (hn : 0 < n) : ∃ g cap, v = .slice (some ⟨g, 0, none⟩) n cap ∧ base ≤ g ∧ g < w.heap.size ∧ n ≤ cap ∧ cap ≤ maxLen := by
  have hlt := h.lt
  rcases h.2 with ⟨_, rfl⟩ | ⟨g, cap, cur, rfl, hb, _, hc, hm, _⟩
  · omega
  · exact ⟨g, cap, rfl, hb, (hlt g rfl).2, hc, hm⟩
theorem src' {w : World} {g : Nat} {l : List Value} (h : CellsAt w g l) : ∀ j u, l[j]? = some u → w.cell? ((⟨g, 0, none⟩ : Addr).add j) = some u := by
  intro j u hu
  rw [Addr.add_lit, Nat.zero_add]; exact (h j u hu).1
theorem ints_one (l : List Int) : ∀ u ∈ l.map (Value.int .i64), u.oneCell' = true := by intro u hu; obtain ⟨b, _, rfl⟩ := List.mem_map.1 hu; rfl

theorem wrapm (m : Nat) (h : m ≤ 8) : IntKind.i64.wrap (m : Int) = (m : Int) := IntWalk.i64_in _ (by omega)
theorem wrapm64 (m : Nat) (h : m ≤ 8) : wrap64 (m : Int) = (m : Int) := IntWalk.wrap64_in _ (by omega)
theorem wrapm1 (m : Nat) (h : m ≤ 8) : IntKind.i64.wrap ((m : Int) + 1 - 1) = (m : Int) := by rw [IntWalk.i64_in _ (by omega)]; omega
theorem cell_grown {w w' : World} {R g j : Nat} {v : Value} (hg : w.grownBy w' (some R)) (hne : g ≠ R) (h : w.cell? ⟨g, j, none⟩ = some v) : w'.cell? ⟨g, j, none⟩ = some v :=
  (World.cell?_of_block (a := ⟨g, j, none⟩) (hg.block g (World.block_lt_of_cell? w _ h) (by intro e; injection e with e; exact hne e))).trans h
/-- one of three numbers, by an index that was picked -/
theorem lit_cell (w : World) (y pv : Int) (t : TypeId) (h0 : 0 ≤ pv) (h1 : pv < 3) : ∃ x : Int, (w.alloc (.cells #[.int .i64 (-1), .int .i64 120, .int .i64 y] t)).cell? ⟨w.heap.size, pv.toNat, none⟩ = some (.int .i64 x) := by
  rcases (show pv = 0 ∨ pv = 1 ∨ pv = 2 by omega) with rfl | rfl | rfl
  · exact ⟨-1, by rw [World.cell?_alloc_at _ _ _ _ rfl]; rfl⟩
  · exact ⟨120, by rw [World.cell?_alloc_at _ _ _ _ rfl]; rfl⟩
  · exact ⟨y, by rw [World.cell?_alloc_at _ _ _ _ rfl]; rfl⟩

theorem lit_lt (pv : Int) (h1 : pv < 3) (y : Int) : pv.toNat < [Value.int .i64 (-1), Value.int .i64 120, Value.int .i64 y].length := by simp only [List.length_cons, List.length_nil]; omega
theorem lit_list (y pv : Int) (h0 : 0 ≤ pv) (h1 : pv < 3) : ∃ x : Int, [Value.int .i64 (-1), Value.int .i64 120, Value.int .i64 y][pv.toNat]'(lit_lt pv h1 y) = .int .i64 x := by
  rcases (show pv = 0 ∨ pv = 1 ∨ pv = 2 by omega) with rfl | rfl | rfl
  · exact ⟨-1, rfl⟩
  · exact ⟨120, rfl⟩
  · exact ⟨y, rfl⟩
theorem set_ints {w : World} {g k : Nat} {l : List Int} (x : Int) (hk : l.length = k) (h0 : 0 < k) (h : CellsAt w g (l.map (.int .i64))) : ∃ l2 : List Int, l2.length = k ∧ CellsAt (w.setCell ⟨g, 0, none⟩ (.int .i64 x)) g (l2.map (.int .i64)) :=
  ⟨l.set 0 x, by rw [List.length_set, hk], by rw [List.map_set]; exact h.set 0 (by rw [List.length_map, hk]; exact h0) _⟩
theorem set_ints' {w : World} {g k : Nat} {l : List Int} (x : Int) (hk : l.length = k) (h0 : 0 < k) (h : CellsAt w g (l.map (.int .i64))) (o : Obj) : ∃ l2 : List Int, l2.length = k ∧ CellsAt ((w.setCell ⟨g, 0, none⟩ (.int .i64 x)).alloc o) g (l2.map (.int .i64)) := by
  obtain ⟨l2, a, b⟩ := set_ints x hk h0 h
  exact ⟨l2, a, b.alloc o⟩
theorem rd_drew {w : World} {R len cap p : Nat} {a : Option Addr} {z : List Int} (h : Rd w R a len cap z p) : Rd w.drew R a len cap z p := h.below ((Below.refl (R + 1) w).drew) (Nat.lt_succ_self R)
theorem rd_lit {w : World} {R len cap p : Nat} {a : Option Addr} {z : List Int} (h : Rd w R a len cap z p) (hs : R + 1 ≤ w.heap.size) (b) : Rd (w.alloc b) R a len cap z p := h.below ((Below.refl (R + 1) w).alloc hs b) (Nat.lt_succ_self R)

set_option maxHeartbeats 8000000 in
theorem DrawRowOf_any (a : Option Addr) (len cap : Nat) (z : List Int) (w : World) (hlen : len ≤ 1048576) (hcap : len ≤ cap) (hb : Bytes w a len z) :
    Calls Try.prog 28 #[.slice a len cap] w (DrawnList w) := by
  obtain ⟨i0, hi, hz0, hz1, hz2⟩ := info_parts infoI
  go_enter Try.func28, Try.ntmps28
  go_wp2_with fail
  refine (l6Open_any a len cap z w hlen hcap hb).mono ?_
  rintro e w1 ⟨rfl, hr, hb1, hz1'⟩
  obtain ⟨R, hR⟩ : ∃ R, w.heap.size = R := ⟨_, rfl⟩
  rw [hR] at hr hb1 ⊢
  have HRR := hide hR
  clear hR
  have hrlt := hr.lt
  go_wp2_with fail
  have hb1' : Below R w (w1.alloc (.cells #[] 3)) := hb1.alloc (by omega) _
  refine (pick2_any (w1.alloc (.cells #[] 3)) R a _ cap z 0 8 (hr.below ((Below.refl (R + 1) w1).alloc (by omega) _) (Nat.lt_succ_self R)) (by omega) (by omega) (by omega)).mono ?_
  rintro e w2 ⟨n, rfl, hn0, hn1, hr2, hb2, hzz2, _⟩
  have b2 := hb1'.trans hb2
  have hgz : R + 1 < w2.heap.size := by have := hb2.size; simp at this; omega
  have HRZ := hide hz1'
  have hB1 : w1.heap.size = R + 1 := by rw [hz1', HRR.out]
  rw [HRR.out]
  go_wp2_with fail
  go_loopw [4, 6, 7] (OfDraw w R a (min len 2000) cap z 1) (fun _ _ i _ => (n - intOf i).toNat)
  case atStart => exact ⟨0, R + 1, 0, 0, [], rfl, rfl, by omega, by omega, rfl, by omega, by omega, hgz, rfl, Nat.le_refl _, fun j v hv => by simp at hv, hr2, b2⟩
  case round =>
    obtain ⟨k, g, c, x, l, rfl, rfl, hx0, hx1, rfl, hk, hRg, hgw, HL, HKC, HC, hrd, HB⟩ := hrel
    have HRD := hide hrd
    clear hr hr2 hb1 hb1' hb2 b2 hrlt hgz hzz2 hB1
    by_cases hlt : (k : Int) < n
    · go_wp2_with fail
      refine (pick2_any wr R a _ cap z (1 + k) 6 hrd (by omega) (by omega) (by omega)).mono ?_
      rintro e w3 ⟨v, rfl, hv0, hv1, hr3, hb3, hz3, hg3⟩
      have HR3 := hide hr3
      have HB3 := hide (HB.out.trans hb3)
      have HC3 := hide (HC.out.grown hg3 (by omega))
      clear hrd hr3 hb3 hg3
      have hsz3 : g < w3.heap.size := by omega
      have hsz4 : R + 1 ≤ w3.heap.size := by omega
      clear hz3
      obtain ⟨y, hy⟩ : ∃ y, y = x + 1 + v := ⟨_, rfl⟩
      have y0 : 0 ≤ y := by omega
      have y1 : y ≤ 10 * ((k : Int) + 1) := by omega
      have HY := hide hy
      have HOWN := hide (World.ownsRow_lit (base := R + 1) (e := 3) (size := 1) w3 #[.int .i64 y] 1 (by omega) (by unfold maxLen; omega) rfl)
      have HSRC := hide (src' (HC3.out.alloc (.cells #[.int .i64 y] 3)))
      have HLEN := hide (show (l.map (Value.int .i64)).length = k * 1 by rw [List.length_map, HL.out, Nat.mul_one])
      have HONE := hide (ints_one l)
      rw [hy] at HOWN HSRC
      clear hy
      go_wp2_with (at_builtin; go_loud (refine wpList_append_own _ rfl _ _ 27 rfl (R + 1) 3 i0 (.int .i64 0) 1 8 Try.underlying27 hi hz0 hz1 hz2 rfl (by decide) (.slice (some ⟨w3.heap.size, 0, none⟩) 1 1) 1 [.int .i64 (x + 1 + v)] rfl HOWN.out ⟨g, 0, none⟩ k c (l.map (.int .i64)) rfl HLEN.out HSRC.out HONE.out ?b1 ?b2 ?b3 ?_); rotate_right; intro v' w4 hown' hgrow _)
      case b1 => unfold maxLen; omega
      case b2 => omega
      case b3 => simp; omega
      have hsg := hgrow.size
      simp only [World.size_alloc] at hsg
      have hB4 := hide ((HB3.out.alloc (by omega) (.cells #[.int .i64 (x + 1 + v)] 3)).grown hgrow (by simp; omega) (fun b e => by have := (HOWN.out.lt b e).1; omega))
      have hR4 := hide ((HR3.out.below ((Below.refl (R + 1) w3).alloc (by omega) (.cells #[.int .i64 (x + 1 + v)] 3)) (Nat.lt_succ_self R)).below ((Below.refl (R + 1) _).grown hgrow (by simp; omega) (fun b e => (HOWN.out.lt b e).1)) (Nat.lt_succ_self R))
      rw [show [Value.int .i64 (x + 1 + v)] ++ l.map (.int .i64) = ((x + 1 + v) :: l).map (.int .i64) from rfl] at hown'
      obtain ⟨g4, c4, rfl, hg1, hg2, hg3, _⟩ := ownsRow_form' hown' (by omega)
      have hC4 := hide (CellsAt.of_owns hown')
      clear hown' hgrow
      go_wp2_with fail
      go_roundw
      case rel =>
        refine ⟨k + 1, g4, c4, x + 1 + v, (x + 1 + v) :: l, by go_num, rfl, by omega, by omega, ?_, by omega, by omega, hg2, ?_, ?_, hC4, ?_, hB4⟩
        · rw [Nat.add_comm k 1]
        · show (_ :: l).length = k + 1
          rw [List.length_cons, HL.out]
        · show k + 1 ≤ c4
          omega
        · exact hR4.out
      case measure => simp [intOf]; omega
    · have fin : ∀ (w' : World), Below R w w' → g < w'.heap.size → (∃ l2 : List Int, l2.length = k ∧ CellsAt w' g (l2.map (.int .i64))) → DrawnList w (.returned (.slice (some ⟨g, 0, none⟩) k c)) w' := by
        intro w' hB' hg' ⟨l2, hl2, hc2⟩
        refine ⟨_, l2, rfl, by omega, .inr ⟨g, c, by rw [hl2], by rw [hl2]; exact HKC.out, ?_, hg', hc2⟩, ?_⟩
        · rw [HRR.out]; omega
        · rw [HRR.out]; exact hB'
      have FIN := hide fin
      clear fin
      by_cases hn0 : 0 < n
      · obtain ⟨m, rfl⟩ : ∃ m : Nat, n = (m : Int) + 1 := ⟨(n - 1).toNat, by omega⟩
        obtain ⟨ym, hym⟩ : ∃ y, l[m]? = some y := ⟨_, List.getElem?_eq_getElem (by rw [HL.out]; omega)⟩
        obtain ⟨y0, hy0⟩ : ∃ y, l[0]? = some y := ⟨_, List.getElem?_eq_getElem (by rw [HL.out]; omega)⟩
        go_wp2_with fail
        refine (pick2_any wr R a _ cap z (1 + k) 12 hrd (by omega) (by omega) (by omega)).mono ?_
        rintro e w3 ⟨v, rfl, hv0, hv1, hr3, hb3, hz3, hg3⟩
        have HB3 := hide (HB.out.trans hb3)
        have HC3 := hide (HC.out.grown hg3 (by omega))
        have hgz3 : g < w3.heap.size := by omega
        have HR3 := hide hr3
        clear hrd hr3 hb3 hg3 hz3
        cases hv : (v == 0)
        · go_wp2_with fail
          go_ret
          exact FIN.out w3 HB3.out hgz3 ⟨l, HL.out, HC3.out⟩
        · have cm := (HC3.out m (.int .i64 ym) (by simp [hym])).1
          obtain ⟨c0, f0⟩ := HC3.out 0 (.int .i64 y0) (by simp [hy0])
          have HYM := hide (show (l.map (Value.int .i64))[m]? = some (.int .i64 ym) by simp [hym])
          have HY0 := hide (show (l.map (Value.int .i64))[0]? = some (.int .i64 y0) by simp [hy0])
          clear hym hy0
          have i0 : (0 : Int) ≤ (m : Int) := by omega
          have i1 : (m : Int) < (k : Int) := by omega
          have i2 : (0 : Int) < (k : Int) := by omega
          have m8 : m ≤ 8 := by omega
          have i3 : m < k := by omega
          have o1 : 1 + k + 1 ≤ 100000 := by omega
          have hgR : g ≠ R := by omega
          have hwR : w3.heap.size ≠ R := by omega
          have hsR : R + 1 ≤ w3.heap.size := by omega
          have hRl : R ≤ g := by omega
          have hkp : 0 < k := by omega
          have RA := hide (rd_drew HR3.out)
          have RB := hide (rd_drew (rd_lit HR3.out hsR (.cells #[.int .i64 (-1), .int .i64 120, .int .i64 ym] 3)))
          have HCB := hide (HC3.out.alloc (.cells #[.int .i64 (-1), .int .i64 120, .int .i64 ym] 3))
          have e1 := wrapm1 m m8
          have e2 := wrapm m m8
          have e3 := wrapm64 m m8
          go_wp2_with fail
          go_region_with (first | (go_at_call 43; refine (pick2_any w3.drew R a _ cap z (1 + k + 1) 3 RA.out o1 (by decide) (by decide)).mono ?_; rintro e w4 ⟨pv, rfl, p0, p1, hr4, hb4, hz4, hg4⟩; have q0 := (CellsAt.grown (w := w3.drew) HC3.out hg4 hgR); have HQ0 := hide q0; have cm4 := (q0 m _ HYM.out).1; obtain ⟨c04, f04⟩ := q0 0 _ HY0.out; obtain ⟨xx, lq⟩ := lit_list ym pv p0 p1; obtain ⟨c05, f05⟩ := (q0.alloc (.cells #[.int .i64 (-1), .int .i64 120, .int .i64 ym] 3)) 0 _ HY0.out; clear hr4 q0) | (go_at_call 43; refine (pick2_any (w3.alloc (.cells #[.int .i64 (-1), .int .i64 120, .int .i64 ym] 3)).drew R a _ cap z (1 + k + 1) 3 RB.out o1 (by decide) (by decide)).mono ?_; rintro e w4 ⟨pv, rfl, p0, p1, hr4, hb4, hz4, hg4⟩; have q0 := (CellsAt.grown (w := (w3.alloc (.cells #[.int .i64 (-1), .int .i64 120, .int .i64 ym] 3)).drew) HCB.out hg4 hgR); have HQ0 := hide q0; have cm4 := (q0 m _ HYM.out).1; obtain ⟨c04, f04⟩ := q0 0 _ HY0.out; obtain ⟨xx, lc0⟩ := lit_cell w3 ym pv 3 p0 p1; have lc := cell_grown (w := (w3.alloc (.cells #[.int .i64 (-1), .int .i64 120, .int .i64 ym] 3)).drew) hg4 hwR lc0; clear hr4 q0) | fail)
          all_goals go_goals
          all_goals (clear e1 e2 e3)
          all_goals (go_wp2_with fail)
          all_goals go_ret
          all_goals first
            | exact FIN.out _ (((HB3.out.alloc (by omega) (.cells #[.int .i64 (-1), .int .i64 120, .int .i64 ym] 3)).drew.trans hb4).setCell hRl _) (by simp [hz4]; omega) (set_ints xx HL.out hkp HQ0.out)
            | exact FIN.out _ (((HB3.out.drew.trans hb4).setCell (p := ⟨g, 0, none⟩) hRl _).alloc (by simp [hz4]; omega) (.cells #[.int .i64 (-1), .int .i64 120, .int .i64 ym] 3)) (by simp [hz4]; omega) (set_ints' xx HL.out hkp HQ0.out _)
      · go_wp2_with fail
        go_ret
        exact FIN.out wr HB.out hgw ⟨l, HL.out, HC.out⟩
end Go.Proofs.Ytaonngmjfemadac
