/- TEXTS DrawP. -/
import Derived.Test.YteibopcneflidaaDoorRa42
import Derived.Test.YteibopcneflidaaDoorRa43
import Derived.Test.YteibopcneflidaaDoorRa44
/- THE DRAWING of rigged partitions. -/
namespace Go.Proofs.YteibopcneflidaaDoor
open Go.RowKit Go.Sort Go.Shelf

/-- what the drawing of a high row leaves, with the reader -/
def DrawnH2 (w : World) (R : Nat) (a : Option Addr) (len cap : Nat) (z : List Int) (p : Nat) (e : Ending) (w' : World) : Prop :=
  ∃ (s : ByteArray) (q : Nat), e = .returned (.string s) ∧ s.size ≤ 300 ∧ q ≤ p + 110 ∧ Rd w' R a len cap z q ∧ Below R w w' ∧ w'.heap.size = w.heap.size

set_option maxHeartbeats 2000000 in
theorem l91High2_any (w : World) (R : Nat) (a : Option Addr) (len cap : Nat) (z : List Int) (p : Nat) (hrd : Rd w R a len cap z p) (hp : p ≤ 500) :
    Calls Tryd.prog 57 #[.pointer (some ⟨R, 0, none⟩)] w (DrawnH2 w R a len cap z p) := by
  go_enter Tryd.func57, Tryd.ntmps57
  go_wp2_with fail
  refine (pick_any w R a len cap z p 28 hrd (by omega) (by omega) (by omega)).mono ?_
  rintro e w1 ⟨n, rfl, hn1, hn2, hr1, hb1, hz1⟩
  go_wp2_with fail
  go_loopw [3, 4, 6] (HighRel w R a len cap z p) (fun _ _ i _ => (n - intOf i).toNat)
  case atStart => exact ⟨_, 0, _, 0, rfl, rfl, rfl, by omega, by omega, rfl, by omega, rfl, by omega, hr1, hb1, hz1⟩
  case round =>
    obtain ⟨x, k, q, l, rfl, rfl, rfl, hl1, hl2, hx, hk, hs, hq, hr, hb, hz⟩ := hrel
    have HS := hide hs
    have HX := hide hx
    have HB := hide hb
    have HZ := hide hz
    clear hs hx hb hz hr1 hb1 hz1
    by_cases hlt : (k : Int) < n
    · have hsz : x.size + 1 ≤ 1000 := by rw [HX.out]; omega
      by_cases hl0 : 0 < l
      · go_wp2_with fail
        refine (pick_any wr R a len cap z q 2 hr (by omega) (by omega) (by omega)).mono ?_
        rintro e w2 ⟨v, rfl, hv1, hv2, hr2, hb2, hz2⟩
        have HR2 := hide hr2
        have HB2 := hide hb2
        have HZ2 := hide hz2
        clear hr2 hb2 hz2 hr
        cases hv : (v == 0)
        all_goals
          go_wp2_with fail
          go_roundw
          case rel => exact ⟨_, k + 1, q + 1, _, rfl, rfl, by go_num, by omega, by omega, by simp [HX.out]; rfl, by omega, allSgn_push x _ (by rfl) HS.out, by omega, HR2.out, HB.out.trans HB2.out, HZ2.out.trans HZ.out⟩
          case measure => simp [intOf]; omega
      · have HR := hide hr
        clear hr
        go_wp2_with fail
        go_roundw
        case rel => exact ⟨_, k + 1, q, _, rfl, rfl, by go_num, by omega, by omega, by simp [HX.out]; rfl, by omega, allSgn_push x _ (by rfl) HS.out, by omega, HR.out, HB.out, HZ.out⟩
        case measure => simp [intOf]; omega
    · have hsz : x.size ≤ 28 := by rw [HX.out]; omega
      go_wp2_with fail
      refine (pick_any wr R a len cap z q 10 hr (by omega) (by omega) (by omega)).mono ?_
      rintro e w2 ⟨v, rfl, hv1, hv2, hr2, hb2, hz2⟩
      have HB2 := hide (HB.out.trans hb2)
      have HZ2 := hide (hz2.trans HZ.out)
      clear hr hb2 hz2 hrd
      cases h0 : (v == 0)
      · go_wp2_with (go_at_call 45; refine (l1Tidy_any x _ (by unfold maxLen; omega) HS.out).mono ?_; rintro e w3 ⟨rfl, rfl⟩)
        go_ret
        exact ⟨_, q + 1, rfl, by have := tidyS_le x; omega, by omega, hr2, HB2.out, HZ2.out⟩
      · go_wp2_with fail
        refine (l91Row_any w2 R a len cap z (q + 1) hr2 (by omega)).mono ?_
        rintro e w3 ⟨t, q3, rfl, ht, hq3, hr3, hb3, hz3⟩
        go_wp2_with fail
        go_ret
        exact ⟨t, q3, rfl, ht, by omega, hr3, HB2.out.trans hb3, hz3.trans HZ2.out⟩


theorem PartsS.kept {lo R : Nat} {w w' : World} {v : Value} {l : List (Int × Int)} (h : PartsS lo w v l) (hg : w.grownBy w' (some R)) (hR : R < lo) : PartsS lo w' v l := by
  obtain ⟨_, g, c, rfl, h1, h2, h3, h4⟩ := h
  have h5 := h4.grown hg (by omega)
  have h6 : g < w'.heap.size := Nat.lt_of_lt_of_le h3 hg.size
  exact ⟨.inr ⟨g, c, rfl, h1, h2, h6, h5⟩, g, c, rfl, h1, h2, h6, h5⟩
/-- bounds of what is drawn -/
def PBd (l : List (Int × Int)) : Prop := ∀ x ∈ l, 0 ≤ x.1 ∧ x.1 ≤ 60 ∧ -10000 ≤ x.2 ∧ x.2 ≤ 10000
theorem bd_zero {l : List (Int × Int)} (h : PBd l) {y : Int × Int} (hy : l[0]? = some y) : PBd (l.set 0 (0, y.2)) := by
  intro x hx
  rcases List.mem_or_eq_of_mem_set hx with hx | rfl
  · exact h x hx
  · have := h y (List.mem_of_getElem? hy)
    show (0 : Int) ≤ 0 ∧ (0 : Int) ≤ 60 ∧ -10000 ≤ y.2 ∧ y.2 ≤ 10000
    omega
theorem enc_zero {l : List (Int × Int)} {y : Int × Int} (hy : l[0]? = some y) : encZ (l.set 0 (0, y.2)) = (encZ l).set 0 (.int .i64 0) := by
  cases l with
  | nil => simp at hy
  | cons x l => simp at hy; subst hy; rfl
theorem parts_zero {lo g c n : Nat} {w : World} {l : List (Int × Int)} {y : Int × Int} (h : PartsS lo w (.slice (some ⟨g, 0, none⟩) n c) l) (hy : l[0]? = some y) (_hn : l.length = n) :
    PartsS lo (w.setCell ⟨g, 0, none⟩ (.int .i64 0)) (.slice (some ⟨g, 0, none⟩) n c) (l.set 0 (0, y.2)) := by
  obtain ⟨_, g', c', e, h1, h2, h3, h4⟩ := h
  injection e with e1 e2 e3
  injection e1 with e1
  injection e1 with e1 _ _
  subst e1 e3
  have hl : 0 < l.length := (List.getElem?_eq_some_iff.1 hy).1
  have h5 := h4.set 0 (by rw [encZ_length]; omega) (.int .i64 0)
  rw [← enc_zero hy] at h5
  have h6 : g < (w.setCell ⟨g, 0, none⟩ (.int .i64 0)).heap.size := Nat.lt_of_lt_of_le h3 ((Below.refl g w).setCell (p := ⟨g, 0, none⟩) (Nat.le_refl _) (.int .i64 0)).size
  have e4 : n = (l.set 0 (0, y.2)).length := by rw [List.length_set]; exact e2
  refine ⟨.inr ⟨g, c, by rw [e4], by rw [List.length_set]; exact h1, h2, h6, h5⟩, g, c, by rw [e4], by rw [List.length_set]; exact h1, h2, h6, h5⟩
theorem parts_head {lo g c n : Nat} {w : World} {l : List (Int × Int)} {y : Int × Int} (h : PartsS lo w (.slice (some ⟨g, 0, none⟩) n c) l) (hy : l[0]? = some y) :
    w.cell? ⟨g, 0, none⟩ = some (.int .i64 y.1) ∧ w.frozen? ⟨g, 0, none⟩ = false ∧ lo ≤ g := by
  obtain ⟨_, g', c', e, h1, h2, h3, h4⟩ := h
  injection e with e1 e2 e3
  injection e1 with e1
  injection e1 with e1 _ _
  subst e1
  have := h4 _ _ (encZ_get l 0 y hy).1
  rw [Nat.zero_mul] at this
  exact ⟨this.1, this.2, h2⟩
/-- what the drawing of parts leaves -/
def DrawnParts (w : World) (R : Nat) (a : Option Addr) (len cap : Nat) (z : List Int) (p : Nat) (e : Ending) (w' : World) : Prop :=
  ∃ (v : Value) (l : List (Int × Int)) (q : Nat), e = .returned v ∧ PartsS (R + 1) w' v l ∧ PBd l ∧ l.length ≤ 100 ∧ q ≤ p + 200 ∧ Rd w' R a len cap z q ∧ Below R w w'
def PartsRel (w : World) (R : Nat) (a : Option Addr) (len cap : Nat) (z : List Int) (p : Nat) (n : Int) (v i : Value) (wr : World) : Prop :=
  ∃ (k : Nat) (l : List (Int × Int)) (q : Nat), (k : Int) ≤ n ∧ i = .int .i64 (k : Int) ∧ Hid (l.length = k) ∧ PBd l ∧ q ≤ p + 2 * k ∧ Hid (PartsS (R + 1) wr v l) ∧ Hid (Rd wr R a len cap z q) ∧ Hid (Below R w wr) ∧ R + 1 ≤ wr.heap.size
theorem rgOf_bd (s : ByteArray) : PBd (rgOf s) ∧ (rgOf s).length ≤ 60 := by
  unfold rgOf
  cases h : highB s
  · show PBd [] ∧ ([] : List (Int × Int)).length ≤ 60
    exact ⟨(fun x hx => by cases hx), Nat.zero_le _⟩
  · obtain ⟨h1, h2⟩ := (highB_iff s).1 h
    obtain ⟨h3, _⟩ := (levOk_iff s).1 h1
    obtain ⟨r1, _⟩ := rc_in h2 (by rw [rvB_length]; exact vld_le s h3)
    obtain ⟨r2, _, r4⟩ := (rgIn_iff _).1 ((rgFits_iff _ _).1 r1).1
    show PBd (kRc (rvB s)) ∧ (kRc (rvB s)).length ≤ 60
    exact ⟨fun x hx => by have := r2 x hx; omega, r4⟩

set_option maxRecDepth 100000 in
set_option maxHeartbeats 8000000 in
theorem l91Parts_any (w : World) (R : Nat) (a : Option Addr) (len cap : Nat) (z : List Int) (p : Nat) (hrd : Rd w R a len cap z p) (hp : p ≤ 300) :
    Calls Tryd.prog 37 #[.pointer (some ⟨R, 0, none⟩)] w (DrawnParts w R a len cap z p) := by
  have hlt := hrd.lt
  have FIN : Hid (∀ (v : Value) (l : List (Int × Int)) (q : Nat) (W : World), PartsS (R + 1) W v l → PBd l → l.length ≤ 100 → q ≤ p + 200 → Rd W R a len cap z q → Below R w W → DrawnParts w R a len cap z p (.returned v) W) :=
    hide (fun v l q W h1 h2 h3 h4 h5 h6 => ⟨v, l, q, rfl, h1, h2, h3, h4, h5, h6⟩)
  go_enter Tryd.func37, Tryd.ntmps37
  go_wp2_with fail
  refine (l91High2_any w R a len cap z p hrd (by omega)).mono ?_
  rintro e w1 ⟨s, q, rfl, hs, hq, hr1, hb1, hz1⟩
  have HR1 := hide hr1
  have HB1 := hide hb1
  have hs1 : R + 1 ≤ w1.heap.size := by omega
  clear hb1 hr1 hz1 hrd
  go_wp2_with fail
  refine (specRigOf_any s w1 (by unfold maxLen; omega)).mono ?_
  rintro e w2 ⟨v, rfl, p2, b2⟩
  have HP2 := hide (p2.lo hs1)
  have HB2 := hide (HB1.out.trans (b2.mono (by omega)))
  have HR2 := hide (HR1.out.below b2 (by omega))
  have hs2 : R + 1 ≤ w2.heap.size := by have := b2.size; omega
  clear p2 b2 HR1 HB1
  obtain ⟨bd, hlen⟩ := rgOf_bd s
  obtain ⟨l, hl⟩ : ∃ l, l = rgOf s := ⟨_, rfl⟩
  rw [← hl] at HP2 bd hlen
  have BD := hide bd
  clear hl bd
  cases highB s
  · clear HP2 BD hlen
    go_wp2_with fail
    refine (pick2_any (w2.alloc (.cells #[] 48)) R a len cap z q 4 (HR2.out.below ((Below.refl (R + 1) w2).alloc hs2 _) (Nat.lt_succ_self R)) (by omega) (by omega) (by omega)).mono ?_
    rintro e w5 ⟨n, rfl, n0, n1, hr5, hb5, hz5, hg5⟩
    have HP5 := hide (((parts_lit w2).lo hs2).kept hg5 (Nat.lt_succ_self R))
    have HB5 := hide ((HB2.out.alloc (by omega) (.cells #[] 48)).trans hb5)
    have hs5 : R + 1 ≤ w5.heap.size := by rw [hz5, World.size_alloc]; omega
    have HR5 := hide hr5
    clear hb5 hr5 hz5 hg5 HR2 HB2
    go_wp2_with fail
    go_loopw [3, 6] (PartsRel w R a len cap z (q + 1) n) (fun _ i _ => (n - intOf i).toNat)
    case atStart => exact ⟨0, [], _, n0, rfl, rfl, (fun x hx => by cases hx), by omega, HP5, HR5, HB5, hs5⟩
    case round =>
      obtain ⟨k, l, q, hk, rfl, HL, hbd, hq, HP, HR, HB, hs0⟩ := hrel
      clear HP5 HR5 HB5 hs5
      have BD := hide hbd
      clear hbd
      by_cases hlt2 : (k : Int) < n
      · clear FIN
        go_wp2_with fail
        refine (pick2_any _ R a len cap z q 4 HR.out (by omega) (by omega) (by omega)).mono ?_
        rintro e w6 ⟨x, rfl, x0, x1, hr6, hb6, hz6, hg6⟩
        have HP6 := hide (HP.out.kept hg6 (Nat.lt_succ_self R))
        have HB6 := hide (HB.out.trans hb6)
        have hs6 : R + 1 ≤ w6.heap.size := by omega
        have HR6 := hide hr6
        clear hb6 hr6 hz6 hg6 HP HR HB hs0
        go_wp2_with fail
        refine (pick2_any _ R a len cap z (q + 1) 6 HR6.out (by omega) (by omega) (by omega)).mono ?_
        rintro e w7 ⟨y, rfl, y0, y1, hr7, hb7, hz7, hg7⟩
        have HP7 := hide (HP6.out.kept hg7 (Nat.lt_succ_self R))
        have HB7 := hide (HB6.out.trans hb7)
        have hs7 : R + 1 ≤ w7.heap.size := by omega
        have HR7 := hide hr7
        clear hb7 hr7 hz7 hg7 HP6 HR6 HB6 hs6
        have CP := hide (fun (u : Value) (h : PartsS (R + 1) w7 u l) => (show Calls Tryd.prog 31 #[u, .agg #[.int .i64 (1 + x), .int .i64 y]] w7 (fun e w' => ∃ u, e = .returned u ∧ PartsS w7.heap.size w' u (pPut l (1 + x, y)) ∧ Below w7.heap.size w7 w') from specPut_any l u (1 + x, y) w7 h (by have := HL.out; omega)))
        go_wp2_with fail
        refine (CP.out _ HP7.out).mono ?_
        rintro e w8 ⟨u, rfl, p8, b8⟩
        have HP8 := hide (p8.lo hs7)
        have HB8 := hide (HB7.out.trans (b8.mono (by omega)))
        have hs8 : R + 1 ≤ w8.heap.size := by have := b8.size; omega
        have HR8 := hide (HR7.out.below b8 (by omega))
        clear p8 b8 HP7 HB7 HR7
        go_wp2_with fail
        go_roundw
        case rel =>
          refine ⟨k + 1, pPut l (1 + x, y), q + 1 + 1, by omega, by go_num, hide (by rw [pPut_length, HL.out]), ?_, by omega, HP8, HR8, HB8, hs8⟩
          intro a ha
          rcases (pPut_mem _ _ _).1 ha with rfl | ha
          · show 0 ≤ 1 + x ∧ 1 + x ≤ 60 ∧ -10000 ≤ y ∧ y ≤ 10000
            omega
          · exact BD.out a ha
        case measure => simp [intOf]; omega
      · obtain ⟨_, g, c, rfl, _⟩ := HP.out
        have hL := HL.out
        rw [hL] at HP ⊢
        clear hL
        by_cases hl0 : 0 < k
        · have i2 : (0 : Int) < (k : Int) := by omega
          go_wp2_with fail
          refine (pick2_any _ R a len cap z q 20 HR.out (by omega) (by omega) (by omega)).mono ?_
          rintro e w9 ⟨t, rfl, t0, t1, hr9, hb9, hz9, hg9⟩
          have P9 := hide (HP.out.kept hg9 (Nat.lt_succ_self R))
          have B9 := hide (HB.out.trans hb9)
          have R9 := hide hr9
          have hs9 : R + 1 ≤ w9.heap.size := by omega
          clear hb9 hr9 hz9 hg9 HP HB HR
          by_cases ht : t = 0
          · subst ht
            obtain ⟨y, hy⟩ : ∃ y, l[0]? = some y := ⟨_, List.getElem?_eq_getElem (by have := HL.out; omega)⟩
            obtain ⟨c0, f0, p2⟩ := parts_head P9.out hy
            have FINX := hide (FIN.out (.slice (some ⟨g, 0, none⟩) k c) (l.set 0 (0, y.2)) (q + 1) (w9.setCell ⟨g, 0, none⟩ (.int .i64 0)) (parts_zero P9.out hy HL.out) (bd_zero BD.out hy) (by rw [List.length_set]; have := HL.out; omega) (by omega) (R9.out.below ((Below.refl (R + 1) w9).setCell (p := ⟨g, 0, none⟩) p2 _) (Nat.lt_succ_self R)) (B9.out.setCell (p := ⟨g, 0, none⟩) (show R ≤ g by omega) _))
            clear FIN P9 B9 R9 hy
            go_wp2_with fail
            go_ret
            exact FINX.out
          · have hti : ((t : Int) == 0) = false := beq_eq_false_iff_ne.2 ht
            have FINX := hide (FIN.out _ l (q + 1) w9 P9.out BD.out (by have := HL.out; omega) (by omega) R9.out B9.out)
            clear FIN P9 B9 R9
            go_wp2_with fail
            go_ret
            exact FINX.out
        · have i2 : ¬ (0 : Int) < (k : Int) := by omega
          have FINX := hide (FIN.out _ l q _ HP.out BD.out (by have := HL.out; omega) (by omega) HR.out HB.out)
          clear FIN HP HB HR
          go_wp2_with fail
          go_ret
          exact FINX.out
        
  · go_wp2_with fail
    refine (pick2_any w2 R a len cap z q 3 HR2.out (by omega) (by omega) (by omega)).mono ?_
    rintro e w3 ⟨t, rfl, t0, t1, hr3, hb3, hz3, hg3⟩
    have HP3 := hide (HP2.out.kept hg3 (Nat.lt_succ_self R))
    have HB3 := hide (HB2.out.trans hb3)
    have hs3 : R + 1 ≤ w3.heap.size := by omega
    have HR3 := hide hr3
    clear hb3 hr3 hz3 hg3 HP2 HR2 HB2
    by_cases ht3 : t = 0
    · subst ht3
      clear HP3 BD hlen
      go_wp2_with fail
      refine (pick2_any (w3.alloc (.cells #[] 48)) R a len cap z (q + 1) 4 (HR3.out.below ((Below.refl (R + 1) w3).alloc hs3 _) (Nat.lt_succ_self R)) (by omega) (by omega) (by omega)).mono ?_
      rintro e w5 ⟨n, rfl, n0, n1, hr5, hb5, hz5, hg5⟩
      have HP5 := hide (((parts_lit w3).lo hs3).kept hg5 (Nat.lt_succ_self R))
      have HB5 := hide ((HB3.out.alloc (by omega) (.cells #[] 48)).trans hb5)
      have hs5 : R + 1 ≤ w5.heap.size := by rw [hz5, World.size_alloc]; omega
      have HR5 := hide hr5
      clear hb5 hr5 hz5 hg5 HR3 HB3
      go_wp2_with fail
      go_loopw [3, 6] (PartsRel w R a len cap z ((q + 1) + 1) n) (fun _ i _ => (n - intOf i).toNat)
      case atStart => exact ⟨0, [], _, n0, rfl, rfl, (fun x hx => by cases hx), by omega, HP5, HR5, HB5, hs5⟩
      case round =>
        obtain ⟨k, l, q, hk, rfl, HL, hbd, hq, HP, HR, HB, hs0⟩ := hrel
        clear HP5 HR5 HB5 hs5
        have BD := hide hbd
        clear hbd
        by_cases hlt2 : (k : Int) < n
        · clear FIN
          go_wp2_with fail
          refine (pick2_any _ R a len cap z q 4 HR.out (by omega) (by omega) (by omega)).mono ?_
          rintro e w6 ⟨x, rfl, x0, x1, hr6, hb6, hz6, hg6⟩
          have HP6 := hide (HP.out.kept hg6 (Nat.lt_succ_self R))
          have HB6 := hide (HB.out.trans hb6)
          have hs6 : R + 1 ≤ w6.heap.size := by omega
          have HR6 := hide hr6
          clear hb6 hr6 hz6 hg6 HP HR HB hs0
          go_wp2_with fail
          refine (pick2_any _ R a len cap z (q + 1) 6 HR6.out (by omega) (by omega) (by omega)).mono ?_
          rintro e w7 ⟨y, rfl, y0, y1, hr7, hb7, hz7, hg7⟩
          have HP7 := hide (HP6.out.kept hg7 (Nat.lt_succ_self R))
          have HB7 := hide (HB6.out.trans hb7)
          have hs7 : R + 1 ≤ w7.heap.size := by omega
          have HR7 := hide hr7
          clear hb7 hr7 hz7 hg7 HP6 HR6 HB6 hs6
          have CP := hide (fun (u : Value) (h : PartsS (R + 1) w7 u l) => (show Calls Tryd.prog 31 #[u, .agg #[.int .i64 (1 + x), .int .i64 y]] w7 (fun e w' => ∃ u, e = .returned u ∧ PartsS w7.heap.size w' u (pPut l (1 + x, y)) ∧ Below w7.heap.size w7 w') from specPut_any l u (1 + x, y) w7 h (by have := HL.out; omega)))
          go_wp2_with fail
          refine (CP.out _ HP7.out).mono ?_
          rintro e w8 ⟨u, rfl, p8, b8⟩
          have HP8 := hide (p8.lo hs7)
          have HB8 := hide (HB7.out.trans (b8.mono (by omega)))
          have hs8 : R + 1 ≤ w8.heap.size := by have := b8.size; omega
          have HR8 := hide (HR7.out.below b8 (by omega))
          clear p8 b8 HP7 HB7 HR7
          go_wp2_with fail
          go_roundw
          case rel =>
            refine ⟨k + 1, pPut l (1 + x, y), q + 1 + 1, by omega, by go_num, hide (by rw [pPut_length, HL.out]), ?_, by omega, HP8, HR8, HB8, hs8⟩
            intro a ha
            rcases (pPut_mem _ _ _).1 ha with rfl | ha
            · show 0 ≤ 1 + x ∧ 1 + x ≤ 60 ∧ -10000 ≤ y ∧ y ≤ 10000
              omega
            · exact BD.out a ha
          case measure => simp [intOf]; omega
        · obtain ⟨_, g, c, rfl, _⟩ := HP.out
          have hL := HL.out
          rw [hL] at HP ⊢
          clear hL
          by_cases hl0 : 0 < k
          · have i2 : (0 : Int) < (k : Int) := by omega
            go_wp2_with fail
            refine (pick2_any _ R a len cap z q 20 HR.out (by omega) (by omega) (by omega)).mono ?_
            rintro e w9 ⟨t, rfl, t0, t1, hr9, hb9, hz9, hg9⟩
            have P9 := hide (HP.out.kept hg9 (Nat.lt_succ_self R))
            have B9 := hide (HB.out.trans hb9)
            have R9 := hide hr9
            have hs9 : R + 1 ≤ w9.heap.size := by omega
            clear hb9 hr9 hz9 hg9 HP HB HR
            by_cases ht : t = 0
            · subst ht
              obtain ⟨y, hy⟩ : ∃ y, l[0]? = some y := ⟨_, List.getElem?_eq_getElem (by have := HL.out; omega)⟩
              obtain ⟨c0, f0, p2⟩ := parts_head P9.out hy
              have FINX := hide (FIN.out (.slice (some ⟨g, 0, none⟩) k c) (l.set 0 (0, y.2)) (q + 1) (w9.setCell ⟨g, 0, none⟩ (.int .i64 0)) (parts_zero P9.out hy HL.out) (bd_zero BD.out hy) (by rw [List.length_set]; have := HL.out; omega) (by omega) (R9.out.below ((Below.refl (R + 1) w9).setCell (p := ⟨g, 0, none⟩) p2 _) (Nat.lt_succ_self R)) (B9.out.setCell (p := ⟨g, 0, none⟩) (show R ≤ g by omega) _))
              clear FIN P9 B9 R9 hy
              go_wp2_with fail
              go_ret
              exact FINX.out
            · have hti : ((t : Int) == 0) = false := beq_eq_false_iff_ne.2 ht
              have FINX := hide (FIN.out _ l (q + 1) w9 P9.out BD.out (by have := HL.out; omega) (by omega) R9.out B9.out)
              clear FIN P9 B9 R9
              go_wp2_with fail
              go_ret
              exact FINX.out
          · have i2 : ¬ (0 : Int) < (k : Int) := by omega
            have FINX := hide (FIN.out _ l q _ HP.out BD.out (by have := HL.out; omega) (by omega) HR.out HB.out)
            clear FIN HP HB HR
            go_wp2_with fail
            go_ret
            exact FINX.out
          
    · have hti3 : ((t : Int) == 0) = false := beq_eq_false_iff_ne.2 ht3
      obtain ⟨_, g, c, rfl, _⟩ := HP3.out
      obtain ⟨n, hn⟩ : ∃ n, l.length = n := ⟨_, rfl⟩
      have HN := hide hn
      rw [hn] at HP3 hlen ⊢
      clear hn
      by_cases hl0 : 0 < n
      · have i2 : (0 : Int) < (n : Int) := by omega
        go_wp2_with fail
        refine (pick2_any w3 R a len cap z (q + 1) 20 HR3.out (by omega) (by omega) (by omega)).mono ?_
        rintro e w9 ⟨t, rfl, t0, t1, hr9, hb9, hz9, hg9⟩
        have P9 := hide (HP3.out.kept hg9 (Nat.lt_succ_self R))
        have B9 := hide (HB3.out.trans hb9)
        have R9 := hide hr9
        have hs9 : R + 1 ≤ w9.heap.size := by omega
        clear hb9 hr9 hz9 hg9 HP3 HB3 HR3
        by_cases ht : t = 0
        · subst ht
          obtain ⟨y, hy⟩ : ∃ y, l[0]? = some y := ⟨_, List.getElem?_eq_getElem (by have := HN.out; omega)⟩
          obtain ⟨c0, f0, p2⟩ := parts_head P9.out hy
          have FINX := hide (FIN.out (.slice (some ⟨g, 0, none⟩) n c) (l.set 0 (0, y.2)) ((q + 1) + 1) (w9.setCell ⟨g, 0, none⟩ (.int .i64 0)) (parts_zero P9.out hy HN.out) (bd_zero BD.out hy) (by rw [List.length_set]; have := HN.out; omega) (by omega) (R9.out.below ((Below.refl (R + 1) w9).setCell (p := ⟨g, 0, none⟩) p2 _) (Nat.lt_succ_self R)) (B9.out.setCell (p := ⟨g, 0, none⟩) (show R ≤ g by omega) _))
          clear FIN P9 B9 R9 hy
          go_wp2_with fail
          go_ret
          exact FINX.out
        · have hti : ((t : Int) == 0) = false := beq_eq_false_iff_ne.2 ht
          have FINX := hide (FIN.out _ l ((q + 1) + 1) w9 P9.out BD.out (by have := HN.out; omega) (by omega) R9.out B9.out)
          clear FIN P9 B9 R9
          go_wp2_with fail
          go_ret
          exact FINX.out
      · have i2 : ¬ (0 : Int) < (n : Int) := by omega
        have FINX := hide (FIN.out _ l (q + 1) w3 HP3.out BD.out (by have := HN.out; omega) (by omega) HR3.out HB3.out)
        clear FIN HP3 HB3 HR3
        go_wp2_with fail
        go_ret
        exact FINX.out
      

/-- what a drawing of parts leaves -/
def DrawnP (w : World) (e : Ending) (w' : World) : Prop := ∃ (v : Value) (l : List (Int × Int)), e = .returned v ∧ PartsS w.heap.size w' v l ∧ PBd l ∧ l.length ≤ 100 ∧ Below w.heap.size w w'

/-- a drawing of parts and two numbers -/
def DrawnPNN (w : World) (e : Ending) (w' : World) : Prop := ∃ (v : Value) (l : List (Int × Int)) (n j : Int), e = .returned (.tuple #[v, .int .i64 n, .int .i64 j]) ∧ -1000 ≤ n ∧ n ≤ 1000 ∧ 0 ≤ j ∧ j ≤ 8 ∧ PartsS w.heap.size w' v l ∧ PBd l ∧ l.length ≤ 100 ∧ Below w.heap.size w w'
theorem tdiv19 (v : Int) (h1 : 0 ≤ v) (h2 : v < 20) : 0 ≤ v.tdiv 19 ∧ v.tdiv 19 ≤ 1 := by
  rw [Int.tdiv_eq_ediv_of_nonneg h1]; omega
end Go.Proofs.YteibopcneflidaaDoor
