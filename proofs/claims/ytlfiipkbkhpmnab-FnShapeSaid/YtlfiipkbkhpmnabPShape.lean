/- THE WALKS of the laws FnEnergies and FnShape. -/
import Derived.Test.YtlfiipkbkhpmnabExact4
import Derived.Test.YtlfiipkbkhpmnabSShape
import Derived.Test.YtlfiipkbkhpmnabDraw6
import Derived.IntWalk
namespace Go.Proofs.Ytlfiipkbkhpmnab
open Go.RowKit

set_option maxRecDepth 100000 in
set_option maxHeartbeats 2000000 in
theorem walkFnEnergies {w : World} (a : Option Addr) (len cap : Nat) (z : List Int) (hr : IsRow .u8 w a len cap z) :
    Calls Try.prog 5 #[.slice a len cap] w fun e w' => e = .returned (.bool true) ∧ Below w.heap.size w w' := by
  have hcap := hr.le
  have hmax := hr.max
  unfold maxLen at hmax
  by_cases hbig : 1048576 < len
  · go_enter Try.func5, Try.ntmps5
    go_wp2
    go_ret
    exact ⟨rfl, Below.refl _ _⟩
  · have D := hide (DrawStepTaken_any a len cap z w (by omega) hcap hr.bytes)
    clear hr
    go_enter Try.func5, Try.ntmps5
    go_wp2_with fail
    refine D.out.mono ?_
    rintro e w1 ⟨s, n, rfl, hs, hn0, hn1, hb1⟩
    have hs' : s.size ≤ maxLen := by unfold maxLen; omega
    have C1 := hide (fun w => implStepTaken_any s n w hs')
    have C0 := hide (fun w => specStepTaken_any s n w hs')
    cases hk : tkOk s n
    · rw [hk] at C0 C1
      obtain ⟨x, hx⟩ : ∃ x, x = tkN s n := ⟨_, rfl⟩
      rw [← hx] at C0 C1
      clear hk hx
      go_wp2_with fail
      refine (C1.out _).mono ?_
      rintro e w2 ⟨rfl, hb2⟩
      go_wp2_with fail
      refine (C0.out _).mono ?_
      rintro e w3 ⟨rfl, hb3⟩
      go_wp2_with fail
      go_ret
      have b2 := hb1.trans (hb2.mono hb1.size)
      exact ⟨by simp, b2.trans (hb3.mono b2.size)⟩
    · obtain ⟨k1, k2⟩ := energy_shape hk
      have hv := (tkOk_iff hk).1
      have hsl := shR_len s
      have O := hide (fun w => implShapeOf_any s w hs')
      have E := hide (fun (v : Value) (w : World) (h : ∃ lo, IntsV lo w v (shR s)) => (show Calls Try.prog 20 #[v, .int .i64 n] w (fun e w' => e = .returned (.tuple #[.int .i64 (enN (shR s) n), .bool (enOk (shR s) n)]) ∧ Below w.heap.size w w') from by obtain ⟨lo, h⟩ := h; exact implShapeEnergy_any v (shR s) n w (by omega) h))
      rw [hv] at O
      rw [k1, k2] at E
      rw [hk] at C0 C1
      obtain ⟨x, hx⟩ : ∃ x, x = tkN s n := ⟨_, rfl⟩
      obtain ⟨l, hl⟩ : ∃ l, l = shR s := ⟨_, rfl⟩
      rw [← hx] at C0 C1 E
      rw [← hl] at O E
      have hxx : ((x : Int) != x) = false := by simp
      clear hk hx hl k1 k2 hv hsl
      go_wp2_with fail
      refine (C1.out _).mono ?_
      rintro e w2 ⟨rfl, hb2⟩
      have g2 := hb1.trans (hb2.mono hb1.size)
      go_wp2_with fail
      refine (C0.out _).mono ?_
      rintro e w3 ⟨rfl, hb3⟩
      have g3 := g2.trans (hb3.mono g2.size)
      go_wp2_with fail
      refine (O.out _).mono ?_
      rintro e w4 ⟨v, rfl, hi, hb4⟩
      have g4 := g3.trans (hb4.mono g3.size)
      have E2 := hide (E.out v w4 ⟨_, hi⟩)
      clear hi
      go_wp2_with fail
      refine E2.out.mono ?_
      rintro e w5 ⟨rfl, hb5⟩
      go_wp2_with fail
      go_ret
      exact ⟨by simp, g4.trans (hb5.mono g4.size)⟩

/-- the rooms that FnShape asks -/
def rooms3 : List Int := [1, 2, 200]
def Sh3Rel (w : World) (G : Nat) (u : Value) (l : List Int) (i : Value) (wx : World) : Prop :=
  ∃ k : Nat, k ≤ 3 ∧ i = .int .i64 (k : Int) ∧ Hid (CellsAt wx G (rooms3.map (.int .i64))) ∧ Hid (∃ lo, IntsV lo wx u l) ∧ Hid (Below w.heap.size w wx) ∧ G < wx.heap.size
theorem Sh3Rel.mk {w : World} {G : Nat} {u : Value} {l : List Int} {i : Value} {wx : World} {k : Nat} (h1 : k + 1 ≤ 3) (h2 : i = .int .i64 ((k + 1 : Nat) : Int)) (h3 : Hid (CellsAt wx G (rooms3.map (.int .i64)))) (h4 : Hid (∃ lo, IntsV lo wx u l)) (h5 : Hid (Below w.heap.size w wx)) (h6 : G < wx.heap.size) : Sh3Rel w G u l i wx :=
  ⟨k + 1, h1, h2, h3, h4, h5, h6⟩
theorem rooms3_cells (w : World) (t : TypeId) : CellsAt (w.alloc (.cells #[.int .i64 1, .int .i64 2, .int .i64 200] t)) w.heap.size (rooms3.map (.int .i64)) := by
  intro j v hv
  have hj : j < 3 := by have := (List.getElem?_eq_some_iff.1 hv).1; simpa [rooms3] using this
  have hf : ∀ i : Nat, (w.alloc (.cells #[.int .i64 1, .int .i64 2, .int .i64 200] t)).frozen? ⟨w.heap.size, i, none⟩ = false := fun i => by
    have := (World.ownsRow_lit (base := 0) (e := t) (size := 1) w #[.int .i64 1, .int .i64 2, .int .i64 200] 3 (by omega) (by unfold maxLen; omega) rfl).frozenAt i
    exact this
  refine ⟨?_, hf j⟩
  rcases (show j = 0 ∨ j = 1 ∨ j = 2 by omega) with rfl | rfl | rfl <;>
    (simp [rooms3] at hv; subst hv; rw [World.cell?_alloc_at _ _ _ _ rfl]; rfl)

set_option maxRecDepth 100000 in
set_option maxHeartbeats 2000000 in
theorem walkFnShape {w : World} (a : Option Addr) (len cap : Nat) (z : List Int) (hr : IsRow .u8 w a len cap z) :
    Calls Try.prog 4 #[.slice a len cap] w fun e w' => e = .returned (.bool true) ∧ Below w.heap.size w w' := by
  have hcap := hr.le
  have hmax := hr.max
  unfold maxLen at hmax
  by_cases hbig : 1048576 < len
  · go_enter Try.func4, Try.ntmps4
    go_wp2
    go_ret
    exact ⟨rfl, Below.refl _ _⟩
  · have D := hide (DrawShapeOf_any a len cap z w (by omega) hcap hr.bytes)
    clear hr
    go_enter Try.func4, Try.ntmps4
    go_wp2_with fail
    refine D.out.mono ?_
    rintro e w1 ⟨s, rfl, hs, hb1⟩
    have hs' : s.size ≤ maxLen := by unfold maxLen; omega
    have C1 := hide (fun w => implShapeOf_any s w hs')
    have C0 := hide (fun w => specShapeOf_any s w hs')
    have hlen := shR_len s
    have hm : (shR s).length ≤ maxLen := by unfold maxLen; omega
    have HM := hide hm
    clear hm
    cases hv : vld s
    · rw [hv] at C0 C1
      obtain ⟨l, hl⟩ : ∃ l, l = shR s := ⟨_, rfl⟩
      rw [← hl] at C0 C1 HM
      clear hv hl hlen
      go_wp2_with fail
      refine (C1.out _).mono ?_
      rintro e w2 ⟨u, rfl, hi, hb2⟩
      have g2 := hb1.trans (hb2.mono hb1.size)
      go_wp2_with fail
      refine (C0.out _).mono ?_
      rintro e w3 ⟨v, rfl, hi0, hb3⟩
      have g3 := g2.trans (hb3.mono g2.size)
      have hi' := hi.below hb3 (Nat.le_refl _)
      clear hi hb2 hb3
      go_wp2_with fail
      refine (sameInts_same HM.out hi' hi0).mono ?_
      rintro e w4 ⟨rfl, q4⟩
      go_wp2_with fail
      refine (sameInts_same HM.out (q4.ints hi') (q4.ints hi0)).mono ?_
      rintro e w5 ⟨rfl, q5⟩
      go_wp2_with fail
      go_ret
      exact ⟨by simp, (g3.trans (q4.2 _)).trans (q5.2 _)⟩
    · rw [hv] at C0 C1
      have h120 := vld_le s hv
      have B1 := hide (fun w => implRowBalls_any s w hs')
      obtain ⟨f1, f2, f3⟩ := shape_facts s
      have hrr : shR s = ni (shB3 (bits s)) := by unfold shR; rw [hv]; rfl
      have hnb := nballs_size s
      rw [hv, if_pos rfl, ← f3] at B1
      rw [← f3] at hnb
      have T1 : Hid (∀ r : Int, ∃ (t : ByteArray) (p : Bool), (∀ w, Calls Try.prog 15 #[.string s, .int .i64 r] w (fun e w' => e = .returned (.tuple #[.string t, .bool p]) ∧ Below w.heap.size w w')) ∧
          ((p = true ∧ ∀ w, Calls Try.prog 12 #[.string t] w (fun e w' => ∃ v, e = .returned (.tuple #[v, .bool true]) ∧ IntsV w.heap.size w' v (shR s) ∧ Below w.heap.size w w')) ∨
           (p = false ∧ ∃ q : Bool, ∀ w, Calls Try.prog 12 #[.string t] w (fun e w' => ∃ v, e = .returned (.tuple #[v, .bool q]) ∧ Below w.heap.size w w')))) := by
        intro r
        have hz : (stS s r).size ≤ maxLen := by have := stS_size s r; unfold maxLen; omega
        refine ⟨stS s r, stOk s r, fun w => implStepOf_any s r w hs', ?_⟩
        cases hk : stOk s r
        · exact .inr ⟨rfl, vld (stS s r), fun w => (implShapeOf_any (stS s r) w hz).mono (by rintro e w' ⟨v, rfl, _, hb⟩; exact ⟨v, rfl, hb⟩)⟩
        · refine .inl ⟨rfl, fun w => ?_⟩
          have h := implShapeOf_any (stS s r) w hz
          rw [vld_stS hk, shR_step hk] at h
          exact h
      rw [hrr] at C0 C1 HM hlen T1
      obtain ⟨r, hr⟩ : ∃ r, r = shB3 (bits s) := ⟨_, rfl⟩
      rw [← hr] at C0 C1 HM T1 B1 f1 f2 hlen hnb
      rw [ni_length] at hlen
      have HP := hide f1
      have HF := hide f2
      obtain ⟨n, hn⟩ : ∃ n, n = r.length := ⟨_, rfl⟩
      obtain ⟨T, hT⟩ : ∃ T, T = r.sum := ⟨_, rfl⟩
      have HNL := hide hn
      have HT := hide hT
      rw [← hn] at hlen
      rw [← hT] at B1 hnb
      clear hv f1 f2 f3 hrr hr hT
      go_wp2_with fail
      refine (C1.out _).mono ?_
      rintro e w2 ⟨u, rfl, hi, hb2⟩
      have g2 := hb1.trans (hb2.mono hb1.size)
      go_wp2_with fail
      refine (C0.out _).mono ?_
      rintro e w3 ⟨v, rfl, hi0, hb3⟩
      have g3 := g2.trans (hb3.mono g2.size)
      have hi' := hi.below hb3 (Nat.le_refl _)
      clear hi hb2 hb3
      go_wp2_with fail
      refine (sameInts_same HM.out hi' hi0).mono ?_
      rintro e w4 ⟨rfl, q4⟩
      have hi4 := q4.ints hi'
      have G4 := hide (g3.trans (q4.2 _))
      have HI4 := hide hi4
      obtain ⟨b, c, rfl, hf⟩ : ∃ a c, u = .slice a r.length c ∧ (0 < r.length → ∃ g, a = some ⟨g, 0, none⟩ ∧ CellsAt w4 g ((ni r).map (.int .i64))) := by
        rcases hi4 with ⟨a, c, rfl, h0⟩ | ⟨g, c, rfl, _, _, _, hc⟩
        · have : r = [] := by cases r with
            | nil => rfl
            | cons x t => simp [ni] at h0
          subst this
          exact ⟨a, c, rfl, fun h => by simp at h⟩
        · exact ⟨_, c, by rw [ni_length], fun _ => ⟨g, rfl, hc⟩⟩
      have HC := hide hf
      rw [← hn] at HC HI4 ⊢
      clear hi4 hi' hi0 q4 hb1 g2 g3 hf hn C0 C1
      go_wp2
      go_loopw [8, 9] (fun t i wr => ∃ k : Nat, k ≤ n ∧ i = .int .i64 (k : Int) ∧ t = .int .i64 (((r.take k).sum : Nat) : Int) ∧ Hid (Quiet w4 wr)) (fun _ i _ => n - (intOf i).toNat)
      case atStart => exact ⟨0, Nat.zero_le _, rfl, rfl, Quiet.refl _⟩
      case round =>
        obtain ⟨k, hk, rfl, rfl, HQ⟩ := hrel
        have hsb : (r.take k).sum ≤ T := by
          rw [HT.out]
          have h1 := List.take_append_drop k r
          have h2 : r.sum = (r.take k).sum + (r.drop k).sum := by rw [← List.sum_append, h1]
          omega
        by_cases hlt : k < n
        · obtain ⟨q, rfl, hq⟩ := HC.out (by omega)
          obtain ⟨x, hx⟩ : ∃ x, r[k]? = some x := ⟨_, List.getElem?_eq_getElem (by rw [← HNL.out]; exact hlt)⟩
          have hqr := HQ.out.cells hq
          have c1 : wr.cell? ⟨q, k, none⟩ = some (.int .i64 (x : Int)) := (hqr k _ (by rw [List.getElem?_map, ni_getElem, hx]; rfl)).1
          have hx1 : 1 ≤ x := HP.out x (List.mem_of_getElem? hx)
          have HS : Hid ((r.take (k + 1)).sum = (r.take k).sum + x) := by
            show _ = _
            rw [List.take_add_one, hx, List.sum_append]; simp
          have hsx : x ≤ T := by rw [HT.out]; exact mem_le_sum _ x (List.mem_of_getElem? hx)
          obtain ⟨t, ht⟩ : ∃ t, t = (r.take k).sum := ⟨_, rfl⟩
          rw [← ht] at hsb HS ⊢
          obtain ⟨X, hX⟩ : ∃ X : Int, X = (x : Int) := ⟨_, rfl⟩
          rw [← hX] at c1
          have HX := hide hX
          have X0 : 1 ≤ X := by omega
          have X1 : X ≤ 120 := by omega
          have d2 : decide (X < 1) = false := by simp; omega
          have t0 : (t : Int) ≤ 120 := by omega
          have j0 : (0 : Int) ≤ (k : Int) := by omega
          have j1 : (k : Int) < (n : Int) := by omega
          rcases (show k = 0 ∨ ∃ j, k = j + 1 from by cases k with | zero => exact .inl rfl | succ j => exact .inr ⟨j, rfl⟩) with hk0 | ⟨j, hj⟩
          · subst hk0
            have d0 : decide ((0 : Int) < ((0 : Nat) : Int)) = false := by simp
            clear hx hqr hq ht hX hx1
            go_wp2
            go_quiet (fail)
            go_wp2
            go_roundw
            case rel => exact ⟨1, by omega, rfl, by rw [HS.out]; simp [HX.out], HQ.out.trans (Quiet.drewN _)⟩
            case measure => simp [intOf]; omega
          · subst hj
            obtain ⟨y, hy⟩ : ∃ y, r[j]? = some y := ⟨_, List.getElem?_eq_getElem (by rw [← HNL.out]; omega)⟩
            have c0 : wr.cell? ⟨q, j, none⟩ = some (.int .i64 (y : Int)) := (hqr j _ (by rw [List.getElem?_map, ni_getElem, hy]; rfl)).1
            have hxy : x ≤ y := by have := HF.out j; rw [hy, hx] at this; exact this
            obtain ⟨Y, hY⟩ : ∃ Y : Int, Y = (y : Int) := ⟨_, rfl⟩
            rw [← hY] at c0
            have d1 : decide (Y < X) = false := by simp; omega
            have d0 : decide ((0 : Int) < ((j + 1 : Nat) : Int)) = true := decide_eq_true (by omega)
            have d3 : decide ((0 : Int) < (j : Int) + 1) = true := decide_eq_true (by omega)
            have m0 : (0 : Int) ≤ (j : Int) := by omega
            have m1 : (j : Int) < (n : Int) := by omega
            have m2 : (j : Int) + 1 < (n : Int) := by omega
            have m3 : (0 : Int) ≤ (j : Int) + 1 := by omega
            have m4 : (j : Int) + 1 - 1 = (j : Int) := by omega
            have m5 : ((j : Int) + 1).toNat = j + 1 := by omega
            have hw2 : IntKind.i64.wrap (j : Int) = (j : Int) := IntWalk.i64_in _ (by omega)
            have hw1 : IntKind.i64.wrap ((j : Int) + 1 - 1) = (j : Int) := by rw [IntWalk.i64_in _ (by omega)]; omega
            have hw3 : IntKind.i64.wrap (((j + 1 : Nat) : Int) - 1) = (j : Int) := by rw [IntWalk.i64_in _ (by omega)]; omega
            clear hx hy hqr hq ht hX hY hx1 hxy
            go_wp2
            go_quiet (fail)
            clear hw1 hw2 hw3
            go_wp2
            go_roundw
            case rel => exact ⟨j + 1 + 1, by omega, by go_num, by rw [HS.out, HX.out]; go_num, HQ.out.trans (Quiet.drewN _)⟩
            case measure => simp [intOf]; omega
        · have hkn : n = k := by omega
          have hfin : (r.take k).sum = T := by rw [List.take_of_length_le (by rw [← HNL.out]; omega)]; exact HT.out.symm
          rw [hfin] at hsb ⊢
          clear hfin
          subst hkn
          obtain ⟨wq, rfl⟩ : ∃ x, x = wr := ⟨wr, rfl⟩
          obtain ⟨TI, hTI⟩ : ∃ X : Int, X = (T : Int) := ⟨_, rfl⟩
          rw [← hTI] at B1 ⊢
          have hTT : ((TI : Int) == TI) = true := by simp
          have HIR := hide (HQ.out.ints HI4.out)
          have GR := hide (G4.out.trans (HQ.out.2 _))
          have G5 := hide (GR.out.alloc GR.out.size (.cells #[.int .i64 1, .int .i64 2, .int .i64 200] 3))
          have HR := hide (rooms3_cells wq 3)
          have HI5 := hide (HIR.out.below ((Below.refl wq.heap.size wq).alloc (Nat.le_refl _) (.cells #[.int .i64 1, .int .i64 2, .int .i64 200] 3)) (Nat.le_refl _))
          have HSZ := hide GR.out.size
          clear hTI HC HQ HI4 HIR G4
          go_wp2
          go_loopw [11] (fun i wx => Sh3Rel w wq.heap.size (.slice b n c) (ni r) i wx) (fun i _ => 3 - (intOf i).toNat)
          case atStart => exact ⟨0, Nat.zero_le _, rfl, HR, ⟨_, HI5.out⟩, G5, by simp⟩
          case round =>
            obtain ⟨k, hk3, rfl, HCX, HIX, HBX, hszx⟩ := hrel
            by_cases hlt3 : k < 3
            · obtain ⟨ro, hro⟩ : ∃ ro, rooms3[k]? = some ro := ⟨_, List.getElem?_eq_getElem (by simpa [rooms3] using hlt3)⟩
              obtain ⟨t, p, hst, hsh⟩ := T1.out ro
              have HST := hide hst
              have hcell := (HCX.out k (.int .i64 ro) (by simp [hro])).1
              have j0 : (0 : Int) ≤ (k : Int) := by omega
              have j1 : (k : Int) < 3 := by omega
              have HIX2 := HIX
              clear hro hst
              go_wp2_with fail
              refine (HST.out _).mono ?_
              rintro e w6 ⟨rfl, hb6⟩
              have HC6 := hide (HCX.out.below hb6 hszx)
              have HI6 : Hid (∃ lo, IntsV lo w6 (.slice b n c) (ni r)) := HIX2.out.elim (fun lo h => ⟨lo, h.below hb6 (Nat.le_refl _)⟩)
              have HB6 := hide (HBX.out.trans (hb6.mono HBX.out.size))
              have hsz6 : wq.heap.size < w6.heap.size := Nat.lt_of_lt_of_le hszx hb6.size
              clear hb6 HCX HIX HIX2 HBX hcell HST
              rcases hsh with ⟨rfl, hso⟩ | ⟨rfl, bq, hso⟩
              · have HSO := hide hso
                clear hso
                go_wp2_with fail
                refine (HSO.out _).mono ?_
                rintro e w7 ⟨v7, rfl, hi7, hb7⟩
                have HC7 := hide (HC6.out.below hb7 hsz6)
                have HI7 : Hid (∃ lo, IntsV lo w7 (.slice b n c) (ni r)) := HI6.out.elim (fun lo h => ⟨lo, h.below hb7 (Nat.le_refl _)⟩)
                have HB7 := hide (HB6.out.trans (hb7.mono HB6.out.size))
                have hsz7 : wq.heap.size < w7.heap.size := Nat.lt_of_lt_of_le hsz6 hb7.size
                obtain ⟨lo7, hl7⟩ := HI7.out
                have SM := hide (sameInts_same HM.out hi7 hl7)
                clear hb7 HC6 HI6 HB6 hi7 hl7 HSO
                go_wp2_with fail
                refine SM.out.mono ?_
                rintro e w8 ⟨rfl, q8⟩
                have HC8 := hide (q8.cells HC7.out)
                have HI8 : Hid (∃ lo, IntsV lo w8 (.slice b n c) (ni r)) := HI7.out.elim (fun lo h => ⟨lo, q8.ints h⟩)
                have HB8 := hide (HB7.out.trans (q8.2 _))
                have hsz8 : wq.heap.size < w8.heap.size := by have := q8.1; omega
                clear q8 HC7 HI7 HB7 SM
                go_wp2_with fail
                go_roundw
                case rel => exact Sh3Rel.mk (k := k) (by omega) (by go_num) HC8 HI8 HB8 hsz8
                case measure => simp [intOf]; omega
              · have HSO := hide hso
                clear hso
                go_wp2_with fail
                refine (HSO.out _).mono ?_
                rintro e w7 ⟨v7, rfl, hb7⟩
                have HC7 := hide (HC6.out.below hb7 hsz6)
                have HI7 : Hid (∃ lo, IntsV lo w7 (.slice b n c) (ni r)) := HI6.out.elim (fun lo h => ⟨lo, h.below hb7 (Nat.le_refl _)⟩)
                have HB7 := hide (HB6.out.trans (hb7.mono HB6.out.size))
                have hsz7 : wq.heap.size < w7.heap.size := Nat.lt_of_lt_of_le hsz6 hb7.size
                clear hb7 HC6 HI6 HB6 HSO
                go_wp2_with fail
                go_roundw
                case rel => exact Sh3Rel.mk (k := k) (by omega) (by go_num) HC7 HI7 HB7 hsz7
                case measure => simp [intOf]; omega
            · have hk33 : k = 3 := by omega
              subst hk33
              go_wp2_with fail
              refine (B1.out _).mono ?_
              rintro e w6 ⟨rfl, hb6⟩
              go_wp2_with fail
              go_ret
              exact ⟨by simp, HBX.out.trans (hb6.mono HBX.out.size)⟩
end Go.Proofs.Ytlfiipkbkhpmnab
