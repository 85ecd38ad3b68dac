/- THE WALKS of the laws FnRounds and FnRuns. -/
import Derived.Test.YtlfiipkbkhpmnabExact3
import Derived.Test.YtlfiipkbkhpmnabSShape
import Derived.Test.YtlfiipkbkhpmnabDraw6
import Derived.IntWalk
namespace Go.Proofs.Ytlfiipkbkhpmnab
open Go.RowKit

set_option maxRecDepth 100000 in
set_option maxHeartbeats 2000000 in
theorem walkFnRounds {w : World} (a : Option Addr) (len cap : Nat) (z : List Int) (hr : IsRow .u8 w a len cap z) :
    Calls Try.prog 6 #[.slice a len cap] w fun e w' => e = .returned (.bool true) ∧ Below w.heap.size w w' := by
  have hcap := hr.le
  have hmax := hr.max
  unfold maxLen at hmax
  by_cases hbig : 1048576 < len
  · go_enter Try.func6, Try.ntmps6
    go_wp2
    go_ret
    exact ⟨rfl, Below.refl _ _⟩
  · have D := hide (DrawShapeRounds_any a len cap z w (by omega) hcap hr.bytes)
    clear hr
    go_enter Try.func6, Try.ntmps6
    go_wp2_with fail
    refine D.out.mono ?_
    rintro e w1 ⟨s, rfl, hs, hb1⟩
    have hs' : s.size ≤ maxLen := by unfold maxLen; omega
    have C1 := hide (fun w => implShapeRounds_any s w hs')
    have C0 := hide (fun w => specShapeRounds_any s w hs')
    have hlen := rdR_len s
    have hm : (rdR s).length ≤ maxLen := by unfold maxLen; omega
    have HM := hide hm
    clear hm
    cases hv : vld s
    · rw [hv] at C0 C1
      obtain ⟨l, hl⟩ : ∃ l, l = rdR s := ⟨_, rfl⟩
      rw [← hl] at C0 C1 HM
      clear hv hl hlen
      go_wp2_with fail
      refine (C1.out _).mono ?_
      rintro e w2 ⟨u, rfl, hi, hb2⟩
      have g2 := hb1.trans (hb2.mono hb1.size)
      go_wp2_with fail
      refine (C0.out _).mono ?_
      rintro e w3 ⟨v, rfl, hi0, hb3⟩
      have g3 := g2.trans (hb3.mono g2.size)
      have hi' := hi.below hb3 (Nat.le_refl _)
      clear hi hb2 hb3
      go_wp2_with fail
      refine (sameInts_same HM.out hi' hi0).mono ?_
      rintro e w4 ⟨rfl, q4⟩
      go_wp2_with fail
      refine (sameInts_same HM.out (q4.ints hi') (q4.ints hi0)).mono ?_
      rintro e w5 ⟨rfl, q5⟩
      go_wp2_with fail
      go_ret
      exact ⟨by simp, (g3.trans (q4.2 _)).trans (q5.2 _)⟩
    · rw [hv] at C0 C1
      have h120 := vld_le s hv
      have T1 := hide (fun w => implStepTaken_any s 1 w hs')
      obtain ⟨t1, t2⟩ := tkN_one hv
      obtain ⟨f1, f2⟩ := rounds_facts s
      have hhd := rdB_head (bits s)
      have hrr : rdR s = ni (rdB (bits s)) := by unfold rdR; rw [hv]; rfl
      have hT : tkN s 1 = (((rdB (bits s)).headD 0 : Nat) : Int) := by rw [t2, hhd]
      rw [t1, hT] at T1
      rw [hrr] at C0 C1 HM hlen
      obtain ⟨r, hr⟩ : ∃ r, r = rdB (bits s) := ⟨_, rfl⟩
      rw [← hr] at C0 C1 HM T1 f1 f2 hlen
      rw [ni_length] at hlen
      have HF := hide f1
      have HP := hide f2
      obtain ⟨N, hN⟩ : ∃ N : Int, N = ((r.headD 0 : Nat) : Int) := ⟨_, rfl⟩
      have HN := hide hN
      rw [← hN] at T1
      clear hv t1 t2 f1 f2 hhd hrr hT hr hN
      go_wp2_with fail
      refine (C1.out _).mono ?_
      rintro e w2 ⟨u, rfl, hi, hb2⟩
      have g2 := hb1.trans (hb2.mono hb1.size)
      go_wp2_with fail
      refine (C0.out _).mono ?_
      rintro e w3 ⟨v, rfl, hi0, hb3⟩
      have g3 := g2.trans (hb3.mono g2.size)
      have hi' := hi.below hb3 (Nat.le_refl _)
      clear hi hb2 hb3
      go_wp2_with fail
      refine (sameInts_same HM.out hi' hi0).mono ?_
      rintro e w4 ⟨rfl, q4⟩
      have hi4 := q4.ints hi'
      have g4 := g3.trans (q4.2 _)
      clear hi' hi0 q4
      go_wp2_with fail
      refine (T1.out _).mono ?_
      rintro e w5 ⟨rfl, hb5⟩
      have hi5 := hi4.below hb5 (Nat.le_refl _)
      have G5 := hide (g4.trans (hb5.mono g4.size))
      obtain ⟨b, c, rfl, hf⟩ : ∃ a c, u = .slice a r.length c ∧ (0 < r.length → ∃ g, a = some ⟨g, 0, none⟩ ∧ CellsAt w5 g ((ni r).map (.int .i64))) := by
        rcases hi5 with ⟨a, c, rfl, h0⟩ | ⟨g, c, rfl, _, _, _, hc⟩
        · have : r = [] := by cases r with
            | nil => rfl
            | cons x t => simp [ni] at h0
          subst this
          exact ⟨a, c, rfl, fun h => by simp at h⟩
        · exact ⟨_, c, by rw [ni_length], fun _ => ⟨g, rfl, hc⟩⟩
      obtain ⟨n, hn⟩ : ∃ n, n = r.length := ⟨_, rfl⟩
      have HNL := hide hn
      have HC := hide hf
      rw [← hn] at hlen HC ⊢
      clear hi4 hi5 hb5 hb1 g2 g3 g4 hf hn C0 C1 T1
      go_wp2
      go_loopw [10] (fun i wr => ∃ k : Nat, k ≤ n ∧ i = .int .i64 ((k : Int) + 1) ∧ Hid (Quiet w5 wr)) (fun i _ => n + 2 - (intOf i).toNat)
      case atStart => exact ⟨0, Nat.zero_le _, rfl, Quiet.refl _⟩
      case round =>
        obtain ⟨k, hk, rfl, HQ⟩ := hrel
        by_cases hlt : k + 1 < n
        · obtain ⟨q, rfl, hq⟩ := HC.out (by omega)
          obtain ⟨y, hy⟩ : ∃ y, r[k]? = some y := ⟨_, List.getElem?_eq_getElem (by rw [← HNL.out]; omega)⟩
          obtain ⟨x, hx⟩ : ∃ x, r[k + 1]? = some x := ⟨_, List.getElem?_eq_getElem (by rw [← HNL.out]; exact hlt)⟩
          have hqr := HQ.out.cells hq
          have c0 : wr.cell? ⟨q, k, none⟩ = some (.int .i64 (y : Int)) := (hqr k _ (by rw [List.getElem?_map, ni_getElem, hy]; rfl)).1
          have c1 : wr.cell? ⟨q, k + 1, none⟩ = some (.int .i64 (x : Int)) := (hqr (k + 1) _ (by rw [List.getElem?_map, ni_getElem, hx]; rfl)).1
          have hxy : x ≤ y := by have := HF.out k; rw [hy, hx] at this; exact this
          have hx1 : 1 ≤ x := HP.out x (List.mem_of_getElem? hx)
          obtain ⟨X, hX⟩ : ∃ X : Int, X = (x : Int) := ⟨_, rfl⟩
          obtain ⟨Y, hY⟩ : ∃ Y : Int, Y = (y : Int) := ⟨_, rfl⟩
          have d1 : decide (Y < X) = false := by simp; omega
          have d2 : decide (X < 1) = false := by simp; omega
          rw [← hX] at c1
          rw [← hY] at c0
          have j0 : (0 : Int) ≤ (k : Int) := by omega
          have j1 : (k : Int) < (n : Int) := by omega
          have j2 : (k : Int) + 1 < (n : Int) := by omega
          have j3 : (0 : Int) ≤ (k : Int) + 1 := by omega
          have hw1 : IntKind.i64.wrap ((k : Int) + 1 - 1) = (k : Int) := by rw [IntWalk.i64_in _ (by omega)]; omega
          have hw2 : IntKind.i64.wrap (k : Int) = (k : Int) := IntWalk.i64_in _ (by omega)
          have j4 : (k : Int) + 1 - 1 = (k : Int) := by omega
          have j5 : ((k : Int) + 1).toNat = k + 1 := by omega
          clear hy hx hqr hq hxy hx1 hX hY
          go_wp2
          go_quiet (fail)
          clear hw1 hw2
          go_wp2
          go_roundw
          case rel => exact ⟨k + 1, by omega, by go_num, HQ.out.trans (Quiet.drewN _)⟩
          case measure => simp [intOf]; omega
        · have j2 : ¬ (k : Int) + 1 < (n : Int) := by omega
          by_cases hn0 : n = 0
          · have hN0 : N = 0 := by
              rw [HN.out]
              cases r with
              | nil => rfl
              | cons x t => have := HNL.out; rw [List.length_cons] at this; omega
            subst hn0
            subst hN0
            go_wp2
            go_ret
            exact ⟨by simp, G5.out.trans (HQ.out.2 _)⟩
          · obtain ⟨q, rfl, hq⟩ := HC.out (by omega)
            have c0 : wr.cell? ⟨q, 0, none⟩ = some (.int .i64 N) := by
              refine ((HQ.out.cells hq) 0 _ ?_).1
              rw [HN.out]
              cases r with
              | nil => have := HNL.out; simp at this; omega
              | cons x t => rfl
            have hnn : (0 : Int) < (n : Int) := by omega
            have hn1 : ((n : Int) == 0) = false := beq_eq_false_iff_ne.2 (by omega)
            have hNN : ((N : Int) == N) = true := by simp
            clear hq
            go_wp2
            go_ret
            exact ⟨by simp, G5.out.trans (HQ.out.2 _)⟩

set_option maxRecDepth 100000 in
set_option maxHeartbeats 2000000 in
theorem walkFnRuns {w : World} (a : Option Addr) (len cap : Nat) (z : List Int) (hr : IsRow .u8 w a len cap z) :
    Calls Try.prog 8 #[.slice a len cap] w fun e w' => e = .returned (.bool true) ∧ Below w.heap.size w w' := by
  have hcap := hr.le
  have hmax := hr.max
  unfold maxLen at hmax
  by_cases hbig : 1048576 < len
  · go_enter Try.func8, Try.ntmps8
    go_wp2
    go_ret
    exact ⟨rfl, Below.refl _ _⟩
  · have D := hide (DrawShapeRuns_any a len cap z w (by omega) hcap hr.bytes)
    clear hr
    go_enter Try.func8, Try.ntmps8
    go_wp2_with fail
    refine D.out.mono ?_
    rintro e w1 ⟨s, rfl, hs, hb1⟩
    have hs' : s.size ≤ maxLen := by unfold maxLen; omega
    have C1 := hide (fun w => implShapeRuns_any s w hs')
    have C0 := hide (fun w => specShapeRuns_any s w hs')
    have hlen := rnR_len s
    have hm : (rnR s).length ≤ maxLen := by unfold maxLen; omega
    have HM := hide hm
    clear hm
    cases hv : vld s
    · rw [hv] at C0 C1
      obtain ⟨l, hl⟩ : ∃ l, l = rnR s := ⟨_, rfl⟩
      rw [← hl] at C0 C1 HM
      clear hv hl hlen
      go_wp2_with fail
      refine (C1.out _).mono ?_
      rintro e w2 ⟨u, rfl, hi, hb2⟩
      have g2 := hb1.trans (hb2.mono hb1.size)
      go_wp2_with fail
      refine (C0.out _).mono ?_
      rintro e w3 ⟨v, rfl, hi0, hb3⟩
      have g3 := g2.trans (hb3.mono g2.size)
      have hi' := hi.below hb3 (Nat.le_refl _)
      clear hi hb2 hb3
      go_wp2_with fail
      refine (sameInts_same HM.out hi' hi0).mono ?_
      rintro e w4 ⟨rfl, q4⟩
      go_wp2_with fail
      refine (sameInts_same HM.out (q4.ints hi') (q4.ints hi0)).mono ?_
      rintro e w5 ⟨rfl, q5⟩
      go_wp2_with fail
      go_ret
      exact ⟨by simp, (g3.trans (q4.2 _)).trans (q5.2 _)⟩
    · rw [hv] at C0 C1
      have h120 := vld_le s hv
      have T1 := hide (fun w => implStepTaken_any s 1 w hs')
      have B1 := hide (fun w => implRowBalls_any s w hs')
      obtain ⟨t1, t2⟩ := tkN_one hv
      obtain ⟨f1, f2, f3⟩ := runs_energy (bits s)
      have hrr : rnR s = ni (rr (bits s)).1 := by unfold rnR; rw [hv]; rfl
      have hnb := nballs_size s
      rw [hv, if_pos rfl, ← f2] at B1
      rw [← f2] at hnb
      rw [t1, t2, ← f1] at T1
      rw [hrr] at C0 C1 HM hlen
      obtain ⟨r, hr⟩ : ∃ r, r = (rr (bits s)).1 := ⟨_, rfl⟩
      rw [← hr] at C0 C1 HM T1 B1 f3 hlen hnb
      rw [ni_length] at hlen
      have HP := hide f3
      obtain ⟨n, hn⟩ : ∃ n, n = r.length := ⟨_, rfl⟩
      obtain ⟨T, hT⟩ : ∃ T, T = r.sum := ⟨_, rfl⟩
      have HNL := hide hn
      have HT := hide hT
      rw [← hn] at T1 hlen
      rw [← hT] at B1 hnb
      clear hv t1 t2 f1 f2 f3 hrr hr hT
      go_wp2_with fail
      refine (C1.out _).mono ?_
      rintro e w2 ⟨u, rfl, hi, hb2⟩
      have g2 := hb1.trans (hb2.mono hb1.size)
      go_wp2_with fail
      refine (C0.out _).mono ?_
      rintro e w3 ⟨v, rfl, hi0, hb3⟩
      have g3 := g2.trans (hb3.mono g2.size)
      have hi' := hi.below hb3 (Nat.le_refl _)
      clear hi hb2 hb3
      go_wp2_with fail
      refine (sameInts_same HM.out hi' hi0).mono ?_
      rintro e w4 ⟨rfl, q4⟩
      have hi4 := q4.ints hi'
      have G4 := hide (g3.trans (q4.2 _))
      obtain ⟨b, c, rfl, hf⟩ : ∃ a c, u = .slice a r.length c ∧ (0 < r.length → ∃ g, a = some ⟨g, 0, none⟩ ∧ CellsAt w4 g ((ni r).map (.int .i64))) := by
        rcases hi4 with ⟨a, c, rfl, h0⟩ | ⟨g, c, rfl, _, _, _, hc⟩
        · have : r = [] := by cases r with
            | nil => rfl
            | cons x t => simp [ni] at h0
          subst this
          exact ⟨a, c, rfl, fun h => by simp at h⟩
        · exact ⟨_, c, by rw [ni_length], fun _ => ⟨g, rfl, hc⟩⟩
      have HC := hide hf
      rw [← hn] at HC ⊢
      clear hi4 hi' hi0 q4 hb1 g2 g3 hf hn C0 C1
      go_wp2
      go_loop [8, 9] (fun t i => ∃ k : Nat, k ≤ n ∧ i = .int .i64 (k : Int) ∧ t = .int .i64 (((r.take k).sum : Nat) : Int)) (fun _ i => n - (intOf i).toNat)
      case atStart => exact ⟨0, Nat.zero_le _, rfl, rfl⟩
      case round =>
        obtain ⟨k, hk, rfl, rfl⟩ := hrel
        have hsb : (r.take k).sum ≤ T := by
          rw [HT.out]
          have h1 := List.take_append_drop k r
          have h2 : r.sum = (r.take k).sum + (r.drop k).sum := by rw [← List.sum_append, h1]
          omega
        by_cases hlt : k < n
        · obtain ⟨q, rfl, hq⟩ := HC.out (by omega)
          obtain ⟨x, hx⟩ : ∃ x, r[k]? = some x := ⟨_, List.getElem?_eq_getElem (by rw [← HNL.out]; exact hlt)⟩
          have c0 : w4.cell? ⟨q, k, none⟩ = some (.int .i64 (x : Int)) := (hq k _ (by rw [List.getElem?_map, ni_getElem, hx]; rfl)).1
          have hx1 : 1 ≤ x := HP.out x (List.mem_of_getElem? hx)
          have HS : Hid ((r.take (k + 1)).sum = (r.take k).sum + x) := by
            show _ = _
            rw [List.take_add_one, hx, List.sum_append]; simp
          have hsx : x ≤ T := by rw [HT.out]; exact mem_le_sum _ x (List.mem_of_getElem? hx)
          obtain ⟨t, ht⟩ : ∃ t, t = (r.take k).sum := ⟨_, rfl⟩
          rw [← ht] at hsb HS ⊢
          have j0 : (0 : Int) ≤ (k : Int) := by omega
          have j1 : (k : Int) < (n : Int) := by omega
          have x1 : ¬ (x : Int) < 1 := by omega
          clear hx hq ht
          go_wp2
          go_round
          case rel => exact ⟨k + 1, by omega, by go_num, by rw [HS.out]; go_num⟩
          case measure => simp [intOf]; omega
        · have hkn : k = n := by omega
          have hfin : (r.take k).sum = T := by rw [List.take_of_length_le (by rw [← HNL.out]; omega)]; exact HT.out.symm
          rw [hfin] at hsb ⊢
          clear hfin
          obtain ⟨TI, hTI⟩ : ∃ X : Int, X = (T : Int) := ⟨_, rfl⟩
          obtain ⟨NI, hNI⟩ : ∃ X : Int, X = (n : Int) := ⟨_, rfl⟩
          have e1 : ((NI : Int) == NI) = true := by simp
          have e2 : ((TI : Int) == TI) = true := by simp
          go_wp2_with fail
          refine (T1.out _).mono ?_
          rintro e w5 ⟨rfl, hb5⟩
          have G5 := hide (G4.out.trans (hb5.mono G4.out.size))
          clear hb5
          go_wp2_with fail
          refine (B1.out _).mono ?_
          rintro e w6 ⟨rfl, hb6⟩
          go_wp2_with fail
          go_ret
          exact ⟨by simp, G5.out.trans (hb6.mono G5.out.size)⟩
end Go.Proofs.Ytlfiipkbkhpmnab
