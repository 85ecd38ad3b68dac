/- THE WALKS of the laws FnEnergy and FnEnergies. -/
import Derived.Test.YtlfiipkbkhpmnabOfF
import Derived.Test.YtlfiipkbkhpmnabSShape
import Derived.Test.YtlfiipkbkhpmnabDraw6
namespace Go.Proofs.Ytlfiipkbkhpmnab
open Go.RowKit

theorem sum_take_succ (l : List Int) (k : Nat) (x : Int) (h : l[k]? = some x) : (l.take (k + 1)).sum = (l.take k).sum + x := by
  rw [List.take_add_one, h, List.sum_append]; simp
theorem sum_bd (l : List Int) (h : l.all szOk = true) : 0 ≤ l.sum ∧ l.sum ≤ 200 * (l.length : Int) := by
  have := enSum_bd l 200 rfl h
  have e : enSum l 200 = l.sum := by
    unfold enSum
    congr 1
    have : l.map (fun x => min x 200) = l.map id := List.map_congr_left (fun x hx => by
      have h1 := List.all_eq_true.1 h x hx
      unfold szOk at h1
      simp at h1
      show min x 200 = x
      omega)
    rw [this, List.map_id]
  rw [e] at this
  exact this
theorem enOk_parts {l : List Int} {n : Int} (h : enOk l n = true) : roomOk n = true ∧ l.length ≤ 100 ∧ l.all szOk = true := by
  unfold enOk at h
  rw [Bool.and_eq_true, Bool.and_eq_true] at h
  exact ⟨h.1.1, by simpa using h.1.2, h.2⟩
theorem enN_bd (l : List Int) (n : Int) : 0 ≤ enN l n ∧ enN l n ≤ 20000 := by
  unfold enN
  cases h : enOk l n
  · exact ⟨Int.le_refl _, by show (0 : Int) ≤ 20000; omega⟩
  · rw [if_pos rfl]
    obtain ⟨a, b, c⟩ := enOk_parts h
    have := enSum_bd l n a c
    omega

set_option maxRecDepth 100000 in
set_option maxHeartbeats 1000000 in
theorem walkFnEnergy {w : World} (a : Option Addr) (len cap : Nat) (z : List Int) (hr : IsRow .u8 w a len cap z) :
    Calls Try.prog 7 #[.slice a len cap] w fun e w' => e = .returned (.bool true) ∧ Below w.heap.size w w' := by
  have hcap := hr.le
  have hmax := hr.max
  unfold maxLen at hmax
  by_cases hbig : 1048576 < len
  · go_enter Try.func7, Try.ntmps7
    go_wp2
    go_ret
    exact ⟨rfl, Below.refl _ _⟩
  · have D := hide (DrawShapeEnergy_any a len cap z w (by omega) hcap hr.bytes)
    clear hr
    go_enter Try.func7, Try.ntmps7
    go_wp2_with fail
    refine D.out.mono ?_
    rintro e w1 ⟨v, l, n, rfl, hl, hi, hn0, hn1, hb1⟩
    have S1 := hide (fun (w : World) (h : IntsV w1.heap.size w v l ∨ True) (h2 : ∃ lo, IntsV lo w v l) => (show Calls Try.prog 20 #[v, .int .i64 n] w (fun e w' => e = .returned (.tuple #[.int .i64 (enN l n), .bool (enOk l n)]) ∧ Below w.heap.size w w') from by obtain ⟨lo, h2⟩ := h2; exact implShapeEnergy_any v l n w (by omega) h2))
    have S0 := hide (fun (w : World) (h2 : ∃ lo, IntsV lo w v l) => (show Calls Try.prog 25 #[v, .int .i64 n] w (fun e w' => e = .returned (.tuple #[.int .i64 (enN l n), .bool (enOk l n)]) ∧ w = w') from by obtain ⟨lo, h2⟩ := h2; exact specShapeEnergy_any v l n w (by omega) h2))
    have S2 := hide (fun (w : World) (h2 : ∃ lo, IntsV lo w v l) => (show Calls Try.prog 20 #[v, .int .i64 200] w (fun e w' => e = .returned (.tuple #[.int .i64 (enN l 200), .bool (enOk l 200)]) ∧ Below w.heap.size w w') from by obtain ⟨lo, h2⟩ := h2; exact implShapeEnergy_any v l 200 w (by omega) h2))
    have bd := enN_bd l n
    cases hk : enOk l n
    · rw [hk] at S0 S1
      obtain ⟨x, hx⟩ : ∃ x, x = enN l n := ⟨_, rfl⟩
      rw [← hx] at S0 S1
      have HI := hide hi
      clear hk hx hi bd
      go_wp2_with fail
      refine (S1.out w1 (.inr trivial) ⟨_, HI.out⟩).mono ?_
      rintro e w2 ⟨rfl, hb2⟩
      have HI2 := hide (HI.out.below hb2 (Nat.le_refl _))
      go_wp2_with fail
      refine (S0.out w2 ⟨_, HI2.out⟩).mono ?_
      rintro e w3 ⟨rfl, rfl⟩
      go_wp2_with fail
      go_ret
      exact ⟨by simp, hb1.trans (hb2.mono hb1.size)⟩
    · obtain ⟨k1, k2, k3, k4, k5, k6⟩ := energy_facts hk
      obtain ⟨_, _, hall⟩ := enOk_parts hk
      rw [k1, k2] at S2
      rw [hk] at S0 S1
      obtain ⟨x, hx⟩ : ∃ x, x = enN l n := ⟨_, rfl⟩
      obtain ⟨T, hT⟩ : ∃ T, T = l.sum := ⟨_, rfl⟩
      have HT := hide hT
      rw [← hx] at S0 S1 bd k3 k4
      rw [← hT] at S2 k3 k5 k6
      obtain ⟨nl, hnl⟩ : ∃ n, n = l.length := ⟨_, rfl⟩
      have HNL := hide hnl
      have HALL := hide hall
      rw [← hnl] at hl k4
      have HK4 := hide k4
      have HI := hide hi
      have hxx : ((x : Int) != x) = false := by simp
      clear hk hx hi k1 k2 hT hall hnl k4
      go_wp2_with fail
      refine (S1.out w1 (.inr trivial) ⟨_, HI.out⟩).mono ?_
      rintro e w2 ⟨rfl, hb2⟩
      have HI2 := hide (HI.out.below hb2 (Nat.le_refl _))
      have g2 := hb1.trans (hb2.mono hb1.size)
      go_wp2_with fail
      refine (S0.out w2 ⟨_, HI2.out⟩).mono ?_
      rintro e w3 ⟨rfl, rfl⟩
      go_wp2_with fail
      refine (S2.out w2 ⟨_, HI2.out⟩).mono ?_
      rintro e w4 ⟨rfl, hb4⟩
      have g4 := g2.trans (hb4.mono g2.size)
      have hi4 := HI2.out.below hb4 (Nat.le_refl _)
      have HB4 := hide g4
      obtain ⟨a5, c5, rfl, hf⟩ : ∃ a c, v = .slice a l.length c ∧ (0 < l.length → ∃ g, a = some ⟨g, 0, none⟩ ∧ CellsAt w4 g (l.map (.int .i64))) := by
        rcases hi4 with ⟨a, c, rfl, rfl⟩ | ⟨g, c, rfl, _, _, hg, hc⟩
        · exact ⟨a, c, rfl, fun h => by simp at h⟩
        · exact ⟨_, c, rfl, fun _ => ⟨g, rfl, hc⟩⟩
      have HF := hide hf
      rw [← HNL.out] at HF ⊢
      clear HI HI2 S0 S1 S2 hb1 hb2 hb4 g2 g4 hi4 hf
      go_wp2
      go_loop [11, 12] (fun t i => ∃ k : Nat, k ≤ nl ∧ i = .int .i64 (k : Int) ∧ t = .int .i64 ((l.take k).sum)) (fun _ i => nl - (intOf i).toNat)
      case atStart => exact ⟨0, Nat.zero_le _, rfl, rfl⟩
      case round =>
        obtain ⟨k, hk, rfl, rfl⟩ := hrel
        have hall2 : (l.take k).all szOk = true := List.all_eq_true.2 (fun x hx => List.all_eq_true.1 HALL.out x (List.mem_of_mem_take hx))
        obtain ⟨s0, s1⟩ := sum_bd (l.take k) hall2
        have hlt2 : (l.take k).length ≤ 5 := by rw [List.length_take, ← HNL.out]; omega
        clear hall2
        by_cases hlt : k < nl
        · obtain ⟨q, rfl, hq⟩ := HF.out (by omega)
          obtain ⟨y, hy⟩ : ∃ y, l[k]? = some y := ⟨_, List.getElem?_eq_getElem (by rw [← HNL.out]; exact hlt)⟩
          have hcell := (hq k (.int .i64 y) (by rw [List.getElem?_map, hy]; rfl)).1
          have HS := hide (sum_take_succ l k y hy)
          have hsz := List.all_eq_true.1 HALL.out y (List.mem_of_getElem? hy)
          unfold szOk at hsz
          simp at hsz
          obtain ⟨y0, y1⟩ := hsz
          obtain ⟨t, ht⟩ : ∃ t, t = (l.take k).sum := ⟨_, rfl⟩
          rw [← ht] at s0 s1 HS ⊢
          clear ht hy hq
          have i0 : (0 : Int) ≤ (k : Int) := by omega
          have i1 : (k : Int) < (nl : Int) := by omega
          go_wp2
          go_round
          case rel => exact ⟨k + 1, by omega, by go_num, by rw [HS.out]⟩
          case measure => simp [intOf]; omega
        · have hkn : k = nl := by omega
          have hfin : (l.take k).sum = T := by rw [List.take_of_length_le (by rw [← HNL.out]; omega)]; exact HT.out.symm
          rw [hfin] at s0 s1 ⊢
          clear hfin
          have hTT : ((T : Int) == T) = true := by simp
          obtain ⟨P, hP⟩ : ∃ P : Int, P = n * (nl : Int) := ⟨_, rfl⟩
          have hk4 := HK4.out
          have hpb : 0 ≤ n * (nl : Int) ∧ n * (nl : Int) ≤ 100000 := by
            rcases (show nl = 0 ∨ nl = 1 ∨ nl = 2 ∨ nl = 3 ∨ nl = 4 ∨ nl = 5 by omega) with e | e | e | e | e | e <;> (rw [e] at hk4 ⊢; omega)
          obtain ⟨hp0, hp1⟩ := hpb
          have d1 : decide ((x : Int) ≤ T) = true := by simpa using k3
          have d2 : decide ((x : Int) ≤ n * (nl : Int)) = true := by simpa using hk4
          go_wp2
          go_ret
          exact ⟨by simp, HB4.out⟩
end Go.Proofs.Ytlfiipkbkhpmnab
