/- TEXTS Great2. -/
import Derived.Test.Ytkdhifofdghbbaarot34
/- THE WALK of the model's StepGreat. -/
namespace Go.Proofs.Ytkdhifofdghbbaa
open Go.RowKit

theorem madeF (N : Nat) : (madeCells (Value.bool false).cells (N * 1)).toList = (fc N (fun _ => false)).map Value.bool := by
  rw [madeB]; congr 1; unfold fc; rw [List.map_const']; simp
theorem fc_cell {w : World} {q N : Nat} {g : Nat → Bool} (h : CellsAt w q ((fc N g).map .bool)) (k : Nat) (hk : k < N) : w.cell? ⟨q, k, none⟩ = some (.bool (g k)) ∧ w.frozen? ⟨q, k, none⟩ = false :=
  h k (.bool (g k)) (by rw [List.getElem?_map, fc_at N g k hk]; rfl)
theorem fc_put {w : World} {q N : Nat} {g : Nat → Bool} (h : CellsAt w q ((fc N g).map .bool)) (k : Nat) (hk : k < N) (b : Bool) : CellsAt (w.setCell ⟨q, k, none⟩ (.bool b)) q ((fc N (fun j => if j = k then b else g j)).map .bool) := by
  have := h.set k (by rw [List.length_map, fc_length]; exact hk) (.bool b)
  rw [← List.map_set, fc_set] at this
  exact this

set_option maxHeartbeats 2000000 in
theorem specStepGreat_any (s : ByteArray) (w : World) (hs : s.size ≤ maxLen) :
    Calls Try.prog 32 #[.string s] w fun e w' => e = .returned (.tuple #[.string (stS s 200), .bool (stOk s 200)]) ∧ Below w.heap.size w w' := by
  cases hv : vld s
  · have e1 : stOk s 200 = false := by simp [stOk, hv]
    have e2 : stS s 200 = ByteArray.empty := by simp [stS, e1]
    rw [e1, e2]
    clear e1 e2
    go_enter Try.func32, Try.ntmps32
    go_wp2_with (go_at_call 38; refine (specRowValid_any _ _ hs).mono ?_; rintro e w' ⟨rfl, rfl⟩)
    go_ret2
    exact ⟨rfl, Below.refl _ _⟩
  · have h120 := vld_le s hv
    obtain ⟨i0, hi, hz0, hz1, hz2⟩ := info_parts infoB
    have hpow : ∀ j, s.size ≤ j → bx (bits s) j = false := bx_size s
    have fin : ∀ x : ByteArray, x.data.toList = chars (fc (2 * s.size + 1) (gt (bx (bits s)) s.size)) → ∀ w, Calls Try.prog 56 #[.string x] w fun e w' => e = .returned (.tuple #[.string (stS s 200), .bool (stOk s 200)]) ∧ w = w' := by
      intro x hx w
      have ha : allSgn x.data.toList = true := by rw [hx]; exact chars_sgn _
      have hb := bits_chars _ x hx
      have hz : x.size = 2 * s.size + 1 := by have := congrArg List.length hx; rw [chars_length, fc_length] at this; exact this
      have hg := great_cut (l := bits s) (n := s.size) (N := 2 * s.size + 1) (K := 200) hpow (by omega) (by omega)
      have := l1Done_any x w (by omega) ha
      rw [hb, tl_ext hg, ← tidyS_eq x ha, hb, text_ext hg] at this
      have e1 : stOk s 200 = decide (tl (stp 200 (bits s)) ≤ 120) := by unfold stOk; rw [hv]; rfl
      have e2 : stS s 200 = if tl (stp 200 (bits s)) ≤ 120 then ofBits (cut (stp 200 (bits s))) else ByteArray.empty := by unfold stS; rw [e1]; simp
      rw [e1, e2]
      exact this
    have FIN := hide fin
    have HP := hide hpow
    obtain ⟨x, hx⟩ : ∃ x, x = stS s 200 := ⟨_, rfl⟩
    obtain ⟨b, hb⟩ : ∃ b, b = stOk s 200 := ⟨_, rfl⟩
    rw [← hx, ← hb] at FIN ⊢
    clear fin hpow hx hb
    obtain ⟨N, hN⟩ : ∃ N, N = 2 * s.size + 1 := ⟨_, rfl⟩
    rw [← hN] at FIN
    have hNi : (N : Int) = 2 * (s.size : Int) + 1 := by omega
    clear hN
    go_enter Try.func32, Try.ntmps32
    go_wp2_with (first | (go_at_call 38; refine (specRowValid_any _ _ hs).mono ?_; rintro e w' ⟨rfl, rfl⟩) | (at_make; refine wpList_make_full _ rfl (.tmp 17) (.tmp 17) 46 rfl w.heap.size 4 i0 (.bool false) 1 Try.underlying46 hi hz0 hz1 _ _ _ _ N rfl rfl ?b0 ?b1 ?b2 ?b3 ?b4 ?_; rotate_right; intro w1 hown1 hgrow1) | (at_make; refine wpList_make_full _ rfl (.tmp 19) (.tmp 19) 46 rfl w1.heap.size 4 i0 (.bool false) 1 Try.underlying46 hi hz0 hz1 _ _ _ _ N rfl rfl ?c0 ?c1 ?c2 ?c3 ?c4 ?_; rotate_right; intro w2 hown2 hgrow2))
    case b0 => omega
    case b1 => omega
    case b2 => rw [hz2]; omega
    case b3 => unfold maxLen; omega
    case b4 => exact Nat.le_refl _
    case c0 => omega
    case c1 => omega
    case c2 => rw [hz2]; omega
    case c3 => unfold maxLen; omega
    case c4 => exact Nat.le_refl _
    rw [madeF] at hown1 hown2
    have hb1 := below_none hgrow1
    have hb2 := below_none hgrow2
    have hl1 : w.heap.size < w1.heap.size := (hown1.lt _ rfl).2
    have hc1 := (CellsAt.of_owns hown1).below hb2 hl1
    have hc2 := CellsAt.of_owns hown2
    have hl2 : w1.heap.size < w2.heap.size := (hown2.lt _ rfl).2
    have hB := hb1.trans (hb2.mono hb1.size)
    have hq : w.heap.size ≠ w1.heap.size := by omega
    have hqle := hb1.size
    obtain ⟨q, hq0⟩ : ∃ q, q = w.heap.size := ⟨_, rfl⟩
    obtain ⟨p, hp0⟩ : ∃ p, p = w1.heap.size := ⟨_, rfl⟩
    have HW := hide hq0
    rw [← hp0] at hc2 hl2 hq hqle ⊢
    rw [← hq0] at hc1 hq hqle hB ⊢
    clear hq0 hp0 hown1 hown2 hgrow1 hgrow2 hb1 hb2 hl1 hi hz0 hz1 hz2 i0
    go_loopw [7] (fun i wr => ∃ k : Nat, k ≤ s.size ∧ i = .int .i64 (k : Int) ∧ Hid (CellsAt wr q ((fc N (fun j => decide (j < k) && bx (bits s) j)).map .bool)) ∧ Hid (CellsAt wr p ((fc N (fun _ => false)).map .bool)) ∧ Hid (Below q w wr) ∧ p < wr.heap.size) (fun i _ => s.size - (Go.RowKit.intOf i).toNat)
    case atStart =>
      refine ⟨0, Nat.zero_le _, rfl, ?_, hc2, hB, hl2⟩
      rw [show (fc N fun j => decide (j < 0) && bx (bits s) j) = fc N (fun _ => false) from fc_ext fun j _ => by simp]
      exact hc1
    case round =>
      obtain ⟨k, hk, rfl, HC1, HC2, HB, hl⟩ := hrel
      clear hc1 hc2 hB hl2
      by_cases hlt : k < s.size
      · obtain ⟨hcell, hfr⟩ := fc_cell HC1.out k (by omega)
        have HBK := hide (show ((s[k].toNat : Int) == 49) = bx (bits s) k by rw [← bit_int]; exact (bx_some _ _ _ (bits_getElem s k hlt)).symm)
        obtain ⟨y, hy⟩ : ∃ y, y = (decide (k < k) && bx (bits s) k) := ⟨_, rfl⟩
        rw [← hy] at hcell
        clear hy
        have i1 : (k : Int) < 2 * (s.size : Int) + 1 := by omega
        have i2 : (k : Int) < (N : Int) := by omega
        go_wp2
        go_roundw
        case rel =>
          refine ⟨k + 1, by omega, by go_num, ?_, HC2.out.far _ hq _, HB.out.setCell (Nat.le_refl _) _, by simpa [World.setCell] using hl⟩
          have h1 := fc_put HC1.out k (by omega) ((s[k].toNat : Int) == 49)
          rw [show (fc N fun j => decide (j < k + 1) && bx (bits s) j) = fc N (fun j => if j = k then ((s[k].toNat : Int) == 49) else decide (j < k) && bx (bits s) j) from fc_ext fun j _ => by
            by_cases e : j = k
            · subst e; rw [if_pos rfl, HBK.out]; simp
            · rw [if_neg e]; congr 1; rw [decide_eq_decide]; omega]
          exact h1
        case measure => simp [Go.RowKit.intOf]; omega
      · have hks : k = s.size := by omega
        have h1 : CellsAt wr q ((fc N (bx (bits s))).map .bool) := by
          have := HC1.out
          rw [hks, show (fc N fun j => decide (j < s.size) && bx (bits s) j) = fc N (bx (bits s)) from fc_ext fun j _ => by
            by_cases e : j < s.size
            · simp [e]
            · rw [HP.out j (by omega)]; simp] at this
          exact this
        have h2 : CellsAt wr p ((fc N (gt (bx (bits s)) 0)).map .bool) := by
          have := HC2.out
          rw [show (fc N fun _ => false) = fc N (gt (bx (bits s)) 0) from fc_ext fun j _ => (gt_none _ j).symm] at this
          exact this
        have H1 := hide h1
        have H2 := hide h2
        have HB0 := hide HB.out
        have hcn : ∀ m, cn (gt (bx (bits s)) 0) m ≤ 0 := by
          intro m
          induction m with
          | zero => exact Nat.le_refl _
          | succ m ih =>
            have e : cn (gt (bx (bits s)) 0) (m + 1) = cn (gt (bx (bits s)) 0) m + if gt (bx (bits s)) 0 m then 1 else 0 := rfl
            rw [e, gt_none]; simpa using ih
        have HCN := hide (hcn (2 * s.size))
        clear h1 h2 HC1 HC2 HB hcn
        go_wp2
        go_loopw [8] (fun i wv => ∃ m : Nat, m ≤ s.size ∧ i = .int .i64 (m : Int) ∧ Hid (CellsAt wv q ((fc N (bx (bits s))).map .bool)) ∧ Hid (CellsAt wv p ((fc N (gt (bx (bits s)) m)).map .bool)) ∧ Hid (cn (gt (bx (bits s)) m) (2 * s.size) ≤ m) ∧ Hid (Below q w wv) ∧ p < wv.heap.size) (fun i _ => s.size - (Go.RowKit.intOf i).toNat)
        case atStart => exact ⟨0, Nat.zero_le _, rfl, H1, H2, HCN, HB0, hl⟩
        case round =>
          obtain ⟨m, hm, rfl, D1, D2, DN, DB, dl⟩ := hrel
          clear H1 H2 HCN HB0 hl
          by_cases hmt : m < s.size
          · obtain ⟨hcell, _⟩ := fc_cell D1.out m (by omega)
            have i1 : (m : Int) < 2 * (s.size : Int) + 1 := by omega
            have i2 : (m : Int) < (N : Int) := by omega
            have HGS := hide (@gt_skip (bx (bits s)) m)
            have HGT := hide (fun k => @gt_step (bx (bits s)) m k)
            obtain ⟨b, hb⟩ : ∃ b, b = bx (bits s) m := ⟨_, rfl⟩
            rw [← hb] at hcell HGS HGT
            clear hb
            cases b
            · have HG := hide (HGS.out rfl)
              clear HGS HGT
              go_wp2
              go_roundw
              case rel => exact ⟨m + 1, by omega, by go_num, D1, by rw [HG.out]; exact D2, by rw [HG.out]; have := DN.out; show _ ≤ m + 1; omega, DB, dl⟩
              case measure => simp [Go.RowKit.intOf]; omega
            · clear HGS
              go_wp2
              go_loop [9] (fun i => ∃ j : Nat, j ≤ 2 * s.size ∧ m < j ∧ i = .int .i64 (j : Int) ∧ Hid (∀ a, m < a → a < j → (bx (bits s) a || gt (bx (bits s)) m a) = true)) (fun i => 2 * s.size - (Go.RowKit.intOf i).toNat)
              case atStart => exact ⟨m + 1, by omega, by omega, by go_num, fun a h1 h2 => by omega⟩
              case round =>
                obtain ⟨j, hj, hmj, rfl, HBUSY⟩ := hrel
                have hj2 := busy_lt HP.out hmt DN.out hmt hj HBUSY.out
                obtain ⟨c1, _⟩ := fc_cell D1.out j (by omega)
                obtain ⟨c2, f2⟩ := fc_cell D2.out j (by omega)
                have i3 : (j : Int) < 2 * (s.size : Int) + 1 := by omega
                have i4 : (j : Int) < (N : Int) := by omega
                have HN : Hid ((bx (bits s) j || gt (bx (bits s)) m j) = true → ∀ a, m < a → a < j + 1 → (bx (bits s) a || gt (bx (bits s)) m a) = true) := by
                  intro h a h1 h2
                  by_cases e : a = j
                  · subst e; exact h
                  · exact HBUSY.out a h1 (by omega)
                have HSTEP := hide (fun h1 h2 => HGT.out j (by trivial) hmj HBUSY.out h1 h2)
                obtain ⟨b1, hb1⟩ : ∃ b, b = bx (bits s) j := ⟨_, rfl⟩
                obtain ⟨b2, hb2⟩ : ∃ b, b = gt (bx (bits s)) m j := ⟨_, rfl⟩
                rw [← hb1] at c1 HN HSTEP
                rw [← hb2] at c2 HN HSTEP
                clear hb1 hb2
                cases b1
                · cases b2
                  · have HS := hide (HSTEP.out rfl rfl)
                    clear HSTEP HN
                    go_wp2
                    go_roundw
                    case rel =>
                      refine ⟨m + 1, by omega, by go_num, D1.out.far _ (fun e => hq e.symm) _, ?_, ?_, DB.out.setCell (p := ⟨p, j, none⟩) hqle _⟩
                      · rw [HS.out]; exact fc_put D2.out j (by omega) true
                      · rw [HS.out]; have h1 := cn_up (gt (bx (bits s)) m) j (2 * s.size); have := DN.out; show _ ≤ m + 1; split at h1 <;> omega
                    case measure => simp [Go.RowKit.intOf]; omega
                  · have HN2 := hide (HN.out rfl)
                    clear HSTEP HN
                    go_wp2
                    go_round
                    case rel => exact ⟨j + 1, by omega, by omega, by go_num, HN2⟩
                    case measure => simp [Go.RowKit.intOf]; omega
                · have HN2 := hide (HN.out rfl)
                  clear HSTEP HN
                  go_wp2
                  go_round
                  case rel => exact ⟨j + 1, by omega, by omega, by go_num, HN2⟩
                  case measure => simp [Go.RowKit.intOf]; omega
          · obtain rfl : m = s.size := by omega
            have HN1 : N ≤ 1000 := by omega
            go_wp2_with fail
            refine (l1Text_any p N N (fc N (gt (bx (bits s)) s.size)) wr (fc_length _ _) HN1 D2.out).mono ?_
            rintro e w5 ⟨⟨y, rfl, hy⟩, rfl⟩
            have HF := hide (FIN.out y hy)
            go_wp2_with (go_at_call 56; refine (HF.out _).mono ?_; rintro e w6 ⟨rfl, rfl⟩)
            go_ret2
            exact ⟨rfl, by rw [← HW.out]; exact DB.out⟩
end Go.Proofs.Ytkdhifofdghbbaa
