/- TEXTS Great3. -/
import Derived.Test.Ytlgceccbjkkeiaawav42
import Derived.Test.Ytlgceccbjkkeiaawav04
import Derived.TacticsInMore
/- THE WALK of the program's StepGreat. -/
namespace Go.Proofs.Ytlgceccbjkkeiaa
open Go.RowKit Go.Shelf

attribute [local go_sem] Oper.semAt_some

theorem sizeB : (Try.prog.info? 4).map (·.size) = some 1 := by kernel_rfl
/-- a row that was just made: its block -/
theorem made_heap {w : World} {base e g n : Nat} {xs : List Value} (h : w.ownsRow base e 1 (.slice (some ⟨g, 0, none⟩) n n) n xs) : w.heap[g]? = some (.cells xs.toArray e (0, 0)) := by
  rcases h.2 with ⟨h1, _⟩ | ⟨g', cap, cur, h1, _, hg, _, _, hs, ht⟩
  · cases h1
  · injection h1 with h1 h2 h3
    injection h1 with h1
    injection h1 with h1
    subst h1; subst h3
    rw [List.take_of_length_le (by simp; omega)] at ht
    rw [hg, ← ht]
theorem cells_heap {w : World} {e g : Nat} {xs : List Value} (h : w.heap[g]? = some (.cells xs.toArray e (0, 0))) (hm : xs.length ≤ maxLen) : CellsAt w g xs := by
  have : w.ownsRow 0 e 1 (.slice (some ⟨g, 0, none⟩) xs.length xs.length) xs.length xs := ⟨by simp, .inr ⟨g, xs.length, xs.toArray, rfl, Nat.zero_le _, h, Nat.le_refl _, hm, by simp, by simp⟩⟩
  exact CellsAt.of_owns this
theorem cells_other {w w' : World} {g R : Nat} {l : List Value} (h : CellsAt w g l) (hg : w.grownBy w' (some R)) (hne : g ≠ R) : CellsAt w' g l := by
  intro j v hv
  obtain ⟨a, b⟩ := h j v hv
  have hb := hg.block g (World.block_lt_of_cell? w _ a) (by intro e; injection e with e; exact hne e)
  exact ⟨(World.cell?_of_block (a := ⟨g, j, none⟩) hb).trans a, (World.frozen?_of_block (a := ⟨g, j, none⟩) hb).trans b⟩
theorem copied (t : Nat) (l : List Bool) (hl : l.length = t) : splice ((fc (2 * t) (fun _ => false)).map Value.bool) 0 (l.map Value.bool) = (fc (2 * t) (bx l)).map Value.bool := by
  have e : splice ((fc (2 * t) (fun _ => false)).map Value.bool) 0 (l.map Value.bool) = (l ++ (fc (2 * t) (fun _ => false)).drop t).map Value.bool := by
    simp [splice, hl, List.map_drop]
  rw [e]
  congr 1
  apply List.ext_getElem?
  intro j
  by_cases h1 : j < t
  · rw [List.getElem?_append_left (by omega), fc_at _ _ j (by omega)]
    unfold bx
    rw [List.getElem?_eq_getElem (by omega)]; rfl
  · rw [List.getElem?_append_right (by omega), hl, List.getElem?_drop, show t + (j - t) = j by omega]
    by_cases h2 : j < 2 * t
    · rw [fc_at _ _ j h2, fc_at _ _ j h2, bx_out l j (by omega)]
    · rw [List.getElem?_eq_none_iff.2 (by rw [fc_length]; omega), List.getElem?_eq_none_iff.2 (by rw [fc_length]; omega)]

set_option maxRecDepth 100000 in
set_option maxHeartbeats 4000000 in
theorem implStepGreat_yes (s : ByteArray) (w : World) (hv : vld s = true) :
    Calls Try.prog 24 #[.string s] w fun e w' => e = .returned (.tuple #[.string (stS s 200), .bool (stOk s 200)]) ∧ Below w.heap.size w w' := by
  have h120 := vld_le s hv
  have hle := tl_bits s
  obtain ⟨i0, hi, hy0, hy1, hy2⟩ := info_parts infoB
  have hf := (tl_le_iff (bits s) _).1 (Nat.le_refl _)
  have HF := hide hf
  have hr := readRow_yes s w hv
  have HCL := hide (cut_length (bits s))
  have HCM := hide (cut_map (bits s))
  obtain ⟨t, ht⟩ : ∃ t, t = tl (bits s) := ⟨_, rfl⟩
  rw [← ht] at hle HF hr HCL HCM
  have HR := hide hr
  clear hf hr ht
  obtain ⟨N, hN⟩ : ∃ N, N = 2 * t := ⟨_, rfl⟩
  have hNi : (N : Int) = 2 * (t : Int) := by omega
  have HN := hide hN
  have HN2 := hide (show Nat.min t N = t by simp [Nat.min_def]; omega)
  clear hN
  refine (callsIn_wide (n := 3)).1 ?_
  refine callsIn_of_wp_marks Try.func24 rfl trivial ?_ rfl
  simp only [Try.ntmps24, List.size_toArray, List.length_cons, List.length_nil, Nat.reduceAdd, Nat.reduceSub, Array.replicate_succ, Array.replicate_zero, List.push_toArray, List.append_toArray, List.nil_append, List.cons_append]
  gi_wp2_with (first | (refine ⟨trivial, ?_⟩; gi_at_call 34; refine (callsIn_wide.2 HR.out).mono ?_; rintro e w1 ⟨rfl, hb1, hc1, hz1⟩) | (gi_at_make; refine wpListIn_make_full _ rfl (.tmp 19) (.tmp 19) 51 rfl w1.heap.size 4 i0 (.bool false) 1 Try.underlying51 hi hy0 hy1 _ _ _ _ N rfl rfl ?b0 ?b1 ?b2 ?b3 ?b4 ?_; rotate_right; intro w2 hown2 hgrow2; have HMH := hide (made_heap hown2); have HB2 := hide (below_none hgrow2); have hz2 : w1.heap.size < w2.heap.size := (hown2.lt _ rfl).2; rw [madeF] at HMH; have HH := hide ((heap_alloc_old w2 (.cells #[.slice (some ⟨w1.heap.size, 0, none⟩) N N] 51) hz2).trans HMH.out); have HC2 := hide (((hc1.take t).below HB2.out hz1).alloc (.cells #[.slice (some ⟨w1.heap.size, 0, none⟩) N N] 51)); clear hown2 hgrow2) | ((with_reducible refine wpListIn_copy_splice rfl (.tmp 21) (.tmp 22) 51 51 rfl 4 Try.underlying51 sizeB (some ⟨w1.heap.size, 0, none⟩) (some ⟨w.heap.size, 0, none⟩) N N t s.size rfl rfl w1.heap.size 0 ((fc N (fun _ => false)).map .bool) 4 HH.out ((cut (bits s)).map .bool) ?c1 ?c2 ?c3 ?c4 ?_); rotate_right; intro w3 hh3 hg3 hz3; have hbx := hg3.cell (Boxed.new w2 51 (.slice (some ⟨w1.heap.size, 0, none⟩) N N)).cell (by intro e; injection e with e; have : w2.heap.size = w1.heap.size := e; omega); have hge3 := hg3.size; rw [World.size_alloc] at hge3) | (gi_at_make; refine wpListIn_make_full _ rfl (.tmp 25) (.tmp 25) 51 rfl w3.heap.size 4 i0 (.bool false) 1 Try.underlying51 hi hy0 hy1 _ _ _ _ N rfl rfl ?d0 ?d1 ?d2 ?d3 ?d4 ?_; rotate_right; intro w4 hown4 hgrow4; have hb4 := below_none hgrow4; have hz4 : w3.heap.size < w4.heap.size := (hown4.lt _ rfl).2) | (refine ⟨trivial, ?_⟩; gi_at_call 46; refine (balls_in Fence.wide _ trivial rfl _ _ _ _).mono ?_; rintro e w5 ⟨rfl, rfl⟩))
  case b0 => omega
  case b1 => omega
  case b2 => rw [hy2]; omega
  case b3 => unfold maxLen; omega
  case b4 => exact Nat.le_refl _
  case c1 => rw [List.length_map, HCL.out, HN2.out]
  case c2 =>
    intro _ j v hv
    have h := HC2.out.src j v (by rw [← HCM.out, List.getElem?_map]; rcases hv with ⟨h, rfl⟩ | ⟨h, rfl⟩ <;> rw [h] <;> rfl)
    rw [Addr.add_lit, Nat.zero_add] at h
    exact h
  case c3 => rw [List.length_map, List.length_map, HCL.out, fc_length]; omega
  case c4 => intro v hv; obtain ⟨b, _, rfl⟩ := List.mem_map.1 hv; rfl
  case d0 => omega
  case d1 => omega
  case d2 => rw [hy2]; omega
  case d3 => unfold maxLen; omega
  case d4 => exact Nat.le_refl _
  have HP3 : Hid (CellsAt w3 w1.heap.size ((fc N (bx (cut (bits s)))).map .bool)) := by
    have h0 := hh3.out
    rw [HN.out, copied t _ HCL.out] at h0
    rw [HN.out]
    exact cells_heap h0 (by rw [List.length_map, fc_length]; unfold maxLen; omega)
  have hsz3 : w3.heap.size = w2.heap.size + 1 := by have := hz3.out; rw [World.size_alloc] at this; exact this
  rw [madeF] at hown4
  have hc4 := CellsAt.of_owns hown4
  have hp4 := HP3.out.below hb4 (show w1.heap.size < w3.heap.size by omega)
  have hx4 : w4.cell? ⟨w2.heap.size, 0, none⟩ = some (.slice (some ⟨w1.heap.size, 0, none⟩) N N) := (hb4.cell (p := ⟨w2.heap.size, 0, none⟩) (show w2.heap.size < w3.heap.size by omega)).trans hbx
  have hB4 : Below w.heap.size w w4 := by
    have h1 := hb1.trans (HB2.out.mono (by omega))
    have h2 := h1.alloc (show w.heap.size ≤ w2.heap.size by omega) (.cells #[.slice (some ⟨w1.heap.size, 0, none⟩) N N] 51)
    exact (h2.grown hg3 (by simp; omega) (fun b e => by injection e with e; omega)).trans (hb4.mono (by omega))
  have hr4 : CellsAt w4 w.heap.size ((cut (bits s)).map .bool) := by
    rw [HCM.out]
    have h1 := (hc1.take t).below HB2.out hz1
    exact (cells_other (h1.alloc (.cells #[.slice (some ⟨w1.heap.size, 0, none⟩) N N] 51)) hg3 (by omega)).below hb4 (by omega)
  have bA := Boxed.new w4 51 (.slice (some ⟨w3.heap.size, 0, none⟩) N N)
  have bN := Boxed.new (w4.alloc (.cells #[.slice (some ⟨w3.heap.size, 0, none⟩) N N] 51)) 51 (.slice (some ⟨w.heap.size, 0, none⟩) t s.size)
  rw [World.size_alloc] at bN
  have hB5 : Below w.heap.size w ((w4.alloc (.cells #[.slice (some ⟨w3.heap.size, 0, none⟩) N N] 51)).alloc (.cells #[.slice (some ⟨w.heap.size, 0, none⟩) t s.size] 51)) := (hB4.alloc (by omega) _).alloc (by simp; omega) _
  have HB5 := hide hB5
  have HR5 := hide ((hr4.alloc (.cells #[.slice (some ⟨w3.heap.size, 0, none⟩) N N] 51)).alloc (.cells #[.slice (some ⟨w.heap.size, 0, none⟩) t s.size] 51))
  have HP5 := hide ((hp4.alloc (.cells #[.slice (some ⟨w3.heap.size, 0, none⟩) N N] 51)).alloc (.cells #[.slice (some ⟨w.heap.size, 0, none⟩) t s.size] 51))
  have HQ5 := hide ((hc4.alloc (.cells #[.slice (some ⟨w3.heap.size, 0, none⟩) N N] 51)).alloc (.cells #[.slice (some ⟨w.heap.size, 0, none⟩) t s.size] 51))
  have hx5 : ((w4.alloc (.cells #[.slice (some ⟨w3.heap.size, 0, none⟩) N N] 51)).alloc (.cells #[.slice (some ⟨w.heap.size, 0, none⟩) t s.size] 51)).cell? ⟨w2.heap.size, 0, none⟩ = some (.slice (some ⟨w1.heap.size, 0, none⟩) N N) :=
    (World.grownBy_alloc _ _ none).cell ((World.grownBy_alloc w4 _ none).cell hx4 (by simp)) (by simp)
  have HX5 := hide hx5
  have HA5 := hide (bA.alloc (.cells #[.slice (some ⟨w.heap.size, 0, none⟩) t s.size] 51)).cell
  have FIN : Hid (∀ (W : World), CellsAt W w3.heap.size ((fc N (gt (bx (cut (bits s))) t)).map .bool) → Calls Try.prog 41 #[.slice (some ⟨w3.heap.size, 0, none⟩) N N] W fun e w' => e = .returned (.tuple #[.string (stS s 200), .bool (stOk s 200)]) ∧ Below W.heap.size W w') := by
    intro W hc
    have hg := great_cut (l := bits s) (n := t) (N := N) (K := 200) HF.out (by omega) (by rw [HN.out]; omega)
    rw [bx_fun_cut] at hc
    have e1 : stOk s 200 = decide (tl (stp 200 (bits s)) ≤ 120) := by unfold stOk; rw [hv]; rfl
    have e2 : stS s 200 = if tl (stp 200 (bits s)) ≤ 120 then ofBits (cut (stp 200 (bits s))) else ByteArray.empty := by unfold stS; rw [e1]; simp
    rw [e1, e2]
    by_cases hb : tl (stp 200 (bits s)) ≤ 120
    · have := text_g (some ⟨w3.heap.size, 0, none⟩) w3.heap.size N N _ W (fun _ => rfl) (fc_length _ _) hc (Nat.le_refl _) (by unfold maxLen; omega) (by rw [tl_ext hg]; exact hb)
      rw [text_ext hg] at this
      rw [if_pos hb, decide_eq_true hb]; exact this
    · have := text_big (some ⟨w3.heap.size, 0, none⟩) w3.heap.size N N _ W (fun _ => rfl) (fc_length _ _) hc (Nat.le_refl _) (by unfold maxLen; omega) (by rw [tl_ext hg]; omega)
      rw [if_neg hb, decide_eq_false hb]; exact this
  have hf : ∀ j, t ≤ j → bx (cut (bits s)) j = false := fun j hj => bx_out _ _ (by rw [HCL.out]; exact hj)
  have HF2 := hide hf
  have hxne : w2.heap.size ≠ w3.heap.size := by omega
  have hane : w4.heap.size ≠ w3.heap.size := by omega
  have hpne : w1.heap.size ≠ w3.heap.size := by omega
  have hr0 : w.heap.size < w1.heap.size := hz1
  have hq1 : w1.heap.size ≤ w3.heap.size := by omega
  have hq2 : w.heap.size ≤ w3.heap.size := by omega
  have hbz : w1.heap.size ≤ w4.heap.size := by omega
  clear hsz3 hge3 hf hx5 hB5 hr4 hp4 hc4 hx4 hB4 hh3 hg3 hz3 hbx hown4 hgrow4 hb4 HMH HH HC2 HB2 hb1 hc1 HR
  refine wpIn_rangeFunc_ownG rfl (by omega) (gf := 55) (lb := #[.pointer (some ⟨w4.heap.size + 1, 0, none⟩)]) rfl trivial (enters_of Try.func55 (by kernel_rfl) rfl)
    (balls_stopsF_g Fence.wide 2 trivial rfl (by omega) (some ⟨w.heap.size, 0, none⟩) (w4.heap.size + 1) w1.heap.size w.heap.size t s.size (fun _ => rfl) (cut (bits s)) HCL.out (by omega) _ (by simp) (fun _ => hr0) bN.cell HR5.out) belowK_t (belowK_b (by simp; omega)) (Below.refl _ _) (fun _ => rfl)
    (fun (pre : List { j : Nat // j < t }) W => (W.cell? ⟨w2.heap.size, 0, none⟩ = some (.slice (some ⟨w1.heap.size, 0, none⟩) N N) ∧ W.cell? ⟨w4.heap.size, 0, none⟩ = some (.slice (some ⟨w3.heap.size, 0, none⟩) N N) ∧ CellsAt W w1.heap.size ((fc N (bx (cut (bits s)))).map .bool) ∧
      ∃ g : Nat → Bool, CellsAt W w3.heap.size ((fc N g).map .bool) ∧ cn g (2 * t) ≤ pre.length ∧ ∀ i, pre.map (·.1) = posU (cut (bits s)) i → g = gt (bx (cut (bits s))) i) ∧ Below w.heap.size w W)
    (fun _ _ _ => False)
    (OwnFrom.and (Own.from (fun s A B row hs hg hr => ⟨cell_kept hs.1 hg hr, cell_kept hs.2.1 hg hr, hs.2.2.1.kept hg hr, hs.2.2.2.choose, hs.2.2.2.choose_spec.1.kept hg hr, hs.2.2.2.choose_spec.2⟩) _) (ownFrom_below (Nat.le_refl _) (by simp; omega)))
    (fun _ _ _ _ _ hs _ _ => hs)
    ⟨⟨HX5.out, HA5.out, HP5.out, fun _ => false, HQ5.out, ?start, ?start2⟩, HB5.out⟩
    (fun x => { tmps := #[.string s, undef, .string ⟨#[]⟩, .bool false, .slice (some ⟨w.heap.size, 0, none⟩) t s.size, .bool true, .pointer (some ⟨w2.heap.size, 0, none⟩), .pointer (some ⟨w4.heap.size, 0, none⟩), .int .i64 (x.1 : Int), undef,
      .tuple #[.slice (some ⟨w.heap.size, 0, none⟩) t s.size, .bool true], .string s, .tuple #[.slice (some ⟨w.heap.size, 0, none⟩) t s.size, .bool true], .slice (some ⟨w.heap.size, 0, none⟩) t s.size, .bool true, .bool true, .bool false, .slice (some ⟨w.heap.size, 0, none⟩) t s.size, .int .i64 (t : Int),
      .int .i64 (2 * (t : Int)), .slice (some ⟨w1.heap.size, 0, none⟩) N N, .slice (some ⟨w1.heap.size, 0, none⟩) N N, .slice (some ⟨w.heap.size, 0, none⟩) t s.size, .int .i64 ((cut (bits s)).length : Int), .slice (some ⟨w1.heap.size, 0, none⟩) N N, .int .i64 (2 * (t : Int)),
      .slice (some ⟨w3.heap.size, 0, none⟩) N N, .slice (some ⟨w.heap.size, 0, none⟩) t s.size, .func (.func 55) #[] #[.pointer (some ⟨w4.heap.size + 1, 0, none⟩)], .int .i64 (x.1 : Int), undef,
      undef, undef, undef, undef, undef, undef, undef, undef, undef, undef, undef, undef, undef, undef, undef, undef, undef, undef, undef, undef], defers := [] }) ?assign ?body ?done ?stop
  case start =>
    have : ∀ m, cn (fun _ => false) m = 0 := by
      intro m
      induction m with
      | zero => rfl
      | succ m ih => show cn (fun _ => false) m + _ = _; rw [ih]; rfl
    rw [this]; exact Nat.zero_le _
  case start2 =>
    intro i hi
    have h0 : ∀ i, [] = posU (cut (bits s)) i → gt (bx (cut (bits s))) i = fun _ => false := by
      intro i
      induction i with
      | zero => intro _; funext j; exact gt_none _ j
      | succ i ih =>
        intro h
        rw [posU_succ] at h
        by_cases hb : (cut (bits s))[i]?.getD false = true
        · rw [if_pos hb] at h; simp at h
        · rw [if_neg hb] at h
          rw [gt_skip (by unfold bx; simpa using hb)]; exact ih h
    exact (h0 i (by simpa using hi)).symm
  case assign =>
    intro l x W K hK
    gi_wp2
    exact hK
  case body =>
    rintro l' pre ⟨x, hx⟩ W ⟨⟨hcx, hca, hcp, g, hcq, hcn, hchain⟩, hB⟩ hlen
    have HP := hide hcp
    have HQ := hide hcq
    have HCN := hide hcn
    have HCH := hide hchain
    have HB := hide hB
    have HLEN := hide hlen
    clear hcp hcq hcn hchain hB hlen HX5 HA5 HP5 HQ5 HB5 HR5 bA bN
    have x1 : (x : Int) ≤ 120 := by omega
    gi_wp2
    gi_loop [9] (fun i => ∃ j : Nat, j ≤ 2 * t ∧ x < j ∧ i = .int .i64 (j : Int) ∧ Hid (∀ a, x < a → a < j → (bx (cut (bits s)) a || g a) = true)) (fun i => 2 * t - (Go.RowKit.intOf i).toNat)
    case atStart => exact ⟨x + 1, by omega, by omega, by go_num, fun a h1 h2 => by omega⟩
    case round =>
      obtain ⟨j, hj, hxj, rfl, HBUSY⟩ := hrel
      have hj2 := busy_lt HF2.out hx HCN.out HLEN.out hj HBUSY.out
      have hjN : j < N := by rw [HN.out]; exact hj2
      obtain ⟨c1, _⟩ := fc_cell HP.out j hjN
      obtain ⟨c2, f2⟩ := fc_cell HQ.out j hjN
      have i3 : (j : Int) < 2 * (t : Int) := by omega
      have i4 : (j : Int) < (N : Int) := by omega
      have HNX : Hid ((bx (cut (bits s)) j || g j) = true → ∀ a, x < a → a < j + 1 → (bx (cut (bits s)) a || g a) = true) := by
        intro h a h1 h2
        by_cases e : a = j
        · subst e; exact h
        · exact HBUSY.out a h1 (by omega)
      have HSTEP : Hid (bx (cut (bits s)) j = false → g j = false → ∀ i, (pre ++ [(⟨x, hx⟩ : { j : Nat // j < t })]).map (·.1) = posU (cut (bits s)) i → up g j = gt (bx (cut (bits s))) i) := by
        intro h1 h2 i hi
        rw [List.map_append] at hi
        obtain ⟨e1, e2, _, e4⟩ := posU_last _ _ _ _ hi
        have eg := HCH.out x e1
        have hbb := HBUSY.out
        rw [eg] at h2 hbb ⊢
        rw [e4]
        exact (gt_step e2 hxj hbb h1 h2).symm
      obtain ⟨b1, hb1⟩ : ∃ b, b = bx (cut (bits s)) j := ⟨_, rfl⟩
      obtain ⟨b2, hb2⟩ : ∃ b, b = g j := ⟨_, rfl⟩
      rw [← hb1] at c1 HNX HSTEP
      rw [← hb2] at c2 HNX HSTEP
      clear hb1 hb2
      cases b1
      · cases b2
        · have HS := hide (HSTEP.out rfl rfl)
          clear HSTEP HNX
          gi_wp2
          refine ⟨(KeepsOthers.setCell _ _ _).from _, (Below.refl w1.heap.size W).setCell (p := ⟨w3.heap.size, j, none⟩) hq1 _, ⟨?_, ?_, HP.out.far _ (fun e => hpne e.symm) _, up g j, fc_put HQ.out j hjN true, ?_, HS.out⟩, HB.out.setCell (p := ⟨w3.heap.size, j, none⟩) hq2 _⟩
          · rw [World.cell?_setCell_other _ _ _ _ (by intro h; injection h with h1 _; omega)]; exact hcx
          · rw [World.cell?_setCell_other _ _ _ _ (by intro h; injection h with h1 _; omega)]; exact hca
          · have h1 := cn_up g j (2 * t)
            have := HCN.out
            rw [List.length_append]
            show _ ≤ pre.length + 1
            split at h1 <;> omega
        · have HN3 := hide (HNX.out rfl)
          clear HSTEP HNX
          gi_wp2
          go_round
          case rel => exact ⟨j + 1, by omega, by omega, by go_num, HN3⟩
          case measure => simp [Go.RowKit.intOf]; omega
      · have HN3 := hide (HNX.out rfl)
        clear HSTEP HNX
        gi_wp2
        go_round
        case rel => exact ⟨j + 1, by omega, by omega, by go_num, HN3⟩
        case measure => simp [Go.RowKit.intOf]; omega
  case done =>
    rintro D ys W hD hys ⟨⟨hcx, hca, hcp, g, hcq, hcn, hchain⟩, hB⟩ hK
    have hg : g = gt (bx (cut (bits s))) t := hchain t (hys.trans (by unfold pos; rw [HCL.out]))
    subst hg
    have HT := hide (FIN.out W hcq)
    obtain ⟨z, hz⟩ : ∃ z, z = stS s 200 := ⟨_, rfl⟩
    obtain ⟨b, hb⟩ : ∃ b, b = stOk s 200 := ⟨_, rfl⟩
    rw [← hz, ← hb] at HT
    have HZ := hide hz
    have HBB := hide hb
    have hDW : D < W.heap.size := (Array.getElem?_eq_some_iff.1 hK).1
    clear hcp hcq hcn hchain hz hb FIN HX5 HA5 HP5 HQ5 HB5 HR5 bA bN
    gi_wp2_with (refine ⟨trivial, ?_⟩; gi_at_call 41; refine (callsIn_wide.2 HT.out).mono ?_; rintro e w6 ⟨rfl, hb6⟩)
    have hK6 : w6.heap[D]? = some (.deferred (some [])) := (hb6.block D hDW).trans hK
    refine ⟨by simp, .inl ⟨_, _, rfl, run_takeDeferred hK6, ?_⟩⟩
    have hB6 := hB.trans (hb6.mono hB.size)
    exact ⟨_, results_tmp2 rfl _ _ _, by rw [← HZ.out, ← HBB.out]; rfl, hB6.trans (belowK_b (w := w) (Nat.le_refl _) w6 D _ _ (by simp at hD; omega) hK6 rfl rfl)⟩
  case stop =>
    rintro D c pre W _ _ h _
    exact h.elim

theorem implStepGreat_any (s : ByteArray) (w : World) (hs : s.size ≤ maxLen) :
    Calls Try.prog 24 #[.string s] w fun e w' => e = .returned (.tuple #[.string (stS s 200), .bool (stOk s 200)]) ∧ Below w.heap.size w w' := by
  cases hv : vld s
  · have e1 : stOk s 200 = false := by simp [stOk, hv]
    have e2 : stS s 200 = ByteArray.empty := by simp [stS, e1]
    rw [e1, e2]
    clear e1 e2
    go_enter Try.func24, Try.ntmps24
    go_wp2_with (go_at_call 34; refine (readRow_no _ _ hs hv).mono ?_; rintro e w' ⟨rfl, rfl⟩)
    go_ret2
    exact ⟨rfl, Below.refl _ _⟩
  · exact implStepGreat_yes s w hv
end Go.Proofs.Ytlgceccbjkkeiaa
