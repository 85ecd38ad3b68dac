/- THE WALK of the program's ShapeApart. -/
import Derived.Test.YtlfiipkbkhpmnaaRunsI
import Derived.Shelf.SlSortCmp.QuietGrown
import Derived.IntWalk
namespace Go.Proofs.Ytlfiipkbkhpmnaa
open Go.RowKit Go.Sort

theorem okP_next {R : List (Nat × Nat)} {k : Nat} {p q : Nat × Nat} (h : ∀ j, j + 1 < k + 1 → okP R j) (hp : R[k]? = some p) (hq : R[k + 1]? = some q) (h1 : p.2 - p.1 ≤ q.2 - q.1) (h2 : p.2 - p.1 ≤ q.1 - p.2) : ∀ j, j + 1 < k + 2 → okP R j := by
  intro j hj
  by_cases e : j = k
  · subst e
    intro p' q' hp' hq'
    rw [hp] at hp'
    rw [hq] at hq'
    injection hp' with hp'
    injection hq' with hq'
    subst hp'; subst hq'
    exact ⟨h1, h2⟩
  · exact h j (by omega)

def ApRel (R : List (Nat × Nat)) (n : Nat) (w2 : World) (i : Value) (wr : World) : Prop :=
  ∃ k : Nat, k ≤ n ∧ i = .int .i64 ((k : Int) + 1) ∧ Hid (∀ j, j + 1 < k + 1 → okP R j) ∧ Hid (Below w2.heap.size w2 wr) ∧ w2.heap.size ≤ wr.heap.size
theorem sizeG_any (a b : Nat) (w : World) (ha : a ≤ b) (hb : b ≤ 1000) :
    Calls Try.prog 38 #[.agg #[.int .i64 (a : Int), .int .i64 (b : Int)]] w fun e w' => e = .returned (.int .i64 ((b : Int) - (a : Int))) ∧ ∃ q os', w' = grow (w.drewN q) os' := by
  refine (size_any a b w ha hb).mono ?_
  rintro e w' ⟨rfl, rfl⟩
  refine ⟨by rw [show ((b - a : Nat) : Int) = (b : Int) - (a : Int) by omega], 0, #[.cells #[.int .i64 (a : Int), .int .i64 (b : Int)] 53], ?_⟩
  rw [alloc_eq_grow]; rfl
theorem below_grow (w : World) (n : Nat) (os : Array Obj) : Below w.heap.size w (grow (w.drewN n) os) := by
  refine ⟨rfl, rfl, rfl, ?_, ?_⟩
  · show w.heap.size ≤ (w.heap ++ os).size
    simp
  · intro k hk
    show (w.heap ++ os)[k]? = w.heap[k]?
    rw [Array.getElem?_append_left hk]

set_option maxRecDepth 100000 in
set_option maxHeartbeats 1000000 in
theorem implShapeApart_any (s : ByteArray) (w : World) (hs : s.size ≤ maxLen) :
    Calls Try.prog 22 #[.string s] w fun e w' => e = .returned (.bool (apOk s)) ∧ Below w.heap.size w w' := by
  unfold apOk
  cases hv : vld s
  · go_enter Try.func22, Try.ntmps22
    go_wp2_with (go_at_call 27; refine (readRow_no _ _ hs hv).mono ?_; rintro e w' ⟨rfl, rfl⟩)
    go_ret
    exact ⟨rfl, Below.refl _ _⟩
  · have h120 := vld_le s hv
    have mixed : Try.prog.follows .mixedOrders = true := by kernel_rfl
    have C1 := hide (fun w => readRow_yes s w hv)
    have C2 := hide (fun (w1 : World) (hc1 : CellsAt w1 w.heap.size ((bits s).map .bool)) => readRuns s w w1 hv hc1)
    rw [Bool.true_and, ← (rsS_rr s).1, ← (rsS_rr s).2.1]
    have HLT := hide (rsS_lt s)
    have HLN := hide (rsS_rr s).2.2
    have hlen := rsS_len s
    obtain ⟨R, hR⟩ : ∃ R, R = rsS s := ⟨_, rfl⟩
    obtain ⟨t, ht⟩ : ∃ t, t = tl (bits s) := ⟨_, rfl⟩
    rw [← ht] at C1 C2
    rw [← hR] at C2 HLT HLN hlen ⊢
    obtain ⟨ans, hans⟩ : ∃ b, b = apB (R.map fun p => p.2 - p.1) (gapsP R) := ⟨_, rfl⟩
    have HANS := hide hans
    rw [← hans]
    clear ht hR hans
    go_enter Try.func22, Try.ntmps22
    go_wp2_with fail
    refine (C1.out _).mono ?_
    rintro e w1 ⟨rfl, hb1, hc1, hz1'⟩
    have C3 := hide (C2.out w1 hc1)
    have HB1 := hide hb1
    clear hc1 C1 C2 hb1
    go_wp2_with fail
    refine C3.out.mono ?_
    rintro e w2 ⟨v, rfl, hv2, hb2⟩
    have HB2 := hide (HB1.out.trans (hb2.mono (Nat.le_of_lt hz1')))
    have hz2' : w.heap.size ≤ w2.heap.size := by have := hb2.size; omega
    obtain ⟨a, c, rfl, hf⟩ := own2_slice hv2
    obtain ⟨n, hn⟩ : ∃ n, n = R.length := ⟨_, rfl⟩
    have HN := hide hn
    have HF := hide hf
    rw [← hn] at hlen HF ⊢
    clear hn hf hv2 hb2 C3
    go_wp2
    go_loopw [6, 7, 8] (fun i _ _ wr => ApRel R n w2 i wr) (fun i _ _ _ => n + 2 - (intOf i).toNat)
    case atStart => exact ⟨0, Nat.zero_le _, rfl, fun j hj => by omega, Below.refl _ _, Nat.le_refl _⟩
    case round =>
      obtain ⟨k, hk, rfl, HK, HBW, hz⟩ := hrel
      by_cases hlt : k + 1 < n
      · obtain ⟨q, rfl, hq⟩ := HF.out (by omega)
        obtain ⟨⟨pa, pb⟩, hp⟩ : ∃ p, R[k]? = some p := ⟨_, List.getElem?_eq_getElem (by rw [← HN.out]; omega)⟩
        obtain ⟨⟨qa, qb⟩, hq'⟩ : ∃ p, R[k + 1]? = some p := ⟨_, List.getElem?_eq_getElem (by rw [← HN.out]; exact hlt)⟩
        obtain ⟨p1, p2⟩ := HLT.out _ (List.mem_of_getElem? hp)
        obtain ⟨q1, q2⟩ := HLT.out _ (List.mem_of_getElem? hq')
        obtain ⟨_, l1, _⟩ := lineP_get R k _ _ HLN.out hp hq'
        obtain ⟨g1, g2⟩ := enc2_get R k _ hp
        obtain ⟨g3, g4⟩ := enc2_get R (k + 1) _ hq'
        have hqr := hq.below' HBW.out (Nat.le_refl _)
        have hql : q < wr.heap.size := hqr.lt (by rw [enc2_length, ← HN.out]; omega)
        have hqn : q ≠ wr.heap.size := by omega
        have hqn2 : q ≠ wr.heap.size + 1 := by omega
        have c1 := (hqr _ _ g1).1
        have c2 := (hqr _ _ g2).1
        have c3 := (hqr _ _ g3).1
        have c4 := (hqr _ _ g4).1
        have HNX := hide (fun h1 h2 => okP_next HK.out hp hq' h1 h2)
        have HNO := hide (fun h => HANS.out.trans (apB_unpaired R k _ _ hp hq' h))
        have j0 : (0 : Int) ≤ (k : Int) := by omega
        have j1 : (k : Int) < (n : Int) := by omega
        have j2 : (k : Int) + 1 < (n : Int) := by omega
        have j3 : (0 : Int) ≤ (k : Int) + 1 := by omega
        have j4 : (k : Int) + 1 - 1 = (k : Int) := by omega
        have p3 : pb ≤ 120 := by omega
        have q3 : qb ≤ 120 := by omega
        clear hp hq' g1 g2 g3 g4 hqr hq p2 q2
        obtain ⟨oL, hoL⟩ : ∃ o, o = Obj.cells #[.int .i64 (pa : Int), .int .i64 (pb : Int)] 53 := ⟨_, rfl⟩
        obtain ⟨oR, hoR⟩ : ∃ o, o = Obj.cells #[.int .i64 (qa : Int), .int .i64 (qb : Int)] 53 := ⟨_, rfl⟩
        have two : ∀ (o o' : Obj) (x y x' y' : Value) (t : TypeId), o = .cells #[x, y] t → o' = .cells #[x', y'] t → ∃ W, W = ((wr.alloc o).alloc o').drew ∧
            Hid (∀ n os, (grow (W.drewN n) os).cell? ⟨wr.heap.size, 0, none⟩ = some x ∧ (grow (W.drewN n) os).cell? ⟨wr.heap.size, 1, none⟩ = some y ∧ (grow (W.drewN n) os).cell? ⟨wr.heap.size + 1, 0, none⟩ = some x' ∧ (grow (W.drewN n) os).cell? ⟨wr.heap.size + 1, 1, none⟩ = some y') ∧
            Hid (Below w2.heap.size w2 W) ∧ w2.heap.size ≤ W.heap.size := by
          rintro o o' x y x' y' t rfl rfl
          refine ⟨_, rfl, ?_, ((HBW.out.alloc hz _).alloc (by simp; omega) _).drew, by show _ ≤ ((wr.alloc _).alloc _).heap.size; simp; omega⟩
          intro n os
          refine ⟨cell_grown ?_ ?_ n os, cell_grown ?_ ?_ n os, cell_grown ?_ ?_ n os, cell_grown ?_ ?_ n os⟩
          all_goals first | (show wr.heap.size < ((wr.alloc _).alloc _).heap.size; simp; omega) | (show wr.heap.size + 1 < ((wr.alloc _).alloc _).heap.size; simp; done) | (show ((wr.alloc _).alloc _).cell? _ = _; simp; done)
        have T1 := hide (two oL oR _ _ _ _ _ hoL hoR)
        have T2 := hide (two oR oL _ _ _ _ _ hoR hoL)
        rw [hoL, hoR] at T1 T2
        clear two hoL hoR
        go_wp2
        go_region
        all_goals (first | (obtain ⟨W, hW, HD, HBW3, hzW⟩ := T1.out; rw [← hW]) | (obtain ⟨W, hW, HD, HBW3, hzW⟩ := T2.out; rw [← hW]))
        all_goals
          have d1 := fun n os => (HD.out n os).1
          have d2 := fun n os => (HD.out n os).2.1
          have d3 := fun n os => (HD.out n os).2.2.1
          have d4 := fun n os => (HD.out n os).2.2.2
          clear hW T1 T2 c1 c2 c3 c4 HBW
          have m0 : (0 : Int) ≤ (pa : Int) := by omega
          have m1 : (pa : Int) ≤ (pb : Int) := by omega
          have m2 : (pb : Int) ≤ 120 := by omega
          have m3 : (0 : Int) ≤ (qa : Int) := by omega
          have m4 : (qa : Int) ≤ (qb : Int) := by omega
          have m5 : (qb : Int) ≤ 120 := by omega
          have m6 : (pb : Int) ≤ (qa : Int) := by omega
          have SP := hide (fun W => sizeG_any pa pb W p1 (by omega))
          have SQ := hide (fun W => sizeG_any qa qb W q1 (by omega))
          by_cases h1 : (qb : Int) - (qa : Int) < (pb : Int) - (pa : Int)
          · have e1 : decide ((qb : Int) - (qa : Int) < (pb : Int) - (pa : Int)) = true := by simpa using h1
            have HA := hide (HNO.out (by intro h; have := h.1; omega))
            clear HNX HNO
            go_wp2
            refine wp_region_quiet_grown (by assumption) (by kernel_rfl) ?_
            repeat (first | go_big_quiet_skip | quiet_step ((go_at_call 38; first | (with_reducible refine Calls.grown_of (SQ.out _)) | (with_reducible refine Calls.grown_of (SP.out _)))))
            refine wpQuiet_nil ?_
            intro _ hw'
            obtain ⟨⟨nq, osq⟩, hw''⟩ := hw'
            subst hw''
            go_wp2
            go_ret
            exact ⟨by rw [HA.out]; rfl, HB2.out.trans ((HBW3.out.trans ((below_grow W _ _).mono hzW)).mono hz2')⟩
          · have e1 : decide ((qb : Int) - (qa : Int) < (pb : Int) - (pa : Int)) = false := by simpa using h1
            by_cases h2 : (qa : Int) - (pb : Int) < (pb : Int) - (pa : Int)
            · have e2 : decide ((qa : Int) - (pb : Int) < (pb : Int) - (pa : Int)) = true := by simpa using h2
              have HA := hide (HNO.out (by intro h; have := h.2; omega))
              have hwr : IntKind.i64.wrap ((qa : Int) - (pb : Int)) = (qa : Int) - (pb : Int) := IntWalk.i64_in _ (by omega)
              clear HNX HNO
              go_wp2
              refine wp_region_quiet_grown (by assumption) (by kernel_rfl) ?_
              repeat (first | go_big_quiet_skip | quiet_step ((go_at_call 38; first | (with_reducible refine Calls.grown_of (SQ.out _)) | (with_reducible refine Calls.grown_of (SP.out _)))))
              refine wpQuiet_nil ?_
              intro _ hw'
              obtain ⟨⟨nq, osq⟩, hw''⟩ := hw'
              subst hw''
              clear hwr
              go_wp2
              go_ret
              exact ⟨by rw [HA.out]; rfl, HB2.out.trans ((HBW3.out.trans ((below_grow W _ _).mono hzW)).mono hz2')⟩
            · have e2 : decide ((qa : Int) - (pb : Int) < (pb : Int) - (pa : Int)) = false := by simpa using h2
              have HN2 := hide (HNX.out (by show pb - pa ≤ qb - qa; omega) (by show pb - pa ≤ qa - pb; omega))
              have hwr : IntKind.i64.wrap ((qa : Int) - (pb : Int)) = (qa : Int) - (pb : Int) := IntWalk.i64_in _ (by omega)
              clear HNX HNO
              go_wp2
              refine wp_region_quiet_grown (by assumption) (by kernel_rfl) ?_
              repeat (first | go_big_quiet_skip | quiet_step ((go_at_call 38; first | (with_reducible refine Calls.grown_of (SQ.out _)) | (with_reducible refine Calls.grown_of (SP.out _)))))
              refine wpQuiet_nil ?_
              intro _ hw'
              obtain ⟨⟨nq, osq⟩, hw''⟩ := hw'
              subst hw''
              clear hwr
              go_wp2
              go_roundw
              case rel => exact ⟨k + 1, by omega, by go_num, HN2, HBW3.out.trans ((below_grow W _ _).mono hzW), Nat.le_trans hzW (below_grow W _ _).size⟩
              case measure => simp [intOf]; omega
      · have HA : Hid (ans = true) := by
          show _ = _
          rw [HANS.out]
          exact apB_pairs R (fun j hj => HK.out j (by rw [← HN.out] at hj; omega))
        have j2 : ¬ (k : Int) + 1 < (n : Int) := by omega
        go_wp2
        go_ret
        exact ⟨by rw [HA.out]; rfl, HB2.out.trans (HBW.out.mono hz2')⟩
end Go.Proofs.Ytlfiipkbkhpmnaa
