/- THE WALK of the program's ShapeRuns. -/
import Derived.Test.YtlfiipkbkhpmnaaRuns
import Derived.Test.YtlfiipkbkhpmnaaRounds
namespace Go.Proofs.Ytlfiipkbkhpmnaa
open Go.RowKit

/-- a row that is read, and its runs -/
def rsS (s : ByteArray) : List (Nat × Nat) := rsP (pos (cut (bits s)))
theorem rsS_rr (s : ByteArray) : (rsS s).map (fun p => p.2 - p.1) = (rr (bits s)).1 ∧ gapsP (rsS s) = (rr (bits s)).2 ∧ lineP (rsS s) := by
  have h := rsP_rr (cut (bits s))
  have e : rr (cut (bits s)) = rr (bits s) := rr_ext (bx_fun_cut (bits s))
  rw [e] at h
  exact h
/-- runs end in the row -/
theorem runsF_lt : ∀ (l : List Bool) (i m : Nat) (R : List (Nat × Nat)), i + l.length ≤ m → (∀ p ∈ R, p.1 ≤ p.2 ∧ p.2 ≤ m) → ∀ p ∈ runsF l i R, p.1 ≤ p.2 ∧ p.2 ≤ m := by
  intro l
  induction l with
  | nil => intro i m R _ h; exact h
  | cons b t ih =>
    intro i m R hi h
    rw [List.length_cons] at hi
    refine ih (i + 1) m _ (by omega) ?_
    cases b
    · exact h
    · intro p hp
      have hp2 : p ∈ stepR R i := hp
      unfold stepR at hp2
      cases hl : R.getLast? with
      | none =>
        rw [hl] at hp2
        have hp3 : p ∈ R ++ [(i, i + 1)] := hp2
        rw [List.mem_append, List.mem_singleton] at hp3
        rcases hp3 with h3 | rfl
        · exact h p h3
        · exact ⟨Nat.le_succ i, by show i + 1 ≤ m; omega⟩
      | some q =>
        rw [hl] at hp2
        have hq : q ∈ R := List.mem_of_getLast? hl
        have hp3 : p ∈ (if q.2 = i then R.dropLast ++ [(q.1, q.2 + 1)] else R ++ [(i, i + 1)]) := hp2
        by_cases e : q.2 = i
        · rw [if_pos e, List.mem_append, List.mem_singleton] at hp3
          rcases hp3 with h3 | rfl
          · exact h p (List.dropLast_subset R h3)
          · have := h q hq
            exact ⟨by show q.1 ≤ q.2 + 1; omega, by show q.2 + 1 ≤ m; omega⟩
        · rw [if_neg e, List.mem_append, List.mem_singleton] at hp3
          rcases hp3 with h3 | rfl
          · exact h p h3
          · exact ⟨Nat.le_succ i, by show i + 1 ≤ m; omega⟩
theorem rsS_lt (s : ByteArray) : ∀ p ∈ rsS s, p.1 ≤ p.2 ∧ p.2 ≤ s.size := by
  intro p hp
  unfold rsS at hp
  rw [rsP_pos] at hp
  have hl := tl_le (bits s)
  rw [length_bits] at hl
  exact runsF_lt (cut (bits s)) 0 s.size [] (by rw [cut_length]; omega) (fun p h => by simp at h) p hp
theorem rsS_len (s : ByteArray) : (rsS s).length ≤ s.size := by
  unfold rsS
  have h1 := rsP_bd (pos (cut (bits s)))
  have h2 := posU_le (cut (bits s)) (cut (bits s)).length
  have hl := tl_le (bits s)
  rw [length_bits] at hl
  rw [cut_length] at h2
  unfold pos at h1 ⊢
  rw [cut_length] at h1 ⊢
  omega
theorem readRuns (s : ByteArray) (w w1 : World) (hv : vld s = true) (hc1 : CellsAt w1 w.heap.size ((bits s).map .bool)) :
    Calls Try.prog 37 #[.slice (some ⟨w.heap.size, 0, none⟩) (tl (bits s)) s.size] w1 fun e w' => ∃ v, e = .returned v ∧ w'.ownsRow w1.heap.size 53 2 v (rsS s).length (enc2 (rsS s)) ∧ Below w1.heap.size w1 w' := by
  have h120 := vld_le s hv
  have hle := tl_le (bits s)
  rw [length_bits] at hle
  exact runsOf_any w.heap.size (tl (bits s)) s.size (cut (bits s)) (cut_length _) (by omega) w1 (by rw [cut_map]; exact hc1.take _)

set_option maxRecDepth 100000 in
set_option maxHeartbeats 2000000 in
theorem implShapeRuns_any (s : ByteArray) (w : World) (hs : s.size ≤ maxLen) :
    Calls Try.prog 20 #[.string s] w fun e w' => ∃ v, e = .returned (.tuple #[v, .bool (vld s)]) ∧ IntsV w.heap.size w' v (rnR s) ∧ Below w.heap.size w w' := by
  unfold rnR
  cases hv : vld s
  · go_enter Try.func20, Try.ntmps20
    go_wp2_with (go_at_call 27; refine (readRow_no _ _ hs hv).mono ?_; rintro e w' ⟨rfl, rfl⟩)
    go_ret2
    exact ⟨_, rfl, .inl ⟨_, _, rfl, rfl⟩, Below.refl _ _⟩
  · have h120 := vld_le s hv
    obtain ⟨i0, hi, hz0, hz1, hz2⟩ := info_parts infoI
    have C1 := hide (fun w => readRow_yes s w hv)
    have C2 := hide (fun (w1 : World) (hc1 : CellsAt w1 w.heap.size ((bits s).map .bool)) => readRuns s w w1 hv hc1)
    rw [if_pos rfl, ← (rsS_rr s).1]
    have HLT := hide (rsS_lt s)
    have hlen := rsS_len s
    obtain ⟨R, hR⟩ : ∃ R, R = rsS s := ⟨_, rfl⟩
    obtain ⟨t, ht⟩ : ∃ t, t = tl (bits s) := ⟨_, rfl⟩
    rw [← ht] at C1 C2
    rw [← hR] at C2 HLT hlen ⊢
    clear ht hR
    go_enter Try.func20, Try.ntmps20
    go_wp2_with fail
    refine (C1.out _).mono ?_
    rintro e w1 ⟨rfl, hb1, hc1, hz1'⟩
    have C3 := hide (C2.out w1 hc1)
    have HB1 := hide hb1
    clear hc1 C1 C2 hb1
    go_wp2_with fail
    refine C3.out.mono ?_
    rintro e w2 ⟨v, rfl, hv2, hb2⟩
    have HB2 := hide (HB1.out.trans (hb2.mono (Nat.le_of_lt hz1')))
    have hz2' : w.heap.size ≤ w2.heap.size := by have := hb2.size; omega
    obtain ⟨a, c, rfl, hf⟩ := own2_slice hv2
    obtain ⟨n, hn⟩ : ∃ n, n = R.length := ⟨_, rfl⟩
    have HN := hide hn
    have HF := hide hf
    rw [← hn] at hlen HF ⊢
    clear hn hf hv2 hb2 C3
    go_wp2
    go_loopw [6, 8, 19] (fun o _ i wr => ∃ k : Nat, k ≤ n ∧ i = .int .i64 (k : Int) ∧ Hid (wr.ownsRow w2.heap.size 3 1 o k ((ni ((R.map fun p => p.2 - p.1).take k)).map (.int .i64))) ∧ Hid (Below w2.heap.size w2 wr) ∧ w2.heap.size ≤ wr.heap.size) (fun _ _ i _ => n - (intOf i).toNat)
    case atStart => exact ⟨0, Nat.zero_le _, rfl, World.ownsRow_nil _ _ _ _, Below.refl _ _, Nat.le_refl _⟩
    case round =>
      obtain ⟨k, hk, rfl, HO, HBW, hz0'⟩ := hrel
      by_cases hlt : k < n
      · obtain ⟨q, rfl, hq⟩ := HF.out (by omega)
        obtain ⟨p, hp⟩ : ∃ p, R[k]? = some p := ⟨_, List.getElem?_eq_getElem (by rw [← HN.out]; exact hlt)⟩
        obtain ⟨p1, p2⟩ := HLT.out p (List.mem_of_getElem? hp)
        obtain ⟨g1, g2⟩ := enc2_get R k p hp
        have hqr := hq.below' HBW.out (Nat.le_refl _)
        have c1 := (hqr _ _ g1).1
        have c2 := (hqr _ _ g2).1
        have HS : Hid ((R.map fun p => p.2 - p.1).take (k + 1) = (R.map fun p => p.2 - p.1).take k ++ [p.2 - p.1]) := by
          show _ = _
          rw [List.take_add_one, List.getElem?_map, hp]; rfl
        have CS := hide (fun W => size_any p.1 p.2 W p1 (by omega))
        have q0 : (0 : Int) ≤ (k : Int) := by omega
        have q1 : (k : Int) < (n : Int) := by omega
        obtain ⟨pa, pb⟩ := p
        obtain ⟨z, hzz⟩ : ∃ z, z = pb - pa := ⟨_, rfl⟩
        have zb : z ≤ 1000 := by omega
        rw [← hzz] at CS HS
        clear hp g1 g2 hqr hq hzz
        obtain ⟨o, ho⟩ : ∃ o, o = Obj.cells #[.int .i64 (pa : Int), .int .i64 (pb : Int)] 53 := ⟨_, rfl⟩
        have HO2 := hide ((HO.out.alloc o).alloc o)
        have HB3 := hide ((HBW.out.alloc hz0' o).alloc (by simp; omega) o)
        rw [ho] at HO2 HB3
        have hz3 : w2.heap.size ≤ ((wr.alloc o).alloc o).heap.size := by simp; omega
        rw [ho] at hz3
        clear ho
        go_wp2_with fail
        refine (CS.out _).mono ?_
        rintro e w3 ⟨rfl, rfl⟩
        go_wp2_with (at_builtin; refine wpList_append_own _ rfl _ _ 22 rfl w2.heap.size 3 i0 (.int .i64 0) 1 8 Try.underlying22 hi hz0 hz1 hz2 rfl (by decide) _ _ _ rfl (HO2.out.alloc _) ⟨wr.heap.size + 1 + 1, 0, none⟩ 1 1 [.int .i64 (z : Int)] rfl rfl (by simpa using cell_one_new ((wr.alloc (.cells #[.int .i64 (pa : Int), .int .i64 (pb : Int)] 53)).alloc (.cells #[.int .i64 (pa : Int), .int .i64 (pb : Int)] 53)) (.int .i64 (z : Int)) 3) (one_of_int _) (by unfold maxLen; omega) (by omega) (by simp; omega) ?_; intro v' w4 hown' hgrow _)
        go_roundw
        case rel =>
          have hsg := hgrow.size
          rw [World.size_alloc] at hsg
          refine ⟨k + 1, by omega, by go_num, ?_, (HB3.out.alloc hz3 _).grown hgrow (by simp; omega) (fun b e => (HO2.out.lt b e).1), by omega⟩
          show World.ownsRow _ _ _ _ _ _ _
          rw [HS.out, ni_snoc, List.map_append]; exact hown'
        case measure => simp [intOf]; omega
      · have hkn : k = n := by omega
        have hfin : (R.map fun p => p.2 - p.1).take k = R.map fun p => p.2 - p.1 := List.take_of_length_le (by rw [List.length_map, ← HN.out]; omega)
        rw [hfin] at HO
        clear hfin
        go_wp2
        go_ret2
        exact ⟨_, rfl, (IntsV.of_owns (e := 3) (n := k) HO.out).mono hz2', HB2.out.trans (HBW.out.mono hz2')⟩
end Go.Proofs.Ytlfiipkbkhpmnaa
