/- TEXTS IWav5, IWav6. -/
import Derived.Test.Ytlgceccbjkkeiabwax33
import Derived.Test.Ytlgceccbjkkeiabwax38
import Derived.Test.Ytlgceccbjkkeiabwax37
import Derived.BigRegion
import Derived.Deep.RegionLaw
import Derived.Deep.DeepCutAuto
import Derived.Laws.ResultCell
import Derived.Deep.QuietTactic
import Derived.BigQuiet
/- THE WALK of the program's next. -/
namespace Go.Proofs.Ytlgceccbjkkeiab
open Go.RowKit Go.Sort

/-- one result, that lies in a cell -/
theorem results_cell1 {fn : Func} {p : Tmp} {ty : TypeId} (h : fn.results = #[.cell p ty]) (tmps : Array Value) (P : Program) (w : World) :
    (results fn tmps).run P w = ((asAddr (tmps.getD p undef)).run P w).andThen fun a w₁ => (loadVar ty a).run P w₁ := by
  simp only [results, h]
  simp [Sem.run_bind, Result.andThen]
/-- two rows of the call's own, whose slices lie in the fields of a block of three cells -/
structure Two (q B e : Nat) (st x y : Value) (nx ny : Nat) (xs ys : List Value) (w : World) : Prop where
  cells : CellsAt w q [st, x, y]
  ox : w.ownsRow B e 1 x nx xs
  oy : w.ownsRow B e 1 y ny ys
  apart : ∀ b, x.ownBlock = some b → y.ownBlock ≠ some b
  size : B ≤ w.heap.size
  low : q < B
theorem Two.drew {q B e : Nat} {st x y : Value} {nx ny : Nat} {xs ys : List Value} {w : World} (h : Two q B e st x y nx ny xs ys w) : Two q B e st x y nx ny xs ys w.drew :=
  ⟨h.cells.below' (Below.refl _ _).drew (Nat.le_refl _), h.ox.drew, h.oy.drew, h.apart, h.size, h.low⟩
theorem Two.keep {q B e : Nat} {st x y : Value} {nx ny : Nat} {xs ys : List Value} {w : World} (h : Two q B e st x y nx ny xs ys w) {o : Obj} {w1 : World} {row : Option Nat} (hg : (w.alloc o).grownBy w1 row) (hr : ∀ b, row = some b → B ≤ b) :
    Below B w w1 ∧ CellsAt w1 q [st, x, y] := by
  have hb : Below B w w1 := ((Below.refl B w).alloc h.size o).grown hg (by rw [World.size_alloc]; have := h.size; omega) hr
  exact ⟨hb, h.cells.below hb h.low⟩
theorem owns_set_far {w : World} {B e n q j : Nat} {v u : Value} {xs : List Value} (h : w.ownsRow B e 1 v n xs) (hq : q < B) : (w.setCell ⟨q, j, none⟩ u).ownsRow B e 1 v n xs :=
  owns_far h (fun g hg => Below.heap_setCell w ⟨q, j, none⟩ u g (by have := (h.lt g hg).1; show g ≠ q; omega))
theorem Two.pushY {q B e : Nat} {st x y : Value} {nx ny n' : Nat} {xs ys ys' : List Value} {w : World} (h : Two q B e st x y nx ny xs ys w) {o : Obj} {w1 : World} {v : Value} (hown : w1.ownsRow B e 1 v n' ys') (hg : (w.alloc o).grownBy w1 y.ownBlock)
    (hat : v.ownBlock = y.ownBlock ∨ v.ownBlock = some (w.alloc o).heap.size) : Two q B e st x v nx n' xs ys' (w1.setCell ⟨q, 2, none⟩ v) ∧ Below q w (w1.setCell ⟨q, 2, none⟩ v) ∧ CellsAt w1 q [st, x, y] := by
  obtain ⟨hb, hc⟩ := h.keep hg (fun b hb => (h.oy.lt b hb).1)
  obtain ⟨p1, p2⟩ := rows_next h.ox (fun b hb hb' => h.apart b hb' hb) hg hat
  have hs : (w1.setCell ⟨q, 2, none⟩ v).heap.size = w1.heap.size := by simp [World.setCell]
  exact ⟨⟨hc.set 2 (by simp) v, owns_set_far p1 h.low, owns_set_far hown h.low, fun b hb hb' => p2 b hb' hb, by rw [hs]; exact Nat.le_trans h.size hb.size, h.low⟩, (hb.mono (Nat.le_of_lt h.low)).setCell (Nat.le_refl _) v, hc⟩
theorem Two.pushX {q B e : Nat} {st x y : Value} {nx ny n' : Nat} {xs ys xs' : List Value} {w : World} (h : Two q B e st x y nx ny xs ys w) {o : Obj} {w1 : World} {v : Value} (hown : w1.ownsRow B e 1 v n' xs') (hg : (w.alloc o).grownBy w1 x.ownBlock)
    (hat : v.ownBlock = x.ownBlock ∨ v.ownBlock = some (w.alloc o).heap.size) : Two q B e st v y n' ny xs' ys (w1.setCell ⟨q, 1, none⟩ v) ∧ Below q w (w1.setCell ⟨q, 1, none⟩ v) ∧ CellsAt w1 q [st, x, y] := by
  obtain ⟨hb, hc⟩ := h.keep hg (fun b hb => (h.ox.lt b hb).1)
  obtain ⟨p1, p2⟩ := rows_next h.oy h.apart hg hat
  have hs : (w1.setCell ⟨q, 1, none⟩ v).heap.size = w1.heap.size := by simp [World.setCell]
  exact ⟨⟨hc.set 1 (by simp) v, owns_set_far hown h.low, owns_set_far p1 h.low, p2, by rw [hs]; exact Nat.le_trans h.size hb.size, h.low⟩, (hb.mono (Nat.le_of_lt h.low)).setCell (Nat.le_refl _) v, hc⟩

/-- the loop of next, between two runs: the block q of the next wave, its runs and gaps -/
def NtRel (R G : List Nat) (n q B : Nat) (st : Int) (w : World) (c i : Value) (wr : World) : Prop :=
  ∃ (k s nb : Nat) (X Y : List Nat) (x y : Value), k ≤ n ∧ i = .int .i64 (k : Int) ∧ c = .int .i64 (s : Int) ∧ s ≤ 120 * k ∧ nb ≤ k ∧
    Hid (Two q B 3 (.int .i64 st) x y k nb ((ni X).map (.int .i64)) ((ni Y).map (.int .i64)) wr) ∧
    Hid (nxR 0 R G = X ++ nxR s (R.drop k) (G.drop k)) ∧ Hid (nxG 0 R G = Y ++ nxG s (R.drop k) (G.drop k)) ∧ Hid (Below q w wr)

theorem cells_lit (w : World) (l : List Value) (t : TypeId) : CellsAt (w.alloc (.cells l.toArray t)) w.heap.size l := by
  intro j v hv
  obtain ⟨hj, e⟩ := List.getElem?_eq_some_iff.1 hv
  refine ⟨?_, ?_⟩
  · rw [World.cell?_alloc_at _ _ _ _ rfl]
    simp [hv]
  · rw [World.frozen?_alloc_at _ _ _ _ rfl]

set_option maxRecDepth 100000 in
set_option maxHeartbeats 4000000 in
theorem next_any (sn : Nat) (u v : Value) (R G : List Int) (w : World) {lo lo' : Nat} (h : wIn (sn : Int) R G = true) (hu : IntsV lo w u R) (hv : IntsV lo' w v G) :
    Calls Try.prog 33 #[.agg #[.int .i64 (sn : Int), u, v]] w fun e w' => ∃ x y, e = .returned (.agg #[.int .i64 (wnN (sn : Int) R), x, y]) ∧
      IntsV w.heap.size w' x (wnR R G) ∧ IntsV w.heap.size w' y (wnG R G) ∧ ApV x y ∧ Below w.heap.size w w' := by
  obtain ⟨i0, hi, hz0, hz1, hz2⟩ := info_parts infoI
  obtain ⟨a, c, rfl, hf⟩ := ints_form hu
  obtain ⟨a', c', rfl, hf'⟩ := ints_form hv
  obtain ⟨k1, k2, k3, k4, k5, k6⟩ := wIn_nat h
  obtain ⟨st0, st1, n1, n2, n3, hRx, hGx⟩ := (wIn_iff _ R G).1 h
  have HX : Hid (∀ (k r : Nat), (nn R)[k]? = some r → R[k]? = some (r : Int) ∧ r ≤ 120) := hide (fun k r h => by
    have e : R[k]? = some (r : Int) := by rw [← k4, ni_getElem, h]; rfl
    refine ⟨e, ?_⟩
    have := hRx _ (List.mem_of_getElem? e)
    omega)
  have HY : Hid (∀ (k r : Nat), (nn G)[k]? = some r → G[k]? = some (r : Int) ∧ r ≤ 120) := hide (fun k r h => by
    have e : G[k]? = some (r : Int) := by rw [← k5, ni_getElem, h]; rfl
    refine ⟨e, ?_⟩
    have := hGx _ (List.mem_of_getElem? e)
    omega)
  obtain ⟨r0, hr0, hr0b⟩ : ∃ r0 : Nat, R[0]? = some (r0 : Int) ∧ r0 ≤ 120 := by
    obtain ⟨y, hy⟩ : ∃ y, (nn R)[0]? = some y := ⟨_, List.getElem?_eq_getElem (by rw [nn_length]; omega)⟩
    obtain ⟨h1, h2⟩ := HX.out _ _ hy
    exact ⟨y, h1, h2⟩
  have HWR : Hid (wnR R G = ni (nxR 0 (nn R) (nn G)) ∧ wnG R G = ni (nxG 0 (nn R) (nn G)) ∧ wnN (sn : Int) R = (sn : Int) + (r0 : Int)) := hide ⟨rfl, rfl, by
    unfold wnN
    cases R with
    | nil => simp at n1
    | cons r rs => have : r = (r0 : Int) := by simpa using hr0
                   rw [this]; rfl⟩
  have HL2 := hide k1
  have HLR := hide (nn_length R)
  have HLG := hide (nn_length G)
  obtain ⟨n, hn⟩ : ∃ n, n = R.length := ⟨_, rfl⟩
  obtain ⟨m, hm⟩ : ∃ m, m = G.length := ⟨_, rfl⟩
  rw [← hn] at hf n1 n2 n3 HLR
  rw [← hm] at hf' n3 HLG
  have n4 : n ≤ m + 1 := by omega
  have n5 : m + 1 ≤ n := by omega
  obtain ⟨g, rfl, hg⟩ := hf (by omega)
  have hr := (hg 0 _ (by rw [List.getElem?_map, hr0]; rfl)).1
  have hgw : g < w.heap.size := World.block_lt_of_cell? w _ hr
  have e1 : ((w.alloc (.cells #[.int .i64 (sn : Int), .slice (some ⟨g, 0, none⟩) n c, .slice a' m c'] 38)).alloc (.cells #[.int .i64 0, .slice none 0 0, .slice none 0 0] 38)).cell? ⟨g, 0, none⟩ = some (.int .i64 (r0 : Int)) := by
    rw [World.cell?_alloc_lt _ _ _ (by show g < _; rw [World.size_alloc]; omega), World.cell?_alloc_lt _ _ _ hgw]; exact hr
  have e2 : (((w.alloc (.cells #[.int .i64 (sn : Int), .slice (some ⟨g, 0, none⟩) n c, .slice a' m c'] 38)).alloc (.cells #[.int .i64 0, .slice none 0 0, .slice none 0 0] 38)).alloc (.cells #[.int .i64 0, .slice none 0 0, .slice none 0 0] 38)).cell? ⟨g, 0, none⟩ = some (.int .i64 (r0 : Int)) := by
    rw [World.cell?_alloc_lt _ _ _ (by show g < _; rw [World.size_alloc, World.size_alloc]; omega)]; exact e1
  have i1 : (0 : Int) < (n : Int) := by omega
  have hwr : IntKind.i64.wrap ((sn : Int) + (r0 : Int)) = (sn : Int) + (r0 : Int) := by rw [IntKind.wrap_i64]; omega
  obtain ⟨W, hW⟩ : ∃ W, W = (((w.alloc (.cells #[.int .i64 (sn : Int), .slice (some ⟨g, 0, none⟩) n c, .slice a' m c'] 38)).alloc (.cells #[.int .i64 0, .slice none 0 0, .slice none 0 0] 38)).alloc (.cells #[.int .i64 ((sn : Int) + (r0 : Int)), .slice none 0 0, .slice none 0 0] 38)).drew := ⟨_, rfl⟩
  have hz : w.heap.size + 1 + 1 + 1 = W.heap.size := by rw [hW]; simp
  have HB0 : Hid (Below w.heap.size w W) := by rw [hW]; exact ((((Below.refl _ w).alloc (Nat.le_refl _) _).alloc (by simp) _).alloc (by simp; omega) _).drew
  have HA0 : Hid (CellsAt W w.heap.size [.int .i64 (sn : Int), .slice (some ⟨g, 0, none⟩) n c, .slice a' m c']) := by
    rw [hW]
    exact CellsAt.below' (((cells_lit w _ 38).alloc _).alloc _) (Below.refl _ _).drew (Nat.le_refl _)
  have HA1 : Hid (CellsAt W (w.heap.size + 1) [.int .i64 0, .slice none 0 0, .slice none 0 0]) := by
    have h := cells_lit (w.alloc (.cells #[.int .i64 (sn : Int), .slice (some ⟨g, 0, none⟩) n c, .slice a' m c'] 38)) [.int .i64 0, .slice none 0 0, .slice none 0 0] 38
    rw [World.size_alloc] at h
    rw [hW]
    exact CellsAt.below' (h.alloc _) (Below.refl _ _).drew (Nat.le_refl _)
  have HA2 : Hid (CellsAt W (w.heap.size + 1 + 1) [.int .i64 ((sn : Int) + (r0 : Int)), .slice none 0 0, .slice none 0 0]) := by
    have h := cells_lit ((w.alloc (.cells #[.int .i64 (sn : Int), .slice (some ⟨g, 0, none⟩) n c, .slice a' m c'] 38)).alloc (.cells #[.int .i64 0, .slice none 0 0, .slice none 0 0] 38)) [.int .i64 ((sn : Int) + (r0 : Int)), .slice none 0 0, .slice none 0 0] 38
    rw [World.size_alloc, World.size_alloc] at h
    rw [hW]
    exact CellsAt.below' h (Below.refl _ _).drew (Nat.le_refl _)
  obtain ⟨q, hq⟩ : ∃ q, q = w.heap.size + 1 + 1 := ⟨_, rfl⟩
  have HZ : Hid (q + 1 = W.heap.size) := by rw [hq]; exact hz
  have HP : Hid (w.heap.size + 1 < q) := by rw [hq]; exact Nat.lt_succ_self _
  rw [← hq] at HA2
  have HQ := hide hq
  have HW := hide hW
  have HF : Hid (CellsAt W g (R.map (.int .i64))) := hg.below' HB0.out (Nat.le_refl _)
  have HF' : Hid (0 < m → ∃ g, a' = some ⟨g, 0, none⟩ ∧ CellsAt W g (G.map (.int .i64)) ∧ g < w.heap.size) := fun h0 => by
    obtain ⟨g', e, hc⟩ := hf' h0
    exact ⟨g', e, hc.below' HB0.out (Nat.le_refl _), hc.lt (by rw [List.length_map, ← hm]; exact h0)⟩
  have HN := hide hn
  have HM := hide hm
  obtain ⟨RN, hRN⟩ : ∃ RN, RN = nn R := ⟨_, rfl⟩
  obtain ⟨GN, hGN⟩ : ∃ GN, GN = nn G := ⟨_, rfl⟩
  rw [← hRN] at HX HWR HL2 HLR
  rw [← hGN] at HY HWR HL2 HLG
  rw [← hn, ← hm]
  clear hu hv hf hf' hg hn hm n3 hRN hGN k1 k2 k3 k4 k5 k6 h hRx hGx hr0 hr hW hq hz
  go_enter Try.func33, Try.ntmps33
  go_wp2
  go_region
  rw [← HW.out, ← HQ.out]
  have f1 := (HA0.out 1 _ rfl).1
  clear HW HQ e1 e2 i1 hwr
  go_wp2
  go_loopw [4, 5, 6, 7, 19] (fun c _ _ _ i wr => NtRel RN GN n q W.heap.size ((sn : Int) + (r0 : Int)) W c i wr) (fun _ _ _ _ i _ => n - (Go.RowKit.intOf i).toNat)
  case atStart => exact ⟨0, 0, 0, [], [], .slice none 0 0, .slice none 0 0, Nat.zero_le _, rfl, rfl, Nat.zero_le _, Nat.le_refl _, ⟨HA2.out, World.ownsRow_nil _ _ _ _, World.ownsRow_nil _ _ _ _, (fun b hb => by cases hb), Nat.le_refl _, by have := HZ.out; omega⟩, rfl, rfl, Below.refl _ _⟩
  case round =>
    obtain ⟨k, s, nb, X, Y, x, y, hk, rfl, rfl, hs, hnb, HT, HNR, HNG, HBW⟩ := hrel
    clear HA2 f1
    obtain ⟨ax, cx, rfl⟩ := own_slice HT.out.ox
    obtain ⟨ay, cy, rfl⟩ := own_slice HT.out.oy
    have hp0 : w.heap.size < q := by have := HP.out; omega
    have hgq : g < q := by omega
    have hsz := HT.out.size
    have q1 := (HT.out.cells 1 _ rfl).1
    have q2 := (HT.out.cells 2 _ rfl).1
    have w1c := (HBW.out.cell (p := ⟨w.heap.size, 1, none⟩) hp0).trans (HA0.out 1 _ rfl).1
    have w2c := (HBW.out.cell (p := ⟨w.heap.size, 2, none⟩) hp0).trans (HA0.out 2 _ rfl).1
    by_cases hlt : k < n
    · by_cases hlg : k < m
      · obtain ⟨g', rfl, hc', hgw'⟩ := HF'.out (by omega)
        have hgq' : g' < q := by omega
        obtain ⟨r, r2, yv, e1, e2, e3, _, _, e4, e5⟩ := nx_step (q := s) HL2.out (show k < GN.length by rw [HLG.out]; exact hlg)
        obtain ⟨f1, b1⟩ := HX.out _ _ e1
        obtain ⟨f2, b2⟩ := HX.out _ _ e2
        obtain ⟨f3, b3⟩ := HY.out _ _ e3
        have c1 := (HBW.out.cell (p := ⟨g, k, none⟩) hgq).trans (HF.out k (.int .i64 (r : Int)) (by rw [List.getElem?_map, f1]; rfl)).1
        have c2 := (HBW.out.cell (p := ⟨g, k + 1, none⟩) hgq).trans (HF.out (k + 1) (.int .i64 (r2 : Int)) (by rw [List.getElem?_map, f2]; rfl)).1
        have c3 := (HBW.out.cell (p := ⟨g', k, none⟩) hgq').trans (hc' k (.int .i64 (yv : Int)) (by rw [List.getElem?_map, f3]; rfl)).1
        have HE4 := hide e4
        have HE5 := hide e5
        have j0 : (0 : Int) ≤ (k : Int) := by omega
        have j1 : (k : Int) < (n : Int) := by omega
        have j2 : (k : Int) < (m : Int) := by omega
        have j3 : (k : Int) + 1 < (n : Int) := by omega
        have j4 : (0 : Int) ≤ (k : Int) + 1 := by omega
        have j5 : s + r ≤ 20000 := by omega
        clear e1 e2 e3 e4 e5 f1 f2 f3 hc'
        go_upto_region 10 with fail
        obtain ⟨t, ht⟩ : ∃ t : Int, min (yv : Int) ((s : Int) + (r : Int)) = t := ⟨_, rfl⟩
        have t0 : 0 ≤ t := by rw [← ht]; omega
        have t1 : t ≤ 120 := by rw [← ht]; omega
        have HTT := hide ht
        rw [ht]
        clear ht
        have wk : IntKind.i64.wrap ((k : Int) + 1) = (k : Int) + 1 := by rw [IntKind.wrap_i64]; omega
        have tk : ((k : Int) + 1).toNat = k + 1 := by omega
        have w1' : IntKind.i64.wrap ((r2 : Int) + (yv : Int)) = (r2 : Int) + (yv : Int) := by rw [IntKind.wrap_i64]; omega
        have w2' : IntKind.i64.wrap ((r2 : Int) + (yv : Int) - t) = (r2 : Int) + (yv : Int) - t := by rw [IntKind.wrap_i64]; omega
        have q3 : (wr.alloc (.cells #[.int .i64 ((r2 : Int) + (yv : Int) - t)] 3)).cell? ⟨q, 2, none⟩ = some (.slice ay nb cy) := by
          rw [World.cell?_alloc_lt _ _ _ (by show q < wr.heap.size; have := HT.out.low; omega)]; exact q2
        have hTD := hide HT.out.drew
        go_cut [] (fun wx => ∃ a1 cc1, Hid (Two q W.heap.size 3 (.int .i64 ((sn : Int) + (r0 : Int))) (.slice ax k cx) (.slice a1 (nb + 1) cc1) k (nb + 1) ((ni X).map (.int .i64)) ((ni Y).map (.int .i64) ++ [.int .i64 ((r2 : Int) + (yv : Int) - t)]) wx) ∧ Hid (Below q wr wx))
        case first =>
          go_region_law (refine step_app (by rfl) (.tmp 41) (.tmp 56) 22 (by rfl) W.heap.size 3 i0 (.int .i64 0) 1 8 Try.underlying22 hi hz0 hz1 hz2 rfl (by decide) _ _ _ (by rfl) (HT.out.oy.alloc _).drew ⟨wr.heap.size, 0, none⟩ 1 1 [.int .i64 ((r2 : Int) + (yv : Int) - t)] (by rfl) rfl (cell_one_new _ _ _) (one_of_int _) (by unfold maxLen; omega) (by omega) (by show W.heap.size ≤ (wr.alloc _).heap.size; rw [World.size_alloc]; omega) ?_; intro v1 w1 hown1 hgrow1 hat1; obtain ⟨a1, cc1, rfl⟩ := own_slice hown1; have pp := hTD.out.pushY (o := .cells #[.int .i64 ((r2 : Int) + (yv : Int) - t)] 3) hown1 hgrow1 hat1; have x2 := (pp.2.2 2 _ rfl).1; have x2f := (pp.2.2 2 _ rfl).2; have PP := hide (And.intro pp.1 ((Below.refl q wr).drew.trans pp.2.1)); clear pp hown1 hgrow1 hat1)
          all_goals (go_wp2_with fail; go_meet; exact ⟨_, _, PP.out.1, PP.out.2⟩)
        case rest =>
          obtain ⟨a1, cc1, HT2, HB2⟩ := hcut
          clear q3 hTD w1' wk tk q1 q2 w1c w2c c1 c2 c3 HT
          obtain ⟨tn, rfl⟩ := Int.eq_ofNat_of_zero_le t0
          have htn : min yv (s + r) = tn := by have := HTT.out; omega
          have EX : Hid (nxR 0 RN GN = (X ++ [tn]) ++ nxR (s + r - tn) (RN.drop (k + 1)) (GN.drop (k + 1))) := hide (by rw [HNR.out, HE4.out, htn, List.append_assoc]; rfl)
          have EY : Hid (nxG 0 RN GN = (Y ++ [r2 + yv - tn]) ++ nxG (s + r - tn) (RN.drop (k + 1)) (GN.drop (k + 1))) := hide (by rw [HNG.out, HE5.out, htn, List.append_assoc]; rfl)
          have q1 := (HT2.out.cells 1 _ rfl).1
          have q1f := (HT2.out.cells 1 _ rfl).2
          have hsz2 := HT2.out.size
          have hle : tn ≤ s + r := by rw [← htn]; exact Nat.min_le_right _ _
          have hle2 : tn ≤ yv := by rw [← htn]; exact Nat.min_le_left _ _
          have w3' : IntKind.i64.wrap ((s : Int) + (r : Int) - (tn : Int)) = (s : Int) + (r : Int) - (tn : Int) := by rw [IntKind.wrap_i64]; omega
          clear HTT htn HE4 HE5 HNR HNG w2'
          go_wp2_with (at_builtin; refine wpList_append_own_at _ rfl _ _ 36 rfl W.heap.size 3 i0 (.int .i64 0) 1 8 Try.underlying36 hi hz0 hz1 hz2 rfl (by decide) _ _ _ rfl (HT2.out.ox.alloc _) ⟨wc.heap.size, 0, none⟩ 1 1 [.int .i64 (tn : Int)] rfl rfl (cell_one_new _ _ _) (one_of_int _) (by unfold maxLen; omega) (by omega) (by simp; omega) ?_; intro v2 w2 hown2 hgrow2 _ hat2; obtain ⟨a2, cc2, rfl⟩ := own_slice hown2; have pp := HT2.out.pushX hown2 hgrow2 hat2; have x1 := (pp.2.2 1 _ rfl).1; have x1f := (pp.2.2 1 _ rfl).2; have PP := hide pp; clear pp hown2 hgrow2 hat2)
          go_roundw
          case rel =>
            refine ⟨k + 1, s + r - tn, nb + 1, X ++ [tn], Y ++ [r2 + yv - tn], .slice a2 (k + 1) cc2, .slice a1 (nb + 1) cc1, by omega, by go_num, by go_num, by omega, by omega, ?_, EX, EY, hide (HBW.out.trans (HB2.out.trans PP.out.2.1))⟩
            have h := PP.out.1
            rw [show ((r2 : Int) + (yv : Int) - (tn : Int)) = ((r2 + yv - tn : Nat) : Int) by omega] at h
            show Two _ _ _ _ _ _ _ _ _ _ _
            rw [ni_snoc, ni_snoc, List.map_append, List.map_append]
            exact h
          case measure => simp [Go.RowKit.intOf]; omega
      · have hkm : k = m := by omega
        obtain ⟨r, e1, _, e4, e5⟩ := nx_last (q := s) HL2.out (show k = GN.length by rw [HLG.out]; exact hkm)
        obtain ⟨f1, b1⟩ := HX.out _ _ e1
        have c1 := (HBW.out.cell (p := ⟨g, k, none⟩) hgq).trans (HF.out k (.int .i64 (r : Int)) (by rw [List.getElem?_map, f1]; rfl)).1
        have j0 : (0 : Int) ≤ (k : Int) := by omega
        have j1 : (k : Int) < (n : Int) := by omega
        have j2 : ¬ (k : Int) < (m : Int) := by omega
        have j5 : s + r ≤ 20000 := by omega
        have q1f := (HT.out.cells 1 _ rfl).2
        have EX : Hid (nxR 0 RN GN = (X ++ [s + r]) ++ nxR 0 (RN.drop (k + 1)) (GN.drop (k + 1))) := hide (by
          rw [HNR.out, e4, List.drop_of_length_le (l := RN) (by rw [HLR.out]; omega), nxR_nil]; simp)
        have EY : Hid (nxG 0 RN GN = Y ++ nxG 0 (RN.drop (k + 1)) (GN.drop (k + 1))) := hide (by
          rw [HNG.out, e5, List.drop_of_length_le (l := RN) (by rw [HLR.out]; omega), nxG_nil])
        clear e1 e4 e5 f1 hkm HNR HNG q2 w1c
        go_wp2_with (at_builtin; refine wpList_append_own_at _ rfl _ _ 36 rfl W.heap.size 3 i0 (.int .i64 0) 1 8 Try.underlying36 hi hz0 hz1 hz2 rfl (by decide) _ _ _ rfl (HT.out.ox.alloc _) ⟨wr.heap.size, 0, none⟩ 1 1 [.int .i64 ((s : Int) + (r : Int))] rfl rfl (cell_one_new _ _ _) (one_of_int _) (by unfold maxLen; omega) (by omega) (by simp; omega) ?_; intro v2 w2 hown2 hgrow2 _ hat2; obtain ⟨a2, cc2, rfl⟩ := own_slice hown2; have pp := HT.out.pushX hown2 hgrow2 hat2; have x1 := (pp.2.2 1 _ rfl).1; have x1f := (pp.2.2 1 _ rfl).2; have PP := hide pp; clear pp hown2 hgrow2 hat2)
        go_roundw
        case rel =>
          refine ⟨k + 1, 0, nb, X ++ [s + r], Y, .slice a2 (k + 1) cc2, .slice ay nb cy, by omega, by go_num, by go_num, by omega, by omega, ?_, EX, EY, hide (HBW.out.trans PP.out.2.1)⟩
          have h := PP.out.1
          rw [show ((s : Int) + (r : Int)) = ((s + r : Nat) : Int) by omega] at h
          show Two _ _ _ _ _ _ _ _ _ _ _
          rw [ni_snoc, List.map_append]
          exact h
        case measure => simp [Go.RowKit.intOf]; omega
    · have hkn : k = n := by omega
      subst hkn
      have hX : nxR 0 RN GN = X := by rw [HNR.out, List.drop_of_length_le (l := RN) (by rw [HLR.out]; omega), nxR_nil, List.append_nil]
      have hY : nxG 0 RN GN = Y := by rw [HNG.out, List.drop_of_length_le (l := RN) (by rw [HLR.out]; omega), nxG_nil, List.append_nil]
      have HXX : Hid (wnR R G = ni X ∧ wnG R G = ni Y ∧ wnN (sn : Int) R = (sn : Int) + (r0 : Int)) := hide (by rw [HWR.out.1, HWR.out.2.1, HWR.out.2.2, hX, hY]; exact ⟨rfl, rfl, rfl⟩)
      have q0 := (HT.out.cells 0 _ rfl).1
      have p1 := HP.out
      have hr1 := (HA1.out.below HBW.out p1)
      have r0c := (hr1 0 _ rfl).1
      have r1c := (hr1 1 _ rfl).1
      have r2c := (hr1 2 _ rfl).1
      have r0f := (hr1 0 _ rfl).2
      have r1f := (hr1 1 _ rfl).2
      have r2f := (hr1 2 _ rfl).2
      have hzw : W.heap.size ≤ wr.heap.size := hsz
      have hw0 : w.heap.size ≤ W.heap.size := HB0.out.size
      have AP := hide (ApV.of_own HT.out.apart)
      have HBF := hide (HB0.out.trans (HBW.out.mono (Nat.le_of_lt hp0)))
      have hlow : w.heap.size + 1 < W.heap.size := Nat.lt_trans p1 HT.out.low
      have FIN : ∀ a b d : Value, Hid (Below w.heap.size wr (((wr.setCell ⟨w.heap.size + 1, 0, none⟩ a).setCell ⟨w.heap.size + 1, 1, none⟩ b).setCell ⟨w.heap.size + 1, 2, none⟩ d) ∧
          IntsV w.heap.size (((wr.setCell ⟨w.heap.size + 1, 0, none⟩ a).setCell ⟨w.heap.size + 1, 1, none⟩ b).setCell ⟨w.heap.size + 1, 2, none⟩ d) (.slice ax k cx) (ni X) ∧
          IntsV w.heap.size (((wr.setCell ⟨w.heap.size + 1, 0, none⟩ a).setCell ⟨w.heap.size + 1, 1, none⟩ b).setCell ⟨w.heap.size + 1, 2, none⟩ d) (.slice ay nb cy) (ni Y)) := by
        intro a b d
        exact ⟨(((Below.refl _ _).setCell (Nat.le_succ _) a).setCell (Nat.le_succ _) b).setCell (Nat.le_succ _) d,
          (IntsV.of_owns (owns_set_far (owns_set_far (owns_set_far HT.out.ox hlow) hlow) hlow)).mono hw0, (IntsV.of_owns (owns_set_far (owns_set_far (owns_set_far HT.out.oy hlow) hlow) hlow)).mono hw0⟩
      clear hX hY hr1 HNR HNG HWR w1c w2c
      go_wp2
      (try simp only [Exit.inBlock, Exit.then])
      refine bodyPost_ret (v := .agg #[.int .i64 ((sn : Int) + (r0 : Int)), .slice ax k cx, .slice ay nb cy]) (by rw [results_cell1 rfl]; go_simp) rfl ?_
      have F := FIN (.int .i64 ((sn : Int) + (r0 : Int))) (.slice ax k cx) (.slice ay nb cy)
      rw [HXX.out.1, HXX.out.2.1, HXX.out.2.2]
      exact ⟨_, _, rfl, F.out.2.1, F.out.2.2, AP.out, HBF.out.trans F.out.1⟩
end Go.Proofs.Ytlgceccbjkkeiab

/- THE WALK of the program's WaveNext. -/
namespace Go.Proofs.Ytlgceccbjkkeiab
open Go.RowKit Go.Sort

set_option maxRecDepth 100000 in
set_option maxHeartbeats 4000000 in
theorem implWaveNext_any (st : Int) (u v : Value) (R G : List Int) (w : World) {lo lo' : Nat} (hRl : R.length ≤ 1048576) (hGl : G.length ≤ 1048576) (hu : IntsV lo w u R) (hv : IntsV lo' w v G) :
    Calls Try.prog 19 #[.int .i64 st, u, v] w fun e w' => ∃ x y, e = .returned (.tuple #[.int .i64 (if wnOk st R G then wnN st R else 0), x, y, .bool (wnOk st R G)]) ∧
      IntsV w.heap.size w' x (if wnOk st R G then wnR R G else []) ∧ IntsV w.heap.size w' y (if wnOk st R G then wnG R G else []) ∧ ApV x y ∧ Below w.heap.size w w' := by
  have HU := hide hu
  have HV := hide hv
  obtain ⟨a, c, rfl, _⟩ := ints_form hu
  obtain ⟨a', c', rfl, _⟩ := ints_form hv
  have K := hide (fun (W : World) (hb : Below w.heap.size w W) => known_any st _ _ R G W hRl hGl (HU.out.below hb (Nat.le_refl _)) (HV.out.below hb (Nat.le_refl _)))
  have HN : Hid (wIn st R G = false → wnOk st R G = false) := fun h => by unfold wnOk; rw [h, Bool.false_and]
  have HY : Hid (wIn st R G = true → wnOk st R G = wIn (wnN st R) (wnR R G) (wnG R G)) := fun h => by unfold wnOk; rw [h, Bool.true_and]
  have HS0 := hide (fun h => ((wIn_iff st R G).1 h).1)
  have NX := hide (fun (W : World) (hb : Below w.heap.size w W) (sn : Nat) (e : st = (sn : Int)) (h : wIn st R G = true) => next_any sn _ _ R G W (by rw [← e]; exact h) (HU.out.below hb (Nat.le_refl _)) (HV.out.below hb (Nat.le_refl _)))
  have HLN : Hid (wIn st R G = true → (wnR R G).length ≤ 1048576 ∧ (wnG R G).length ≤ 1048576) := fun h => by
    obtain ⟨k1, _⟩ := wIn_nat h
    obtain ⟨n1, n2⟩ := nx_length (nn R) (nn G) 0 k1
    have e1 : (wnR R G).length = R.length := by unfold wnR; rw [ni_length, n1, nn_length]
    have e2 : (wnG R G).length = G.length := by unfold wnG; rw [ni_length, n2, nn_length]
    omega
  obtain ⟨z, hz⟩ : ∃ z, z = wIn st R G := ⟨_, rfl⟩
  obtain ⟨O, hO⟩ : ∃ O, O = wnOk st R G := ⟨_, rfl⟩
  rw [← hz] at K HN HY HS0 NX HLN
  rw [← hO] at HN HY ⊢
  obtain ⟨n, hn⟩ : ∃ n, n = R.length := ⟨_, rfl⟩
  obtain ⟨m, hm⟩ : ∃ m, m = G.length := ⟨_, rfl⟩
  rw [← hn] at hRl K NX
  rw [← hm] at hGl K NX
  rw [← hn, ← hm]
  clear hu hv hz hO hn hm HU HV
  cases z
  · obtain rfl := HN.out rfl
    clear NX HY HLN
    go_enter Try.func19, Try.ntmps19
    go_wp2_with fail
    have HB0 : Hid (Below w.heap.size w (w.alloc (.cells #[.int .i64 st, .slice a n c, .slice a' m c'] 38))) := (Below.refl _ _).alloc (Nat.le_refl _) _
    have HA0 := hide (WaveAt.new w (.int .i64 st) (.slice a n c) (.slice a' m c') 38)
    refine (K.out _ HB0.out).mono ?_
    rintro e w2 ⟨rfl, hb⟩
    have HB2 := hide (HB0.out.trans (hb.mono (by simp)))
    have HA2 := hide (HA0.out.below hb (by simp))
    have hzw2 : w.heap.size ≤ w2.heap.size := HB2.out.size
    clear hb K HB0 HA0
    clear HA2
    go_wp2
    (try simp only [Exit.inBlock, Exit.then]); refine bodyPost_ret (res4 rfl _ _ _) rfl ?_
    exact ⟨_, _, rfl, .inl ⟨_, _, rfl, rfl⟩, .inl ⟨_, _, rfl, rfl⟩, .nil, HB2.out⟩
  · obtain ⟨sn, rfl⟩ : ∃ sn : Nat, st = (sn : Int) := ⟨st.toNat, by have := HS0.out rfl; omega⟩
    have NX1 := hide (fun W hb => NX.out W hb sn rfl rfl)
    have HY2 := hide (HY.out rfl)
    have HL2 := hide (HLN.out rfl)
    clear NX HY HN HLN HS0
    obtain ⟨N, hN⟩ : ∃ N, N = wnN (sn : Int) R := ⟨_, rfl⟩
    obtain ⟨RN, hRN⟩ : ∃ RN, RN = wnR R G := ⟨_, rfl⟩
    obtain ⟨GN, hGN⟩ : ∃ GN, GN = wnG R G := ⟨_, rfl⟩
    rw [← hN] at NX1 HY2 ⊢
    rw [← hRN] at NX1 HY2 HL2 ⊢
    rw [← hGN] at NX1 HY2 HL2 ⊢
    clear hN hRN hGN
    go_enter Try.func19, Try.ntmps19
    go_wp2_with fail
    have HB0 : Hid (Below w.heap.size w (w.alloc (.cells #[.int .i64 (sn : Int), .slice a n c, .slice a' m c'] 38))) := (Below.refl _ _).alloc (Nat.le_refl _) _
    have HA0 := hide (WaveAt.new w (.int .i64 (sn : Int)) (.slice a n c) (.slice a' m c') 38)
    refine (K.out _ HB0.out).mono ?_
    rintro e w2 ⟨rfl, hb⟩
    have HB2 := hide (HB0.out.trans (hb.mono (by simp)))
    have HA2 := hide (HA0.out.below hb (by simp))
    have hzw2 : w.heap.size ≤ w2.heap.size := HB2.out.size
    clear hb K HB0 HA0
    have NX2 := hide (NX1.out w2 HB2.out)
    obtain ⟨c0, c1, c2⟩ := HA2.out
    clear NX1 HA2
    go_wp2_with fail
    refine NX2.out.mono ?_
    rintro e w3 ⟨x, y, rfl, hx, hy, hap, hb3⟩
    have HB3 := hide (HB2.out.trans (hb3.mono hzw2))
    have hz3 : w.heap.size ≤ w3.heap.size := HB3.out.size
    have HX := hide (hx.mono hzw2)
    have HYY := hide (hy.mono hzw2)
    have HAP := hide hap
    obtain ⟨ax, cx, rfl, _⟩ := ints_form hx
    obtain ⟨ay, cy, rfl, _⟩ := ints_form hy
    obtain ⟨nx, hnx⟩ : ∃ n, n = RN.length := ⟨_, rfl⟩
    obtain ⟨ny, hny⟩ : ∃ n, n = GN.length := ⟨_, rfl⟩
    have K2 := hide (fun (W : World) (hb : Below w3.heap.size w3 W) => known_any N _ _ RN GN W HL2.out.1 HL2.out.2 (HX.out.below hb (Nat.le_refl _)) (HYY.out.below hb (Nat.le_refl _)))
    rw [← HY2.out] at K2
    have hnl := HL2.out.1
    have hnl2 := HL2.out.2
    rw [← hnx] at HX HAP K2 hnl
    rw [← hny] at HYY HAP K2 hnl2
    rw [← hnx, ← hny]
    clear hx hy hap hb3 NX2 c0 c1 c2 hnx hny HL2 HY2
    go_wp2_with fail
    have HBa : Hid (Below w3.heap.size w3 (w3.alloc (.cells #[.int .i64 N, .slice ax nx cx, .slice ay ny cy] 38))) := (Below.refl _ _).alloc (Nat.le_refl _) _
    have HAa := hide (WaveAt.new w3 (.int .i64 N) (.slice ax nx cx) (.slice ay ny cy) 38)
    refine (K2.out _ HBa.out).mono ?_
    rintro e w4 ⟨rfl, hb4⟩
    have HB34 := hide (HBa.out.trans (hb4.mono (by simp)))
    have HA4 := hide (HAa.out.below hb4 (by simp))
    have HB4 := hide (HB3.out.trans (HB34.out.mono hz3))
    clear hb4 K2 HBa HAa
    cases O
    · clear HA4 HX HYY HAP
      go_wp2
      (try simp only [Exit.inBlock, Exit.then]); refine bodyPost_ret (res4 rfl _ _ _) rfl ?_
      exact ⟨_, _, rfl, .inl ⟨_, _, rfl, rfl⟩, .inl ⟨_, _, rfl, rfl⟩, .nil, HB4.out⟩
    · obtain ⟨c0, c1, c2⟩ := HA4.out
      clear HA4
      have mixed : Try.prog.follows .mixedOrders = true := by kernel_rfl
      go_wp2
      go_quiet (fail)
      go_wp2
      (try simp only [Exit.inBlock, Exit.then]); refine bodyPost_ret (res4 rfl _ _ _) rfl ?_
      exact ⟨_, _, rfl, HX.out.below (HB34.out.trans ((Quiet.drewN _).2 _)) (Nat.le_refl _), HYY.out.below (HB34.out.trans ((Quiet.drewN _).2 _)) (Nat.le_refl _), HAP.out, HB4.out.trans ((Quiet.drewN _).2 _)⟩
end Go.Proofs.Ytlgceccbjkkeiab
