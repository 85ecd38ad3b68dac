/- TEXTS Carrier. -/
import Derived.Test.YteibopcneflidabDoorRl28
import Derived.Test.YteibopcneflidabDoorRl25
import Derived.Deep.QuietTactic
import Derived.BigQuiet
/- THE WALKS of newCarrier, of the closure that it makes, and of carry. -/
namespace Go.Proofs.YteibopcneflidabDoor
open Go.RowKit

theorem drewN_grown (w : World) (k : Nat) (r : Option Nat) : w.grownBy (w.drewN k) r := ⟨rfl, rfl, rfl, Nat.le_refl _, fun _ _ _ => rfl⟩
theorem set_grown (w : World) (g : Nat) (v : Value) (k : Nat) : w.grownBy ((w.setCell ⟨g, 0, none⟩ v).drewN k) (some g) :=
  ⟨rfl, rfl, rfl, by show w.heap.size ≤ (World.setCell _ _ _).heap.size; simp [World.setCell], fun j _ hj => heap_setCell_other w ⟨g, 0, none⟩ j _ (fun e => hj (by simp [e]))⟩

/-- what the carrier leaves: the box, and its load in its own block -/
def Carried (w : World) (gl : Nat) (K : Nat) (b : Bool) (u : Nat) (e : Ending) (w' : World) : Prop :=
  e = .returned (.tuple #[.bool (ot K b u), .int .i64 (nx K b u : Int)]) ∧ w.grownBy w' (some gl) ∧ w'.heap.size = w.heap.size ∧ w'.cell? ⟨gl, 0, none⟩ = some (.int .i64 (nx K b u : Int)) ∧ w'.frozen? ⟨gl, 0, none⟩ = false

theorem carried_set {w : World} {gl K u : Nat} {b : Bool} {v : Bool} {n : Int} (hc : w.cell? ⟨gl, 0, none⟩ = some (.int .i64 (u : Int))) (hf : w.frozen? ⟨gl, 0, none⟩ = false) (h1 : ot K b u = v) (h2 : (nx K b u : Int) = n) (k : Nat) :
    Carried w gl K b u (.returned (.tuple #[.bool v, .int .i64 n])) ((w.setCell ⟨gl, 0, none⟩ (.int .i64 n)).drewN k) := by
  refine ⟨by rw [h1, h2], set_grown w gl _ k, ?_, ?_, ?_⟩
  · show (World.setCell _ _ _).heap.size = _; simp [World.setCell]
  · show (World.setCell _ _ _).cell? _ = _; rw [World.cell?_setCell_same' _ _ _ (by rw [hc]; rfl), h2]
  · show (World.setCell _ _ _).frozen? _ = _; rw [World.frozen?_setCell]; exact hf
theorem carried_same {w : World} {gl K u : Nat} {b : Bool} {v : Bool} (hc : w.cell? ⟨gl, 0, none⟩ = some (.int .i64 (u : Int))) (hf : w.frozen? ⟨gl, 0, none⟩ = false) (h1 : ot K b u = v) (h2 : nx K b u = u) (k : Nat) :
    Carried w gl K b u (.returned (.tuple #[.bool v, .int .i64 (u : Int)])) (w.drewN k) :=
  ⟨by rw [h1, h2], drewN_grown w k _, rfl, by rw [h2]; exact hc, hf⟩

set_option maxHeartbeats 1000000 in
theorem carrier_any (w : World) (gl gr K u : Nat) (b : Bool) (hc : w.cell? ⟨gl, 0, none⟩ = some (.int .i64 (u : Int))) (hf : w.frozen? ⟨gl, 0, none⟩ = false) (hr : w.cell? ⟨gr, 0, none⟩ = some (.int .i64 (K : Int))) (hu : u ≤ 1000) :
    Calls Tryd.prog 54 #[.bool b, .pointer (some ⟨gl, 0, none⟩), .pointer (some ⟨gr, 0, none⟩)] w (Carried w gl K b u) := by
  have hset : ∀ v : Value, (w.setCell ⟨gl, 0, none⟩ v).cell? ⟨gl, 0, none⟩ = some v := fun v => World.cell?_setCell_same' _ _ _ (by rw [hc]; rfl)
  cases b
  · by_cases h0 : 0 < u
    · have F := hide (fun k => carried_set (K := K) (b := false) (v := true) (n := (u : Int) - 1) hc hf (by simp [ot, h0]) (by simp [nx]; omega) k)
      go_enter Tryd.func54, Tryd.ntmps54
      go_wp2
      go_quiet (fail)
      go_wp2
      go_ret2
      exact F.out _
    · obtain rfl : u = 0 := by omega
      have F := hide (fun k => carried_same (K := K) (b := false) (v := false) hc hf (by simp [ot]) (by simp [nx]) k)
      go_enter Tryd.func54, Tryd.ntmps54
      go_wp2
      go_quiet (fail)
      go_wp2
      go_ret2
      exact F.out _
  · by_cases h0 : u < K
    · have F := hide (fun k => carried_set (K := K) (b := true) (v := false) (n := (u : Int) + 1) hc hf (by simp [ot, h0]) (by simp [nx, h0]) k)
      go_enter Tryd.func54, Tryd.ntmps54
      go_wp2
      go_quiet (fail)
      go_wp2
      go_ret2
      exact F.out _
    · have F := hide (fun k => carried_same (K := K) (b := true) (v := true) hc hf (by simp [ot]; omega) (by simp [nx]; omega) k)
      go_enter Tryd.func54, Tryd.ntmps54
      go_wp2
      go_quiet (fail)
      go_wp2
      go_ret2
      exact F.out _

set_option maxHeartbeats 400000 in
theorem newCarrier_any (K : Nat) (w : World) :
    Calls Tryd.prog 33 #[.int .i64 (K : Int)] w fun e w' => e = .returned (.func (.func 54) #[] #[.pointer (some ⟨w.heap.size + 1, 0, none⟩), .pointer (some ⟨w.heap.size, 0, none⟩)]) ∧
      Below w.heap.size w w' ∧ w'.heap.size = w.heap.size + 2 ∧ w'.cell? ⟨w.heap.size + 1, 0, none⟩ = some (.int .i64 ((0 : Nat) : Int)) ∧ w'.frozen? ⟨w.heap.size + 1, 0, none⟩ = false ∧ w'.cell? ⟨w.heap.size, 0, none⟩ = some (.int .i64 (K : Int)) := by
  go_enter Tryd.func33, Tryd.ntmps33
  go_wp2
  go_ret
  have b1 := Boxed.new w 3 (.int .i64 (K : Int))
  have b2 := Boxed.new (w.alloc (.cells #[.int .i64 (K : Int)] 3)) 3 (.int .i64 0)
  rw [World.size_alloc] at b2
  exact ⟨rfl, ((Below.refl _ w).alloc (Nat.le_refl _) _).alloc (by simp) _, by simp, b2.cell, b2.frozen, (b1.alloc _).cell⟩

theorem own_ne {w : World} {b e size n : Nat} {v : Value} {xs : List Value} (h : w.ownsRow (b + 1) e size v n xs) : v.ownBlock = none ∨ v.ownBlock ≠ some b := by
  cases hv : v.ownBlock with
  | none => exact .inl rfl
  | some k => exact .inr (fun e => by have := (h.lt k hv).1; injection e with e; omega)
theorem own_apart {w : World} {base base' e e' size size' n n' : Nat} {v v' : Value} {xs xs' : List Value} (h : w.ownsRow base e size v n xs) (h' : w.ownsRow base' e' size' v' n' xs') (hne : e ≠ e') : v.ownBlock = none ∨ v.ownBlock ≠ v'.ownBlock := by
  rcases h.2 with ⟨rfl, _⟩ | ⟨g, cap, cur, rfl, hb, hg, _⟩
  · exact .inl rfl
  · refine .inr (fun he => ?_)
    rcases h'.2 with ⟨rfl, _⟩ | ⟨g', cap', cur', rfl, hb', hg', _⟩
    · simp [Value.ownBlock] at he
    · simp [Value.ownBlock] at he
      subst he
      rw [hg] at hg'
      simp at hg'
      exact hne hg'.2

/-- the value is a row of these boxes: nil, or at the head of a block of its own from lo on -/
def BoolsV (lo : Nat) (w : World) (v : Value) (l : List Bool) : Prop :=
  ∃ y g cap, v = .slice y l.length cap ∧ (0 < l.length → y = some ⟨g, 0, none⟩) ∧ CellsAt w g (l.map .bool) ∧ l.length ≤ cap ∧ cap ≤ maxLen ∧ lo ≤ g
theorem BoolsV.of_owns {w : World} {base e n : Nat} {v : Value} {l : List Bool} (h : w.ownsRow base e 1 v n (l.map .bool)) : BoolsV base w v l := by
  have hl : l.length = n := by have := h.1; simpa using this
  rcases h.2 with ⟨rfl, h0⟩ | ⟨g, cap, cur, rfl, hb, hg, hnc, hcm, hcs, htake⟩
  · obtain rfl : l = [] := List.eq_nil_of_length_eq_zero (by omega)
    exact ⟨none, base, 0, rfl, fun h => by simp at h, fun j v hv => by simp at hv, Nat.le_refl _, by unfold maxLen; omega, Nat.le_refl _⟩
  · exact ⟨_, g, cap, by rw [hl], fun _ => rfl, CellsAt.of_owns h, by omega, hcm, hb⟩

theorem BoolsV.mono {lo lo' : Nat} {w : World} {v : Value} {l : List Bool} (h : BoolsV lo w v l) (hl : lo' ≤ lo) : BoolsV lo' w v l := by
  obtain ⟨y, g, cap, h1, h2, h3, h4, h5, h6⟩ := h
  exact ⟨y, g, cap, h1, h2, h3, h4, h5, by omega⟩
/-- the loop of carry, between two boxes -/
def CarryRel (w : World) (B K : Nat) (l : List Bool) (p u ls i : Value) (wr : World) : Prop :=
  ∃ k : Nat, k ≤ fin K l ∧ i = .int .i64 (k : Int) ∧ u = .int .i64 (ld K (bx l) k : Int) ∧
    Hid (wr.ownsRow (B + 1 + 1) 4 1 p k ((stpU K (bx l) k).map .bool)) ∧ Hid (wr.ownsRow (B + 1 + 1) 3 1 ls (k + 1) ((ldsU K (bx l) (k + 1)).map (.int .i64))) ∧
    Hid (wr.cell? ⟨B + 1, 0, none⟩ = some (.int .i64 (ld K (bx l) k : Int)) ∧ wr.frozen? ⟨B + 1, 0, none⟩ = false ∧ wr.cell? ⟨B, 0, none⟩ = some (.int .i64 (K : Int))) ∧
    Hid (Below B w wr) ∧ B + 2 ≤ wr.heap.size

theorem frozen_far {w w' : World} {row : Option Nat} {a : Addr} {v : Value} (hg : w.grownBy w' row) (hc : w.cell? a = some v) (hne : some a.block ≠ row) : w'.frozen? a = w.frozen? a :=
  World.frozen?_of_block (hg.block _ (World.block_lt_of_cell? w a hc) hne)

/-- the carrier at a box of the row, as carry calls it -/
theorem carrier_at {wr : World} {B K : Nat} {l : List Bool} {k : Nat} {b : Bool} (hb : bx l k = b) (hk : ld K (bx l) k ≤ K) (hK : K ≤ 200)
    (h : wr.cell? ⟨B + 1, 0, none⟩ = some (.int .i64 (ld K (bx l) k : Int)) ∧ wr.frozen? ⟨B + 1, 0, none⟩ = false ∧ wr.cell? ⟨B, 0, none⟩ = some (.int .i64 (K : Int))) :
    Calls Tryd.prog 54 #[.bool b, .pointer (some ⟨B + 1, 0, none⟩), .pointer (some ⟨B, 0, none⟩)] wr fun e w' =>
      e = .returned (.tuple #[.bool (tr K (bx l) k), .int .i64 (ld K (bx l) (k + 1) : Int)]) ∧ wr.grownBy w' (some (B + 1)) ∧ w'.heap.size = wr.heap.size ∧ w'.cell? ⟨B + 1, 0, none⟩ = some (.int .i64 (ld K (bx l) (k + 1) : Int)) ∧ w'.frozen? ⟨B + 1, 0, none⟩ = false := by
  subst hb
  exact carrier_any wr (B + 1) B K _ _ h.1 h.2.1 h.2.2 (by omega)

theorem one_of_bool (x : Bool) : ∀ u ∈ [Value.bool x], u.oneCell' = true := by intro u hu; simp at hu; subst hu; rfl

set_option maxHeartbeats 2000000 in
theorem carry_any (x : Option Addr) (g n cap K : Nat) (l : List Bool) (w : World) (hx : 0 < n → x = some ⟨g, 0, none⟩) (hl : l.length = n) (hc : CellsAt w g (l.map .bool)) (hn : n ≤ 120) (hK : 1 ≤ K ∧ K ≤ 200) :
    Calls Tryd.prog 20 #[.slice x n cap, .int .i64 (K : Int)] w fun e w' => ∃ v1 v2 : Value, e = .returned (.tuple #[v1, v2]) ∧ BoolsV w.heap.size w' v1 (stp K l) ∧ IntsV w.heap.size w' v2 (lds K l) ∧ Below w.heap.size w w' := by
  obtain ⟨i0, hi, hz0, hz1, hz2⟩ := info_parts infoI
  obtain ⟨j0, hj, hy0, hy1, hy2⟩ := info_parts infoB
  have HL := hide hl
  have HC := hide hc
  have HX := hide hx
  have hfin := fin_le K l
  rw [hl] at hfin
  obtain ⟨B, hB⟩ : ∃ B, w.heap.size = B := ⟨_, rfl⟩
  have HNC := hide (newCarrier_any K w)
  rw [hB] at HNC ⊢
  have HB := hide hB
  clear hl hc hx hB
  go_enter Tryd.func20, Tryd.ntmps20
  go_wp2_with fail
  refine HNC.out.mono ?_
  rintro e w1 ⟨rfl, hb1, hz, c1, c2, c3⟩
  have H0 := hide (World.ownsRow_lit (base := B + 1 + 1) (e := 3) (size := 1) w1 #[.int .i64 0] 1 (by omega) (by unfold maxLen; omega) rfl)
  have hB1 : Below B w (w1.alloc (.cells #[.int .i64 0] 3)) := hb1.alloc (by omega) _
  go_wp2
  go_loopw [7, 8, 9, 10] (CarryRel w B K l) (fun _ _ _ i _ => fin K l - (intOf i).toNat)
  case atStart =>
    refine ⟨0, Nat.zero_le _, rfl, rfl, World.ownsRow_nil _ _ _ _, ?_, ⟨?_, ?_, ?_⟩, hB1, by simp; omega⟩
    · have h := H0.out
      rw [hz] at h
      rw [ldsU_succ]; exact h
    · rw [World.cell?_alloc_past _ _ _ (World.block_lt_of_cell? w1 _ c1)]; exact c1
    · exact (frozen_far (World.grownBy_alloc w1 _ none) c1 (by simp)).trans c2
    · rw [World.cell?_alloc_past _ _ _ (World.block_lt_of_cell? w1 _ c3)]; exact c3
  case round =>
    obtain ⟨k, hk, rfl, rfl, HP, HI, HCL, HBW, hsz⟩ := hrel
    have hf := fin_lt K l k hk
    rw [HL.out] at hf
    have hul := ld_le K (bx l) k
    by_cases hlt : k < fin K l
    · by_cases hks : k < n
      · obtain rfl := HX.out (by omega)
        obtain ⟨b, hbk⟩ : ∃ b, l[k]? = some b := ⟨_, List.getElem?_eq_getElem (by rw [HL.out]; exact hks)⟩
        have hcell : wr.cell? ⟨g, k, none⟩ = some (.bool b) := ((HC.out.below' HBW.out (by rw [HB.out]; exact Nat.le_refl _)) k (.bool b) (by simp [hbk])).1
        have CC := hide (carrier_at (wr := wr) (B := B) (bx_some l k b hbk) hul hK.2 HCL.out)
        clear hbk
        obtain ⟨u, hu0⟩ : ∃ u, u = ld K (bx l) k := ⟨_, rfl⟩
        obtain ⟨u', hu1⟩ : ∃ u, u = ld K (bx l) (k + 1) := ⟨_, rfl⟩
        obtain ⟨c, hc0⟩ : ∃ c, c = tr K (bx l) k := ⟨_, rfl⟩
        have HS1 := hide ((stpU_succ K (bx l) k).trans (by rw [← hc0] : _ = stpU K (bx l) k ++ [c]))
        have HS2 := hide ((ldsU_succ K (bx l) (k + 1)).trans (by rw [← hu1] : _ = ldsU K (bx l) (k + 1) ++ [(u' : Int)]))
        have HU := hide hu0
        have HU1 := hide hu1
        rw [← hu1, ← hc0] at CC
        rw [← hu0] at hul ⊢
        clear hu0 hu1 hc0 hf
        go_wp2_with fail
        refine CC.out.mono ?_
        rintro e w2 ⟨rfl, hg2, hz2', hcl2, hfl2⟩
        have HP2 := hide (HP.out.kept hg2 (own_ne HP.out))
        have HI2 := hide (HI.out.kept hg2 (own_ne HI.out))
        have hcr2 := hg2.cell HCL.out.2.2 (by simp)
        have hB2 : Below B w w2 := HBW.out.grown hg2 (by omega) (fun b e => by injection e with e; omega)
        have HC2 := hide (And.intro hcl2 (And.intro hfl2 hcr2))
        have hge : wr.heap.size ≤ w2.heap.size := Nat.le_of_eq hz2'.symm
        clear hcl2 hfl2 hcr2 CC hz2'
        go_wp2_with (first | (at_builtin; refine wpList_append_own _ rfl _ _ 49 rfl (B + 1 + 1) 4 j0 (.bool false) 1 1 Tryd.underlying49 hj hy0 hy1 hy2 rfl (by decide) _ _ _ rfl (HP2.out.alloc _) ⟨w2.heap.size, 0, none⟩ 1 1 [.bool c] rfl rfl (cell_one_new _ _ _) (one_of_bool _) (by unfold maxLen; omega) (by omega) (by simp; omega) ?_; intro p' w3 hown3 hgrow3 _; have hz3 := hgrow3.size; rw [World.size_alloc] at hz3; have HI3 := hide ((HI2.out.alloc (.cells #[.bool c] 4)).kept hgrow3 (own_apart (HI2.out.alloc (.cells #[.bool c] 4)) (HP2.out.alloc (.cells #[.bool c] 4)) (by decide)))) | (at_builtin; refine wpList_append_own _ rfl _ _ 28 rfl (B + 1 + 1) 3 i0 (.int .i64 0) 1 8 Tryd.underlying28 hi hz0 hz1 hz2 rfl (by decide) _ _ _ rfl (HI3.out.alloc _) ⟨w3.heap.size, 0, none⟩ 1 1 [.int .i64 (u' : Int)] rfl rfl (cell_one_new _ _ _) (one_of_int _) (by unfold maxLen; omega) (by omega) (by simp; omega) ?_; intro ls' w4 hown4 hgrow4 _))
        go_roundw
        case rel =>
          have hz4 := hgrow4.size
          rw [World.size_alloc] at hz4
          have hp4 := (hown3.alloc (.cells #[.int .i64 (u' : Int)] 3)).kept hgrow4 (own_apart (hown3.alloc (.cells #[.int .i64 (u' : Int)] 3)) (HI3.out.alloc (.cells #[.int .i64 (u' : Int)] 3)) (by decide))
          have far : ∀ (e size n : Nat) (v : Value) (xs : List Value) (W W' : World), W.ownsRow (B + 1 + 1) e size v n xs → W.grownBy W' v.ownBlock → ∀ (a : Addr) (y : Value), a.block ≤ B + 1 → W.cell? a = some y → W'.cell? a = some y ∧ W'.frozen? a = W.frozen? a := by
            intro e size n v xs W W' ho hg a y ha hc
            have hne : some a.block ≠ v.ownBlock := by intro he; have := (ho.lt _ he.symm).1; omega
            exact ⟨hg.cell hc hne, frozen_far hg hc hne⟩
          have al : ∀ (W : World) (o : Obj) (a : Addr) (y : Value), W.cell? a = some y → (W.alloc o).cell? a = some y ∧ (W.alloc o).frozen? a = W.frozen? a :=
            fun W o a y hc => ⟨(World.grownBy_alloc W o none).cell hc (by simp), frozen_far (World.grownBy_alloc W o none) hc (by simp)⟩
          obtain ⟨d1, d2, d3⟩ := HC2.out
          obtain ⟨a1, f1⟩ := al _ (.cells #[.bool c] 4) _ _ d1
          obtain ⟨a2, f2⟩ := far _ _ _ _ _ _ _ (HP2.out.alloc _) hgrow3 _ _ (Nat.le_refl _) a1
          obtain ⟨a3, f3⟩ := al _ (.cells #[.int .i64 (u' : Int)] 3) _ _ a2
          obtain ⟨a4, f4⟩ := far _ _ _ _ _ _ _ (HI3.out.alloc _) hgrow4 _ _ (Nat.le_refl _) a3
          have e1 := (al _ (.cells #[.bool c] 4) _ _ d3).1
          have e2 := (far _ _ _ _ _ _ _ (HP2.out.alloc _) hgrow3 _ _ (Nat.le_succ _) e1).1
          have e3 := (al _ (.cells #[.int .i64 (u' : Int)] 3) _ _ e2).1
          have e4 := (far _ _ _ _ _ _ _ (HI3.out.alloc _) hgrow4 _ _ (Nat.le_succ _) e3).1
          refine ⟨k + 1, by omega, by go_num, by rw [HU1.out], ?_, ?_, ⟨by rw [← HU1.out]; exact a4, f4.trans (f3.trans (f2.trans (f1.trans d2))), e4⟩, ?_, by omega⟩
          · rw [HS1.out, List.map_append]; exact hp4
          · rw [HS2.out, List.map_append]; exact hown4
          · exact (((hB2.alloc (by omega) _).grown hgrow3 (by simp; omega) (fun b e => by have := (HP2.out.lt b e).1; omega)).alloc (by omega) _).grown hgrow4 (by simp; omega) (fun b e => by have := (HI3.out.lt b e).1; omega)
        case measure => simp [intOf]; omega
      · have CC := hide (carrier_at (wr := wr) (B := B) (bx_out l k (by rw [HL.out]; omega)) hul hK.2 HCL.out)
        have hu : 0 < ld K (bx l) k := by omega
        obtain ⟨u, hu0⟩ : ∃ u, u = ld K (bx l) k := ⟨_, rfl⟩
        obtain ⟨u', hu1⟩ : ∃ u, u = ld K (bx l) (k + 1) := ⟨_, rfl⟩
        obtain ⟨c, hc0⟩ : ∃ c, c = tr K (bx l) k := ⟨_, rfl⟩
        have HS1 := hide ((stpU_succ K (bx l) k).trans (by rw [← hc0] : _ = stpU K (bx l) k ++ [c]))
        have HS2 := hide ((ldsU_succ K (bx l) (k + 1)).trans (by rw [← hu1] : _ = ldsU K (bx l) (k + 1) ++ [(u' : Int)]))
        have HU := hide hu0
        have HU1 := hide hu1
        rw [← hu1, ← hc0] at CC
        rw [← hu0] at hul hu ⊢
        clear hu0 hu1 hc0 hf
        go_wp2_with fail
        refine CC.out.mono ?_
        rintro e w2 ⟨rfl, hg2, hz2', hcl2, hfl2⟩
        have HP2 := hide (HP.out.kept hg2 (own_ne HP.out))
        have HI2 := hide (HI.out.kept hg2 (own_ne HI.out))
        have hcr2 := hg2.cell HCL.out.2.2 (by simp)
        have hB2 : Below B w w2 := HBW.out.grown hg2 (by omega) (fun b e => by injection e with e; omega)
        have HC2 := hide (And.intro hcl2 (And.intro hfl2 hcr2))
        have hge : wr.heap.size ≤ w2.heap.size := Nat.le_of_eq hz2'.symm
        clear hcl2 hfl2 hcr2 CC hz2'
        go_wp2_with (first | (at_builtin; refine wpList_append_own _ rfl _ _ 49 rfl (B + 1 + 1) 4 j0 (.bool false) 1 1 Tryd.underlying49 hj hy0 hy1 hy2 rfl (by decide) _ _ _ rfl (HP2.out.alloc _) ⟨w2.heap.size, 0, none⟩ 1 1 [.bool c] rfl rfl (cell_one_new _ _ _) (one_of_bool _) (by unfold maxLen; omega) (by omega) (by simp; omega) ?_; intro p' w3 hown3 hgrow3 _; have hz3 := hgrow3.size; rw [World.size_alloc] at hz3; have HI3 := hide ((HI2.out.alloc (.cells #[.bool c] 4)).kept hgrow3 (own_apart (HI2.out.alloc (.cells #[.bool c] 4)) (HP2.out.alloc (.cells #[.bool c] 4)) (by decide)))) | (at_builtin; refine wpList_append_own _ rfl _ _ 28 rfl (B + 1 + 1) 3 i0 (.int .i64 0) 1 8 Tryd.underlying28 hi hz0 hz1 hz2 rfl (by decide) _ _ _ rfl (HI3.out.alloc _) ⟨w3.heap.size, 0, none⟩ 1 1 [.int .i64 (u' : Int)] rfl rfl (cell_one_new _ _ _) (one_of_int _) (by unfold maxLen; omega) (by omega) (by simp; omega) ?_; intro ls' w4 hown4 hgrow4 _))
        go_roundw
        case rel =>
          have hz4 := hgrow4.size
          rw [World.size_alloc] at hz4
          have hp4 := (hown3.alloc (.cells #[.int .i64 (u' : Int)] 3)).kept hgrow4 (own_apart (hown3.alloc (.cells #[.int .i64 (u' : Int)] 3)) (HI3.out.alloc (.cells #[.int .i64 (u' : Int)] 3)) (by decide))
          have far : ∀ (e size n : Nat) (v : Value) (xs : List Value) (W W' : World), W.ownsRow (B + 1 + 1) e size v n xs → W.grownBy W' v.ownBlock → ∀ (a : Addr) (y : Value), a.block ≤ B + 1 → W.cell? a = some y → W'.cell? a = some y ∧ W'.frozen? a = W.frozen? a := by
            intro e size n v xs W W' ho hg a y ha hc
            have hne : some a.block ≠ v.ownBlock := by intro he; have := (ho.lt _ he.symm).1; omega
            exact ⟨hg.cell hc hne, frozen_far hg hc hne⟩
          have al : ∀ (W : World) (o : Obj) (a : Addr) (y : Value), W.cell? a = some y → (W.alloc o).cell? a = some y ∧ (W.alloc o).frozen? a = W.frozen? a :=
            fun W o a y hc => ⟨(World.grownBy_alloc W o none).cell hc (by simp), frozen_far (World.grownBy_alloc W o none) hc (by simp)⟩
          obtain ⟨d1, d2, d3⟩ := HC2.out
          obtain ⟨a1, f1⟩ := al _ (.cells #[.bool c] 4) _ _ d1
          obtain ⟨a2, f2⟩ := far _ _ _ _ _ _ _ (HP2.out.alloc _) hgrow3 _ _ (Nat.le_refl _) a1
          obtain ⟨a3, f3⟩ := al _ (.cells #[.int .i64 (u' : Int)] 3) _ _ a2
          obtain ⟨a4, f4⟩ := far _ _ _ _ _ _ _ (HI3.out.alloc _) hgrow4 _ _ (Nat.le_refl _) a3
          have e1 := (al _ (.cells #[.bool c] 4) _ _ d3).1
          have e2 := (far _ _ _ _ _ _ _ (HP2.out.alloc _) hgrow3 _ _ (Nat.le_succ _) e1).1
          have e3 := (al _ (.cells #[.int .i64 (u' : Int)] 3) _ _ e2).1
          have e4 := (far _ _ _ _ _ _ _ (HI3.out.alloc _) hgrow4 _ _ (Nat.le_succ _) e3).1
          refine ⟨k + 1, by omega, by go_num, by rw [HU1.out], ?_, ?_, ⟨by rw [← HU1.out]; exact a4, f4.trans (f3.trans (f2.trans (f1.trans d2))), e4⟩, ?_, by omega⟩
          · rw [HS1.out, List.map_append]; exact hp4
          · rw [HS2.out, List.map_append]; exact hown4
          · exact (((hB2.alloc (by omega) _).grown hgrow3 (by simp; omega) (fun b e => by have := (HP2.out.lt b e).1; omega)).alloc (by omega) _).grown hgrow4 (by simp; omega) (fun b e => by have := (HI3.out.lt b e).1; omega)
        case measure => simp [intOf]; omega
    · obtain rfl : k = fin K l := by omega
      have hu0 := ld_fin K l
      have hks : ¬ fin K l < n := by omega
      rw [hu0]
      clear hu0 hf hul
      go_wp2
      go_ret2
      exact ⟨_, _, rfl, (BoolsV.of_owns HP.out).mono (by omega), (IntsV.of_owns HI.out).mono (by omega), HBW.out⟩
end Go.Proofs.YteibopcneflidabDoor
