/- TEXTS Carrier, RowTurned. -/
import Derived.Test.YtdooboibmllfkaaGreatDoorExa06
import Derived.Test.YtdooboibmllfkaaGreatDoorExa04
import Derived.Deep.QuietTactic
import Derived.BigQuiet
import Derived.RegionTactic
import Derived.ChangeAlike
import Derived.BigRegion
namespace Go.Proofs.YtdooboibmllfkaaGreatDoor
set_option maxRecDepth 100000
open Go.RowKit

theorem drewN_grown (w : World) (k : Nat) (r : Option Nat) : w.grownBy (w.drewN k) r := ⟨rfl, rfl, rfl, Nat.le_refl _, fun _ _ _ => rfl⟩
theorem set_grown (w : World) (g : Nat) (v : Value) (k : Nat) : w.grownBy ((w.setCell ⟨g, 0, none⟩ v).drewN k) (some g) :=
  ⟨rfl, rfl, rfl, by show w.heap.size ≤ (World.setCell _ _ _).heap.size; simp [World.setCell], fun j _ hj => heap_setCell_other w ⟨g, 0, none⟩ j _ (fun e => hj (by simp [e]))⟩

def Carried (w : World) (gl : Nat) (K : Nat) (b : Bool) (u : Nat) (e : Ending) (w' : World) : Prop :=
  e = .returned (.tuple #[.bool (ot K b u), .int .i64 (nx K b u : Int)]) ∧ w.grownBy w' (some gl) ∧ w'.heap.size = w.heap.size ∧ w'.cell? ⟨gl, 0, none⟩ = some (.int .i64 (nx K b u : Int)) ∧ w'.frozen? ⟨gl, 0, none⟩ = false

theorem carried_set {w : World} {gl K u : Nat} {b : Bool} {v : Bool} {n : Int} (hc : w.cell? ⟨gl, 0, none⟩ = some (.int .i64 (u : Int))) (hf : w.frozen? ⟨gl, 0, none⟩ = false) (h1 : ot K b u = v) (h2 : (nx K b u : Int) = n) (k : Nat) :
    Carried w gl K b u (.returned (.tuple #[.bool v, .int .i64 n])) ((w.setCell ⟨gl, 0, none⟩ (.int .i64 n)).drewN k) := by
  refine ⟨by rw [h1, h2], set_grown w gl _ k, ?_, ?_, ?_⟩
  · show (World.setCell _ _ _).heap.size = _; simp [World.setCell]
  · show (World.setCell _ _ _).cell? _ = _; rw [World.cell?_setCell_same' _ _ _ (by rw [hc]; rfl), h2]
  · show (World.setCell _ _ _).frozen? _ = _; rw [World.frozen?_setCell]; exact hf
theorem carried_same {w : World} {gl K u : Nat} {b : Bool} {v : Bool} (hc : w.cell? ⟨gl, 0, none⟩ = some (.int .i64 (u : Int))) (hf : w.frozen? ⟨gl, 0, none⟩ = false) (h1 : ot K b u = v) (h2 : nx K b u = u) (k : Nat) :
    Carried w gl K b u (.returned (.tuple #[.bool v, .int .i64 (u : Int)])) (w.drewN k) :=
  ⟨by rw [h1, h2], drewN_grown w k _, rfl, by rw [h2]; exact hc, hf⟩

set_option maxHeartbeats 1000000 in
theorem carrier_any (w : World) (gl gr K u : Nat) (b : Bool) (hc : w.cell? ⟨gl, 0, none⟩ = some (.int .i64 (u : Int))) (hf : w.frozen? ⟨gl, 0, none⟩ = false) (hr : w.cell? ⟨gr, 0, none⟩ = some (.int .i64 (K : Int))) (hu : u ≤ 1000) :
    Calls Tryz.prog 200 #[.bool b, .pointer (some ⟨gl, 0, none⟩), .pointer (some ⟨gr, 0, none⟩)] w (Carried w gl K b u) := by
  have hset : ∀ v : Value, (w.setCell ⟨gl, 0, none⟩ v).cell? ⟨gl, 0, none⟩ = some v := fun v => World.cell?_setCell_same' _ _ _ (by rw [hc]; rfl)
  cases b
  · by_cases h0 : 0 < u
    · have F := hide (fun k => carried_set (K := K) (b := false) (v := true) (n := (u : Int) - 1) hc hf (by simp [ot, h0]) (by simp [nx]; omega) k)
      go_enter Tryz.func200, Tryz.ntmps200
      go_wp2
      go_quiet (fail)
      go_wp2
      go_ret2
      exact F.out _
    · obtain rfl : u = 0 := by omega
      have F := hide (fun k => carried_same (K := K) (b := false) (v := false) hc hf (by simp [ot]) (by simp [nx]) k)
      go_enter Tryz.func200, Tryz.ntmps200
      go_wp2
      go_quiet (fail)
      go_wp2
      go_ret2
      exact F.out _
  · by_cases h0 : u < K
    · have F := hide (fun k => carried_set (K := K) (b := true) (v := false) (n := (u : Int) + 1) hc hf (by simp [ot, h0]) (by simp [nx, h0]) k)
      go_enter Tryz.func200, Tryz.ntmps200
      go_wp2
      go_quiet (fail)
      go_wp2
      go_ret2
      exact F.out _
    · have F := hide (fun k => carried_same (K := K) (b := true) (v := true) hc hf (by simp [ot]; omega) (by simp [nx]; omega) k)
      go_enter Tryz.func200, Tryz.ntmps200
      go_wp2
      go_quiet (fail)
      go_wp2
      go_ret2
      exact F.out _

set_option maxHeartbeats 400000 in
theorem newCarrier_any (K : Nat) (w : World) :
    Calls Tryz.prog 172 #[.int .i64 (K : Int)] w fun e w' => e = .returned (.func (.func 200) #[] #[.pointer (some ⟨w.heap.size + 1, 0, none⟩), .pointer (some ⟨w.heap.size, 0, none⟩)]) ∧
      Below w.heap.size w w' ∧ w'.heap.size = w.heap.size + 2 ∧ w'.cell? ⟨w.heap.size + 1, 0, none⟩ = some (.int .i64 ((0 : Nat) : Int)) ∧ w'.frozen? ⟨w.heap.size + 1, 0, none⟩ = false ∧ w'.cell? ⟨w.heap.size, 0, none⟩ = some (.int .i64 (K : Int)) := by
  go_enter Tryz.func172, Tryz.ntmps172
  go_wp2
  go_ret
  have b1 := Boxed.new w 3 (.int .i64 (K : Int))
  have b2 := Boxed.new (w.alloc (.cells #[.int .i64 (K : Int)] 3)) 3 (.int .i64 0)
  rw [World.size_alloc] at b2
  exact ⟨rfl, ((Below.refl _ w).alloc (Nat.le_refl _) _).alloc (by simp) _, by simp, b2.cell, b2.frozen, (b1.alloc _).cell⟩

theorem own_ne {w : World} {b e size n : Nat} {v : Value} {xs : List Value} (h : w.ownsRow (b + 1) e size v n xs) : v.ownBlock = none ∨ v.ownBlock ≠ some b := by
  cases hv : v.ownBlock with
  | none => exact .inl rfl
  | some k => exact .inr (fun e => by have := (h.lt k hv).1; injection e with e; omega)
theorem own_apart {w : World} {base base' e e' size size' n n' : Nat} {v v' : Value} {xs xs' : List Value} (h : w.ownsRow base e size v n xs) (h' : w.ownsRow base' e' size' v' n' xs') (hne : e ≠ e') : v.ownBlock = none ∨ v.ownBlock ≠ v'.ownBlock := by
  rcases h.2 with ⟨rfl, _⟩ | ⟨g, cap, cur, rfl, hb, hg, _⟩
  · exact .inl rfl
  · refine .inr (fun he => ?_)
    rcases h'.2 with ⟨rfl, _⟩ | ⟨g', cap', cur', rfl, hb', hg', _⟩
    · simp [Value.ownBlock] at he
    · simp [Value.ownBlock] at he
      subst he
      rw [hg] at hg'
      simp at hg'
      exact hne hg'.2

def BoolsV (lo : Nat) (w : World) (v : Value) (l : List Bool) : Prop :=
  ∃ y g cap, v = .slice y l.length cap ∧ (0 < l.length → y = some ⟨g, 0, none⟩) ∧ CellsAt w g (l.map .bool) ∧ l.length ≤ cap ∧ cap ≤ maxLen ∧ lo ≤ g
theorem BoolsV.of_owns {w : World} {base e n : Nat} {v : Value} {l : List Bool} (h : w.ownsRow base e 1 v n (l.map .bool)) : BoolsV base w v l := by
  have hl : l.length = n := by have := h.1; simpa using this
  rcases h.2 with ⟨rfl, h0⟩ | ⟨g, cap, cur, rfl, hb, hg, hnc, hcm, hcs, htake⟩
  · obtain rfl : l = [] := List.eq_nil_of_length_eq_zero (by omega)
    exact ⟨none, base, 0, rfl, fun h => by simp at h, fun j v hv => by simp at hv, Nat.le_refl _, by unfold maxLen; omega, Nat.le_refl _⟩
  · exact ⟨_, g, cap, by rw [hl], fun _ => rfl, CellsAt.of_owns h, by omega, hcm, hb⟩

theorem BoolsV.mono {lo lo' : Nat} {w : World} {v : Value} {l : List Bool} (h : BoolsV lo w v l) (hl : lo' ≤ lo) : BoolsV lo' w v l := by
  obtain ⟨y, g, cap, h1, h2, h3, h4, h5, h6⟩ := h
  exact ⟨y, g, cap, h1, h2, h3, h4, h5, by omega⟩
def CarryRel (w : World) (B K : Nat) (l : List Bool) (p u ls i : Value) (wr : World) : Prop :=
  ∃ k : Nat, k ≤ fin K l ∧ i = .int .i64 (k : Int) ∧ u = .int .i64 (ld K (bx l) k : Int) ∧
    Hid (wr.ownsRow (B + 1 + 1) 4 1 p k ((stpU K (bx l) k).map .bool)) ∧ Hid (wr.ownsRow (B + 1 + 1) 3 1 ls (k + 1) ((ldsU K (bx l) (k + 1)).map (.int .i64))) ∧
    Hid (wr.cell? ⟨B + 1, 0, none⟩ = some (.int .i64 (ld K (bx l) k : Int)) ∧ wr.frozen? ⟨B + 1, 0, none⟩ = false ∧ wr.cell? ⟨B, 0, none⟩ = some (.int .i64 (K : Int))) ∧
    Hid (Below B w wr) ∧ B + 2 ≤ wr.heap.size

theorem frozen_far {w w' : World} {row : Option Nat} {a : Addr} {v : Value} (hg : w.grownBy w' row) (hc : w.cell? a = some v) (hne : some a.block ≠ row) : w'.frozen? a = w.frozen? a :=
  World.frozen?_of_block (hg.block _ (World.block_lt_of_cell? w a hc) hne)

theorem carrier_at {wr : World} {B K : Nat} {l : List Bool} {k : Nat} {b : Bool} (hb : bx l k = b) (hk : ld K (bx l) k ≤ K) (hK : K ≤ 200)
    (h : wr.cell? ⟨B + 1, 0, none⟩ = some (.int .i64 (ld K (bx l) k : Int)) ∧ wr.frozen? ⟨B + 1, 0, none⟩ = false ∧ wr.cell? ⟨B, 0, none⟩ = some (.int .i64 (K : Int))) :
    Calls Tryz.prog 200 #[.bool b, .pointer (some ⟨B + 1, 0, none⟩), .pointer (some ⟨B, 0, none⟩)] wr fun e w' =>
      e = .returned (.tuple #[.bool (tr K (bx l) k), .int .i64 (ld K (bx l) (k + 1) : Int)]) ∧ wr.grownBy w' (some (B + 1)) ∧ w'.heap.size = wr.heap.size ∧ w'.cell? ⟨B + 1, 0, none⟩ = some (.int .i64 (ld K (bx l) (k + 1) : Int)) ∧ w'.frozen? ⟨B + 1, 0, none⟩ = false := by
  subst hb
  exact carrier_any wr (B + 1) B K _ _ h.1 h.2.1 h.2.2 (by omega)

theorem one_of_bool (x : Bool) : ∀ u ∈ [Value.bool x], u.oneCell' = true := by intro u hu; simp at hu; subst hu; rfl

set_option maxHeartbeats 2000000 in
theorem carry_any (x : Option Addr) (g n cap K : Nat) (l : List Bool) (w : World) (hx : 0 < n → x = some ⟨g, 0, none⟩) (hl : l.length = n) (hc : CellsAt w g (l.map .bool)) (hn : n ≤ 120) (hK : 1 ≤ K ∧ K ≤ 200) :
    Calls Tryz.prog 140 #[.slice x n cap, .int .i64 (K : Int)] w fun e w' => ∃ v1 v2 : Value, e = .returned (.tuple #[v1, v2]) ∧ BoolsV w.heap.size w' v1 (stp K l) ∧ IntsV w.heap.size w' v2 (lds K l) ∧ Below w.heap.size w w' := by
  obtain ⟨i0, hi, hz0, hz1, hz2⟩ := info_parts infoI
  obtain ⟨j0, hj, hy0, hy1, hy2⟩ := info_parts infoB
  have HL := hide hl
  have HC := hide hc
  have HX := hide hx
  have hfin := fin_le K l
  rw [hl] at hfin
  obtain ⟨B, hB⟩ : ∃ B, w.heap.size = B := ⟨_, rfl⟩
  have HNC := hide (newCarrier_any K w)
  rw [hB] at HNC ⊢
  have HB := hide hB
  clear hl hc hx hB
  go_enter Tryz.func140, Tryz.ntmps140
  go_wp2_with fail
  refine HNC.out.mono ?_
  rintro e w1 ⟨rfl, hb1, hz, c1, c2, c3⟩
  have H0 := hide (World.ownsRow_lit (base := B + 1 + 1) (e := 3) (size := 1) w1 #[.int .i64 0] 1 (by omega) (by unfold maxLen; omega) rfl)
  have hB1 : Below B w (w1.alloc (.cells #[.int .i64 0] 3)) := hb1.alloc (by omega) _
  go_wp2
  go_loopw [7, 8, 9, 10] (CarryRel w B K l) (fun _ _ _ i _ => fin K l - (Go.RowKit.intOf i).toNat)
  case atStart =>
    refine ⟨0, Nat.zero_le _, rfl, rfl, World.ownsRow_nil _ _ _ _, ?_, ⟨?_, ?_, ?_⟩, hB1, by simp; omega⟩
    · have h := H0.out
      rw [hz] at h
      rw [ldsU_succ]; exact h
    · rw [World.cell?_alloc_past _ _ _ (World.block_lt_of_cell? w1 _ c1)]; exact c1
    · exact (frozen_far (World.grownBy_alloc w1 _ none) c1 (by simp)).trans c2
    · rw [World.cell?_alloc_past _ _ _ (World.block_lt_of_cell? w1 _ c3)]; exact c3
  case round =>
    obtain ⟨k, hk, rfl, rfl, HP, HI, HCL, HBW, hsz⟩ := hrel
    have hf := fin_lt K l k hk
    rw [HL.out] at hf
    have hul := ld_le K (bx l) k
    by_cases hlt : k < fin K l
    · by_cases hks : k < n
      · obtain rfl := HX.out (by omega)
        obtain ⟨b, hbk⟩ : ∃ b, l[k]? = some b := ⟨_, List.getElem?_eq_getElem (by rw [HL.out]; exact hks)⟩
        have hcell : wr.cell? ⟨g, k, none⟩ = some (.bool b) := ((HC.out.below' HBW.out (by rw [HB.out]; exact Nat.le_refl _)) k (.bool b) (by simp [hbk])).1
        have CC := hide (carrier_at (wr := wr) (B := B) (bx_some l k b hbk) hul hK.2 HCL.out)
        clear hbk
        obtain ⟨u, hu0⟩ : ∃ u, u = ld K (bx l) k := ⟨_, rfl⟩
        obtain ⟨u', hu1⟩ : ∃ u, u = ld K (bx l) (k + 1) := ⟨_, rfl⟩
        obtain ⟨c, hc0⟩ : ∃ c, c = tr K (bx l) k := ⟨_, rfl⟩
        have HS1 := hide ((stpU_succ K (bx l) k).trans (by rw [← hc0] : _ = stpU K (bx l) k ++ [c]))
        have HS2 := hide ((ldsU_succ K (bx l) (k + 1)).trans (by rw [← hu1] : _ = ldsU K (bx l) (k + 1) ++ [(u' : Int)]))
        have HU := hide hu0
        have HU1 := hide hu1
        rw [← hu1, ← hc0] at CC
        rw [← hu0] at hul ⊢
        clear hu0 hu1 hc0 hf
        go_wp2_with fail
        refine CC.out.mono ?_
        rintro e w2 ⟨rfl, hg2, hz2', hcl2, hfl2⟩
        have HP2 := hide (HP.out.kept hg2 (own_ne HP.out))
        have HI2 := hide (HI.out.kept hg2 (own_ne HI.out))
        have hcr2 := hg2.cell HCL.out.2.2 (by simp)
        have hB2 : Below B w w2 := HBW.out.grown hg2 (by omega) (fun b e => by injection e with e; omega)
        have HC2 := hide (And.intro hcl2 (And.intro hfl2 hcr2))
        have hge : wr.heap.size ≤ w2.heap.size := Nat.le_of_eq hz2'.symm
        clear hcl2 hfl2 hcr2 CC hz2'
        go_wp2_with (first | (at_builtin; refine wpList_append_own _ rfl _ _ 116 rfl (B + 1 + 1) 4 j0 (.bool false) 1 1 Tryz.underlying116 hj hy0 hy1 hy2 rfl (by decide) _ _ _ rfl (HP2.out.alloc _) ⟨w2.heap.size, 0, none⟩ 1 1 [.bool c] rfl rfl (cell_one_new _ _ _) (one_of_bool _) (by unfold maxLen; omega) (by omega) (by simp; omega) ?_; intro p' w3 hown3 hgrow3 _; have hz3 := hgrow3.size; rw [World.size_alloc] at hz3; have HI3 := hide ((HI2.out.alloc (.cells #[.bool c] 4)).kept hgrow3 (own_apart (HI2.out.alloc (.cells #[.bool c] 4)) (HP2.out.alloc (.cells #[.bool c] 4)) (by decide)))) | (at_builtin; refine wpList_append_own _ rfl _ _ 79 rfl (B + 1 + 1) 3 i0 (.int .i64 0) 1 8 Tryz.underlying79 hi hz0 hz1 hz2 rfl (by decide) _ _ _ rfl (HI3.out.alloc _) ⟨w3.heap.size, 0, none⟩ 1 1 [.int .i64 (u' : Int)] rfl rfl (cell_one_new _ _ _) (one_of_int _) (by unfold maxLen; omega) (by omega) (by simp; omega) ?_; intro ls' w4 hown4 hgrow4 _))
        go_roundw
        case rel =>
          have hz4 := hgrow4.size
          rw [World.size_alloc] at hz4
          have hp4 := (hown3.alloc (.cells #[.int .i64 (u' : Int)] 3)).kept hgrow4 (own_apart (hown3.alloc (.cells #[.int .i64 (u' : Int)] 3)) (HI3.out.alloc (.cells #[.int .i64 (u' : Int)] 3)) (by decide))
          have far : ∀ (e size n : Nat) (v : Value) (xs : List Value) (W W' : World), W.ownsRow (B + 1 + 1) e size v n xs → W.grownBy W' v.ownBlock → ∀ (a : Addr) (y : Value), a.block ≤ B + 1 → W.cell? a = some y → W'.cell? a = some y ∧ W'.frozen? a = W.frozen? a := by
            intro e size n v xs W W' ho hg a y ha hc
            have hne : some a.block ≠ v.ownBlock := by intro he; have := (ho.lt _ he.symm).1; omega
            exact ⟨hg.cell hc hne, frozen_far hg hc hne⟩
          have al : ∀ (W : World) (o : Obj) (a : Addr) (y : Value), W.cell? a = some y → (W.alloc o).cell? a = some y ∧ (W.alloc o).frozen? a = W.frozen? a :=
            fun W o a y hc => ⟨(World.grownBy_alloc W o none).cell hc (by simp), frozen_far (World.grownBy_alloc W o none) hc (by simp)⟩
          obtain ⟨d1, d2, d3⟩ := HC2.out
          obtain ⟨a1, f1⟩ := al _ (.cells #[.bool c] 4) _ _ d1
          obtain ⟨a2, f2⟩ := far _ _ _ _ _ _ _ (HP2.out.alloc _) hgrow3 _ _ (Nat.le_refl _) a1
          obtain ⟨a3, f3⟩ := al _ (.cells #[.int .i64 (u' : Int)] 3) _ _ a2
          obtain ⟨a4, f4⟩ := far _ _ _ _ _ _ _ (HI3.out.alloc _) hgrow4 _ _ (Nat.le_refl _) a3
          have e1 := (al _ (.cells #[.bool c] 4) _ _ d3).1
          have e2 := (far _ _ _ _ _ _ _ (HP2.out.alloc _) hgrow3 _ _ (Nat.le_succ _) e1).1
          have e3 := (al _ (.cells #[.int .i64 (u' : Int)] 3) _ _ e2).1
          have e4 := (far _ _ _ _ _ _ _ (HI3.out.alloc _) hgrow4 _ _ (Nat.le_succ _) e3).1
          refine ⟨k + 1, by omega, by go_num, by rw [HU1.out], ?_, ?_, ⟨by rw [← HU1.out]; exact a4, f4.trans (f3.trans (f2.trans (f1.trans d2))), e4⟩, ?_, by omega⟩
          · rw [HS1.out, List.map_append]; exact hp4
          · rw [HS2.out, List.map_append]; exact hown4
          · exact (((hB2.alloc (by omega) _).grown hgrow3 (by simp; omega) (fun b e => by have := (HP2.out.lt b e).1; omega)).alloc (by omega) _).grown hgrow4 (by simp; omega) (fun b e => by have := (HI3.out.lt b e).1; omega)
        case measure => simp [Go.RowKit.intOf]; omega
      · have CC := hide (carrier_at (wr := wr) (B := B) (bx_out l k (by rw [HL.out]; omega)) hul hK.2 HCL.out)
        have hu : 0 < ld K (bx l) k := by omega
        obtain ⟨u, hu0⟩ : ∃ u, u = ld K (bx l) k := ⟨_, rfl⟩
        obtain ⟨u', hu1⟩ : ∃ u, u = ld K (bx l) (k + 1) := ⟨_, rfl⟩
        obtain ⟨c, hc0⟩ : ∃ c, c = tr K (bx l) k := ⟨_, rfl⟩
        have HS1 := hide ((stpU_succ K (bx l) k).trans (by rw [← hc0] : _ = stpU K (bx l) k ++ [c]))
        have HS2 := hide ((ldsU_succ K (bx l) (k + 1)).trans (by rw [← hu1] : _ = ldsU K (bx l) (k + 1) ++ [(u' : Int)]))
        have HU := hide hu0
        have HU1 := hide hu1
        rw [← hu1, ← hc0] at CC
        rw [← hu0] at hul hu ⊢
        clear hu0 hu1 hc0 hf
        go_wp2_with fail
        refine CC.out.mono ?_
        rintro e w2 ⟨rfl, hg2, hz2', hcl2, hfl2⟩
        have HP2 := hide (HP.out.kept hg2 (own_ne HP.out))
        have HI2 := hide (HI.out.kept hg2 (own_ne HI.out))
        have hcr2 := hg2.cell HCL.out.2.2 (by simp)
        have hB2 : Below B w w2 := HBW.out.grown hg2 (by omega) (fun b e => by injection e with e; omega)
        have HC2 := hide (And.intro hcl2 (And.intro hfl2 hcr2))
        have hge : wr.heap.size ≤ w2.heap.size := Nat.le_of_eq hz2'.symm
        clear hcl2 hfl2 hcr2 CC hz2'
        go_wp2_with (first | (at_builtin; refine wpList_append_own _ rfl _ _ 116 rfl (B + 1 + 1) 4 j0 (.bool false) 1 1 Tryz.underlying116 hj hy0 hy1 hy2 rfl (by decide) _ _ _ rfl (HP2.out.alloc _) ⟨w2.heap.size, 0, none⟩ 1 1 [.bool c] rfl rfl (cell_one_new _ _ _) (one_of_bool _) (by unfold maxLen; omega) (by omega) (by simp; omega) ?_; intro p' w3 hown3 hgrow3 _; have hz3 := hgrow3.size; rw [World.size_alloc] at hz3; have HI3 := hide ((HI2.out.alloc (.cells #[.bool c] 4)).kept hgrow3 (own_apart (HI2.out.alloc (.cells #[.bool c] 4)) (HP2.out.alloc (.cells #[.bool c] 4)) (by decide)))) | (at_builtin; refine wpList_append_own _ rfl _ _ 79 rfl (B + 1 + 1) 3 i0 (.int .i64 0) 1 8 Tryz.underlying79 hi hz0 hz1 hz2 rfl (by decide) _ _ _ rfl (HI3.out.alloc _) ⟨w3.heap.size, 0, none⟩ 1 1 [.int .i64 (u' : Int)] rfl rfl (cell_one_new _ _ _) (one_of_int _) (by unfold maxLen; omega) (by omega) (by simp; omega) ?_; intro ls' w4 hown4 hgrow4 _))
        go_roundw
        case rel =>
          have hz4 := hgrow4.size
          rw [World.size_alloc] at hz4
          have hp4 := (hown3.alloc (.cells #[.int .i64 (u' : Int)] 3)).kept hgrow4 (own_apart (hown3.alloc (.cells #[.int .i64 (u' : Int)] 3)) (HI3.out.alloc (.cells #[.int .i64 (u' : Int)] 3)) (by decide))
          have far : ∀ (e size n : Nat) (v : Value) (xs : List Value) (W W' : World), W.ownsRow (B + 1 + 1) e size v n xs → W.grownBy W' v.ownBlock → ∀ (a : Addr) (y : Value), a.block ≤ B + 1 → W.cell? a = some y → W'.cell? a = some y ∧ W'.frozen? a = W.frozen? a := by
            intro e size n v xs W W' ho hg a y ha hc
            have hne : some a.block ≠ v.ownBlock := by intro he; have := (ho.lt _ he.symm).1; omega
            exact ⟨hg.cell hc hne, frozen_far hg hc hne⟩
          have al : ∀ (W : World) (o : Obj) (a : Addr) (y : Value), W.cell? a = some y → (W.alloc o).cell? a = some y ∧ (W.alloc o).frozen? a = W.frozen? a :=
            fun W o a y hc => ⟨(World.grownBy_alloc W o none).cell hc (by simp), frozen_far (World.grownBy_alloc W o none) hc (by simp)⟩
          obtain ⟨d1, d2, d3⟩ := HC2.out
          obtain ⟨a1, f1⟩ := al _ (.cells #[.bool c] 4) _ _ d1
          obtain ⟨a2, f2⟩ := far _ _ _ _ _ _ _ (HP2.out.alloc _) hgrow3 _ _ (Nat.le_refl _) a1
          obtain ⟨a3, f3⟩ := al _ (.cells #[.int .i64 (u' : Int)] 3) _ _ a2
          obtain ⟨a4, f4⟩ := far _ _ _ _ _ _ _ (HI3.out.alloc _) hgrow4 _ _ (Nat.le_refl _) a3
          have e1 := (al _ (.cells #[.bool c] 4) _ _ d3).1
          have e2 := (far _ _ _ _ _ _ _ (HP2.out.alloc _) hgrow3 _ _ (Nat.le_succ _) e1).1
          have e3 := (al _ (.cells #[.int .i64 (u' : Int)] 3) _ _ e2).1
          have e4 := (far _ _ _ _ _ _ _ (HI3.out.alloc _) hgrow4 _ _ (Nat.le_succ _) e3).1
          refine ⟨k + 1, by omega, by go_num, by rw [HU1.out], ?_, ?_, ⟨by rw [← HU1.out]; exact a4, f4.trans (f3.trans (f2.trans (f1.trans d2))), e4⟩, ?_, by omega⟩
          · rw [HS1.out, List.map_append]; exact hp4
          · rw [HS2.out, List.map_append]; exact hown4
          · exact (((hB2.alloc (by omega) _).grown hgrow3 (by simp; omega) (fun b e => by have := (HP2.out.lt b e).1; omega)).alloc (by omega) _).grown hgrow4 (by simp; omega) (fun b e => by have := (HI3.out.lt b e).1; omega)
        case measure => simp [Go.RowKit.intOf]; omega
    · obtain rfl : k = fin K l := by omega
      have hu0 := ld_fin K l
      have hks : ¬ fin K l < n := by omega
      rw [hu0]
      clear hu0 hf hul
      go_wp2
      go_ret2
      exact ⟨_, _, rfl, (BoolsV.of_owns HP.out).mono (by omega), (IntsV.of_owns HI.out).mono (by omega), HBW.out⟩
end Go.Proofs.YtdooboibmllfkaaGreatDoor

namespace Go.Proofs.YtdooboibmllfkaaGreatDoor
set_option maxRecDepth 100000
open Go.RowKit

def Turned (l xs : List Bool) (k : Nat) : Prop := xs.length = l.length ∧ ∀ j, j < l.length → xs[j]? = if j < k ∨ l.length - 1 - j < k then l[l.length - 1 - j]? else l[j]?
theorem Turned.start (l : List Bool) : Turned l l 0 := ⟨rfl, fun j _ => by simp⟩
theorem Turned.step {l xs : List Bool} {k m : Nat} (h : Turned l xs k) (hk : k < m) (hm : k + m + 1 = l.length) (x y : Bool) (hx : l[k]? = some x) (hy : l[m]? = some y) : Turned l ((xs.set k y).set m x) (k + 1) := by
  refine ⟨by simp [h.1], ?_⟩
  intro j hj
  have hl := h.1
  rw [List.getElem?_set, List.getElem?_set]
  by_cases e1 : m = j
  · subst e1
    rw [if_pos rfl, if_pos (by simp; omega), if_pos (by omega), show l.length - 1 - m = k by omega, hx]
  · rw [if_neg e1]
    by_cases e2 : k = j
    · subst e2
      rw [if_pos rfl, if_pos (by omega), if_pos (by omega), show l.length - 1 - k = m by omega, hy]
    · rw [if_neg e2, h.2 j hj]
      by_cases c : j < k ∨ l.length - 1 - j < k
      · rw [if_pos c, if_pos (by omega)]
      · rw [if_neg c, if_neg (by omega)]
theorem Turned.stop {l xs : List Bool} {k m : Nat} (h : Turned l xs k) (hk : ¬ k < m) (hm : k + m + 1 = l.length) : xs = l.reverse := by
  apply List.ext_getElem?
  intro j
  by_cases hj : j < l.length
  · rw [h.2 j hj, List.getElem?_reverse hj]
    by_cases c : j < k ∨ l.length - 1 - j < k
    · rw [if_pos c]
    · rw [if_neg c, show l.length - 1 - j = j by omega]
  · rw [List.getElem?_eq_none_iff.2 (by rw [h.1]; omega), List.getElem?_eq_none_iff.2 (by simp; omega)]

set_option maxHeartbeats 400000 in
theorem reverse_none (a : Option Addr) (cap : Nat) (w : World) :
    Calls Tryz.prog 141 #[.slice a 0 cap] w fun e w' => e = .returned (.tuple #[]) ∧ w = w' := by
  go_enter Tryz.func141, Tryz.ntmps141
  go_wp2
  go_loop [2, 3] (fun i j => i = .int .i64 0 ∧ j = .int .i64 (-1)) (fun _ _ => 0)
  case atStart => exact ⟨rfl, rfl⟩
  case round =>
    obtain ⟨rfl, rfl⟩ := hrel
    go_wp2
    go_end0
    exact ⟨rfl, rfl⟩

set_option maxHeartbeats 1000000 in
theorem reverse_some (g n cap B : Nat) (l : List Bool) (w : World) (hl : l.length = n) (h0 : 0 < n) (hm : n ≤ 1000) (hB : B ≤ g) (hc : CellsAt w g (l.map .bool)) :
    Calls Tryz.prog 141 #[.slice (some ⟨g, 0, none⟩) n cap] w fun e w' => e = .returned (.tuple #[]) ∧ Below B w w' ∧ CellsAt w' g (l.reverse.map .bool) := by
  have HL := hide hl
  have HC := hide hc
  clear hl hc
  go_enter Tryz.func141, Tryz.ntmps141
  go_wp2
  go_loopw [2, 3] (fun i j wr => ∃ k m : Nat, i = .int .i64 (k : Int) ∧ j = .int .i64 (m : Int) ∧ Hid (k + m + 1 = n) ∧ Hid (Below B w wr) ∧ ∃ xs : List Bool, Hid (Turned l xs k) ∧ Hid (CellsAt wr g (xs.map .bool))) (fun _ j _ => (Go.RowKit.intOf j).toNat)
  case atStart => exact ⟨0, n - 1, rfl, by congr 1; omega, by simp [Hid]; omega, Below.refl _ _, l, Turned.start l, HC.out⟩
  case round =>
    obtain ⟨k, m, rfl, rfl, HN, HB, xs, HT, HX⟩ := hrel
    by_cases hlt : k < m
    · have hkm := HN.out
      obtain ⟨x, hx⟩ : ∃ x, l[k]? = some x := ⟨_, List.getElem?_eq_getElem (by rw [HL.out]; omega)⟩
      obtain ⟨y, hy⟩ : ∃ y, l[m]? = some y := ⟨_, List.getElem?_eq_getElem (by rw [HL.out]; omega)⟩
      have hxk : xs[k]? = some x := by rw [HT.out.2 k (by rw [HL.out]; omega), if_neg (by rw [HL.out]; omega)]; exact hx
      have hxm : xs[m]? = some y := by rw [HT.out.2 m (by rw [HL.out]; omega), if_neg (by rw [HL.out]; omega)]; exact hy
      obtain ⟨hck, hfk⟩ := HX.out k (.bool x) (by simp [hxk])
      obtain ⟨hcm, hfm⟩ := HX.out m (.bool y) (by simp [hxm])
      have HS := hide (HT.out.step hlt (by rw [HL.out]; exact hkm) x y hx hy)
      have HXL := hide (show xs.length = n by rw [HT.out.1, HL.out])
      clear hx hy hxk hxm
      have i0 : (0 : Int) ≤ (k : Int) := by omega
      have i1 : (k : Int) < (n : Int) := by omega
      have i2 : (0 : Int) ≤ (m : Int) := by omega
      have i3 : (m : Int) < (n : Int) := by omega
      have i4 : ¬ k = m := by omega
      have i5 : ¬ m = k := by omega
      clear hkm
      go_wp2
      go_region
      all_goals go_wp2
      go_roundw
      case rel =>
        refine ⟨k + 1, m - 1, by go_num, by congr 1; omega, by have := HN.out; simp [Hid]; omega, ((HB.out.setCell hB _).setCell hB _).drew, _, HS, ?_⟩
        have h1 := (HX.out.set k (by rw [List.length_map, HXL.out]; omega) (.bool y)).set m (by rw [List.length_set, List.length_map, HXL.out]; omega) (.bool x)
        rw [List.map_set, List.map_set]
        exact h1
      case measure => simp [Go.RowKit.intOf]; omega
    · go_wp2
      go_end0
      have := HT.out.stop hlt (by rw [HL.out]; exact HN.out)
      exact ⟨rfl, HB.out, by rw [← this]; exact HX.out⟩

theorem reverse_any (g n cap B : Nat) (l : List Bool) (w : World) (hl : l.length = n) (hm : n ≤ 1000) (hB : B ≤ g) (hc : CellsAt w g (l.map .bool)) :
    Calls Tryz.prog 141 #[.slice (some ⟨g, 0, none⟩) n cap] w fun e w' => e = .returned (.tuple #[]) ∧ Below B w w' ∧ CellsAt w' g (l.reverse.map .bool) := by
  by_cases h0 : n = 0
  · subst h0
    obtain rfl : l = [] := List.eq_nil_of_length_eq_zero hl
    refine (reverse_none (some ⟨g, 0, none⟩) cap w).mono ?_
    rintro e w' ⟨rfl, rfl⟩
    exact ⟨rfl, Below.refl _ _, hc⟩
  · exact reverse_some g n cap B l w hl (by omega) hm hB hc
end Go.Proofs.YtdooboibmllfkaaGreatDoor

namespace Go.Proofs.YtdooboibmllfkaaGreatDoor
set_option maxRecDepth 100000
open Go.RowKit

def turnB (l : List Bool) : List Bool := cut (cut l).reverse
def turnS (s : ByteArray) : ByteArray := if vld s then ofBits (turnB (bits s)) else ByteArray.empty

theorem sub_toList (t : ByteArray) (k : Nat) (h : k < t.size) : (t.extract k (k + 1)).data.toList = [t[k]] := by
  rw [Lib.extract_data, show k + 1 - k = 1 by omega, List.drop_eq_getElem_cons (by simpa using h)]
  simp
  rfl

set_option maxHeartbeats 400000 in
theorem specRowTurned_any (s : ByteArray) (w : World) (hs : s.size ≤ maxLen) :
    Calls Tryz.prog 31 #[.string s] w fun e w' => e = .returned (.tuple #[.string (turnS s), .bool (vld s)]) ∧ w = w' := by
  unfold turnS
  cases hv : vld s
  · go_enter Tryz.func31, Tryz.ntmps31
    go_wp2_with (go_at_call 42; refine (specRowValid_any _ _ hs).mono ?_; rintro e w' ⟨rfl, rfl⟩)
    go_ret2
    exact ⟨rfl, rfl⟩
  · have h120 := vld_le s hv
    have hg := vld_sgn s hv
    have C := hide (fun w => l1Tidy_any s w hs hg)
    have ht1 : (tidyS s).size ≤ 120 := by have : (tidyS s).size ≤ s.size := by unfold tidyS; simp; omega
                                          omega
    have hbt : bits (tidyS s) = cut (bits s) := by
      unfold bits cut tidyS
      rw [Lib.extract_data]
      simp [bits]
    have hat : allSgn (tidyS s).data.toList = true := by
      have hl : (tidyS s).data.toList = s.data.toList.take (tl (bits s)) := by
        unfold tidyS
        rw [Lib.extract_data]
        simp
      rw [hl]
      unfold allSgn at hg ⊢
      rw [List.all_eq_true] at hg ⊢
      exact fun c hc => hg c (List.mem_of_mem_take hc)
    have fin : ∀ out : ByteArray, out.data.toList = (tidyS s).data.toList.reverse → out.size ≤ maxLen ∧ allSgn out.data.toList = true ∧ tidyS out = ofBits (turnB (bits s)) := by
      intro out ho
      have hz : out.size = (tidyS s).size := by have := congrArg List.length ho; simpa using this
      have ha : allSgn out.data.toList = true := by
        rw [ho]; unfold allSgn at hat ⊢
        rw [List.all_eq_true] at hat ⊢
        exact fun c hc => hat c (List.mem_reverse.1 hc)
      refine ⟨by rw [hz]; unfold maxLen; omega, ha, ?_⟩
      rw [← tidyS_eq out ha]
      have hb : bits out = (cut (bits s)).reverse := by
        rw [← hbt]; unfold bits; rw [ho, List.map_reverse]
      rw [hb]; rfl
    have FIN := hide fin
    obtain ⟨t, ht⟩ : ∃ t, t = tidyS s := ⟨_, rfl⟩
    rw [← ht] at C FIN ht1
    clear ht fin hbt hat
    go_enter Tryz.func31, Tryz.ntmps31
    go_wp2_with (first | (go_at_call 42; refine (specRowValid_any _ _ hs).mono ?_; rintro e w' ⟨rfl, rfl⟩) | (go_at_call 35; refine (C.out _).mono ?_; rintro e w' ⟨rfl, rfl⟩))
    go_loop [5, 6] (fun o i => ∃ (x : ByteArray) (k : Nat), k ≤ t.size ∧ o = .string x ∧ i = .int .i64 (k : Int) ∧ x.size ≤ k ∧ Hid (x.data.toList = (t.data.toList.take k).reverse)) (fun _ i => t.size - (Go.RowKit.intOf i).toNat)
    case atStart => exact ⟨⟨#[]⟩, 0, Nat.zero_le _, rfl, rfl, Nat.zero_le _, rfl⟩
    case round =>
      obtain ⟨x, k, hk, rfl, rfl, hxk, HX⟩ := hrel
      by_cases hlt : k < t.size
      · have HS := hide (sub_toList t k hlt)
        have HT := hide (take_snoc t k hlt)
        go_wp2
        go_round
        case rel =>
          have h1 : (t.extract k (k + 1)).size ≤ 1 := by simp; omega
          have h2 : ((t.extract k (k + 1)) ++ x).size ≤ k + 1 := by rw [ByteArray.size_append]; omega
          refine ⟨_, k + 1, by omega, rfl, by go_num, h2, ?_⟩
          show ((t.extract k (k + 1)) ++ x).data.toList = _
          rw [ByteArray.data_append, Array.toList_append, HS.out, HX.out, HT.out, List.reverse_append]; rfl
        case measure => simp [Go.RowKit.intOf]; omega
      · have HX2 := hide (show x.data.toList = t.data.toList.reverse by rw [HX.out, List.take_of_length_le (by simp; omega)])
        obtain ⟨f1, f2, f3⟩ := FIN.out x HX2.out
        have F3 := hide f3
        clear f3
        go_wp2_with (go_at_call 35; refine (l1Tidy_any x _ f1 f2).mono ?_; rintro e w' ⟨rfl, rfl⟩)
        rw [F3.out]
        go_ret2
        exact ⟨rfl, rfl⟩

set_option maxHeartbeats 400000 in
theorem implRowTurned_any (s : ByteArray) (w : World) (hs : s.size ≤ maxLen) :
    Calls Tryz.prog 112 #[.string s] w fun e w' => e = .returned (.tuple #[.string (turnS s), .bool (vld s)]) ∧ Below w.heap.size w w' := by
  unfold turnS
  cases hv : vld s
  · go_enter Tryz.func112, Tryz.ntmps112
    go_wp2_with (go_at_call 132; refine (readRow_no _ _ hs hv).mono ?_; rintro e w' ⟨rfl, rfl⟩)
    go_ret2
    exact ⟨rfl, Below.refl _ _⟩
  · have h120 := vld_le s hv
    have hle := tl_le (bits s)
    rw [length_bits] at hle
    have C1 := hide (fun w => readRow_yes s w hv)
    have HC := hide (cut_length (bits s))
    have HM := hide (cut_map (bits s))
    have HR := hide (show (cut (bits s)).reverse.length = tl (bits s) by rw [List.length_reverse, cut_length])
    obtain ⟨t, ht⟩ : ∃ t, t = tl (bits s) := ⟨_, rfl⟩
    rw [← ht] at hle C1 HC HM HR
    clear ht
    go_enter Tryz.func112, Tryz.ntmps112
    go_wp2_with fail
    refine (C1.out _).mono ?_
    rintro e w1 ⟨rfl, hb1, hc1, hz1⟩
    go_wp2_with fail
    refine (reverse_any w.heap.size t s.size w.heap.size (cut (bits s)) w1 HC.out (by omega) (Nat.le_refl _) (by rw [HM.out]; exact hc1.take t)).mono ?_
    rintro e w2 ⟨rfl, hb2, hc2⟩
    go_wp2_with fail
    refine (text_any _ t s.size (cut (bits s)).reverse w2 HR.out hc2 hle hs (by omega)).mono ?_
    rintro e w3 ⟨rfl, hb3⟩
    go_wp2_with fail
    go_ret2
    have hb12 := hb1.trans hb2
    exact ⟨rfl, hb12.trans (hb3.mono hb12.size)⟩

end Go.Proofs.YtdooboibmllfkaaGreatDoor
