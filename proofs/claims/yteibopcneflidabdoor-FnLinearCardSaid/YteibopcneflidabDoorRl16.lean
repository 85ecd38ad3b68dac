/- TEXTS CmpP. -/
import Derived.Test.YteibopcneflidabDoorRl10
import Derived.Deep.RegionHeld3
/- THE WALK of the program's compareParts. -/
namespace Go.Proofs.YteibopcneflidabDoor
open Go.RowKit Go.Sort Go.Shelf

/-- a cell of the block laid last, behind draws -/
theorem cell_lit (W W' : World) (cs : Array Value) (t b j : Nat) (hb : b = W.heap.size) (hw : W'.heap = (W.alloc (.cells cs t)).heap) {v : Value} (hv : cs[j]? = some v) : W'.cell? ⟨b, j, none⟩ = some v := by
  have e : W'.cell? ⟨b, j, none⟩ = (W.alloc (.cells cs t)).cell? ⟨b, j, none⟩ := World.cell?_of_block (by rw [hw])
  rw [e, World.cell?_alloc_at _ _ _ _ hb]
  exact hv

set_option maxRecDepth 100000 in
set_option maxHeartbeats 4000000 in
theorem compareParts_grw (a b : Int × Int) (w : World) :
    Calls Tryd.prog 43 #[pV a, pV b] w fun e w' => e = .returned (.int .i64 (cpP a b)) ∧ Grw w w' := by
  unfold pV cpP
  obtain ⟨a1, a2⟩ := a
  obtain ⟨b1, b2⟩ := b
  have CA := hide (fun w => falling_any a1 b1 w)
  have CB := hide (fun w => falling_any a2 b2 w)
  show Calls Tryd.prog 43 #[.agg #[.int .i64 a1, .int .i64 a2], .agg #[.int .i64 b1, .int .i64 b2]] w fun e w' => e = .returned (.int .i64 (if cmpI b1 a1 = 0 then cmpI b2 a2 else cmpI b1 a1)) ∧ Grw w w'
  obtain ⟨s, hs⟩ : ∃ s, s = cmpI b1 a1 := ⟨_, rfl⟩
  obtain ⟨t, ht⟩ : ∃ t, t = cmpI b2 a2 := ⟨_, rfl⟩
  rw [← hs] at CA ⊢
  rw [← ht] at CB ⊢
  clear hs ht
  obtain ⟨r, hr⟩ : ∃ r, (if s = 0 then t else s) = r := ⟨_, rfl⟩
  have HOR := hide (fun b c w h0 h1 => or_any s t r hr b c w h0 h1)
  rw [hr]
  clear hr
  obtain ⟨W, hW⟩ : ∃ W, W = (w.alloc (.cells #[.int .i64 a1, .int .i64 a2] 44)).alloc (.cells #[.int .i64 b1, .int .i64 b2] 44) := ⟨_, rfl⟩
  have hlt : w.heap.size < (w.alloc (.cells #[.int .i64 a1, .int .i64 a2] 44)).heap.size := by simp
  have c1 : W.cell? ⟨w.heap.size, 0, none⟩ = some (.int .i64 a1) := by rw [hW, World.cell?_alloc_lt _ _ ⟨w.heap.size, 0, none⟩ hlt, World.cell?_alloc_at _ _ _ _ rfl]; rfl
  have c2 : W.cell? ⟨w.heap.size, 1, none⟩ = some (.int .i64 a2) := by rw [hW, World.cell?_alloc_lt _ _ ⟨w.heap.size, 1, none⟩ hlt, World.cell?_alloc_at _ _ _ _ rfl]; rfl
  have c3 : W.cell? ⟨w.heap.size + 1, 0, none⟩ = some (.int .i64 b1) := by rw [hW, World.cell?_alloc_at _ _ _ _ (by simp)]; rfl
  have c4 : W.cell? ⟨w.heap.size + 1, 1, none⟩ = some (.int .i64 b2) := by rw [hW, World.cell?_alloc_at _ _ _ _ (by simp)]; rfl
  have HG : Hid (Grw w W) := by
    rw [hW]
    exact hide ((Grw.alloc w _).trans (Grw.alloc _ _))
  clear hlt
  go_enter Tryd.func43, Tryd.ntmps43
  go_wp2
  rw [← hW]
  clear hW
  go_region_held3 (fun w' => w'.cell? ⟨w.heap.size, 0, none⟩ = some (.int .i64 a1) ∧ w'.cell? ⟨w.heap.size, 1, none⟩ = some (.int .i64 a2) ∧ w'.cell? ⟨w.heap.size + 1, 0, none⟩ = some (.int .i64 b1) ∧ w'.cell? ⟨w.heap.size + 1, 1, none⟩ = some (.int .i64 b2))
    (first | exact ⟨c1, c2, c3, c4⟩ | go_keep | fail)
    (first
      | (go_at_call 61; (first | (with_reducible refine (CA.out _).mono ?_) | (with_reducible refine (CB.out _).mono ?_)); rintro e w' ⟨rfl, rfl⟩)
      | (go_at_call 60; refine (HOR.out _ _ _ ?_ ?_).mono ?_; exact cell_lit W _ #[.int .i64 s, .int .i64 t] 3 _ 0 rfl rfl rfl; exact cell_lit W _ #[.int .i64 s, .int .i64 t] 3 _ 1 rfl rfl rfl; rintro e w' ⟨rfl, rfl⟩)
      | fail)
  all_goals (try go_wp2)
  all_goals go_ret
  all_goals exact ⟨rfl, HG.out.trans ((Grw.alloc _ _).trans (Grw.drew _))⟩
end Go.Proofs.YteibopcneflidabDoor
