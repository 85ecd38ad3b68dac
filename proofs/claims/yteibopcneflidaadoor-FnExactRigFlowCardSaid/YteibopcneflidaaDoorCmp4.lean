/- THE WALKS of the model's l4Less and the program's compareParts once more, as callees of a region that draws: they lay blocks and draw, and leave all else as it was. -/
import Derived.Test.YteibopcneflidaaDoorSeg
import Derived.Test.YteibopcneflidaaDoorRig9
import Derived.Test.YteibopcneflidaaDoorCmpA
import Derived.Deep.RegionWith
import Derived.Shelf.SlSortCmp.QuietGrown
namespace Go.Proofs.YteibopcneflidaaDoor
open Go.RowKit Go.Sort Go.Shelf

/-- the world has drawn and has blocks more -/
def Grw (w w' : World) : Prop := ∃ (q : Nat) (os : Array Obj), w' = grow (w.drewN q) os
theorem Grw.refl (w : World) : Grw w w := ⟨0, #[], by rw [grow_empty]; rfl⟩
theorem Grw.trans {a b c : World} (h : Grw a b) (k : Grw b c) : Grw a c := by
  obtain ⟨n, os, rfl⟩ := h
  obtain ⟨q, os', rfl⟩ := k
  exact ⟨n + q, os ++ os', by show grow (grow ((a.drewN n).drewN q) os) os' = _; rw [grow_grow, World.drewN_drewN]⟩
theorem Grw.alloc (w : World) (o : Obj) : Grw w (w.alloc o) := ⟨0, #[o], by rw [alloc_eq_grow]; rfl⟩
theorem Grw.drew (w : World) : Grw w w.drew := ⟨1, #[], by rw [grow_empty]; rfl⟩
theorem Grw.mk (w : World) (q : Nat) (os : Array Obj) : Grw w (grow (w.drewN q) os) := ⟨q, os, rfl⟩
theorem Grw.below {w w' : World} (h : Grw w w') : Below w.heap.size w w' := by
  obtain ⟨q, os, rfl⟩ := h
  refine ⟨rfl, rfl, rfl, ?_, fun k hk => ?_⟩
  · show w.heap.size ≤ (w.heap ++ os).size
    rw [Array.size_append]; omega
  · show (w.heap ++ os)[k]? = _
    rw [Array.getElem?_append_left hk]
theorem Grw.size {w w' : World} (h : Grw w w') : w.heap.size ≤ w'.heap.size := h.below.size
theorem Grw.cells {w w' : World} (h : Grw w w') {g : Nat} {l : List Value} (hc : CellsAt w g l) : CellsAt w' g l := hc.below' h.below (Nat.le_refl _)

set_option maxRecDepth 100000 in
set_option maxHeartbeats 400000 in
theorem specLess_grw (a b : Int × Int) (w : World) :
    Calls Tryd.prog 53 #[pV a, pV b] w fun e w' => e = .returned (.bool (pLess a b)) ∧ Grw w w' := by
  unfold pLess pV
  obtain ⟨a1, a2⟩ := a
  obtain ⟨b1, b2⟩ := b
  by_cases h1 : a1 < b1
  · have d1 : decide (a1 < b1) = true := by simpa using h1
    go_enter Tryd.func53, Tryd.ntmps53
    go_wp2
    go_ret
    exact ⟨by simp [h1], (Grw.alloc w _).trans (Grw.alloc _ _)⟩
  · have d1 : decide (a1 < b1) = false := by simpa using h1
    by_cases h2 : a1 = b1
    · subst h2
      have d2 : ((a1 : Int) == a1) = true := by simp
      go_enter Tryd.func53, Tryd.ntmps53
      go_wp2
      go_ret
      exact ⟨by simp, (Grw.alloc w _).trans (Grw.alloc _ _)⟩
    · have d2 : ((a1 : Int) == b1) = false := beq_eq_false_iff_ne.2 h2
      go_enter Tryd.func53, Tryd.ntmps53
      go_wp2
      go_ret
      exact ⟨by simp, (Grw.alloc w _).trans (Grw.alloc _ _)⟩

/-- what compareParts says of two parts -/
def cpP (a b : Int × Int) : Int := if cmpI b.1 a.1 = 0 then cmpI b.2 a.2 else cmpI b.1 a.1
theorem cmpI_lt (x y : Int) : cmpI x y < 0 ↔ x < y := by
  unfold cmpI
  by_cases h1 : x < y
  · simp [h1]
  · by_cases h2 : y < x
    · rw [if_neg h1, if_pos h2]; omega
    · rw [if_neg h1, if_neg h2]; omega
theorem cmpI_eq (x y : Int) : cmpI x y = 0 ↔ x = y := by
  unfold cmpI
  by_cases h1 : x < y
  · rw [if_pos h1]; omega
  · by_cases h2 : y < x
    · rw [if_neg h1, if_pos h2]; omega
    · rw [if_neg h1, if_neg h2]; omega
theorem cpP_lt (a b : Int × Int) : decide (cpP a b < 0) = pLess b a := by
  unfold cpP pLess
  by_cases h : b.1 = a.1
  · rw [if_pos ((cmpI_eq _ _).2 h)]
    have : decide (cmpI b.2 a.2 < 0) = decide (b.2 < a.2) := decide_eq_decide.2 (cmpI_lt _ _)
    rw [this]
    simp [h]
  · rw [if_neg (fun e => h ((cmpI_eq _ _).1 e))]
    have : decide (cmpI b.1 a.1 < 0) = decide (b.1 < a.1) := decide_eq_decide.2 (cmpI_lt _ _)
    rw [this]
    simp [h]

set_option maxHeartbeats 400000 in
theorem or_any (x y r : Int) (hr : (if x = 0 then y else x) = r) (b c : Nat) (w : World) (h0 : w.cell? ⟨b, 0, none⟩ = some (.int .i64 x)) (h1 : w.cell? ⟨b, 1, none⟩ = some (.int .i64 y)) :
    Calls Tryd.prog 78 #[.slice (some ⟨b, 0, none⟩) 2 c] w fun e w' => e = .returned (.int .i64 r) ∧ w' = w := by
  subst hr
  by_cases hx : x = 0
  · subst hx
    by_cases hy : y = 0
    · subst hy
      go_enter Tryd.func78, Tryd.ntmps78
      go_wp2
      refine wp_loop_rounds 3 ?_
      rw [rounds_succ]
      go_wp2
      rw [rounds_succ]
      go_wp2
      rw [rounds_succ]
      go_wp2
      go_ret
      exact ⟨rfl, rfl⟩
    · have hb : ((y : Int) != 0) = true := by simpa using hy
      go_enter Tryd.func78, Tryd.ntmps78
      go_wp2
      refine wp_loop_rounds 2 ?_
      rw [rounds_succ]
      go_wp2
      rw [rounds_succ]
      go_wp2
      go_ret
      exact ⟨rfl, rfl⟩
  · have hb : ((x : Int) != 0) = true := by simpa using hx
    rw [if_neg hx]
    go_enter Tryd.func78, Tryd.ntmps78
    go_wp2
    refine wp_loop_rounds 1 ?_
    rw [rounds_succ]
    go_wp2
    go_ret
    exact ⟨rfl, rfl⟩
end Go.Proofs.YteibopcneflidaaDoor
