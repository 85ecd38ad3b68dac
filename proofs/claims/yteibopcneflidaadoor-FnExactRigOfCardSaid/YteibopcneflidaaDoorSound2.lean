/- THE WALK of the program's sound. -/
import Derived.Test.YteibopcneflidaaDoorSound
namespace Go.Proofs.YteibopcneflidaaDoor
open Go.RowKit

/-- an error as the program's checks give it: nil, or a fault -/
def FaultV (ok : Bool) (v : Value) : Prop := if ok then v = .nilIface else ∃ s, v = .iface 78 (.string s)
theorem sound_any (ok : Bool) (v : Value) (w : World) (hE : EtAt w) (hv : FaultV ok v) :
    Calls Tryd.prog 34 #[v] w fun e w' => e = .returned (.bool ok) ∧ Below w.heap.size w w' := by
  have hlt := hE.lt
  cases ok
  · obtain ⟨s, rfl⟩ := hv
    have hgA : (w.alloc (.cells #[.string ByteArray.empty] 78)).cell? ⟨0, 0, none⟩ = some (.iface 136 (.agg #[.pointer (some ⟨2, 52, none⟩)])) := by
      rw [World.cell?_alloc_lt _ _ ⟨0, 0, none⟩ hlt]; exact hE
    have htA : (w.alloc (.cells #[.string ByteArray.empty] 78)).cell? ⟨w.heap.size, 0, none⟩ = some (.string ByteArray.empty) := by simp
    have hfA : (w.alloc (.cells #[.string ByteArray.empty] 78)).frozen? ⟨w.heap.size, 0, none⟩ = false := by simp
    have H := hide (as_hit s ⟨w.heap.size, 0, none⟩ (.string ByteArray.empty) _ hgA htA hfA)
    clear hgA htA hfA hE
    go_enter Tryd.func34, Tryd.ntmps34
    go_wp2_with (go_at_call 56; refine H.out.mono ?_; rintro e w' ⟨rfl, rfl⟩)
    go_ret
    refine ⟨rfl, ?_⟩
    have b2 := fun o => (Below.refl w.heap.size w).alloc (Nat.le_refl _) o
    refine Below.alloc (Below.alloc (Below.alloc (Below.alloc (b2 _) ?_ _) ?_ _) ?_ _) ?_ _
    all_goals (simp; try omega)
  · obtain rfl : v = .nilIface := hv
    go_enter Tryd.func34, Tryd.ntmps34
    go_wp2_with (go_at_call 56; refine (as_nil _ _).mono ?_; rintro e w' ⟨rfl, rfl⟩)
    go_ret
    exact ⟨rfl, (Below.refl w.heap.size w).alloc (Nat.le_refl _) _⟩
end Go.Proofs.YteibopcneflidaaDoor
