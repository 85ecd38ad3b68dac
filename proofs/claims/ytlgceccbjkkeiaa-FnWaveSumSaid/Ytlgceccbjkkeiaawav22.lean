/- TEXTS CmpI. -/
import Derived.Test.Ytlgceccbjkkeiaawav21
/- THE WALKS of allWithin, and the program's ShapeEnergy. -/
namespace Go.Proofs.Ytlgceccbjkkeiaa
open Go.RowKit

/-- from 1 to a greatest one -/
def inR (g x : Int) : Bool := decide (1 ≤ x) && decide (x ≤ g)

set_option maxRecDepth 100000 in
theorem within1_any (b : Nat) (g x : Int) (w : World) (hc : w.cell? ⟨b, 0, none⟩ = some (.int .i64 g)) :
    Calls Try.prog 57 #[.int .i64 x, .pointer (some ⟨b, 0, none⟩)] w fun e w' => e = .returned (.bool (!inR g x)) ∧ w = w' := by
  unfold inR
  by_cases h1 : x < 1
  · have e1 : decide (1 ≤ x) = false := by simp; omega
    rw [e1]
    clear e1
    go_enter Try.func57, Try.ntmps57
    go_wp2
    go_ret
    exact ⟨rfl, rfl⟩
  · have e1 : decide (1 ≤ x) = true := by simp; omega
    rw [e1]
    clear e1
    by_cases h2 : g < x
    · have e2 : decide (x ≤ g) = false := by simp; omega
      rw [e2]
      clear e2
      go_enter Try.func57, Try.ntmps57
      go_wp2
      go_ret
      exact ⟨rfl, rfl⟩
    · have e2 : decide (x ≤ g) = true := by simp; omega
      rw [e2]
      clear e2
      go_enter Try.func57, Try.ntmps57
      go_wp2
      go_ret
      exact ⟨rfl, rfl⟩

/-- which index IndexFunc gives: not less than 0 just if some number is out of the range -/
def outI (g : Int) (l : List Int) (r : Int) : Prop := decide (0 ≤ r) = !(l.all (inR g))

set_option maxRecDepth 100000 in
set_option maxHeartbeats 1000000 in
theorem indexFunc_any (v : Value) (l : List Int) (b : Nat) (g : Int) (w : World) {lo : Nat} (hll : l.length ≤ 1048576) (h : IntsV lo w v l) (hc : w.cell? ⟨b, 0, none⟩ = some (.int .i64 g)) :
    Calls Try.prog 60 #[v, .func (.func 57) #[] #[.pointer (some ⟨b, 0, none⟩)]] w fun e w' => ∃ r, e = .returned (.int .i64 r) ∧ outI g l r ∧ w = w' := by
  obtain ⟨a, c, rfl, hf⟩ : ∃ a c, v = .slice a l.length c ∧ (0 < l.length → ∃ g, a = some ⟨g, 0, none⟩ ∧ CellsAt w g (l.map (.int .i64))) := by
    rcases h with ⟨a, c, rfl, rfl⟩ | ⟨g, c, rfl, _, _, _, hc⟩
    · exact ⟨a, c, rfl, fun h => by simp at h⟩
    · exact ⟨_, c, rfl, fun _ => ⟨g, rfl, hc⟩⟩
  obtain ⟨n, hn⟩ : ∃ n, n = l.length := ⟨_, rfl⟩
  have HN := hide hn
  have HF := hide hf
  rw [← hn] at hll HF ⊢
  have HC := hide hc
  clear hn hf h hc
  go_enter Try.func60, Try.ntmps60
  go_wp2
  go_loop [8] (fun i => ∃ k : Nat, k ≤ n ∧ i = .int .i64 (k : Int) ∧ Hid ((l.take k).all (inR g) = true)) (fun i => n - (Go.RowKit.intOf i).toNat)
  case atStart => exact ⟨0, Nat.zero_le _, rfl, rfl⟩
  case round =>
    obtain ⟨k, hk, rfl, HA⟩ := hrel
    by_cases hlt : k < n
    · obtain ⟨q, rfl, hc⟩ := HF.out (by omega)
      obtain ⟨x, hx⟩ : ∃ x, l[k]? = some x := ⟨_, List.getElem?_eq_getElem (by rw [← HN.out]; exact hlt)⟩
      have hcell := (hc k (.int .i64 x) (by rw [List.getElem?_map, hx]; rfl)).1
      have HAL := hide (all_take_succ l (inR g) k x hx)
      have HMEM := hide (List.mem_of_getElem? hx)
      have CW := hide (within1_any b g x w HC.out)
      clear hc hx
      have i0 : (0 : Int) ≤ (k : Int) := by omega
      have i1 : (k : Int) < (n : Int) := by omega
      cases hsz : inR g x
      · have e1 : outI g l (k : Int) := by
          unfold outI
          have : l.all (inR g) = false := by rw [List.all_eq_false]; exact ⟨x, HMEM.out, by simp [hsz]⟩
          rw [this]; simp
        have E1 := hide e1
        rw [hsz] at CW
        clear e1
        go_wp2_with fail
        refine CW.out.mono ?_
        rintro e w' ⟨rfl, rfl⟩
        go_wp2_with fail
        go_ret
        exact ⟨_, rfl, E1.out, rfl⟩
      · rw [hsz] at CW HAL
        have HAL2 := hide (HAL.out.trans (by rw [HA.out]))
        clear HAL
        go_wp2_with fail
        refine CW.out.mono ?_
        rintro e w' ⟨rfl, rfl⟩
        go_wp2_with fail
        go_round
        case rel => exact ⟨k + 1, by omega, by go_num, HAL2⟩
        case measure => simp [Go.RowKit.intOf]; omega
    · have hkn : k = n := by omega
      have hl2 : l.take k = l := List.take_of_length_le (by rw [← HN.out]; omega)
      rw [hl2] at HA
      have E1 : Hid (outI g l (-1)) := by show decide (0 ≤ (-1 : Int)) = _; rw [HA.out]; rfl
      go_wp2
      go_ret
      exact ⟨_, rfl, E1.out, rfl⟩

set_option maxRecDepth 100000 in
set_option maxHeartbeats 400000 in
theorem containsFunc_any (v : Value) (l : List Int) (b : Nat) (g : Int) (w : World) {lo : Nat} (hll : l.length ≤ 1048576) (h : IntsV lo w v l) (hc : w.cell? ⟨b, 0, none⟩ = some (.int .i64 g)) :
    Calls Try.prog 56 #[v, .func (.func 57) #[] #[.pointer (some ⟨b, 0, none⟩)]] w fun e w' => e = .returned (.bool (!(l.all (inR g)))) ∧ w = w' := by
  have C := hide (indexFunc_any v l b g w hll h hc)
  clear h hc
  unfold outI at C
  obtain ⟨b0, hb0⟩ : ∃ b0, b0 = !(l.all (inR g)) := ⟨_, rfl⟩
  rw [← hb0] at C ⊢
  clear hb0
  go_enter Try.func56, Try.ntmps56
  go_wp2_with fail
  refine C.out.mono ?_
  rintro e w' ⟨r, rfl, hr, rfl⟩
  clear C
  cases b0
  all_goals
    go_wp2_with fail
    go_ret
    exact ⟨rfl, rfl⟩

set_option maxRecDepth 100000 in
set_option maxHeartbeats 400000 in
theorem allWithin_any (v : Value) (l : List Int) (g : Int) (w : World) {lo : Nat} (hll : l.length ≤ 1048576) (h : IntsV lo w v l) :
    Calls Try.prog 49 #[v, .int .i64 g] w fun e w' => e = .returned (.bool (l.all (inR g))) ∧ Below w.heap.size w w' := by
  have hb : Below w.heap.size w (w.alloc (.cells #[.int .i64 g] 3)) := (Below.refl _ _).alloc (Nat.le_refl _) _
  have C := hide (containsFunc_any v l w.heap.size g (w.alloc (.cells #[.int .i64 g] 3)) hll (h.below hb (Nat.le_refl _)) (by simp))
  obtain ⟨b, hbb⟩ : ∃ b, b = l.all (inR g) := ⟨_, rfl⟩
  rw [← hbb] at C ⊢
  clear hbb h
  have HB := hide hb
  clear hb
  go_enter Try.func49, Try.ntmps49
  go_wp2_with fail
  refine C.out.mono ?_
  rintro e w' ⟨rfl, rfl⟩
  cases b
  all_goals
    go_wp2_with fail
    go_ret
    exact ⟨rfl, HB.out⟩

theorem inR_sz : ∀ l : List Int, l.all (inR 200) = l.all szOk := fun _ => rfl

end Go.Proofs.Ytlgceccbjkkeiaa
