/- slices.Concat of two rows. -/
import Derived.Test.YtlfiipkbkhpmnaaCarrier
import Derived.Test.YtlfiipkbkhpmnaaShape2
import Derived.Lib.AppendZeros
namespace Go.Proofs.Ytlfiipkbkhpmnaa
open Go.RowKit

theorem grow_zero (w : World) : Calls Try.prog 60 #[.slice none 0 0, .int .i64 0] w fun e w' => e = .returned (.slice none 0 0) ∧ w = w' := by
  go_enter Try.func60, Try.ntmps60
  go_wp2
  go_ret
  exact ⟨rfl, rfl⟩

set_option maxRecDepth 100000 in
set_option maxHeartbeats 1000000 in
theorem grow_any (n : Nat) (w : World) (hn : n ≤ 1000) :
    Calls Try.prog 60 #[.slice none 0 0, .int .i64 (n : Int)] w fun e w' => ∃ v, e = .returned v ∧ w'.ownsRow w.heap.size 4 1 v 0 [] ∧ Below w.heap.size w w' := by
  by_cases h0 : n = 0
  · subst h0
    refine (grow_zero w).mono ?_
    rintro e w' ⟨rfl, rfl⟩
    exact ⟨_, rfl, World.ownsRow_nil _ _ _ _, Below.refl _ _⟩
  · obtain ⟨i0, hi, hz0, hz1, hz2⟩ := info_parts infoB
    have hrz := Lib.run_append_nil_zeros w 37 3 37 4 i0 (.bool false) .i64 .i64 Try.underlying37 Try.underlying3 hi hz0 n (by omega) (by omega) (by omega) (by rw [hz2]; omega)
    obtain ⟨C, hC⟩ : ∃ C, C = grownCap w n 0 4 := ⟨_, rfl⟩
    have hge := grownCap_ge w n 0 4
    have hle := grownCap_le_maxLen w n 0 4 (by unfold maxLen; omega)
    rw [← hC] at hrz hge hle
    unfold maxLen at hle
    clear hC
    have i0n : (0 : Int) < (n : Int) := by omega
    have hown : ∀ cs : Array Value, cs.size = C → (w.drew.alloc (.cells cs 4)).ownsRow w.heap.size 4 1 (.slice (some ⟨w.heap.size, 0, none⟩) 0 C) 0 [] := by
      intro cs hcs
      refine ⟨rfl, .inr ⟨w.heap.size, C, cs, rfl, Nat.le_refl _, ?_, Nat.zero_le _, by unfold maxLen; exact hle, by rw [hcs]; omega, by simp⟩⟩
      exact World.alloc_heap_new w.drew _
    have OWN := hide hown
    have HZ : Hid ((Builtin.zeroCells (Value.bool false).cells n ++ Builtin.zeroCells (Value.bool false).cells (C - n)).size = C) := by
      show _ = _
      simp [Builtin.zeroCells, Value.cells]
      omega
    obtain ⟨cs, hcs⟩ : ∃ cs, cs = Builtin.zeroCells (Value.bool false).cells n ++ Builtin.zeroCells (Value.bool false).cells (C - n) := ⟨_, rfl⟩
    rw [← hcs] at hrz HZ
    have HRZ := hide hrz
    clear hown hcs hrz
    go_enter Try.func60, Try.ntmps60
    go_wp2_with (at_builtin; refine Lib.wpList_append_run _ rfl _ _ _ _ rfl _ _ rfl rfl _ _ HRZ.out ?_)
    go_ret
    exact ⟨_, rfl, OWN.out cs HZ.out, (Below.refl w.heap.size w).drew.alloc (Nat.le_refl _) _⟩

/-- the two loops of Concat -/
def SizeRel (na nd : Nat) (s i : Value) : Prop :=
  (i = .int .i64 0 ∧ s = .int .i64 0) ∨ (i = .int .i64 1 ∧ s = .int .i64 (na : Int)) ∨ (i = .int .i64 2 ∧ s = .int .i64 ((na + nd : Nat) : Int))
def CatRel (A D : List Bool) (B : Nat) (w : World) (v i : Value) (wr : World) : Prop :=
  Hid (Below B w wr) ∧ B ≤ wr.heap.size ∧ ((i = .int .i64 0 ∧ Hid (wr.ownsRow B 4 1 v 0 [])) ∨ (i = .int .i64 1 ∧ Hid (wr.ownsRow B 4 1 v A.length (A.map .bool))) ∨
    (i = .int .i64 2 ∧ Hid (wr.ownsRow B 4 1 v (A.length + D.length) ((A ++ D).map .bool))))

set_option maxRecDepth 100000 in
set_option maxHeartbeats 2000000 in
theorem concat_any (A D : List Bool) (b c g1 c1 g2 c2 : Nat) (w : World) (hA : A.length ≤ 200) (hD : D.length ≤ 200)
    (k0 : w.cell? ⟨b, 0, none⟩ = some (.slice (some ⟨g1, 0, none⟩) A.length c1)) (k1 : w.cell? ⟨b, 1, none⟩ = some (.slice (some ⟨g2, 0, none⟩) D.length c2)) (h1 : CellsAt w g1 (A.map .bool)) (h2 : CellsAt w g2 (D.map .bool)) :
    Calls Try.prog 47 #[.slice (some ⟨b, 0, none⟩) 2 c] w fun e w' => ∃ v, e = .returned v ∧ w'.ownsRow w.heap.size 4 1 v (A.length + D.length) ((A ++ D).map .bool) ∧ Below w.heap.size w w' := by
  obtain ⟨j0, hj, hy0, hy1, hy2⟩ := info_parts infoB
  have hbl := World.block_lt_of_cell? w _ k0
  obtain ⟨na, hna⟩ : ∃ n, n = A.length := ⟨_, rfl⟩
  obtain ⟨nd, hnd⟩ : ∃ n, n = D.length := ⟨_, rfl⟩
  have HNA := hide hna
  have HND := hide hnd
  have HK0 := hide k0
  have HK1 := hide k1
  have H1 := hide h1
  have H2 := hide h2
  have GR := hide (fun w (n : Nat) (hn : n ≤ 1000) => grow_any n w hn)
  rw [← hna] at hA HK0 ⊢
  rw [← hnd] at hD HK1 ⊢
  obtain ⟨B, hB⟩ : ∃ B, w.heap.size = B := ⟨_, rfl⟩
  have H1' := hide (fun wr (hb : Below B w wr) => (H1.out.below' (w' := wr) (B := B) hb (Nat.le_of_eq hB)).src)
  have H2' := hide (fun wr (hb : Below B w wr) => (H2.out.below' (w' := wr) (B := B) hb (Nat.le_of_eq hB)).src)
  have HC := hide (fun wr (hb : Below B w wr) => And.intro ((hb.cell (p := ⟨b, 0, none⟩) (by rw [← hB]; exact hbl)).trans HK0.out) ((hb.cell (p := ⟨b, 1, none⟩) (by rw [← hB]; exact hbl)).trans HK1.out))
  have GN := hide (GR.out w (na + nd) (by omega))
  rw [hB] at GN ⊢
  have HB := hide hB
  clear hna hnd k0 k1 h1 h2 hB
  go_enter Try.func47, Try.ntmps47
  go_wp2
  go_loop [3, 11] (SizeRel na nd) (fun _ i => 2 - (intOf i).toNat)
  case atStart => exact .inl ⟨rfl, rfl⟩
  case round =>
    have k0 := HK0.out
    have k1 := HK1.out
    have e0 : ((na + nd : Nat) : Int) = (na : Int) + (nd : Int) := by omega
    have z0 : (0 : Int) ≤ (na : Int) := by omega
    have z1 : (0 : Int) ≤ (nd : Int) := by omega
    have z2 : (na : Int) ≤ 200 := by omega
    have z3 : (nd : Int) ≤ 200 := by omega
    rcases hrel with ⟨rfl, rfl⟩ | ⟨rfl, rfl⟩ | ⟨rfl, rfl⟩
    · clear e0
      go_wp2
      go_round
      case rel => exact .inr (.inl ⟨rfl, by simp⟩)
      case measure => simp [intOf]
    · have E0 := hide e0
      clear e0
      go_wp2
      go_round
      case rel => exact .inr (.inr ⟨rfl, by rw [E0.out]⟩)
      case measure => simp [intOf]
    · clear e0
      go_wp2_with fail
      refine GN.out.mono ?_
      rintro e w1 ⟨v, rfl, ho, hb⟩
      have hsz : B ≤ w1.heap.size := by have := hb.size; have := HB.out; omega
      have HO := hide ho
      have HB1 := hide hb
      clear ho hb GN k0 k1
      go_wp2
      go_loopw [6, 27] (CatRel A D B w) (fun _ i _ => 2 - (intOf i).toNat)
      case atStart => exact ⟨HB1, hsz, .inl ⟨rfl, HO⟩⟩
      case round =>
        obtain ⟨HBW, hz, hr⟩ := hrel
        clear HO HB1 hsz
        obtain ⟨d0, d1⟩ := HC.out wr HBW.out
        have D0 := hide d0
        rcases hr with ⟨rfl, HO⟩ | ⟨rfl, HO⟩ | ⟨rfl, HO⟩
        · go_wp2_with (at_builtin; refine wpList_append_own _ rfl _ _ 37 rfl B 4 j0 (.bool false) 1 1 Try.underlying37 hj hy0 hy1 hy2 rfl (by decide) _ _ _ rfl HO.out ⟨g1, 0, none⟩ na c1 (A.map .bool) rfl (by simp [HNA.out]) (H1'.out wr HBW.out) (by intro u hu; simp at hu; rcases hu with ⟨_, rfl⟩ | ⟨_, rfl⟩ <;> rfl) (by unfold maxLen; omega) (by omega) (by omega) ?_; intro v' w2 hown' hgrow _)
          go_roundw
          case rel =>
            have hsg := hgrow.size
            refine ⟨HBW.out.grown hgrow hz (fun b e => (HO.out.lt b e).1), by omega, .inr (.inl ⟨rfl, ?_⟩)⟩
            rw [← HNA.out]
            show World.ownsRow _ _ _ _ _ _ _
            simpa using hown'
          case measure => simp [intOf]
        · rw [← HNA.out] at HO
          go_wp2_with (at_builtin; refine wpList_append_own _ rfl _ _ 37 rfl B 4 j0 (.bool false) 1 1 Try.underlying37 hj hy0 hy1 hy2 rfl (by decide) _ _ _ rfl HO.out ⟨g2, 0, none⟩ nd c2 (D.map .bool) rfl (by simp [HND.out]) (H2'.out wr HBW.out) (by intro u hu; simp at hu; rcases hu with ⟨_, rfl⟩ | ⟨_, rfl⟩ <;> rfl) (by unfold maxLen; omega) (by omega) (by omega) ?_; intro v' w2 hown' hgrow _)
          go_roundw
          case rel =>
            have hsg := hgrow.size
            refine ⟨HBW.out.grown hgrow hz (fun b e => (HO.out.lt b e).1), by omega, .inr (.inr ⟨rfl, ?_⟩)⟩
            rw [← HNA.out, ← HND.out, List.map_append]
            exact hown'
          case measure => simp [intOf]
        · rw [← HNA.out, ← HND.out] at HO
          go_wp2
          go_ret
          exact ⟨_, rfl, HO.out, HBW.out⟩
end Go.Proofs.Ytlfiipkbkhpmnaa
