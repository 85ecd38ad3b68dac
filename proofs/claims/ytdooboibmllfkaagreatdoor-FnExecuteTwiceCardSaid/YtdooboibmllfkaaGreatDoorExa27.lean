/- TEXTS Rounds. -/
import Derived.Test.YtdooboibmllfkaaGreatDoorExa07
import Derived.Test.YtdooboibmllfkaaGreatDoorExa11
import Derived.Lib.AppendZeros
import Derived.Deep.LoopGhost
namespace Go.Proofs.YtdooboibmllfkaaGreatDoor
set_option maxRecDepth 100000
open Go.RowKit

theorem grow_zero (w : World) : Calls Tryz.prog 212 #[.slice none 0 0, .int .i64 0] w fun e w' => e = .returned (.slice none 0 0) ∧ w = w' := by
  go_enter Tryz.func212, Tryz.ntmps212
  go_wp2
  go_ret
  exact ⟨rfl, rfl⟩

set_option maxRecDepth 100000 in
set_option maxHeartbeats 1000000 in
theorem grow_any (n : Nat) (w : World) (hn : n ≤ 1000) :
    Calls Tryz.prog 212 #[.slice none 0 0, .int .i64 (n : Int)] w fun e w' => ∃ v, e = .returned v ∧ w'.ownsRow w.heap.size 4 1 v 0 [] ∧ Below w.heap.size w w' := by
  by_cases h0 : n = 0
  · subst h0
    refine (grow_zero w).mono ?_
    rintro e w' ⟨rfl, rfl⟩
    exact ⟨_, rfl, World.ownsRow_nil _ _ _ _, Below.refl _ _⟩
  · obtain ⟨i0, hi, hz0, hz1, hz2⟩ := info_parts infoB
    have hrz := Lib.run_append_nil_zeros w 116 3 116 4 i0 (.bool false) .i64 .i64 Tryz.underlying116 Tryz.underlying3 hi hz0 n (by omega) (by omega) (by omega) (by rw [hz2]; omega)
    obtain ⟨C, hC⟩ : ∃ C, C = grownCap w n 0 4 := ⟨_, rfl⟩
    have hge := grownCap_ge w n 0 4
    have hle := grownCap_le_maxLen w n 0 4 (by unfold maxLen; omega)
    rw [← hC] at hrz hge hle
    unfold maxLen at hle
    clear hC
    have i0n : (0 : Int) < (n : Int) := by omega
    have hown : ∀ cs : Array Value, cs.size = C → (w.drew.alloc (.cells cs 4)).ownsRow w.heap.size 4 1 (.slice (some ⟨w.heap.size, 0, none⟩) 0 C) 0 [] := by
      intro cs hcs
      refine ⟨rfl, .inr ⟨w.heap.size, C, cs, rfl, Nat.le_refl _, ?_, Nat.zero_le _, by unfold maxLen; exact hle, by rw [hcs]; omega, by simp⟩⟩
      exact World.alloc_heap_new w.drew _
    have OWN := hide hown
    have HZ : Hid ((Builtin.zeroCells (Value.bool false).cells n ++ Builtin.zeroCells (Value.bool false).cells (C - n)).size = C) := by
      show _ = _
      simp [Builtin.zeroCells, Value.cells]
      omega
    obtain ⟨cs, hcs⟩ : ∃ cs, cs = Builtin.zeroCells (Value.bool false).cells n ++ Builtin.zeroCells (Value.bool false).cells (C - n) := ⟨_, rfl⟩
    rw [← hcs] at hrz HZ
    have HRZ := hide hrz
    clear hown hcs hrz
    go_enter Tryz.func212, Tryz.ntmps212
    go_wp2_with (at_builtin; refine Lib.wpList_append_run _ rfl _ _ _ _ rfl _ _ rfl rfl _ _ HRZ.out ?_)
    go_ret
    exact ⟨_, rfl, OWN.out cs HZ.out, (Below.refl w.heap.size w).drew.alloc (Nat.le_refl _) _⟩

def SizeRel (na nd : Nat) (s i : Value) : Prop :=
  (i = .int .i64 0 ∧ s = .int .i64 0) ∨ (i = .int .i64 1 ∧ s = .int .i64 (na : Int)) ∨ (i = .int .i64 2 ∧ s = .int .i64 ((na + nd : Nat) : Int))
def CatRel (A D : List Bool) (B : Nat) (w : World) (v i : Value) (wr : World) : Prop :=
  Hid (Below B w wr) ∧ B ≤ wr.heap.size ∧ ((i = .int .i64 0 ∧ Hid (wr.ownsRow B 4 1 v 0 [])) ∨ (i = .int .i64 1 ∧ Hid (wr.ownsRow B 4 1 v A.length (A.map .bool))) ∨
    (i = .int .i64 2 ∧ Hid (wr.ownsRow B 4 1 v (A.length + D.length) ((A ++ D).map .bool))))

set_option maxRecDepth 100000 in
set_option maxHeartbeats 2000000 in
theorem concat_any (A D : List Bool) (b c g1 c1 g2 c2 : Nat) (w : World) (hA : A.length ≤ 200) (hD : D.length ≤ 200)
    (k0 : w.cell? ⟨b, 0, none⟩ = some (.slice (some ⟨g1, 0, none⟩) A.length c1)) (k1 : w.cell? ⟨b, 1, none⟩ = some (.slice (some ⟨g2, 0, none⟩) D.length c2)) (h1 : CellsAt w g1 (A.map .bool)) (h2 : CellsAt w g2 (D.map .bool)) :
    Calls Tryz.prog 180 #[.slice (some ⟨b, 0, none⟩) 2 c] w fun e w' => ∃ v, e = .returned v ∧ w'.ownsRow w.heap.size 4 1 v (A.length + D.length) ((A ++ D).map .bool) ∧ Below w.heap.size w w' := by
  obtain ⟨j0, hj, hy0, hy1, hy2⟩ := info_parts infoB
  have hbl := World.block_lt_of_cell? w _ k0
  obtain ⟨na, hna⟩ : ∃ n, n = A.length := ⟨_, rfl⟩
  obtain ⟨nd, hnd⟩ : ∃ n, n = D.length := ⟨_, rfl⟩
  have HNA := hide hna
  have HND := hide hnd
  have HK0 := hide k0
  have HK1 := hide k1
  have H1 := hide h1
  have H2 := hide h2
  have GR := hide (fun w (n : Nat) (hn : n ≤ 1000) => grow_any n w hn)
  rw [← hna] at hA HK0 ⊢
  rw [← hnd] at hD HK1 ⊢
  obtain ⟨B, hB⟩ : ∃ B, w.heap.size = B := ⟨_, rfl⟩
  have H1' := hide (fun wr (hb : Below B w wr) => (H1.out.below' (w' := wr) (B := B) hb (Nat.le_of_eq hB)).src)
  have H2' := hide (fun wr (hb : Below B w wr) => (H2.out.below' (w' := wr) (B := B) hb (Nat.le_of_eq hB)).src)
  have HC := hide (fun wr (hb : Below B w wr) => And.intro ((hb.cell (p := ⟨b, 0, none⟩) (by rw [← hB]; exact hbl)).trans HK0.out) ((hb.cell (p := ⟨b, 1, none⟩) (by rw [← hB]; exact hbl)).trans HK1.out))
  have GN := hide (GR.out w (na + nd) (by omega))
  rw [hB] at GN ⊢
  have HB := hide hB
  clear hna hnd k0 k1 h1 h2 hB
  go_enter Tryz.func180, Tryz.ntmps180
  go_wp2
  go_loop [3, 11] (SizeRel na nd) (fun _ i => 2 - (Go.RowKit.intOf i).toNat)
  case atStart => exact .inl ⟨rfl, rfl⟩
  case round =>
    have k0 := HK0.out
    have k1 := HK1.out
    have e0 : ((na + nd : Nat) : Int) = (na : Int) + (nd : Int) := by omega
    have z0 : (0 : Int) ≤ (na : Int) := by omega
    have z1 : (0 : Int) ≤ (nd : Int) := by omega
    have z2 : (na : Int) ≤ 200 := by omega
    have z3 : (nd : Int) ≤ 200 := by omega
    rcases hrel with ⟨rfl, rfl⟩ | ⟨rfl, rfl⟩ | ⟨rfl, rfl⟩
    · clear e0
      go_wp2
      go_round
      case rel => exact .inr (.inl ⟨rfl, by simp⟩)
      case measure => simp [Go.RowKit.intOf]
    · have E0 := hide e0
      clear e0
      go_wp2
      go_round
      case rel => exact .inr (.inr ⟨rfl, by rw [E0.out]⟩)
      case measure => simp [Go.RowKit.intOf]
    · clear e0
      go_wp2_with fail
      refine GN.out.mono ?_
      rintro e w1 ⟨v, rfl, ho, hb⟩
      have hsz : B ≤ w1.heap.size := by have := hb.size; have := HB.out; omega
      have HO := hide ho
      have HB1 := hide hb
      clear ho hb GN k0 k1
      go_wp2
      go_loopw [6, 27] (CatRel A D B w) (fun _ i _ => 2 - (Go.RowKit.intOf i).toNat)
      case atStart => exact ⟨HB1, hsz, .inl ⟨rfl, HO⟩⟩
      case round =>
        obtain ⟨HBW, hz, hr⟩ := hrel
        clear HO HB1 hsz
        obtain ⟨d0, d1⟩ := HC.out wr HBW.out
        have D0 := hide d0
        rcases hr with ⟨rfl, HO⟩ | ⟨rfl, HO⟩ | ⟨rfl, HO⟩
        · go_wp2_with (at_builtin; refine wpList_append_own _ rfl _ _ 116 rfl B 4 j0 (.bool false) 1 1 Tryz.underlying116 hj hy0 hy1 hy2 rfl (by decide) _ _ _ rfl HO.out ⟨g1, 0, none⟩ na c1 (A.map .bool) rfl (by simp [HNA.out]) (H1'.out wr HBW.out) (by intro u hu; simp at hu; rcases hu with ⟨_, rfl⟩ | ⟨_, rfl⟩ <;> rfl) (by unfold maxLen; omega) (by omega) (by omega) ?_; intro v' w2 hown' hgrow _)
          go_roundw
          case rel =>
            have hsg := hgrow.size
            refine ⟨HBW.out.grown hgrow hz (fun b e => (HO.out.lt b e).1), by omega, .inr (.inl ⟨rfl, ?_⟩)⟩
            rw [← HNA.out]
            show World.ownsRow _ _ _ _ _ _ _
            simpa using hown'
          case measure => simp [Go.RowKit.intOf]
        · rw [← HNA.out] at HO
          go_wp2_with (at_builtin; refine wpList_append_own _ rfl _ _ 116 rfl B 4 j0 (.bool false) 1 1 Tryz.underlying116 hj hy0 hy1 hy2 rfl (by decide) _ _ _ rfl HO.out ⟨g2, 0, none⟩ nd c2 (D.map .bool) rfl (by simp [HND.out]) (H2'.out wr HBW.out) (by intro u hu; simp at hu; rcases hu with ⟨_, rfl⟩ | ⟨_, rfl⟩ <;> rfl) (by unfold maxLen; omega) (by omega) (by omega) ?_; intro v' w2 hown' hgrow _)
          go_roundw
          case rel =>
            have hsg := hgrow.size
            refine ⟨HBW.out.grown hgrow hz (fun b e => (HO.out.lt b e).1), by omega, .inr (.inr ⟨rfl, ?_⟩)⟩
            rw [← HNA.out, ← HND.out, List.map_append]
            exact hown'
          case measure => simp [Go.RowKit.intOf]
        · rw [← HNA.out, ← HND.out] at HO
          go_wp2
          go_ret
          exact ⟨_, rfl, HO.out, HBW.out⟩
end Go.Proofs.YtdooboibmllfkaaGreatDoor

namespace Go.Proofs.YtdooboibmllfkaaGreatDoor
set_option maxRecDepth 100000
open Go.RowKit

def OutRel (l : List Bool) (B : Nat) (w : World) (v c i : Value) (wr : World) : Prop :=
  ∃ (k m : Nat) (R : List Bool), k ≤ l.length ∧ i = .int .i64 (k : Int) ∧ c = .int .i64 (m : Int) ∧ m ≤ k ∧ R.length ≤ k ∧
    Hid (wr.ownsRow B 4 1 v R.length (R.map .bool)) ∧ Hid (el l = R ++ el (l.drop k)) ∧ Hid (np l = m + np (l.drop k)) ∧ Hid (Below B w wr) ∧ B ≤ wr.heap.size

set_option maxRecDepth 100000 in
set_option maxHeartbeats 4000000 in
theorem takeOut_any (g n cap : Nat) (l : List Bool) (w : World) (hl : l.length = n) (hn : n ≤ 240) (hc : CellsAt w g (l.map .bool)) :
    Calls Tryz.prog 181 #[.slice (some ⟨g, 0, none⟩) n cap] w fun e w' => ∃ v, e = .returned (.tuple #[v, .int .i64 (np l : Int)]) ∧ w'.ownsRow w.heap.size 4 1 v (el l).length ((el l).map .bool) ∧ Below w.heap.size w w' := by
  obtain ⟨j0, hj, hy0, hy1, hy2⟩ := info_parts infoB
  obtain ⟨B, hB⟩ : ∃ B, w.heap.size = B := ⟨_, rfl⟩
  have HL := hide hl
  have HC := hide (fun wr (hb : Below B w wr) => hc.below' (w' := wr) (B := B) hb (Nat.le_of_eq hB))
  rw [hB]
  have HB := hide hB
  clear hl hc hB
  go_enter Tryz.func181, Tryz.ntmps181
  go_wp2
  go_loopw [4, 5, 6] (OutRel l B w) (fun _ _ i _ => n - (Go.RowKit.intOf i).toNat)
  case atStart => exact ⟨0, 0, [], Nat.zero_le _, rfl, rfl, Nat.le_refl _, Nat.le_refl _, World.ownsRow_nil _ _ _ _, rfl, by show _ = 0 + _; rw [Nat.zero_add]; rfl, Below.refl _ _, Nat.le_of_eq HB.out.symm⟩
  case round =>
    obtain ⟨k, m, R, hk, rfl, rfl, hm, hR, HO, HE, HN, HBW, hz⟩ := hrel
    rw [HL.out] at hk
    have hcr := HC.out wr HBW.out
    by_cases hlt : k < n
    · obtain ⟨b, hb⟩ : ∃ b, l[k]? = some b := ⟨_, List.getElem?_eq_getElem (by rw [HL.out]; exact hlt)⟩
      have hcell : wr.cell? ⟨g, k, none⟩ = some (.bool b) := (hcr k (.bool b) (by simp [hb])).1
      have i0 : (0 : Int) ≤ (k : Int) := by omega
      have i1 : (k : Int) < (n : Int) := by omega
      have i3 : (0 : Int) ≤ (k : Int) + 1 := by omega
      have KEEP : (b = true → ∀ c, l[k + 1]? = some c → c = true) → Hid (el (l.drop k) = b :: el (l.drop (k + 1)) ∧ np (l.drop k) = np (l.drop (k + 1))) := fun h => el_step hb h
      cases b
      · have HK := KEEP (fun h => by cases h)
        clear hb KEEP hcr
        go_wp2_with (at_builtin; refine wpList_append_own _ rfl _ _ 116 rfl B 4 j0 (.bool false) 1 1 Tryz.underlying116 hj hy0 hy1 hy2 rfl (by decide) _ _ _ rfl (HO.out.alloc _) ⟨wr.heap.size, 0, none⟩ 1 1 [.bool false] rfl rfl (cell_one_new _ _ _) (one_of_bool _) (by unfold maxLen; omega) (by omega) (by simp; omega) ?_; intro v' w2 hown' hgrow _)
        go_roundw
        case rel =>
          have hsg := hgrow.size
          rw [World.size_alloc] at hsg
          refine ⟨k + 1, m, R ++ [false], by rw [HL.out]; omega, by go_num, rfl, by omega, by rw [List.length_append]; simp; omega, ?_, ?_, ?_, (HBW.out.alloc hz _).grown hgrow (by simp; omega) (fun b e => (HO.out.lt b e).1), by omega⟩
          · show World.ownsRow _ _ _ _ _ _ _
            rw [List.length_append, List.map_append]; exact hown'
          · show _ = _
            rw [HE.out, HK.out.1, List.append_assoc]; rfl
          · show _ = _
            rw [HN.out, HK.out.2]
        case measure => simp [Go.RowKit.intOf]; omega
      · by_cases hlt1 : k + 1 < n
        · obtain ⟨c, hc⟩ : ∃ c, l[k + 1]? = some c := ⟨_, List.getElem?_eq_getElem (by rw [HL.out]; exact hlt1)⟩
          have hcell1 : wr.cell? ⟨g, k + 1, none⟩ = some (.bool c) := (hcr (k + 1) (.bool c) (by simp [hc])).1
          have i2 : (k : Int) + 1 < (n : Int) := by omega
          cases c
          · have HP : Hid (el (l.drop k) = el (l.drop (k + 2)) ∧ np (l.drop k) = np (l.drop (k + 2)) + 1) := el_pair_step hb hc
            clear hb hc KEEP hcr
            go_wp2
            go_roundw
            case rel =>
              refine ⟨k + 2, m + 1, R, by rw [HL.out]; omega, by go_num, by go_num, by omega, by omega, HO, ?_, ?_, HBW, hz⟩
              · show _ = _
                rw [HE.out, HP.out.1]
              · show _ = _
                rw [HN.out, HP.out.2]; omega
            case measure => simp [Go.RowKit.intOf]; omega
          · have HK := KEEP (fun _ c hc2 => by rw [hc] at hc2; injection hc2 with hc2; exact hc2.symm)
            clear hb hc KEEP hcr
            go_wp2_with (at_builtin; refine wpList_append_own _ rfl _ _ 116 rfl B 4 j0 (.bool false) 1 1 Tryz.underlying116 hj hy0 hy1 hy2 rfl (by decide) _ _ _ rfl (HO.out.alloc _) ⟨wr.heap.size, 0, none⟩ 1 1 [.bool true] rfl rfl (cell_one_new _ _ _) (one_of_bool _) (by unfold maxLen; omega) (by omega) (by simp; omega) ?_; intro v' w2 hown' hgrow _)
            go_roundw
            case rel =>
              have hsg := hgrow.size
              rw [World.size_alloc] at hsg
              refine ⟨k + 1, m, R ++ [true], by rw [HL.out]; omega, by go_num, rfl, by omega, by rw [List.length_append]; simp; omega, ?_, ?_, ?_, (HBW.out.alloc hz _).grown hgrow (by simp; omega) (fun b e => (HO.out.lt b e).1), by omega⟩
              · show World.ownsRow _ _ _ _ _ _ _
                rw [List.length_append, List.map_append]; exact hown'
              · show _ = _
                rw [HE.out, HK.out.1, List.append_assoc]; rfl
              · show _ = _
                rw [HN.out, HK.out.2]
            case measure => simp [Go.RowKit.intOf]; omega
        · have HK := KEEP (fun _ c hc => by rw [List.getElem?_eq_none_iff.2 (by rw [HL.out]; omega)] at hc; cases hc)
          have i2 : ¬ (k : Int) + 1 < (n : Int) := by omega
          clear hb KEEP hcr
          go_wp2_with (at_builtin; refine wpList_append_own _ rfl _ _ 116 rfl B 4 j0 (.bool false) 1 1 Tryz.underlying116 hj hy0 hy1 hy2 rfl (by decide) _ _ _ rfl (HO.out.alloc _) ⟨wr.heap.size, 0, none⟩ 1 1 [.bool true] rfl rfl (cell_one_new _ _ _) (one_of_bool _) (by unfold maxLen; omega) (by omega) (by simp; omega) ?_; intro v' w2 hown' hgrow _)
          go_roundw
          case rel =>
            have hsg := hgrow.size
            rw [World.size_alloc] at hsg
            refine ⟨k + 1, m, R ++ [true], by rw [HL.out]; omega, by go_num, rfl, by omega, by rw [List.length_append]; simp; omega, ?_, ?_, ?_, (HBW.out.alloc hz _).grown hgrow (by simp; omega) (fun b e => (HO.out.lt b e).1), by omega⟩
            · show World.ownsRow _ _ _ _ _ _ _
              rw [List.length_append, List.map_append]; exact hown'
            · show _ = _
              rw [HE.out, HK.out.1, List.append_assoc]; rfl
            · show _ = _
              rw [HN.out, HK.out.2]
          case measure => simp [Go.RowKit.intOf]; omega
    · have hkn : k = n := by omega
      have hd : l.drop k = [] := List.drop_of_length_le (by rw [HL.out]; omega)
      have hE : Hid (el l = R) := by show _ = _; rw [HE.out, hd]; show _ ++ [] = _; rw [List.append_nil]
      have hN : Hid (np l = m) := by show _ = _; rw [HN.out, hd]; rfl
      clear hd hcr HE HN
      go_wp2
      go_ret2
      refine ⟨u4, ?_, by rw [hE.out]; exact HO.out, HBW.out⟩
      rw [hN.out]; rfl

theorem owns_mono {w : World} {b b' e n : Nat} {v : Value} {xs : List Value} (h : w.ownsRow b e 1 v n xs) (hb : b' ≤ b) : w.ownsRow b' e 1 v n xs := by
  refine ⟨h.1, ?_⟩
  rcases h.2 with h2 | ⟨g, cap, cur, h1, h2, h3⟩
  · exact .inl h2
  · exact .inr ⟨g, cap, cur, h1, Nat.le_trans hb h2, h3⟩
theorem owns_below {w w' : World} {B b e n : Nat} {v : Value} {xs : List Value} (h : w.ownsRow b e 1 v n xs) (hb : Below B w w') (hB : w.heap.size ≤ B) : w'.ownsRow b e 1 v n xs := by
  refine ⟨h.1, ?_⟩
  rcases h.2 with h2 | ⟨g, cap, cur, h1, h2, h3, h4⟩
  · exact .inl h2
  · have hlt := (Array.getElem?_eq_some_iff.1 h3).1
    exact .inr ⟨g, cap, cur, h1, h2, (hb.block g (by omega)).trans h3, h4⟩
theorem nballs_drop (t : List Bool) (k : Nat) (h : nballs (t.take k) = 0) (hk : t.length ≤ k) : nballs t = 0 := by rw [List.take_of_length_le hk] at h; exact h
theorem nballs_at (t : List Bool) (k : Nat) (h : t[k]? = some true) : nballs t ≠ 0 := by
  unfold nballs
  intro e
  rw [List.count_eq_zero] at e
  exact e (List.mem_of_getElem? h)

def RndRel (l : List Bool) (B : Nat) (w : World) (gk : Nat) (lv rv : Value) (wr : World) : Prop :=
  ∃ (t : List Bool) (out : List Nat), t.length ≤ 240 ∧ nballs t + out.length ≤ 120 ∧ nballs t ≤ gk ∧ Hid (Still t) ∧ Hid (rdB l = out ++ rds (nballs t) t) ∧ Hid (wr.ownsRow B 4 1 lv t.length (t.map .bool)) ∧
    Hid (wr.ownsRow B 3 1 rv out.length ((ni out).map (.int .i64))) ∧ Hid (Below B w wr) ∧ B ≤ wr.heap.size
theorem concat_at (A : List Bool) (m g1 c1 g2 : Nat) (w : World) (hA : A.length ≤ 200) (hm : m ≤ 200) (h1 : CellsAt w g1 (A.map .bool)) (h2 : CellsAt w g2 ((List.replicate m false).map .bool)) :
    Calls Tryz.prog 180 #[.slice (some ⟨w.heap.size, 0, none⟩) 2 2] (w.alloc (.cells #[.slice (some ⟨g1, 0, none⟩) A.length c1, .slice (some ⟨g2, 0, none⟩) m m] 116)) fun e w' => ∃ v, e = .returned v ∧
      w'.ownsRow w.heap.size 4 1 v (A ++ List.replicate m false).length ((A ++ List.replicate m false).map .bool) ∧ Below w.heap.size w w' := by
  obtain ⟨o, ho⟩ : ∃ o, o = Obj.cells #[.slice (some ⟨g1, 0, none⟩) A.length c1, .slice (some ⟨g2, 0, none⟩) m m] 116 := ⟨_, rfl⟩
  have k0 : (w.alloc o).cell? ⟨w.heap.size, 0, none⟩ = some (.slice (some ⟨g1, 0, none⟩) A.length c1) := by rw [ho, World.cell?_alloc_at _ _ _ _ rfl]; rfl
  have k1 : (w.alloc o).cell? ⟨w.heap.size, 1, none⟩ = some (.slice (some ⟨g2, 0, none⟩) (List.replicate m false).length m) := by rw [ho, World.cell?_alloc_at _ _ _ _ rfl, List.length_replicate]; rfl
  rw [← ho]
  refine (concat_any A (List.replicate m false) w.heap.size 2 g1 c1 g2 m (w.alloc o) hA (by simpa using hm) k0 k1 (h1.alloc _) (h2.alloc _)).mono ?_
  rintro e w' ⟨v, rfl, hv, hb⟩
  rw [World.size_alloc] at hv hb
  refine ⟨v, rfl, ?_, ((Below.refl w.heap.size w).alloc (Nat.le_refl _) o).trans (hb.mono (Nat.le_succ _))⟩
  rw [List.length_append]
  exact owns_mono hv (Nat.le_succ _)

set_option maxRecDepth 100000 in
set_option maxHeartbeats 4000000 in
theorem roundsOf_any (g n cap : Nat) (l : List Bool) (w : World) (hl : l.length = n) (hn : n ≤ 120) (hc : CellsAt w g (l.map .bool)) :
    Calls Tryz.prog 150 #[.slice (some ⟨g, 0, none⟩) n cap] w fun e w' => ∃ v, e = .returned v ∧ IntsV w.heap.size w' v (ni (rdB l)) ∧ Below w.heap.size w w' := by
  obtain ⟨i0, hi, hz0, hz1, hz2⟩ := info_parts infoI
  obtain ⟨j0, hj, hy0, hy1, hy2⟩ := info_parts infoB
  obtain ⟨B, hB⟩ : ∃ B, w.heap.size = B := ⟨_, rfl⟩
  have CC := hide (count_any g n cap l hl (by omega) w hc)
  have hnb : nballs l ≤ n := by rw [← hl]; exact List.count_le_length
  obtain ⟨m, hm⟩ : ∃ m, m = nballs l := ⟨_, rfl⟩
  have HM := hide hm
  rw [← hm] at CC hnb
  have HL := hide hl
  have HC := hide (fun wr (hb : Below B w wr) => hc.below' (w' := wr) (B := B) hb (Nat.le_of_eq hB))
  have HPS := hide (pad_still l)
  have HPB := hide (nballs_pad l)
  have HRD : Hid (rdB l = rds (nballs l) (pad l)) := rfl
  have HPD : Hid (pad l = l ++ List.replicate m false) := by show _ = _; rw [HM.out]; rfl
  have CAT := hide (fun (W : World) (g2 : Nat) (h1 : CellsAt W g (l.map .bool)) (h2 : CellsAt W g2 ((List.replicate m false).map .bool)) => concat_at l m g cap g2 W (by omega) (by omega) h1 h2)
  rw [hl] at CAT
  rw [hB] at CC ⊢
  have HB := hide hB
  clear hl hc hB hm
  go_enter Tryz.func150, Tryz.ntmps150
  go_wp2
  go_step3
  go_wp2_with fail
  refine CC.out.mono ?_
  rintro e w1 ⟨rfl, hb1⟩
  have hz1' : B ≤ w1.heap.size := by have := hb1.size; have := HB.out; omega
  have HB1 := hide hb1
  clear hb1 CC
  have i0n : (0 : Int) ≤ (m : Int) := by omega
  have i1n : (m : Int) ≤ 120 := by omega
  go_wp2_with (first | (at_make; refine wpList_make_full _ rfl _ _ 116 rfl w1.heap.size 4 j0 (.bool false) 1 Tryz.underlying116 hj hy0 hy1 _ _ _ _ m rfl rfl rfl rfl ?b2 ?b3 ?b4 ?_; rotate_right; intro w2 hown hgrow; rw [madeB] at hown; have HB2 := hide (HB1.out.grown hgrow hz1' (fun k e => by cases e)); have HC2 := hide (CellsAt.of_owns hown); have HS2 := hide hgrow.size; clear hown hgrow) | (go_at_call 180; go_loud (refine (CAT.out w2 w1.heap.size (HC.out w2 HB2.out) HC2.out).mono ?_; rintro e w3 ⟨lv, rfl, hlv, hb3⟩; have hz3 : B ≤ w2.heap.size := (by have := HS2.out; omega); have HLV := hide (owns_mono hlv hz3); have HB3 := hide (HB2.out.trans (hb3.mono hz3)); have hz4 : B ≤ w3.heap.size := (by have := hb3.size; omega); clear hlv hb3)))
  case b2 => rw [hy2]; omega
  case b3 => unfold maxLen; omega
  case b4 => exact Nat.le_refl _
  go_step3
  go_wp2
  go_loopg [3, 4] m (fun gk lv rv wr => RndRel l B w gk lv rv wr)
  case atStart =>
    refine ⟨pad l, [], by rw [HPD.out, List.length_append, HL.out, List.length_replicate]; omega, by rw [HPB.out, ← HM.out]; simp; omega, by rw [HPB.out, ← HM.out]; exact Nat.le_refl _, HPS, ?_, ?_, World.ownsRow_nil _ _ _ _, HB3, hz4⟩
    · show _ = _
      rw [HPB.out, HRD.out]; rfl
    · show World.ownsRow _ _ _ _ _ _ _
      rw [HPD.out]; exact HLV.out
  case round =>
    obtain ⟨t, out, ht, hlen, hgk, HST, HR, HT, HO, HBW, hz⟩ := hrel
    clear HLV HB3 hz4 HB1 HB2 HC2 HS2 CAT
    obtain ⟨G, rfl⟩ : ∃ G, G = gk := ⟨gk, rfl⟩
    obtain ⟨tn, htn⟩ : ∃ n, n = t.length := ⟨_, rfl⟩
    have HTN := hide htn
    rw [← htn] at ht HT
    clear htn
    obtain ⟨a, c, rfl⟩ := own_slice HT.out
    have HA : Hid (0 < tn → ∃ g, a = some ⟨g, 0, none⟩) := by
      intro h
      obtain ⟨g, cap, h1, _⟩ := ownsRow_form HT.out h
      injection h1 with h1 _ _
      exact ⟨g, h1⟩
    go_wp2
    obtain ⟨rv, hrv⟩ : ∃ rv, rv = u4 := ⟨u4, rfl⟩
    rw [← hrv] at HO ⊢
    clear hrv
    go_loopg [3, 4, 17] tn (fun gi s3 s4 s17 wx => ∃ k : Nat, k + gi = tn ∧ s3 = .slice a tn c ∧ s4 = rv ∧ s17 = .int .i64 (k : Int) ∧ Hid (nballs (t.take k) = 0) ∧ wr = wx)
    case atStart => exact ⟨0, by omega, rfl, rfl, rfl, rfl, rfl⟩
    case round =>
      obtain ⟨k, hk, rfl, rfl, rfl, HZ, rfl⟩ := hrel
      by_cases hlt : k < tn
      · obtain ⟨q, rfl⟩ := HA.out (by omega)
        obtain ⟨b, hb⟩ : ∃ b, t[k]? = some b := ⟨_, List.getElem?_eq_getElem (by rw [← HTN.out]; exact hlt)⟩
        have hcell : wr.cell? ⟨q, k, none⟩ = some (.bool b) := ((CellsAt.of_owns HT.out) k (.bool b) (by simp [hb])).1
        have q0 : (0 : Int) ≤ (k : Int) := by omega
        have q1 : (k : Int) < (tn : Int) := by omega
        cases b
        · have HZ2 := hide ((nballs_snoc t k false hb).trans (by rw [HZ.out]; rfl : _ = 0))
          clear hb
          go_wp2
          go_roundg (tn - (k + 1))
          case measure => omega
          case rel => exact ⟨k + 1, by omega, rfl, rfl, by go_num, HZ2, rfl⟩
        · have hnz := nballs_at t k hb
          have CT := hide (takeOut_any q tn c t wr HTN.out.symm (by omega) (CellsAt.of_owns HT.out))
          have eb := el_balls t
          have el1 := el_length t
          have pb := np_ball HST.out hnz
          have hnp : np t ≤ 120 := by rw [← HTN.out] at el1; omega
          obtain ⟨p, hp⟩ : ∃ p, p = np t := ⟨_, rfl⟩
          have HP := hide hp
          rw [← hp] at CT eb el1 pb hnp
          have HEB := hide (show nballs (el t) < G ∧ nballs (el t) + (out.length + 1) ≤ 120 ∧ (el t).length ≤ 240 by rw [← HTN.out] at el1; omega)
          have HSX := hide HST.out.el
          have HRX : Hid (rdB l = (out ++ [p]) ++ rds (nballs (el t)) (el t)) := by
            show rdB l = _
            obtain ⟨m, hm⟩ : ∃ m, nballs t = m + 1 := ⟨nballs t - 1, by omega⟩
            rw [HR.out, hm, rds_cons hnz, ← HP.out, List.append_assoc]
            rw [rds_more HSX.out m (nballs (el t)) (by omega) (Nat.le_refl _)]; rfl
          have hol : out.length < 120 := by omega
          clear hb hnz eb el1 pb hp
          go_wp2_with fail
          (with_reducible refine CT.out.mono ?_)
          rintro e w4 ⟨v4, rfl, hv4, hb4⟩
          have hzz : B ≤ w4.heap.size := by have := hb4.size; omega
          have HV4 := hide (owns_mono hv4 hz)
          have HB4 := hide (HBW.out.trans (hb4.mono hz))
          have HO4 := hide (owns_below HO.out hb4 (Nat.le_refl _))
          clear hv4 hb4 CT
          go_wp2_with (at_builtin; refine wpList_append_own _ rfl _ _ 79 rfl B 3 i0 (.int .i64 0) 1 8 Tryz.underlying79 hi hz0 hz1 hz2 rfl (by decide) _ _ _ rfl (HO4.out.alloc _) ⟨w4.heap.size, 0, none⟩ 1 1 [.int .i64 (p : Int)] rfl rfl (cell_one_new _ _ _) (one_of_int _) (by unfold maxLen; omega) (by omega) (by simp; omega) ?_; intro v5 w5 hown5 hgrow5 _)
          go_roundg (nballs (el t))
          case measure => exact HEB.out.1
          case rel =>
            have hsg := hgrow5.size
            rw [World.size_alloc] at hsg
            refine ⟨el t, out ++ [p], HEB.out.2.2, by rw [List.length_append]; exact HEB.out.2.1, Nat.le_refl _, HSX, HRX, ?_, ?_, (HB4.out.alloc hzz _).grown hgrow5 (by simp; omega) (fun b e => (HO4.out.lt b e).1), by omega⟩
            · exact (HV4.out.alloc (.cells #[.int .i64 (p : Int)] 3)).kept hgrow5 (own_apart (HV4.out.alloc (.cells #[.int .i64 (p : Int)] 3)) (HO4.out.alloc (.cells #[.int .i64 (p : Int)] 3)) (by decide))
            · show World.ownsRow _ _ _ _ _ _ _
              rw [List.length_append, ni_snoc, List.map_append]; exact hown5
      · have hkn : k = tn := by omega
        have hnz : nballs t = 0 := nballs_drop t k HZ.out (by rw [← HTN.out]; omega)
        have HR2 := hide (HR.out.trans (by rw [hnz, rds_nil hnz, List.append_nil] : _ = out))
        clear hnz
        go_wp2
        rw [Exit.noGoto_ret]
        go_ret
        rw [HR2.out]
        exact ⟨_, rfl, IntsV.of_owns (e := 3) (n := out.length) HO.out, HBW.out⟩

theorem rdB_cut (l : List Bool) : rdB (cut l) = rdB l := rdB_ext (bx_fun_cut l)

theorem readRounds (s : ByteArray) (w w1 : World) (hv : vld s = true) (hb1 : Below w.heap.size w w1) (hc1 : CellsAt w1 w.heap.size ((bits s).map .bool)) (hz1 : w.heap.size < w1.heap.size) :
    Calls Tryz.prog 150 #[.slice (some ⟨w.heap.size, 0, none⟩) (tl (bits s)) s.size] w1 fun e w' => ∃ v, e = .returned v ∧ IntsV w.heap.size w' v (ni (rdB (bits s))) ∧ Below w.heap.size w w' := by
  have h120 := vld_le s hv
  have hle := tl_le (bits s)
  rw [length_bits] at hle
  refine (roundsOf_any w.heap.size (tl (bits s)) s.size (cut (bits s)) w1 (cut_length _) (by omega) (by rw [cut_map]; exact hc1.take _)).mono ?_
  rintro e w' ⟨v, rfl, hi, hb⟩
  rw [rdB_cut] at hi
  exact ⟨v, rfl, hi.mono (Nat.le_of_lt hz1), hb1.trans (hb.mono (Nat.le_of_lt hz1))⟩

end Go.Proofs.YtdooboibmllfkaaGreatDoor
