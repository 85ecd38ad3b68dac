/- TEXTS IWav3, IWav4. -/
import Derived.Test.Ytlgceccbjkkeiabwax31
import Derived.Test.Ytlgceccbjkkeiabwax32
import Derived.Test.Ytlgceccbjkkeiabwax04
import Derived.Test.Ytlgceccbjkkeiabwax10
/- THE WALKS of the program's boxes and WaveRow. -/
namespace Go.Proofs.Ytlgceccbjkkeiab
open Go.RowKit Go.Sort

/-- the gap that is still to be put behind k runs -/
def gpN (G : List Int) : Nat → Nat
  | 0 => 0
  | k + 1 => (G.getD k 0).toNat
theorem gp_some {G : List Int} {k : Nat} {y : Int} (h : G[k]? = some y) : gpN G (k + 1) = y.toNat := by
  show (G.getD k 0).toNat = _
  rw [List.getD_eq_getElem?_getD, h]; rfl
theorem gp_none {G : List Int} {k : Nat} (h : G.length ≤ k) : gpN G (k + 1) = 0 := by
  show (G.getD k 0).toNat = _
  rw [List.getD_eq_getElem?_getD, List.getElem?_eq_none h]; rfl
theorem bx_next {st : Int} {R G L : List _} {k : Nat} {x : Int} (hx : R[k]? = some x) (h : L ++ List.replicate (gpN G k) false = wvT st R G k) :
    (L ++ List.replicate (gpN G k) false ++ List.replicate x.toNat true) ++ List.replicate (gpN G (k + 1)) false = wvT st R G (k + 1) := by
  rw [h, wvT_next hx]; rfl
theorem wrB_bd {st : Int} {R G : List Int} (h : wIn st R G = true) : (wrB st R G).length ≤ 20000 := by
  obtain ⟨a, b, c, d, e, f, g⟩ := (wIn_iff st R G).1 h
  obtain ⟨k1, k2, k3, k4, k5, k6⟩ := wIn_nat h
  unfold wrB
  rw [wvB_length k1]
  have e1 := ni_sumW (nn R)
  have e2 := ni_sumW (nn G)
  rw [k4] at e1
  rw [k5] at e2
  have h1 := sum_bd R f
  have h2 := sum_bd G g
  omega
theorem wrB_tl {st : Int} {R G : List Int} (h : wIn st R G = true) : cut (wrB st R G) = wrB st R G := by
  obtain ⟨k1, k2, k3, k4, k5, k6⟩ := wIn_nat h
  exact cut_wv k1 k2

set_option maxRecDepth 100000 in
set_option maxHeartbeats 4000000 in
theorem boxes_any (sn : Nat) (u v : Value) (R G : List Int) (w : World) {lo lo' : Nat} (h : wIn (sn : Int) R G = true) (hu : IntsV lo w u R) (hv : IntsV lo' w v G) :
    Calls Try.prog 31 #[.agg #[.int .i64 (sn : Int), u, v]] w fun e w' => ∃ b, e = .returned b ∧
      w'.ownsRow w.heap.size 4 1 b (wrB sn R G).length ((wrB sn R G).map .bool) ∧ Below w.heap.size w w' := by
  obtain ⟨a, c, rfl, hf⟩ := ints_form hu
  obtain ⟨a', c', rfl, hf'⟩ := ints_form hv
  obtain ⟨st0, st1, n1, n2, n3, hRx, hGx⟩ := (wIn_iff _ R G).1 h
  obtain ⟨i0, hi, hz0, hz1, hz2⟩ := info_parts infoB
  have HX := hide hRx
  have HY := hide hGx
  have HWD := hide (wrB_bd h)
  have HLE := hide (fun k => wvT_le (st := (sn : Int)) (R := R) (G := G) k)
  have HEND := hide (wvT_end (st := (sn : Int)) (R := R) (G := G) (n := R.length) rfl)
  obtain ⟨n, hn⟩ : ∃ n, n = R.length := ⟨_, rfl⟩
  obtain ⟨m, hm⟩ : ∃ m, m = G.length := ⟨_, rfl⟩
  rw [← hn] at n1 n2 n3 hf HEND ⊢
  rw [← hm] at n3 hf' ⊢
  have HN := hide hn
  have HM := hide hm
  have n4 : n ≤ m + 1 := by omega
  have n5 : m + 1 ≤ n := by omega
  obtain ⟨W, hW⟩ : ∃ W, W = w.alloc (.cells #[.int .i64 (sn : Int), .slice a n c, .slice a' m c'] 38) := ⟨_, rfl⟩
  have hz : w.heap.size < W.heap.size := by rw [hW]; simp
  have HB0 : Hid (Below w.heap.size w W) := by rw [hW]; exact (Below.refl _ _).alloc (Nat.le_refl _) _
  have c0 : W.cell? ⟨w.heap.size, 0, none⟩ = some (.int .i64 (sn : Int)) := by rw [hW, World.cell?_alloc_at _ _ _ _ rfl]; rfl
  have c1 : W.cell? ⟨w.heap.size, 1, none⟩ = some (.slice a n c) := by rw [hW, World.cell?_alloc_at _ _ _ _ rfl]; rfl
  have c2 : W.cell? ⟨w.heap.size, 2, none⟩ = some (.slice a' m c') := by rw [hW, World.cell?_alloc_at _ _ _ _ rfl]; rfl
  have HF : Hid (0 < n → ∃ g, a = some ⟨g, 0, none⟩ ∧ CellsAt W g (R.map (.int .i64))) := fun h0 => by
    obtain ⟨g, e, hc⟩ := hf h0; exact ⟨g, e, hc.below' HB0.out (Nat.le_refl _)⟩
  have HF' : Hid (0 < m → ∃ g, a' = some ⟨g, 0, none⟩ ∧ CellsAt W g (G.map (.int .i64))) := fun h0 => by
    obtain ⟨g, e, hc⟩ := hf' h0; exact ⟨g, e, hc.below' HB0.out (Nat.le_refl _)⟩
  have HW := hide hW
  have sb : sn ≤ 120 := by omega
  clear hu hv hf hf' hRx hGx hn hm h hW n3 st0 st1
  go_enter Try.func31, Try.ntmps31
  go_wp2_with (at_make; rw [← HW.out]; refine wpList_make_full _ rfl _ _ 44 rfl W.heap.size 4 i0 (.bool false) 1 Try.underlying44 hi hz0 hz1 _ _ _ _ sn rfl rfl rfl rfl ?b2 ?b3 ?b4 ?_; rotate_right; intro w1 hown hgrow; rw [madeB] at hown; have HO1 := hide hown; have HB1 := hide ((Below.refl _ _).grown hgrow (Nat.le_refl _) (fun k e => by cases e)); have e1 := (HB1.out.cell (p := ⟨w.heap.size, 1, none⟩) hz).trans c1; clear hown hgrow)
  case b2 => rw [hz2]; omega
  case b3 => unfold maxLen; omega
  case b4 => exact Nat.le_refl _
  have hzw1 : W.heap.size ≤ w1.heap.size := HB1.out.size
  clear HW c0 c1
  go_loopw [3, 4, 5, 12] (fun b _ _ i wr => ∃ (k : Nat) (L : List Bool), k ≤ n ∧ i = .int .i64 (k : Int) ∧ Hid (L ++ List.replicate (gpN G k) false = wvT (sn : Int) R G k) ∧ Hid (wr.ownsRow W.heap.size 4 1 b L.length (L.map .bool)) ∧ Hid (Below W.heap.size W wr) ∧ W.heap.size ≤ wr.heap.size) (fun _ _ _ i _ => n - (Go.RowKit.intOf i).toNat)
  case atStart =>
    refine ⟨0, List.replicate sn false, Nat.zero_le _, rfl, ?_, by simpa using HO1, HB1, hzw1⟩
    show _ ++ _ = _
    unfold wvT gpN
    rw [Int.toNat_natCast]
    simp [wb]
  case round =>
    obtain ⟨k, L, hk, rfl, HL, HO, HBW, hzr⟩ := hrel
    have hLb : L.length + gpN G k ≤ 20000 := by
      have h1 := congrArg List.length HL.out
      rw [List.length_append, List.length_replicate] at h1
      have h2 := HLE.out k
      have h3 := HWD.out
      omega
    clear e1 hzw1 HB1 HO1
    by_cases hlt : k < n
    · obtain ⟨g, rfl, hc⟩ := HF.out (by omega)
      obtain ⟨x, hx⟩ : ∃ x, R[k]? = some x := ⟨_, List.getElem?_eq_getElem (by rw [← HN.out]; exact hlt)⟩
      have hcell := ((hc.below' HBW.out (Nat.le_refl _)) k (.int .i64 x) (by rw [List.getElem?_map, hx]; rfl)).1
      obtain ⟨x0, x1⟩ := HX.out x (List.mem_of_getElem? hx)
      have HNX := hide (bx_next hx HL.out)
      obtain ⟨xn, rfl⟩ : ∃ q : Nat, x = (q : Int) := ⟨x.toNat, by omega⟩
      have RP := hide (fun b W (h : W.cell? ⟨b, 0, none⟩ = some (.bool true)) => repB_any (.bool true) xn b W (by omega) (by omega) rfl h)
      have i1 : (0 : Int) ≤ (k : Int) := by omega
      have i2 : (k : Int) < (n : Int) := by omega
      have i3 : (0 : Int) ≤ (xn : Int) := by omega
      clear hc hx
      rw [Int.toNat_natCast] at HNX
      -- what is done behind the gap
      have STEP : Hid (∀ (v8 : Value) (w8 : World) (M : List Bool), M.length ≤ 20000 → w8.ownsRow W.heap.size 4 1 v8 M.length (M.map .bool) → Below W.heap.size W w8 → W.heap.size ≤ w8.heap.size → Hid (Below W.heap.size W (w8.alloc (.cells #[.bool true] 4)) ∧ (w8.alloc (.cells #[.bool true] 4)).ownsRow W.heap.size 4 1 v8 M.length (M.map .bool))) := by
        intro v8 w8 M _ h2 h3 h4
        exact ⟨h3.alloc h4 _, h2.alloc _⟩
      by_cases hk0 : k = 0
      · subst hk0
        obtain ⟨HB5, HO5⟩ := (STEP.out _ _ L (by omega) HO.out HBW.out hzr).out
        have HB5 := hide HB5
        have HO5 := hide HO5
        clear STEP
        go_wp2_with (first
          | (go_at_call 42; refine (RP.out wr.heap.size _ (by simp)).mono ?_; rintro e w6 ⟨rfl, hb6, hz6, hcl6⟩; rw [World.size_alloc] at hb6 hz6 hcl6; have HCL6 := hide hcl6; have HB6 := hide (HB5.out.trans (hb6.mono (by omega))); have HO6 := hide (owns_below HO5.out hb6 (by simp)); clear hcl6 hb6)
          | (at_builtin; refine wpList_append_own _ rfl _ _ 44 rfl W.heap.size 4 i0 (.bool false) 1 1 Try.underlying44 hi hz0 hz1 hz2 rfl (by decide) _ _ _ rfl HO6.out ⟨wr.heap.size + 1, 0, none⟩ xn xn (List.replicate xn (.bool true)) rfl (by simp) HCL6.out.src (by intro u hu; rw [List.mem_replicate] at hu; rw [hu.2]; rfl) (by unfold maxLen; omega) (by omega) (by omega) ?_; intro v7 w7 hown7 hgrow7 _; have hz7 := hgrow7.size; have HB7 := hide (HB6.out.grown hgrow7 (by omega) (fun b e => (HO6.out.lt b e).1)); have HO7 := hide hown7; clear hown7 hgrow7))
        go_roundw
        case rel =>
          refine ⟨1, L ++ List.replicate xn true, by omega, by go_num, ?_, ?_, HB7, by omega⟩
          · have := HNX.out
            show _ = _
            rw [← this]
            simp [gpN]
          · show World.ownsRow _ _ _ _ _ _ _
            have := HO7.out
            simpa using this
        case measure => simp [Go.RowKit.intOf]; omega
      · obtain ⟨j, rfl⟩ : ∃ j, k = j + 1 := ⟨k - 1, by omega⟩
        obtain ⟨g', rfl, hc'⟩ := HF'.out (by omega)
        obtain ⟨y, hy⟩ : ∃ y, G[j]? = some y := ⟨_, List.getElem?_eq_getElem (by rw [← HM.out]; omega)⟩
        obtain ⟨y0, y1⟩ := HY.out y (List.mem_of_getElem? hy)
        obtain ⟨yn, rfl⟩ : ∃ q : Nat, y = (q : Int) := ⟨y.toNat, by omega⟩
        have hcell' := ((hc'.below' HBW.out (Nat.le_refl _)) j (.int .i64 (yn : Int)) (by rw [List.getElem?_map, hy]; rfl)).1
        have hgp : gpN G (j + 1) = yn := by rw [gp_some hy]; exact Int.toNat_natCast _
        have e2 := (HBW.out.cell (p := ⟨w.heap.size, 2, none⟩) hz).trans c2
        rw [hgp] at hLb HNX
        obtain ⟨v8, w8, hrun8, hown8, hgrow8⟩ := run_append_zeros_own wr W.heap.size 44 3 44 4 i0 (.bool false) .i64 Try.underlying44 Try.underlying3 hi hz0 hz1 rfl rfl (by rw [hz2]; omega) _ _ yn _ HO.out (by omega) (by omega) hzr
        have HR8 := hide hrun8
        have HB8 := hide (HBW.out.grown hgrow8 hzr (fun b e => (HO.out.lt b e).1))
        have hz8 : W.heap.size ≤ w8.heap.size := HB8.out.size
        have hown9 : w8.ownsRow W.heap.size 4 1 v8 (L ++ List.replicate yn false).length ((L ++ List.replicate yn false).map .bool) := by simpa using hown8
        obtain ⟨M, hM⟩ : ∃ M, M = L ++ List.replicate yn false := ⟨_, rfl⟩
        have hMl : M.length = L.length + yn := by rw [hM]; simp
        rw [← hM] at hown9 HNX
        obtain ⟨HB5, HO5⟩ := (STEP.out v8 w8 M (by omega) hown9 HB8.out hz8).out
        have HB5 := hide HB5
        have HO5 := hide HO5
        have hMb : M.length ≤ 20000 := by omega
        have hwr : IntKind.i64.wrap ((j : Int) + 1 - 1) = (j : Int) := by rw [IntKind.wrap_i64]; omega
        have j0 : (0 : Int) < (j : Int) + 1 := by omega
        have j1 : (j : Int) < (m : Int) := by omega
        have j2 : (0 : Int) ≤ (j : Int) := by omega
        have j3 : (0 : Int) ≤ (yn : Int) := by omega
        have ek : ((j + 1 : Nat) : Int) = (j : Int) + 1 := by omega
        rw [ek] at i1 i2 ⊢
        have et : ((j : Int) + 1).toNat = j + 1 := by omega
        clear STEP hrun8 hown8 hgrow8 hown9 hy hc' hgp hM hMl hk0 ek
        go_wp2_with (first
          | (at_builtin; refine Lib.wpList_append_run _ rfl _ _ _ _ rfl _ _ rfl rfl _ _ HR8.out ?_)
          | (go_at_call 42; refine (RP.out w8.heap.size _ (by simp)).mono ?_; rintro e w6 ⟨rfl, hb6, hz6, hcl6⟩; rw [World.size_alloc] at hb6 hz6 hcl6; have HCL6 := hide hcl6; have HB6 := hide (HB5.out.trans (hb6.mono (by omega))); have HO6 := hide (owns_below HO5.out hb6 (by simp)); clear hcl6 hb6)
          | (at_builtin; refine wpList_append_own _ rfl _ _ 44 rfl W.heap.size 4 i0 (.bool false) 1 1 Try.underlying44 hi hz0 hz1 hz2 rfl (by decide) _ _ _ rfl HO6.out ⟨w8.heap.size + 1, 0, none⟩ xn xn (List.replicate xn (.bool true)) rfl (by simp) HCL6.out.src (by intro u hu; rw [List.mem_replicate] at hu; rw [hu.2]; rfl) (by unfold maxLen; omega) (by omega) (by omega) ?_; intro v7 w7 hown7 hgrow7 _; have hz7 := hgrow7.size; have HB7 := hide (HB6.out.grown hgrow7 (by omega) (fun b e => (HO6.out.lt b e).1)); have HO7 := hide hown7; clear hown7 hgrow7))
        go_roundw
        case rel =>
          refine ⟨j + 2, M ++ List.replicate xn true, by omega, by go_num, HNX, ?_, HB7, by omega⟩
          show World.ownsRow _ _ _ _ _ _ _
          have := HO7.out
          simpa using this
        case measure => simp [Go.RowKit.intOf]; omega
    · have hkn : k = n := by omega
      subst hkn
      have hg0 : gpN G k = 0 := by
        cases k with
        | zero => rfl
        | succ j => exact gp_none (by rw [← HM.out]; omega)
      have HLF : Hid (L = wrB (sn : Int) R G) := hide (by
        have h1 := HL.out
        rw [hg0, HEND.out] at h1
        simpa using h1)
      have HBF := hide (HB0.out.trans (HBW.out.mono (Nat.le_of_lt hz)))
      clear hg0 HL
      go_wp2
      go_ret
      refine ⟨_, rfl, ?_, HBF.out⟩
      rw [← HLF.out]
      exact owns_mono HO.out (Nat.le_of_lt hz)
end Go.Proofs.Ytlgceccbjkkeiab

/- THE WALK of the program's WaveRow. -/
namespace Go.Proofs.Ytlgceccbjkkeiab
open Go.RowKit Go.Sort

theorem wrOk_tl {st : Int} {R G : List Int} (h : wIn st R G = true) : wrOk st R G = decide (tl (wrB st R G) ≤ 120) ∧ (wrOk st R G = true → wrS st R G = ofBits (cut (wrB st R G))) := by
  have hc := wrB_tl h
  have hl : tl (wrB st R G) = (wrB st R G).length := by rw [← cut_length, hc]
  obtain ⟨k1, k2, k3, k4, k5, k6⟩ := wIn_nat h
  have e1 := ni_sumW (nn R)
  have e2 := ni_sumW (nn G)
  rw [k4] at e1
  rw [k5] at e2
  have hlen : ((wrB st R G).length : Int) = st + R.sum + G.sum := by
    unfold wrB
    rw [wvB_length k1]
    omega
  refine ⟨?_, fun ho => ?_⟩
  · unfold wrOk
    rw [h, hl, Bool.true_and]
    apply decide_eq_decide.2
    omega
  · unfold wrS
    rw [if_pos ho, hc]
    rfl
/-- a wave in a block of its own -/
structure WaveAt (w : World) (q : Nat) (x y z : Value) : Prop where
  c0 : w.cell? ⟨q, 0, none⟩ = some x
  c1 : w.cell? ⟨q, 1, none⟩ = some y
  c2 : w.cell? ⟨q, 2, none⟩ = some z
theorem WaveAt.new (w : World) (x y z : Value) (t : TypeId) : WaveAt (w.alloc (.cells #[x, y, z] t)) w.heap.size x y z :=
  ⟨by rw [World.cell?_alloc_at _ _ _ _ rfl]; rfl, by rw [World.cell?_alloc_at _ _ _ _ rfl]; rfl, by rw [World.cell?_alloc_at _ _ _ _ rfl]; rfl⟩
theorem WaveAt.below {w w' : World} {q B : Nat} {x y z : Value} (h : WaveAt w q x y z) (hb : Below B w w') (hq : q < B) : WaveAt w' q x y z :=
  ⟨(hb.cell (p := ⟨q, 0, none⟩) hq).trans h.c0, (hb.cell (p := ⟨q, 1, none⟩) hq).trans h.c1, (hb.cell (p := ⟨q, 2, none⟩) hq).trans h.c2⟩

set_option maxRecDepth 100000 in
set_option maxHeartbeats 2000000 in
theorem implWaveRow_any (st : Int) (u v : Value) (R G : List Int) (w : World) {lo lo' : Nat} (hRl : R.length ≤ 1048576) (hGl : G.length ≤ 1048576) (hu : IntsV lo w u R) (hv : IntsV lo' w v G) :
    Calls Try.prog 17 #[.int .i64 st, u, v] w fun e w' => e = .returned (.tuple #[.string (wrS st R G), .bool (wrOk st R G)]) ∧ Below w.heap.size w w' := by
  have HU := hide hu
  have HV := hide hv
  obtain ⟨a, c, rfl, _⟩ := ints_form hu
  obtain ⟨a', c', rfl, _⟩ := ints_form hv
  have K := hide (fun (W : World) (hb : Below w.heap.size w W) => known_any st _ _ R G W hRl hGl (HU.out.below hb (Nat.le_refl _)) (HV.out.below hb (Nat.le_refl _)))
  have HN : Hid (wIn st R G = false → wrOk st R G = false ∧ wrS st R G = ByteArray.empty) := fun h => by
    have h1 : wrOk st R G = false := by unfold wrOk; rw [h, Bool.false_and]
    exact ⟨h1, by unfold wrS; rw [h1]; rfl⟩
  have HE : Hid (wrOk st R G = false → wrS st R G = ByteArray.empty) := fun h => by unfold wrS; rw [h]; rfl
  have HT := hide (fun h => wrOk_tl (st := st) (R := R) (G := G) h)
  have HD := hide (fun h => wrB_bd (st := st) (R := R) (G := G) h)
  have HS0 := hide (fun h => ((wIn_iff st R G).1 h).1)
  have BX := hide (fun (W : World) (hb : Below w.heap.size w W) (sn : Nat) (e : st = (sn : Int)) (h : wIn st R G = true) => boxes_any sn _ _ R G W (by rw [← e]; exact h) (HU.out.below hb (Nat.le_refl _)) (HV.out.below hb (Nat.le_refl _)))
  obtain ⟨z, hz⟩ : ∃ z, z = wIn st R G := ⟨_, rfl⟩
  obtain ⟨S, hS⟩ : ∃ S, S = wrS st R G := ⟨_, rfl⟩
  obtain ⟨O, hO⟩ : ∃ O, O = wrOk st R G := ⟨_, rfl⟩
  rw [← hz] at K HN HT HD HS0 BX
  rw [← hS] at HN HT HE ⊢
  rw [← hO] at HN HT HE ⊢
  obtain ⟨n, hn⟩ : ∃ n, n = R.length := ⟨_, rfl⟩
  obtain ⟨m, hm⟩ : ∃ m, m = G.length := ⟨_, rfl⟩
  rw [← hn] at hRl K BX
  rw [← hm] at hGl K BX
  rw [← hn, ← hm]
  clear hu hv hz hS hO hn hm HU HV
  go_enter Try.func17, Try.ntmps17
  go_wp2_with fail
  have HB0 : Hid (Below w.heap.size w (w.alloc (.cells #[.int .i64 st, .slice a n c, .slice a' m c'] 38))) := (Below.refl _ _).alloc (Nat.le_refl _) _
  have HA0 := hide (WaveAt.new w (.int .i64 st) (.slice a n c) (.slice a' m c') 38)
  refine (K.out _ HB0.out).mono ?_
  rintro e w2 ⟨rfl, hb⟩
  have HB2 := hide (HB0.out.trans (hb.mono (by simp)))
  have HA2 := hide (HA0.out.below hb (by simp))
  have hzw2 : w.heap.size ≤ w2.heap.size := HB2.out.size
  clear hb K HB0 HA0
  cases z
  · obtain ⟨rfl, rfl⟩ := HN.out rfl
    clear HA2 BX HT
    go_wp2
    go_ret2
    exact ⟨rfl, HB2.out⟩
  · obtain ⟨sn, rfl⟩ : ∃ sn : Nat, st = (sn : Int) := ⟨st.toNat, by have := HS0.out rfl; omega⟩
    have BX2 := hide (BX.out w2 HB2.out sn rfl rfl)
    obtain ⟨c0, c1, c2⟩ := HA2.out
    have HT2 := hide (HT.out rfl)
    have HD2 := hide (HD.out rfl)
    clear BX HT HD HN HA2
    go_wp2_with fail
    refine BX2.out.mono ?_
    rintro e w3 ⟨b, rfl, hown, hb3⟩
    have HB3 := hide (HB2.out.trans (hb3.mono hzw2))
    obtain ⟨y, g, cap, h1, h2, h3, h4, h5, _⟩ := BoolsV.of_owns (e := 4) hown
    obtain ⟨L, hL⟩ : ∃ L, L = wrB (sn : Int) R G := ⟨_, rfl⟩
    rw [← hL] at h1 h2 h3 h4 HT2 HD2
    have HT1 := hide (fun h120 => text_g y g _ cap L w3 h2 rfl h3 h4 h5 h120)
    have HTB := hide (fun h120 => text_big y g _ cap L w3 h2 rfl h3 h4 h5 h120)
    subst h1
    have hd := HD2.out
    obtain ⟨bl, hbl⟩ : ∃ b, b = L.length := ⟨_, rfl⟩
    rw [← hbl] at HT1 HTB hd ⊢
    have hz3 : w.heap.size ≤ w3.heap.size := HB3.out.size
    clear h2 h3 h4 h5 hown hb3 BX2 c0 c1 c2 hL hbl HD2
    by_cases h120 : tl L ≤ 120
    · have HT := hide (HT1.out h120)
      have HX2 : Hid (O = true) := hide (HT2.out.1.trans (decide_eq_true h120))
      have HX1 := hide (HT2.out.2 HX2.out)
      clear HT1 HTB h120 HT2
      go_wp2_with fail
      refine HT.out.mono ?_
      rintro e w9 ⟨rfl, hb9⟩
      go_wp2_with fail
      go_ret2
      exact ⟨by rw [HX1.out, HX2.out]; rfl, HB3.out.trans (hb9.mono hz3)⟩
    · have HT := hide (HTB.out (by omega))
      have HX2 : Hid (O = false) := hide (HT2.out.1.trans (decide_eq_false h120))
      have HX1 := hide (HE.out HX2.out)
      clear HT1 HTB h120 HT2
      go_wp2_with fail
      refine HT.out.mono ?_
      rintro e w9 ⟨rfl, hb9⟩
      go_wp2_with fail
      go_ret2
      exact ⟨by rw [HX1.out, HX2.out]; rfl, HB3.out.trans (hb9.mono hz3)⟩
end Go.Proofs.Ytlgceccbjkkeiab
