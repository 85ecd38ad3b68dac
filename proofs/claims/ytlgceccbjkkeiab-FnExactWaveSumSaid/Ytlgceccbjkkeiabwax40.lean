/- TEXTS IWav7, IWav8, IWav. -/
import Derived.Test.Ytlgceccbjkkeiabwax39
import Derived.Deep.RegionLaw
import Derived.Deep.DeepCutAuto
import Derived.Test.Ytlgceccbjkkeiabwax31
import Derived.Test.Ytlgceccbjkkeiabwax33
/- THE WALK of the program's waveOf. -/
namespace Go.Proofs.Ytlgceccbjkkeiab
open Go.RowKit Go.Sort

/-! ### pure -/
theorem gapsP_take : ∀ (R : List (Nat × Nat)) (j : Nat) (p q : Nat × Nat), R[j]? = some p → R[j + 1]? = some q → gapsP (R.take (j + 2)) = gapsP (R.take (j + 1)) ++ [q.1 - p.2]
  | [], _, _, _, h, _ => by simp at h
  | [_], 0, _, _, _, h => by simp at h
  | [_], j + 1, _, _, h, _ => by simp at h
  | a :: b :: R, 0, p, q, h1, h2 => by
    have e1 : a = p := by simpa using h1
    have e2 : b = q := by simpa using h2
    subst e1 e2
    show (b.1 - a.2) :: gapsP [b] = [] ++ [b.1 - a.2]
    rfl
  | a :: b :: R, j + 1, p, q, h1, h2 => by
    have ih := gapsP_take (b :: R) j p q (by simpa using h1) (by simpa using h2)
    have e1 : (a :: b :: R).take (j + 1 + 2) = a :: b :: (R.take (j + 1)) := rfl
    have e2 : (a :: b :: R).take (j + 1 + 1) = a :: b :: (R.take j) := rfl
    have e3 : (b :: R).take (j + 2) = b :: R.take (j + 1) := rfl
    have e4 : (b :: R).take (j + 1) = b :: R.take j := rfl
    rw [e3, e4] at ih
    rw [e1, e2]
    show (b.1 - a.2) :: gapsP (b :: R.take (j + 1)) = ((b.1 - a.2) :: gapsP (b :: R.take j)) ++ _
    rw [ih]
    rfl
theorem lz_app : ∀ (l m : List Bool), nballs l ≠ 0 → lz (l ++ m) = lz l
  | [], _, h => by simp [nballs] at h
  | true :: l, m, _ => rfl
  | false :: l, m, h => by
    show lz (l ++ m) + 1 = lz l + 1
    rw [lz_app l m (by simpa [nballs] using h)]
theorem rsP_first {l : List Bool} (h : nballs l ≠ 0) : ∃ p, (rsP (pos l))[0]? = some p ∧ p.1 = lz l := by
  obtain ⟨g, ps, hg, rfl⟩ := blocks l
  cases ps with
  | nil =>
    exfalso; apply h
    unfold nballs
    show (List.replicate g false ++ []).count true = 0
    rw [List.append_nil, List.count_replicate]
    simp
  | cons p ps =>
    refine ⟨(g, g + p.1), ?_, ?_⟩
    · rw [rsP_pos, runsF_app, runsF_gap, runsF_wb _ _ _ hg (fun x hx => by simp at hx), List.length_replicate, Nat.zero_add]
      rfl
    · show g = _
      obtain ⟨k, hk⟩ : ∃ k, p.1 = k + 1 := ⟨p.1 - 1, by have := hg.1; omega⟩
      rw [lz_rep]
      show g = g + lz (List.replicate p.1 true ++ _)
      rw [hk, List.replicate_succ]
      rfl

theorem Two.alloc {q B e : Nat} {st x y : Value} {nx ny : Nat} {xs ys : List Value} {w : World} (h : Two q B e st x y nx ny xs ys w) (o : Obj) : Two q B e st x y nx ny xs ys (w.alloc o) :=
  ⟨h.cells.alloc o, h.ox.alloc o, h.oy.alloc o, h.apart, by rw [World.size_alloc]; have := h.size; omega, h.low⟩
theorem CellsAt.grownAny {w w' : World} {g : Nat} {l : List Value} {row : Option Nat} (h : CellsAt w g l) (hg : w.grownBy w' row) (hlt : g < w.heap.size) (hne : some g ≠ row) : CellsAt w' g l := by
  intro j v hv
  obtain ⟨h1, h2⟩ := h j v hv
  have hb := hg.block g hlt hne
  exact ⟨(World.cell?_of_block (a := ⟨g, j, none⟩) hb).trans h1, (World.frozen?_of_block (a := ⟨g, j, none⟩) hb).trans h2⟩
/-- the loop of waveOf, between two runs -/
def WoRel (R : List (Nat × Nat)) (n q B : Nat) (st : Int) (w : World) (i : Value) (wr : World) : Prop :=
  ∃ (k nb : Nat) (x y : Value), k ≤ n ∧ i = .int .i64 (k : Int) ∧ nb = k - 1 ∧
    Hid (Two q B 3 (.int .i64 st) x y k nb ((ni ((R.take k).map fun p => p.2 - p.1)).map (.int .i64)) ((ni (gapsP (R.take k))).map (.int .i64)) wr) ∧ Hid (Below q w wr)

set_option maxRecDepth 100000 in
set_option maxHeartbeats 4000000 in
theorem waveOf_any (g0 len cap : Nat) (bs : List Bool) (hlen : bs.length = len) (hm : len ≤ 1000) (hb : nballs bs ≠ 0) (w : World) (hI : CellsAt w g0 (bs.map .bool)) :
    Calls Try.prog 29 #[.slice (some ⟨g0, 0, none⟩) len cap] w fun e w' => ∃ x y, e = .returned (.agg #[.int .i64 (lz bs : Int), x, y]) ∧
      IntsV w.heap.size w' x (ni ((rsP (pos bs)).map fun p => p.2 - p.1)) ∧ IntsV w.heap.size w' y (ni (gapsP (rsP (pos bs)))) ∧ ApV x y ∧ Below w.heap.size w w' := by
  obtain ⟨i0, hi, hz0, hz1, hz2⟩ := info_parts infoI
  have hg0 : 0 < len := by
    rcases Nat.eq_zero_or_pos len with h | h
    · subst h
      rw [List.length_eq_zero_iff] at hlen
      subst hlen
      exact absurd rfl hb
    · exact h
  have hgl : g0 < w.heap.size := hI.lt (by rw [List.length_map, hlen]; exact hg0)
  obtain ⟨W1, hW1⟩ : ∃ W1, W1 = w.alloc (.cells #[.int .i64 0, .slice none 0 0, .slice none 0 0] 38) := ⟨_, rfl⟩
  have hzW1 : w.heap.size + 1 = W1.heap.size := by rw [hW1]; simp
  have HB1 : Hid (Below w.heap.size w W1) := by rw [hW1]; exact (Below.refl _ _).alloc (Nat.le_refl _) _
  have HA1 : Hid (CellsAt W1 w.heap.size [.int .i64 0, .slice none 0 0, .slice none 0 0]) := by rw [hW1]; exact cells_lit w _ _
  have C := hide (runsOf_any g0 len cap bs hlen hm W1 (hI.below' HB1.out (Nat.le_refl _)))
  obtain ⟨p0, hp0, hp0e⟩ := rsP_first hb
  have HLT : Hid (∀ p ∈ rsP (pos bs), p.1 ≤ p.2 ∧ p.2 ≤ len) := by
    intro p hp
    rw [rsP_pos] at hp
    exact runsF_lt bs 0 len [] (by omega) (fun p hp => by simp at hp) p hp
  have HLN : Hid (lineP (rsP (pos bs))) := (rsP_rr bs).2.2
  have hRl : (rsP (pos bs)).length ≤ 1000 := by
    have h1 := rsP_bd (pos bs)
    have h2 := posU_le bs bs.length
    have h3 : (pos bs).length ≤ bs.length := h2
    omega
  rw [← hp0e]
  obtain ⟨R, hR⟩ : ∃ R, R = rsP (pos bs) := ⟨_, rfl⟩
  rw [← hR] at C hp0 HLT HLN hRl ⊢
  obtain ⟨n, hn⟩ : ∃ n, n = R.length := ⟨_, rfl⟩
  have hn0 : 0 < n := by
    rw [hn]
    cases R with
    | nil => simp at hp0
    | cons a R => simp
  have HN := hide hn
  have HW1 := hide hW1
  rw [← hn] at C hRl
  obtain ⟨pa, pb⟩ := p0
  have hpl := HLT.out _ (List.mem_of_getElem? hp0)
  clear hlen hb hI hR hn hW1 hp0e hg0
  go_enter Try.func29, Try.ntmps29
  go_wp2_with fail
  rw [← HW1.out]
  refine C.out.mono ?_
  rintro e w2 ⟨v, rfl, hv2, hb2⟩
  obtain ⟨a, c, rfl, hf⟩ := own2_slice hv2
  obtain ⟨g, rfl, hg⟩ := hf hn0
  have hgn := (enc2_get R 0 _ hp0).1
  have e1 := (hg _ _ hgn).1
  have hgw : g < w2.heap.size := World.block_lt_of_cell? w2 _ e1
  have HB2 := hide (HB1.out.trans (hb2.mono (by omega)))
  have HA2 := hide (HA1.out.below hb2 (by omega))
  have hzw2 : w.heap.size < w2.heap.size := by have := hb2.size; omega
  have HG := hide hg
  have i1 : (0 : Int) < (n : Int) := by omega
  have e1' : w2.cell? ⟨g, 0, none⟩ = some (.int .i64 (pa : Int)) := e1
  clear hv2 hb2 hf hg hgn e1 C HB1 HA1 HW1 hzW1
  obtain ⟨W, hW⟩ : ∃ W, W = w2.alloc (.cells #[.int .i64 (pa : Int), .slice none 0 0, .slice none 0 0] 38) := ⟨_, rfl⟩
  have hzW : w2.heap.size + 1 = W.heap.size := by rw [hW]; simp
  obtain ⟨q, hq⟩ : ∃ q, q = w2.heap.size := ⟨_, rfl⟩
  have hb3 : Below w2.heap.size w2 W := by rw [hW]; exact (Below.refl _ _).alloc (Nat.le_refl _) _
  have HB3 := hide (HB2.out.trans (hb3.mono (Nat.le_of_lt hzw2)))
  have HA3 := hide (HA2.out.below hb3 hzw2)
  have HG3 := hide (HG.out.below hb3 hgw)
  have HQ3 : Hid (CellsAt W q [.int .i64 (pa : Int), .slice none 0 0, .slice none 0 0]) := by rw [hW, hq]; exact cells_lit w2 _ _
  have HQ := hide hq
  have HW := hide hW
  have hgq : g < q := by rw [hq]; exact hgw
  have hp1 : w.heap.size < q := by rw [hq]; exact hzw2
  have hqW : q + 1 = W.heap.size := by rw [hq]; exact hzW
  clear hW hq hb3 HB2 HA2 HG hgw hzw2 hzW
  go_wp2
  rw [← HW.out, ← HQ.out]
  clear HW HQ e1'
  go_loopw [5, 6, 16] (fun _ _ i wr => WoRel R n q W.heap.size (pa : Int) W i wr) (fun _ _ i _ => n - (Go.RowKit.intOf i).toNat)
  case atStart => exact ⟨0, 0, .slice none 0 0, .slice none 0 0, Nat.zero_le _, rfl, rfl, ⟨HQ3.out, World.ownsRow_nil _ _ _ _, World.ownsRow_nil _ _ _ _, (fun b hb => by cases hb), Nat.le_refl _, by omega⟩, Below.refl _ _⟩
  case round =>
    obtain ⟨k, nb, x, y, hk, rfl, hnb, HT, HBW⟩ := hrel
    clear HQ3
    obtain ⟨ax, cx, rfl⟩ := own_slice HT.out.ox
    obtain ⟨ay, cy, rfl⟩ := own_slice HT.out.oy
    have hsz := HT.out.size
    by_cases hlt : k < n
    · obtain ⟨⟨ra, rb⟩, hr⟩ : ∃ p, R[k]? = some p := ⟨_, List.getElem?_eq_getElem (by rw [← HN.out]; exact hlt)⟩
      obtain ⟨r1, r2⟩ := HLT.out _ (List.mem_of_getElem? hr)
      obtain ⟨g1, g2⟩ := enc2_get R k _ hr
      have hcr := HG3.out.below HBW.out hgq
      have c1 := (hcr _ _ g1).1
      have c2 := (hcr _ _ g2).1
      have HTK : Hid ((R.map fun p => p.2 - p.1).take (k + 1) = (R.map fun p => p.2 - p.1).take k ++ [rb - ra]) := by
        show _ = _
        rw [List.take_add_one, List.getElem?_map, hr]; rfl
      have j0 : (0 : Int) ≤ (k : Int) := by omega
      have j1 : (k : Int) < (n : Int) := by omega
      have b1 : rb ≤ 1000 := by omega
      have HGT : Hid (∀ (j : Nat) (p : Nat × Nat), k = j + 1 → R[j]? = some p → gapsP (R.take (k + 1)) = gapsP (R.take k) ++ [ra - p.2]) := by
        rintro j p rfl hp
        exact gapsP_take R j p (ra, rb) hp hr
      obtain ⟨Wb, hWb⟩ : ∃ Wb, Wb = wr.alloc (.cells #[.int .i64 (ra : Int), .int .i64 (rb : Int)] 60) := ⟨_, rfl⟩
      have HTb : Hid (Two q W.heap.size 3 (.int .i64 (pa : Int)) (.slice ax k cx) (.slice ay nb cy) k nb ((ni ((R.take k).map fun p => p.2 - p.1)).map (.int .i64)) ((ni (gapsP (R.take k))).map (.int .i64)) Wb) := by
        rw [hWb]
        exact ⟨HT.out.cells.alloc _, HT.out.ox.alloc _, HT.out.oy.alloc _, HT.out.apart, by rw [World.size_alloc]; omega, HT.out.low⟩
      have HBb : Hid (Below q wr Wb) := by rw [hWb]; exact (Below.refl _ _).alloc (by have := HT.out.low; omega) _
      have HCb : Hid (CellsAt Wb wr.heap.size [.int .i64 (ra : Int), .int .i64 (rb : Int)]) := by rw [hWb]; exact cells_lit wr _ _
      have hzb : wr.heap.size + 1 = Wb.heap.size := by rw [hWb]; simp
      have HYB : Hid (∀ b, (Value.slice ay nb cy).ownBlock = some b → b < wr.heap.size) := fun b h => (HT.out.oy.lt b h).2
      have HXB : Hid (∀ b, (Value.slice ax k cx).ownBlock = some b → b < wr.heap.size) := fun b h => (HT.out.ox.lt b h).2
      have HWb := hide hWb
      clear g1 g2 hWb
      go_upto_if 22 with fail
      rw [← HWb.out]
      go_cut [] (fun wx => ∃ a1 cc1, Hid (Two q W.heap.size 3 (.int .i64 (pa : Int)) (.slice ax k cx) (.slice a1 k cc1) k k ((ni ((R.take k).map fun p => p.2 - p.1)).map (.int .i64)) ((ni (gapsP (R.take (k + 1)))).map (.int .i64)) wx) ∧ Hid (CellsAt wx wr.heap.size [.int .i64 (ra : Int), .int .i64 (rb : Int)]) ∧ Hid (Below q wr wx) ∧ wr.heap.size < wx.heap.size)
      case first =>
        by_cases hk0 : k = 0
        · subst hk0
          have hnb0 : nb = 0 := by omega
          subst hnb0
          have HE : Hid (gapsP (R.take 1) = gapsP (R.take 0)) := by
            show _ = _
            cases R with
            | nil => rfl
            | cons a t => rfl
          go_wp2
          go_meet
          exact ⟨_, _, by rw [HE.out]; exact HTb, HCb, HBb, by omega⟩
        · obtain ⟨j, rfl⟩ : ∃ j, k = j + 1 := ⟨k - 1, by omega⟩
          obtain rfl : nb = j := by omega
          obtain ⟨⟨ua, ub⟩, hu⟩ : ∃ p, R[nb]? = some p := ⟨_, List.getElem?_eq_getElem (by rw [← HN.out]; omega)⟩
          obtain ⟨l1, l2, _⟩ := lineP_get R nb _ _ HLN.out hu hr
          obtain ⟨u1, u2⟩ := HLT.out _ (List.mem_of_getElem? hu)
          have hgt := HGT.out nb _ rfl hu
          obtain ⟨_, g2⟩ := enc2_get R nb _ hu
          have cu := (((HG3.out.below HBW.out hgq).below HBb.out hgq) _ _ g2).1
          obtain ⟨z, hzz⟩ : ∃ z : Nat, (ra : Int) - (ub : Int) = (z : Int) := ⟨ra - ub, by omega⟩
          have hzn : ra - ub = z := by omega
          have hzb2 : z ≤ 1000 := by omega
          have q2 := (HTb.out.cells 2 _ rfl).1
          have b0 := (HCb.out 0 _ rfl).1
          have q3 : (Wb.alloc (.cells #[.int .i64 (z : Int)] 3)).cell? ⟨q, 2, none⟩ = some (.slice ay nb cy) := by
            rw [World.cell?_alloc_lt _ _ _ (by show q < Wb.heap.size; have := HTb.out.low; have := HTb.out.size; omega)]; exact q2
          have hszb := HTb.out.size
          have ek : ((nb + 1 : Nat) : Int) = (nb : Int) + 1 := by omega
          have v1 : IntKind.i64.wrap (nb : Int) = (nb : Int) := by rw [IntKind.wrap_i64]; omega
          have v2 : (0 : Int) < (nb : Int) + 1 := by omega
          have v3 : (nb : Int) < (n : Int) := by omega
          have v4 : (0 : Int) ≤ (nb : Int) := by omega
          have v5 : IntKind.i64.wrap ((ra : Int) - (ub : Int)) = (z : Int) := by rw [IntKind.wrap_i64]; omega
          have BCF : Hid (∀ (w1 : World) (v : Value), (Wb.alloc (.cells #[.int .i64 (z : Int)] 3)).drew.grownBy w1 (Value.slice ay nb cy).ownBlock → Hid (CellsAt (w1.setCell ⟨q, 2, none⟩ v) wr.heap.size [.int .i64 (ra : Int), .int .i64 (rb : Int)] ∧ wr.heap.size < (w1.setCell ⟨q, 2, none⟩ v).heap.size)) := by
            intro w1 v hg1
            have hs1 := hg1.size
            have e1 : (Wb.alloc (.cells #[.int .i64 (z : Int)] 3)).drew.heap.size = Wb.heap.size + 1 := by show (Wb.alloc _).heap.size = _; rw [World.size_alloc]
            have e2 : (w1.setCell ⟨q, 2, none⟩ v).heap.size = w1.heap.size := by simp [World.setCell]
            have hc1 : CellsAt (Wb.alloc (.cells #[.int .i64 (z : Int)] 3)).drew wr.heap.size [.int .i64 (ra : Int), .int .i64 (rb : Int)] := (HCb.out.alloc _).below' (Below.refl _ _).drew (Nat.le_refl _)
            have hc2 := CellsAt.grownAny hc1 hg1 (by omega) (fun e => by have := HYB.out _ e.symm; omega)
            exact ⟨hc2.far ⟨q, 2, none⟩ (by show q ≠ wr.heap.size; have := HT.out.low; omega) v, by omega⟩
          have HGT2 := hide hgt
          have HHZ := hide hzn
          rw [ek]
          clear hnb g2 hgt ek HGT HTK hr hu hzn hzz c1 c2 hk0 j0 j1
          go_wp2
          go_region_law (refine step_app (by rfl) (.tmp 24) (.tmp 34) 22 (by rfl) W.heap.size 3 i0 (.int .i64 0) 1 8 Try.underlying22 hi hz0 hz1 hz2 rfl (by decide) _ _ _ (by rfl) (HTb.out.oy.alloc _).drew ⟨Wb.heap.size, 0, none⟩ 1 1 [.int .i64 (z : Int)] (by rfl) rfl (cell_one_new _ _ _) (one_of_int _) (by unfold maxLen; omega) (by omega) (by show W.heap.size ≤ (Wb.alloc _).heap.size; rw [World.size_alloc]; omega) ?_; intro v1 w1 hown1 hgrow1 hat1; obtain ⟨a1, cc1, rfl⟩ := own_slice hown1; have pp := HTb.out.drew.pushY (o := .cells #[.int .i64 (z : Int)] 3) hown1 hgrow1 hat1; have x2 := (pp.2.2 2 _ rfl).1; have x2f := (pp.2.2 2 _ rfl).2; have BC := BCF.out w1 (.slice a1 (nb + 1) cc1) hgrow1; have PP := hide (And.intro pp.1 (HBb.out.trans ((Below.refl q Wb).drew.trans pp.2.1))); clear pp hown1 hgrow1 hat1)
          all_goals (go_wp2_with fail; go_meet; exact ⟨_, _, by
            have h := PP.out.1
            rw [HGT2.out, ni_snoc, List.map_append, HHZ.out]
            exact h, BC.out.1, PP.out.2, BC.out.2⟩)
      case rest =>
        obtain ⟨a1, cc1, HT2, HC2, HB2, hz2⟩ := hcut
        obtain ⟨z, hzz⟩ : ∃ z : Nat, z = rb - ra := ⟨_, rfl⟩
        have hzb2 : z ≤ 1000 := by omega
        have CS := hide (fun W => size_any ra rb W r1 (by omega))
        rw [← hzz] at CS HTK
        have q1 := (HT2.out.cells 1 _ rfl).1
        have b0 := (HC2.out 0 _ rfl).1
        have b2 := (HC2.out 1 _ rfl).1
        have hqc : q < wc.heap.size := by have := HT2.out.low; have := HT2.out.size; omega
        have q1a : (wc.alloc (.cells #[.int .i64 (ra : Int), .int .i64 (rb : Int)] 60)).cell? ⟨q, 1, none⟩ = some (.slice ax k cx) := by
          rw [World.cell?_alloc_lt _ _ _ hqc]; exact q1
        have q1b : ((wc.alloc (.cells #[.int .i64 (ra : Int), .int .i64 (rb : Int)] 60)).alloc (.cells #[.int .i64 (z : Int)] 3)).cell? ⟨q, 1, none⟩ = some (.slice ax k cx) := by
          rw [World.cell?_alloc_lt _ _ _ (by show q < _; rw [World.size_alloc]; omega)]; exact q1a
        have NEWS : Hid (∀ (j : Nat) (u : Value), [Value.int .i64 (z : Int)][j]? = some u → ((wc.alloc (.cells #[.int .i64 (ra : Int), .int .i64 (rb : Int)] 60)).alloc (.cells #[.int .i64 (z : Int)] 3)).drew.cell? ((⟨wc.heap.size + 1, 0, none⟩ : Addr).add j) = some u) := by
          have h := cell_one_new (wc.alloc (.cells #[.int .i64 (ra : Int), .int .i64 (rb : Int)] 60)) (.int .i64 (z : Int)) 3
          rw [World.size_alloc] at h
          exact h
        have OX : Hid (((wc.alloc (.cells #[.int .i64 (ra : Int), .int .i64 (rb : Int)] 60)).alloc (.cells #[.int .i64 (z : Int)] 3)).drew.ownsRow W.heap.size 3 1 (.slice ax k cx) k ((ni ((R.take k).map fun p => p.2 - p.1)).map (.int .i64))) := ((HT2.out.alloc _).alloc _).drew.ox
        have PUSH : Hid (∀ (w1 : World) (a2 : Option Addr) (cc2 : Nat), w1.ownsRow W.heap.size 3 1 (.slice a2 (k + 1) cc2) (k + 1) ((ni ((R.take k).map fun p => p.2 - p.1)).map (.int .i64) ++ [.int .i64 (z : Int)]) →
            ((wc.alloc (.cells #[.int .i64 (ra : Int), .int .i64 (rb : Int)] 60)).alloc (.cells #[.int .i64 (z : Int)] 3)).drew.grownBy w1 (Value.slice ax k cx).ownBlock →
            ((Value.slice a2 (k + 1) cc2).ownBlock = (Value.slice ax k cx).ownBlock ∨ (Value.slice a2 (k + 1) cc2).ownBlock = some ((wc.alloc (.cells #[.int .i64 (ra : Int), .int .i64 (rb : Int)] 60)).alloc (.cells #[.int .i64 (z : Int)] 3)).drew.heap.size) →
            Hid (WoRel R n q W.heap.size (pa : Int) W (.int .i64 ((k + 1 : Nat) : Int)) (w1.setCell ⟨q, 1, none⟩ (.slice a2 (k + 1) cc2)) ∧ w1.cell? ⟨q, 1, none⟩ = some (.slice ax k cx) ∧ w1.frozen? ⟨q, 1, none⟩ = false)) := by
          intro w1 a2 cc2 h1 h2 h3
          have pp := (HT2.out.alloc (.cells #[.int .i64 (ra : Int), .int .i64 (rb : Int)] 60)).drew.pushX (o := .cells #[.int .i64 (z : Int)] 3) h1 h2 h3
          refine ⟨⟨k + 1, k, .slice a2 (k + 1) cc2, .slice a1 k cc1, by omega, rfl, rfl, ?_, hide (HBW.out.trans (HB2.out.trans (((Below.refl q wc).alloc (Nat.le_of_lt hqc) _).drew.trans pp.2.1)))⟩, (pp.2.2 1 _ rfl).1, (pp.2.2 1 _ rfl).2⟩
          show Two _ _ _ _ _ _ _ _ _ _ _
          have e : (R.take (k + 1)).map (fun p => p.2 - p.1) = (R.take k).map (fun p => p.2 - p.1) ++ [z] := by
            have := HTK.out
            rwa [← List.map_take, ← List.map_take] at this
          rw [e, ni_snoc, List.map_append]
          exact pp.1
        have hwz : W.heap.size ≤ wc.heap.size := HT2.out.size
        clear HTK HGT HTb HBb HCb HWb HYB HXB hzz HT2 HC2 hzb hz2
        go_wp2
        go_region_law (first
          | (refine step_app (by rfl) (.tmp 38) (.tmp 41) 36 (by rfl) W.heap.size 3 i0 (.int .i64 0) 1 8 Try.underlying36 hi hz0 hz1 hz2 rfl (by decide) _ _ _ (by rfl) OX.out ⟨wc.heap.size + 1, 0, none⟩ 1 1 [.int .i64 (z : Int)] (by rfl) rfl NEWS.out (one_of_int _) (by unfold maxLen; omega) (by omega) (by show W.heap.size ≤ ((wc.alloc _).alloc _).heap.size; rw [World.size_alloc, World.size_alloc]; omega) ?_; intro v1 w1 hown1 hgrow1 hat1; obtain ⟨a2, cc2, rfl⟩ := own_slice hown1; have PP := PUSH.out w1 a2 cc2 hown1 hgrow1 hat1; have x1 := PP.out.2.1; have x1f := PP.out.2.2; clear hown1 hgrow1 hat1)
          | (go_simp; go_at_call 41; refine (CS.out _).mono ?_; rintro e w' ⟨rfl, rfl⟩))
        all_goals
          go_wp2
          go_roundw
          case rel => exact PP.out.1
          case measure => simp [Go.RowKit.intOf]; omega
    · have hkn : k = n := by omega
      subst hkn
      have q0 := (HT.out.cells 0 _ rfl).1
      have q1 := (HT.out.cells 1 _ rfl).1
      have q2 := (HT.out.cells 2 _ rfl).1
      have hr1 := (HA3.out.below HBW.out hp1)
      have r0c := (hr1 0 _ rfl).1
      have r1c := (hr1 1 _ rfl).1
      have r2c := (hr1 2 _ rfl).1
      have r0f := (hr1 0 _ rfl).2
      have r1f := (hr1 1 _ rfl).2
      have r2f := (hr1 2 _ rfl).2
      have hw0 : w.heap.size ≤ W.heap.size := HB3.out.size
      have AP := hide (ApV.of_own HT.out.apart)
      have HBF := hide (HB3.out.trans (HBW.out.mono (Nat.le_of_lt hp1)))
      have hfin : R.take k = R := List.take_of_length_le (by rw [← HN.out]; omega)
      rw [hfin] at HT
      have hlow : w.heap.size < W.heap.size := Nat.lt_trans hp1 HT.out.low
      have FIN : ∀ a b d : Value, Hid (Below w.heap.size wr (((wr.setCell ⟨w.heap.size, 0, none⟩ a).setCell ⟨w.heap.size, 1, none⟩ b).setCell ⟨w.heap.size, 2, none⟩ d) ∧
          IntsV w.heap.size (((wr.setCell ⟨w.heap.size, 0, none⟩ a).setCell ⟨w.heap.size, 1, none⟩ b).setCell ⟨w.heap.size, 2, none⟩ d) (.slice ax k cx) (ni (R.map fun p => p.2 - p.1)) ∧
          IntsV w.heap.size (((wr.setCell ⟨w.heap.size, 0, none⟩ a).setCell ⟨w.heap.size, 1, none⟩ b).setCell ⟨w.heap.size, 2, none⟩ d) (.slice ay nb cy) (ni (gapsP R))) := by
        intro a b d
        exact ⟨Below.setCell (p := ⟨w.heap.size, 2, none⟩) (Below.setCell (p := ⟨w.heap.size, 1, none⟩) (Below.setCell (p := ⟨w.heap.size, 0, none⟩) (Below.refl w.heap.size wr) (Nat.le_refl w.heap.size) a) (Nat.le_refl w.heap.size) b) (Nat.le_refl w.heap.size) d,
          (IntsV.of_owns (owns_set_far (owns_set_far (owns_set_far HT.out.ox hlow) hlow) hlow)).mono hw0, (IntsV.of_owns (owns_set_far (owns_set_far (owns_set_far HT.out.oy hlow) hlow) hlow)).mono hw0⟩
      clear hr1 hfin hnb
      go_wp2
      (try simp only [Exit.inBlock, Exit.then])
      refine bodyPost_ret (v := .agg #[.int .i64 (pa : Int), .slice ax k cx, .slice ay nb cy]) (by rw [results_cell1 rfl]; go_simp) rfl ?_
      have F := FIN (.int .i64 (pa : Int)) (.slice ax k cx) (.slice ay nb cy)
      exact ⟨_, _, rfl, F.out.2.1, F.out.2.2, AP.out, HBF.out.trans F.out.1⟩
end Go.Proofs.Ytlgceccbjkkeiab

/- THE WALK of the program's WaveOf. -/
namespace Go.Proofs.Ytlgceccbjkkeiab
open Go.RowKit Go.Sort

set_option maxRecDepth 100000 in
set_option maxHeartbeats 4000000 in
theorem implWaveOf_any (s : ByteArray) (w : World) (hs : s.size ≤ maxLen) :
    Calls Try.prog 13 #[.string s] w fun e w' => ∃ x y, e = .returned (.tuple #[.int .i64 (woN s), x, y, .bool (woOk s)]) ∧
      IntsV w.heap.size w' x (woR s) ∧ IntsV w.heap.size w' y (woG s) ∧ ApV x y ∧ Below w.heap.size w w' := by
  cases hv : vld s
  · have e0 : woOk s = false := by unfold woOk; rw [hv]; rfl
    have e1 : woN s = 0 := by unfold woN; rw [e0]; rfl
    have e2 : woR s = [] := by unfold woR; rw [e0]; rfl
    have e3 : woG s = [] := by unfold woG; rw [e0]; rfl
    rw [e0, e1, e2, e3]
    clear e0 e1 e2 e3
    go_enter Try.func13, Try.ntmps13
    go_wp2_with (go_at_call 27; refine (readRow_no _ _ hs hv).mono ?_; rintro e w' ⟨rfl, rfl⟩)
    (try simp only [Exit.inBlock, Exit.then]); refine bodyPost_ret (res4 rfl _ _ _) rfl ?_
    exact ⟨_, _, rfl, .inl ⟨_, _, rfl, rfl⟩, .inl ⟨_, _, rfl, rfl⟩, .nil, Below.refl _ _⟩
  · have h120 := vld_le s hv
    have hle := tl_le (bits s)
    rw [length_bits] at hle
    have C1 := hide (fun w => readRow_yes s w hv)
    have hcl := cut_length (bits s)
    have hnb := nballs_cut (bits s)
    have C2 := hide (fun (w1 : World) (hc1 : CellsAt w1 w.heap.size ((bits s).map .bool)) => count_any w.heap.size (tl (bits s)) s.size (cut (bits s)) hcl (by omega) w1 (by rw [cut_map]; exact hc1.take _))
    have C3 := hide (fun (w1 : World) (h : nballs (cut (bits s)) ≠ 0) (hc1 : CellsAt w1 w.heap.size ((bits s).map .bool)) => waveOf_any w.heap.size (tl (bits s)) s.size (cut (bits s)) hcl (by omega) h w1 (by rw [cut_map]; exact hc1.take _))
    rw [hnb] at C2
    have HNB := hide hnb
    have RR := hide (rsP_rr (cut (bits s)))
    have HCUT := hide (rsS_rr s)
    have HOK : Hid (woOk s = !(decide (nballs (bits s) = 0))) := by show _ = _; unfold woOk; rw [hv]; rfl
    have HLZ : Hid (nballs (bits s) ≠ 0 → lz (cut (bits s)) = lz (bits s)) := fun h => by
      obtain ⟨n, e⟩ := cut_eq (bits s)
      have h2 := lz_app (cut (bits s)) (List.replicate n false) (by rw [hnb]; exact h)
      rw [← e] at h2
      exact h2.symm
    obtain ⟨b, hb⟩ : ∃ b, b = nballs (bits s) := ⟨_, rfl⟩
    obtain ⟨t, ht⟩ : ∃ t, t = tl (bits s) := ⟨_, rfl⟩
    rw [← hb] at C2 HNB HOK HLZ
    rw [← ht] at C1 C2 C3 hle
    have hb1000 : b ≤ 1000 := by
      rw [hb]
      have : nballs (bits s) ≤ (bits s).length := List.count_le_length
      rw [length_bits] at this
      omega
    clear ht hcl hnb hb
    by_cases hb0 : b = 0
    · have e0 : woOk s = false := by rw [HOK.out, hb0]; rfl
      have e1 : woN s = 0 := by unfold woN; rw [e0]; rfl
      have e2 : woR s = [] := by unfold woR; rw [e0]; rfl
      have e3 : woG s = [] := by unfold woG; rw [e0]; rfl
      rw [e0, e1, e2, e3]
      subst hb0
      clear e0 e1 e2 e3 C3 HOK HLZ HNB RR HCUT
      go_enter Try.func13, Try.ntmps13
      go_wp2_with fail
      refine (C1.out _).mono ?_
      rintro e w1 ⟨rfl, hb1, hc1, hz1⟩
      have C4 := hide (C2.out w1 hc1)
      have HB1 := hide hb1
      clear hc1 C1 C2 hb1
      go_wp2_with fail
      refine C4.out.mono ?_
      rintro e w2 ⟨rfl, hb2⟩
      have HB2 := hide (HB1.out.trans (hb2.mono (Nat.le_of_lt hz1)))
      clear hb2 C4
      go_wp2_with fail
      (try simp only [Exit.inBlock, Exit.then]); refine bodyPost_ret (res4 rfl _ _ _) rfl ?_
      exact ⟨_, _, rfl, .inl ⟨_, _, rfl, rfl⟩, .inl ⟨_, _, rfl, rfl⟩, .nil, HB2.out⟩
    · have e0 : woOk s = true := by rw [HOK.out]; simp [hb0]
      have e1 : woN s = (lz (cut (bits s)) : Int) := by unfold woN; rw [if_pos e0, HLZ.out hb0]
      have e2 : woR s = ni ((rsP (pos (cut (bits s)))).map fun p => p.2 - p.1) := by unfold woR; rw [if_pos e0]; exact congrArg ni HCUT.out.1.symm
      have e3 : woG s = ni (gapsP (rsP (pos (cut (bits s))))) := by unfold woG; rw [if_pos e0]; exact congrArg ni HCUT.out.2.1.symm
      rw [e0, e1, e2, e3]
      have C5 := hide (fun w1 hc1 => C3.out w1 (by rw [HNB.out]; exact hb0) hc1)
      obtain ⟨zn, hzn⟩ : ∃ z : Int, z = (lz (cut (bits s)) : Int) := ⟨_, rfl⟩
      obtain ⟨X, hX⟩ : ∃ X, X = ni ((rsP (pos (cut (bits s)))).map fun p => p.2 - p.1) := ⟨_, rfl⟩
      obtain ⟨Y, hY⟩ : ∃ Y, Y = ni (gapsP (rsP (pos (cut (bits s))))) := ⟨_, rfl⟩
      rw [← hzn, ← hX, ← hY] at C5 ⊢
      have hbi : ¬ (b : Int) = 0 := by omega
      have mixed : Try.prog.follows .mixedOrders = true := by kernel_rfl
      clear e0 e1 e2 e3 C3 HOK HLZ HNB RR HCUT hzn hX hY
      go_enter Try.func13, Try.ntmps13
      go_wp2_with fail
      refine (C1.out _).mono ?_
      rintro e w1 ⟨rfl, hb1, hc1, hz1⟩
      have C4 := hide (C2.out w1 hc1)
      have HC1 := hide hc1
      have HB1 := hide hb1
      clear hc1 C1 C2 hb1
      go_wp2_with fail
      refine C4.out.mono ?_
      rintro e w2 ⟨rfl, hb2⟩
      have C6 := hide (C5.out w2 (HC1.out.below' hb2 (Nat.le_refl _)))
      have hz2 : w1.heap.size ≤ w2.heap.size := hb2.size
      have HB2 := hide (HB1.out.trans (hb2.mono (Nat.le_of_lt hz1)))
      have hzw2 : w.heap.size ≤ w2.heap.size := by omega
      clear hb2 C4 C5 HC1
      go_wp2_with fail
      refine C6.out.mono ?_
      rintro e w3 ⟨x, y, rfl, hx, hy, hap, hb3⟩
      have HB3 := hide (HB2.out.trans (hb3.mono hzw2))
      have HX := hide (hx.mono hzw2)
      have HY := hide (hy.mono hzw2)
      have HAP := hide hap
      obtain ⟨ax, cx, rfl, _⟩ := ints_form hx
      obtain ⟨ay, cy, rfl, _⟩ := ints_form hy
      obtain ⟨nx, hnx⟩ : ∃ n, n = X.length := ⟨_, rfl⟩
      obtain ⟨ny, hny⟩ : ∃ n, n = Y.length := ⟨_, rfl⟩
      rw [← hnx] at HX HAP ⊢
      rw [← hny] at HY HAP ⊢
      have FIN : ∀ o nq, Hid (Below w3.heap.size w3 ((w3.alloc o).drewN nq)) := fun o nq => ((Below.refl _ _).alloc (Nat.le_refl _) o).trans ((Quiet.drewN nq).2 _)
      clear hx hy hap hb3 C6 hnx hny
      go_wp2
      go_quiet (fail)
      go_wp2
      (try simp only [Exit.inBlock, Exit.then]); refine bodyPost_ret (res4 rfl _ _ _) rfl ?_
      exact ⟨_, _, rfl, HX.out.below (FIN _ _).out (Nat.le_refl _), HY.out.below (FIN _ _).out (Nat.le_refl _), HAP.out, HB3.out.trans ((FIN _ _).out.mono HB3.out.size)⟩
end Go.Proofs.Ytlgceccbjkkeiab

/- THE PROGRAM's WALKS of chapter 7, but for the one that starts a goroutine. -/
