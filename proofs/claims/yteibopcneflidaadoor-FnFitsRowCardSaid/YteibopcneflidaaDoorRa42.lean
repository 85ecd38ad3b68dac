/- TEXTS LawP, LawQ, ExRigRow, Draw4. -/
import Derived.Test.YteibopcneflidaaDoorRa27
import Derived.Deep.SlicePairs
import Derived.ChangeArms
import Derived.Test.YteibopcneflidaaDoorRa34
import Derived.Test.YteibopcneflidaaDoorRa41
import Derived.Test.YteibopcneflidaaDoorRa10
/- LISTS OF PARTS THAT CAME IN, and the laws' own helpers over lists of parts. -/
namespace Go.Proofs.YteibopcneflidaaDoor
open Go.RowKit Go.Deep

/-- a slice of the laws' own parts that came in: its elements -/
def IsPairs (w : World) (a : Option Addr) (len cap : Nat) (l : List (Int × Int)) : Prop :=
  l.length = len ∧ len ≤ cap ∧ cap ≤ maxLen ∧ (0 < len → ∃ b off, a = some ⟨b, off, none⟩ ∧ b < w.heap.size ∧ ∀ j p, l[j]? = some p → w.cell? ⟨b, off + j * 2, none⟩ = some (.int .i64 p.1) ∧ w.cell? ⟨b, off + j * 2 + 1, none⟩ = some (.int .i64 p.2))
theorem IsPairs.below {w w' : World} {a : Option Addr} {len cap : Nat} {l : List (Int × Int)} (h : IsPairs w a len cap l) (hb : Below w.heap.size w w') : IsPairs w' a len cap l := by
  obtain ⟨h1, h2, h3, h4⟩ := h
  refine ⟨h1, h2, h3, fun h0 => ?_⟩
  obtain ⟨b, off, rfl, hl, hc⟩ := h4 h0
  exact ⟨b, off, rfl, Nat.lt_of_lt_of_le hl hb.size, fun j p hp => ⟨(hb.cell (p := ⟨b, _, none⟩) hl).trans (hc j p hp).1, (hb.cell (p := ⟨b, _, none⟩) hl).trans (hc j p hp).2⟩⟩
theorem open_pairs {H : Type} {enc : TypeId × Value → H} {W : World} {fuel : Nat} {a : Option Addr} {len cap : Nat} {x : DataW H × List MemPlace}
    (h : DataW.trod enc Tryd.prog W 0 (fun _ => true) true fuel 22 (Value.slice a len cap).cells.toList = some x) : ∃ l, IsPairs W a len cap l := by
  have hst : ∃ f0 f1 : Field, Tryd.prog.underlying 50 = some (.struct #[f0, f1]) ∧ f0.offset = 0 ∧ f1.offset = 1 ∧ f0.type = 3 ∧ f1.type = 3 := ⟨_, _, Tryd.underlying50, rfl, rfl, rfl, rfl⟩
  obtain ⟨f0, f1, he, o0, o1, t0, t1⟩ := hst
  have ci : Tryd.prog.cellsOf 3 = 1 := by kernel_rfl
  rcases open_slice_pairs Tryd.underlying22 he (by kernel_rfl) o0 o1 (by rw [t0]; exact ci) (by rw [t1]; exact ci) h with ⟨hcs, _⟩ | ⟨ad, len', cap', m, n, V0, V1, D0, D1, P0, P1, hcs, hb, hl, hm, hmm, _, hx⟩
  · simp [Value.cells] at hcs
    obtain ⟨rfl, rfl, rfl⟩ := hcs
    exact ⟨[], rfl, Nat.le_refl _, by unfold maxLen; omega, fun h0 => by omega⟩
  · simp [Value.cells] at hcs
    obtain ⟨rfl, rfl, rfl⟩ := hcs
    have hmc : m = cap := by rw [hmm]; rfl
    subst hmc
    have each : ∀ i, i < m → ∃ p : Int × Int, W.cell? (ad.add (i * 2)) = some (.int .i64 p.1) ∧ W.cell? (ad.add (i * 2 + 1)) = some (.int .i64 p.2) := by
      intro i hi
      obtain ⟨c0, c1, g0, g1⟩ := hx i hi
      rw [t0] at g0
      rw [t1] at g1
      obtain ⟨k0, e0, _⟩ := DataW.trod_int Tryd.underlying3 g0
      obtain ⟨k1, e1, _⟩ := DataW.trod_int Tryd.underlying3 g1
      injection e0 with e0
      injection e1 with e1
      exact ⟨(k0, k1), by rw [c0, e0], by rw [c1, e1]⟩
    by_cases h0 : 0 < len
    · obtain ⟨b, off, spot⟩ := ad
      obtain ⟨p0, hc0, _⟩ := each 0 (by omega)
      have hspot : spot = none := by simpa [Addr.add] using World.cell?_spot hc0
      subst hspot
      have hbl : b < W.heap.size := World.block_lt_of_cell? W _ hc0
      have build : ∀ k, k ≤ len → ∃ l : List (Int × Int), l.length = k ∧ ∀ j p, l[j]? = some p → W.cell? ⟨b, off + j * 2, none⟩ = some (.int .i64 p.1) ∧ W.cell? ⟨b, off + j * 2 + 1, none⟩ = some (.int .i64 p.2) := by
        intro k
        induction k with
        | zero => exact fun _ => ⟨[], rfl, fun j p hp => by simp at hp⟩
        | succ k ih =>
          intro hk
          obtain ⟨l, hl1, hl2⟩ := ih (by omega)
          obtain ⟨p, hp0, hp1⟩ := each k (by omega)
          refine ⟨l ++ [p], by simp [hl1], fun j q hq => ?_⟩
          by_cases hj : j < l.length
          · rw [List.getElem?_append_left hj] at hq
            exact hl2 j q hq
          · have hjk : j = k := by
              have := (List.getElem?_eq_some_iff.1 hq).1
              simp at this
              omega
            subst hjk
            rw [List.getElem?_append_right (by omega), hl1, Nat.sub_self] at hq
            simp at hq
            subst hq
            rw [Addr.add_lit] at hp0 hp1
            exact ⟨hp0, by rw [Nat.add_assoc]; exact hp1⟩
      obtain ⟨l, hl1, hl2⟩ := build len (Nat.le_refl _)
      exact ⟨l, hl1, hl, hm, fun _ => ⟨b, off, rfl, hbl, hl2⟩⟩
    · have : len = 0 := by omega
      subst this
      exact ⟨[], rfl, hl, hm, fun h => by omega⟩
end Go.Proofs.YteibopcneflidaaDoor

/- THE WALKS of the laws' own helpers over lists of parts: toPart, toPartS, szPartS, eqPart, eqPartS, sameParts, markPartS, heldPartS. -/
namespace Go.Proofs.YteibopcneflidaaDoor
open Go.RowKit Go.Sort Go.Shelf

theorem encZ_many (n : Nat) (a : Int) : encZ (List.replicate n (a, a)) = List.replicate (n * 2) (.int .i64 a) := by
  induction n with
  | zero => rfl
  | succ n ih => rw [List.replicate_succ, encZ_cons, ih, show (n + 1) * 2 = n * 2 + 1 + 1 by omega, List.replicate_succ, List.replicate_succ]
theorem madeZ (n : Nat) : (madeCells (Value.agg #[.int .i64 0, .int .i64 0]).cells (n * 2)).toList = encZ (List.replicate n ((0 : Int), (0 : Int))) := by
  rw [encZ_many]
  have hc : (Value.agg #[.int .i64 0, .int .i64 0]).cells = #[.int .i64 0, .int .i64 0] := rfl
  rw [hc]
  apply List.ext_getElem?
  intro j
  by_cases hj : j < n * 2
  · have h2 : j % 2 = 0 ∨ j % 2 = 1 := by omega
    rcases h2 with h2 | h2 <;> simp [madeCells, hj, h2]
  · simp [madeCells, hj]
theorem encZ_set : ∀ (l : List (Int × Int)) (k : Nat) (p : Int × Int), encZ (l.set k p) = ((encZ l).set (k * 2) (.int .i64 p.1)).set (k * 2 + 1) (.int .i64 p.2)
  | [], k, p => rfl
  | x :: l, 0, p => rfl
  | x :: l, k + 1, p => by
    have ih := encZ_set l k p
    rw [List.set_cons_succ, encZ_cons, ih, encZ_cons, show (k + 1) * 2 = k * 2 + 1 + 1 by omega]
    rfl
theorem CellsAt.setPart {w : World} {g : Nat} {l : List (Int × Int)} (h : CellsAt w g (encZ l)) (k : Nat) (hk : k < l.length) (p : Int × Int) :
    CellsAt ((w.setCell ⟨g, k * 2, none⟩ (.int .i64 p.1)).setCell ⟨g, k * 2 + 1, none⟩ (.int .i64 p.2)) g (encZ (l.set k p)) := by
  rw [encZ_set]
  exact (h.set (k * 2) (by rw [encZ_length]; omega) _).set (k * 2 + 1) (by rw [List.length_set, encZ_length]; omega) _

theorem results_cell_one {fn : Func} {p : Tmp} {ty : TypeId} (h : fn.results = #[.cell p ty]) (tmps : Array Value) (P : Program) (w : World) :
    (results fn tmps).run P w = ((asAddr (tmps.getD p undef)).run P w).andThen fun a w₁ => (loadVar ty a).run P w₁ := by
  simp only [results, h]
  simp [Sem.run_bind, Result.andThen]

set_option maxHeartbeats 400000 in
theorem toPart_any (a : Int × Int) (w : World) :
    Calls Tryd.prog 32 #[pV a] w fun e w' => e = .returned (pV a) ∧ Below w.heap.size w w' := by
  obtain ⟨a1, a2⟩ := a
  unfold pV
  go_enter Tryd.func32, Tryd.ntmps32
  go_wp2
  (try simp only [Exit.inBlock, Exit.then])
  refine bodyPost_ret (v := .agg #[.int .i64 a1, .int .i64 a2]) (by rw [results_cell_one rfl]; go_simp) rfl ?_
  exact ⟨rfl, ((Below.refl w.heap.size w).alloc (Nat.le_refl _) _ |>.alloc (by simp) _).alloc (by simp; omega) _⟩

set_option maxHeartbeats 1000000 in
theorem toPartS_any {w : World} (a : Option Addr) (len cap : Nat) (l : List (Int × Int)) (hr : IsPairs w a len cap l) (hlen : len ≤ 1048576) :
    Calls Tryd.prog 11 #[.slice a len cap] w fun e w' => ∃ v, e = .returned v ∧ PartsV w.heap.size w' v l ∧ Below w.heap.size w w' := by
  obtain ⟨i0, hi, hz0, hz1, hz2⟩ := info_parts infoP
  obtain ⟨hll, hcap, hmax, src⟩ := hr
  unfold maxLen at hmax
  by_cases h0 : len = 0
  · subst h0
    have hln : l = [] := List.eq_nil_of_length_eq_zero hll
    subst hln
    clear src hll
    go_enter Tryd.func11, Tryd.ntmps11
    go_wp2_with (at_make; refine wpList_make_full _ rfl _ _ 24 rfl w.heap.size 48 i0 (.agg #[.int .i64 0, .int .i64 0]) 2 Tryd.underlying24 hi hz0 hz1 _ _ _ _ 0 rfl rfl rfl rfl ?b2 ?b3 ?b4 ?_; rotate_right; intro w1 hown hgrow)
    case b2 => rw [hz2]; omega
    case b3 => unfold maxLen; omega
    case b4 => exact Nat.le_refl _
    have hb1 : Below w.heap.size w w1 := (Below.refl _ _).grown hgrow (Nat.le_refl _) (fun k e => by cases e)
    go_loopw [4] (fun i wr => i = .int .i64 0 ∧ Hid (w1 = wr)) (fun _ _ => 0)
    case atStart => exact ⟨rfl, rfl⟩
    case round =>
      obtain ⟨rfl, HQ⟩ := hrel
      go_wp2
      go_ret
      have hw := HQ.out
      subst hw
      exact ⟨_, rfl, .inl ⟨_, _, rfl, rfl⟩, hb1⟩
  · obtain ⟨b, off, rfl, hb, hsrc⟩ := src (by omega)
    have HS := hide hsrc
    have HLL := hide hll
    clear src hsrc hll
    have CT := hide (fun p w => toPart_any p w)
    go_enter Tryd.func11, Tryd.ntmps11
    go_wp2_with (at_make; refine wpList_make_full _ rfl _ _ 24 rfl w.heap.size 48 i0 (.agg #[.int .i64 0, .int .i64 0]) 2 Tryd.underlying24 hi hz0 hz1 _ _ _ _ len rfl rfl rfl rfl ?b2 ?b3 ?b4 ?_; rotate_right; intro w1 hown hgrow)
    case b2 => rw [hz2]; omega
    case b3 => unfold maxLen; omega
    case b4 => exact Nat.le_refl _
    rw [madeZ] at hown
    have hb1 : Below w.heap.size w w1 := (Below.refl _ _).grown hgrow (Nat.le_refl _) (fun k e => by cases e)
    have hz : w.heap.size < w1.heap.size := (hown.lt _ rfl).2
    have hc1 : CellsAt w1 w.heap.size (encZ (List.replicate len ((0 : Int), (0 : Int)))) := by
      rcases PartsV.of_owns hown with ⟨a, c, h1, h2⟩ | ⟨g, c, h1, _, _, _, h2⟩
      · exfalso
        have := congrArg List.length h2
        simp at this
        omega
      · injection h1 with h1
        injection h1 with h1
        injection h1 with h1
        subst h1
        exact h2
    clear hown hgrow
    obtain ⟨q, hq⟩ : ∃ q, w.heap.size = q := ⟨_, rfl⟩
    rw [hq] at hb1 hz hc1 hb ⊢
    have HQ := hide hq
    clear hq
    go_loopw [4] (fun i wr => ∃ k : Nat, k ≤ len ∧ i = .int .i64 k ∧ Hid (Below q w wr) ∧ q < wr.heap.size ∧ ∃ xs : List (Int × Int), Hid (xs.length = len) ∧ Hid (xs.take k = l.take k) ∧ Hid (CellsAt wr q (encZ xs))) (fun i _ => len - (intOf i).toNat)
    case atStart => exact ⟨0, Nat.zero_le _, rfl, hb1, hz, List.replicate len (0, 0), by simp [Hid], rfl, hc1⟩
    case round =>
      obtain ⟨k, hk, rfl, HB, hsz, xs, HX, HT, HC⟩ := hrel
      clear hc1 hb1 hz
      by_cases hlt : k < len
      · obtain ⟨x, hx⟩ : ∃ x, xs[k]? = some x := ⟨_, List.getElem?_eq_getElem (by rw [HX.out]; exact hlt)⟩
        obtain ⟨y, hy⟩ : ∃ y, l[k]? = some y := ⟨_, List.getElem?_eq_getElem (by rw [HLL.out]; exact hlt)⟩
        obtain ⟨g1, g2⟩ := encZ_get xs k x hx
        obtain ⟨s1, s2⟩ := HS.out k y hy
        have e1 := (HB.out.cell (p := ⟨b, off + k * 2, none⟩) hb).trans s1
        have e2 := (HB.out.cell (p := ⟨b, off + k * 2 + 1, none⟩) hb).trans s2
        have hbl : b < wr.heap.size := Nat.lt_trans hb hsz
        have HY := hide hy
        have C := hide (fun w => CT.out y w)
        unfold pV at C
        obtain ⟨y1, hy1⟩ : ∃ z, z = y.1 := ⟨_, rfl⟩
        obtain ⟨y2, hy2⟩ : ∃ z, z = y.2 := ⟨_, rfl⟩
        have HYE := hide (show y = (y1, y2) by rw [hy1, hy2])
        rw [← hy1] at e1 C
        rw [← hy2] at e2 C
        clear hx hy s1 s2 hy1 hy2
        have i0 : (0 : Int) ≤ (k : Int) := by omega
        have i1 : (k : Int) < (len : Int) := by omega
        go_wp2_with (go_at_call 32; refine (C.out _).mono ?_; rintro e w2 ⟨rfl, hb2⟩; have HB2 := hide hb2; obtain ⟨hc1, hf1⟩ := (HC.out.below' hb2 (Nat.le_refl _)) _ _ g1; obtain ⟨hc2, hf2⟩ := (HC.out.below' hb2 (Nat.le_refl _)) _ _ g2; have hsz2 := hb2.size; clear hb2)
        go_roundw
        case rel =>
          have h2 := (HC.out.below' HB2.out (Nat.le_refl _)).setPart k (by rw [HX.out]; exact hlt) (y1, y2)
          refine ⟨k + 1, by omega, by go_num, ((HB.out.trans (HB2.out.mono (by omega))).setCell (Nat.le_refl _) _).setCell (Nat.le_refl _) _, by simp [World.setCell]; omega, xs.set k (y1, y2), by simp [Hid, HX.out], ?_, h2⟩
          show (xs.set k (y1, y2)).take (k + 1) = l.take (k + 1)
          rw [List.take_add_one, List.take_set_of_le (Nat.le_refl _), HT.out, List.take_add_one, HY.out, HYE.out, List.getElem?_set_self (by rw [HX.out]; exact hlt)]
        case measure => simp [intOf]; omega
      · obtain rfl : k = len := by omega
        have hxs : xs = l := by
          have := HT.out
          rw [List.take_of_length_le (by rw [HX.out]; exact Nat.le_refl _), List.take_of_length_le (by rw [HLL.out]; exact Nat.le_refl _)] at this
          exact this
        go_wp2
        go_ret
        have hq := HQ.out
        subst hq
        subst hxs
        exact ⟨_, rfl, .inr ⟨w.heap.size, k, by rw [HX.out]; rfl, by rw [HX.out]; exact Nat.le_refl _, Nat.le_refl _, hsz, HC.out⟩, HB.out⟩

set_option maxHeartbeats 400000 in
theorem szPartS_any (a : Option Addr) (len cap : Nat) (w : World) (hl : len ≤ 9223372036854775807) :
    Calls Tryd.prog 9 #[.slice a len cap, .int .i64 1048576] w fun e w' => e = .returned (.int .i64 (if len ≤ 1048576 then 1048576 - (len : Int) else -1)) ∧ w = w' := by
  by_cases h : len ≤ 1048576
  · rw [if_pos h]
    have h0 : ¬ ((1048576 : Int) - (len : Int) < 0) := by omega
    have hw : IntKind.i64.wrap ((1048576 : Int) - (len : Int)) = 1048576 - (len : Int) := by rw [IntKind.wrap_i64]; omega
    go_enter Tryd.func9, Tryd.ntmps9
    go_wp2
    go_ret
    exact ⟨rfl, rfl⟩
  · rw [if_neg h]
    have h0 : (1048576 : Int) - (len : Int) < 0 := by omega
    have hw : IntKind.i64.wrap ((1048576 : Int) - (len : Int)) = 1048576 - (len : Int) := by rw [IntKind.wrap_i64]; omega
    go_enter Tryd.func9, Tryd.ntmps9
    go_wp2
    go_ret
    exact ⟨rfl, rfl⟩

set_option maxHeartbeats 400000 in
theorem eqPart_grw (a : Int × Int) (w : World) :
    Calls Tryd.prog 35 #[pV a, pV a] w fun e w' => e = .returned (.bool true) ∧ Grw w w' := by
  obtain ⟨a1, a2⟩ := a
  unfold pV
  have e1 : ((a1 : Int) != a1) = false := by simp
  have e2 : ((a2 : Int) != a2) = false := by simp
  go_enter Tryd.func35, Tryd.ntmps35
  go_wp2
  go_ret
  exact ⟨rfl, (Grw.alloc w _).trans (Grw.alloc _ _)⟩

set_option maxHeartbeats 1000000 in
theorem eqPartS_same {lo lo' : Nat} {w : World} {v v' : Value} {l : List (Int × Int)} (hm : l.length ≤ maxLen) (h : PartsV lo w v l) (h' : PartsV lo' w v' l) :
    Calls Tryd.prog 13 #[v, v'] w fun e w' => e = .returned (.bool true) ∧ Grw w w' := by
  unfold maxLen at hm
  have mixed : Tryd.prog.follows .mixedOrders = true := by kernel_rfl
  obtain ⟨n, hn⟩ : ∃ n, l.length = n := ⟨_, rfl⟩
  obtain ⟨a, c, rfl, hf⟩ := h.form hn
  obtain ⟨a', c', rfl, hf'⟩ := h'.form hn
  have HN := hide hn
  have HF := hide hf
  have HF' := hide hf'
  rw [hn] at hm
  clear h h' hn hf hf'
  have b0 : ((n : Int) != (n : Int)) = false := by simp
  go_enter Tryd.func13, Tryd.ntmps13
  go_wp2
  go_loopw [5] (fun i wr => ∃ k : Nat, k ≤ n ∧ i = .int .i64 k ∧ Hid (Grw w wr)) (fun i _ => n - (intOf i).toNat)
  case atStart => exact ⟨0, Nat.zero_le _, rfl, Grw.refl w⟩
  case round =>
    obtain ⟨k, hk, rfl, HG⟩ := hrel
    by_cases hlt : k < n
    · obtain ⟨q, rfl, hq0, hq⟩ := HF.out (by omega)
      obtain ⟨q', rfl, hq0', hq'⟩ := HF'.out (by omega)
      obtain ⟨x, hx⟩ : ∃ x, l[k]? = some x := ⟨_, List.getElem?_eq_getElem (by rw [HN.out]; exact hlt)⟩
      obtain ⟨g1, g2⟩ := encZ_get l k x hx
      have hqr := HG.out.cells hq
      have hqr' := HG.out.cells hq'
      have hs := HG.out.size
      have hql : q < wr.heap.size := by omega
      have hql' : q' < wr.heap.size := by omega
      have d1 : ∀ n os, (grow (wr.drewN n) os).cell? ⟨q, k * 2, none⟩ = some (.int .i64 x.1) := fun n os => cell_grown hql (hqr _ _ g1).1 n os
      have d2 : ∀ n os, (grow (wr.drewN n) os).cell? ⟨q, k * 2 + 1, none⟩ = some (.int .i64 x.2) := fun n os => cell_grown hql (hqr _ _ g2).1 n os
      have d3 : ∀ n os, (grow (wr.drewN n) os).cell? ⟨q', k * 2, none⟩ = some (.int .i64 x.1) := fun n os => cell_grown hql' (hqr' _ _ g1).1 n os
      have d4 : ∀ n os, (grow (wr.drewN n) os).cell? ⟨q', k * 2 + 1, none⟩ = some (.int .i64 x.2) := fun n os => cell_grown hql' (hqr' _ _ g2).1 n os
      have CE := hide (fun W => (eqPart_grw x W).mono (fun e w' h => (show e = .returned (.bool true) ∧ ∃ (q : Nat) (os : Array Obj), w' = grow (W.drewN q) os from h)))
      unfold pV at CE
      obtain ⟨x1, hx1⟩ : ∃ y, y = x.1 := ⟨_, rfl⟩
      obtain ⟨x2, hx2⟩ : ∃ y, y = x.2 := ⟨_, rfl⟩
      rw [← hx1] at d1 d3 CE
      rw [← hx2] at d2 d4 CE
      have i0 : (0 : Int) ≤ (k : Int) := by omega
      have i1 : (k : Int) < (n : Int) := by omega
      clear hx g1 g2 hqr hqr' hx1 hx2 hs
      go_wp2
      refine wp_region_quiet_grown (by assumption) (by kernel_rfl) ?_
      repeat (first | go_big_quiet_skip | quiet_step ((go_at_call 35; refine Calls.grown_of (CE.out _))))
      refine wpQuiet_nil ?_
      intro _ hw'
      obtain ⟨⟨nq, osq⟩, hw''⟩ := hw'
      subst hw''
      go_wp2
      go_roundw
      case rel => exact ⟨k + 1, by omega, by go_num, HG.out.trans (Grw.mk _ _ _)⟩
      case measure => simp [intOf]; omega
    · go_wp2
      go_ret
      exact ⟨rfl, HG.out⟩
end Go.Proofs.YteibopcneflidaaDoor

/- THE WALK of the exact law of RigRow. -/
namespace Go.Proofs.YteibopcneflidaaDoor
open Go.RowKit Go.Sort Go.Shelf

set_option maxHeartbeats 2000000 in
theorem walkFnExactRigRow {w : World} (a : Option Addr) (len cap : Nat) (l : List (Int × Int)) (hr : IsPairs w a len cap l) (n : Int) (_hn : (Lit.int .i64 n).wf = true) (hE : EtAt w) :
    Calls Tryd.prog 6 #[.slice a len cap, .int .i64 n] w fun e w' => e = .returned (.bool true) ∧ Below w.heap.size w w' := by
  have hcap := hr.2.2.1
  have hlc := hr.2.1
  have CZ := szPartS_any a len cap w (by unfold maxLen at hcap; omega)
  by_cases hbig : len ≤ 1048576
  · have CZ2 := hide CZ
    rw [if_pos hbig] at CZ2
    have h0 : ¬ ((1048576 : Int) - (len : Int) < 0) := by omega
    have T := hide (fun (w : World) (h : IsPairs w a len cap l) => toPartS_any a len cap l h hbig)
    have HR := hide hr
    have HE := hide hE
    have hll := hr.1
    have SP := hide (fun (v : Value) (w : World) (lo : Nat) (h : PartsV lo w v l) => specRigRow_any l v n w h (by omega))
    have IM := hide (fun (v : Value) (w : World) (lo : Nat) (hE : EtAt w) (h : PartsV lo w v l) => implRigRow_any l v n w hE h (by omega))
    have hm : l.length ≤ maxLen := by unfold maxLen; omega
    have EQ := hide (fun (v v' : Value) (w : World) (lo lo' : Nat) (h : PartsV lo w v l) (h' : PartsV lo' w v' l) => eqPartS_same hm h h')
    obtain ⟨x, hx⟩ : ∃ x, x = rgRow l n := ⟨_, rfl⟩
    obtain ⟨b, hb⟩ : ∃ b, b = rgFits l n := ⟨_, rfl⟩
    rw [← hx, ← hb] at SP IM
    clear hx hb hr hE hll hm hcap hlc CZ
    go_enter Tryd.func6, Tryd.ntmps6
    go_wp2_with fail
    refine CZ2.out.mono ?_
    rintro e w' ⟨rfl, rfl⟩
    go_wp2_with fail
    refine (T.out w HR.out).mono ?_
    rintro e w1 ⟨v1, rfl, p1, b1⟩
    have B1 := hide b1
    go_wp2_with fail
    refine (SP.out v1 w1 _ p1).mono ?_
    rintro e w2 ⟨rfl, g2⟩
    have B2 := hide (B1.out.trans (g2.mono B1.out.size))
    clear p1 b1 g2
    go_wp2_with fail
    refine (T.out w2 (HR.out.below B2.out)).mono ?_
    rintro e w3 ⟨v3, rfl, p3, b3⟩
    have B3 := hide (B2.out.trans (b3.mono B2.out.size))
    have P3 := hide p3
    clear p3 b3
    go_wp2_with fail
    refine (IM.out v3 w3 _ (HE.out.below B3.out (Nat.le_refl _)) P3.out).mono ?_
    rintro e w4 ⟨rfl, b4⟩
    have B4 := hide (B3.out.trans (b4.mono B3.out.size))
    have P4 := hide (P3.out.below b4 (Nat.le_refl _))
    clear b4
    cases b
    all_goals
      go_wp2_with fail
      refine (T.out w4 (HR.out.below B4.out)).mono ?_
      rintro e w5 ⟨v5, rfl, p5, b5⟩
      have B5 := hide (B4.out.trans (b5.mono B4.out.size))
      have P5 := hide p5
      have P45 := hide (P4.out.below b5 (Nat.le_refl _))
      clear p5 b5
      go_wp2_with fail
      refine (EQ.out v3 v5 w5 _ _ P45.out P5.out).mono ?_
      rintro e w6 ⟨rfl, g6⟩
      have B6 := hide (B5.out.trans (g6.below.mono B5.out.size))
      clear g6
      go_wp2_with fail
      go_ret
      exact ⟨rfl, B6.out⟩
  · have CZ2 := hide CZ
    rw [if_neg hbig] at CZ2
    clear hr hE hcap hlc CZ
    go_enter Tryd.func6, Tryd.ntmps6
    go_wp2_with fail
    refine CZ2.out.mono ?_
    rintro e w' ⟨rfl, rfl⟩
    go_wp2_with fail
    go_ret
    exact ⟨rfl, Below.refl _ _⟩
end Go.Proofs.YteibopcneflidaaDoor

/- THE WALKS of the drawing of rows that are often high. -/
namespace Go.Proofs.YteibopcneflidaaDoor
open Go.RowKit

/-- between two rounds of l91High -/
def HighRel (w : World) (R : Nat) (a : Option Addr) (len cap : Nat) (z : List Int) (p : Nat) (s level i : Value) (wr : World) : Prop :=
  ∃ (x : ByteArray) (k q : Nat) (l : Int), s = .string x ∧ level = .int .i64 l ∧ i = .int .i64 (k : Int) ∧ -(k : Int) ≤ l ∧ l ≤ k ∧ x.size = k ∧ k ≤ 28 ∧ allSgn x.data.toList = true ∧ q ≤ p + 1 + k ∧ Rd wr R a len cap z q ∧ Below R w wr ∧ wr.heap.size = w.heap.size

/-- what the drawing of a high row leaves -/
def DrawnH (w : World) (R : Nat) (e : Ending) (w' : World) : Prop := ∃ s : ByteArray, e = .returned (.string s) ∧ s.size ≤ 300 ∧ Below R w w'

set_option maxHeartbeats 2000000 in
theorem l91High_any (w : World) (R : Nat) (a : Option Addr) (len cap : Nat) (z : List Int) (p : Nat) (hrd : Rd w R a len cap z p) (hp : p ≤ 500) :
    Calls Tryd.prog 57 #[.pointer (some ⟨R, 0, none⟩)] w (DrawnH w R) := by
  go_enter Tryd.func57, Tryd.ntmps57
  go_wp2_with fail
  refine (pick_any w R a len cap z p 28 hrd (by omega) (by omega) (by omega)).mono ?_
  rintro e w1 ⟨n, rfl, hn1, hn2, hr1, hb1, hz1⟩
  go_wp2_with fail
  go_loopw [3, 4, 6] (HighRel w R a len cap z p) (fun _ _ i _ => (n - intOf i).toNat)
  case atStart => exact ⟨_, 0, _, 0, rfl, rfl, rfl, by omega, by omega, rfl, by omega, rfl, by omega, hr1, hb1, hz1⟩
  case round =>
    obtain ⟨x, k, q, l, rfl, rfl, rfl, hl1, hl2, hx, hk, hs, hq, hr, hb, hz⟩ := hrel
    have HS := hide hs
    have HX := hide hx
    have HB := hide hb
    have HZ := hide hz
    clear hs hx hb hz hr1 hb1 hz1
    by_cases hlt : (k : Int) < n
    · have hsz : x.size + 1 ≤ 1000 := by rw [HX.out]; omega
      by_cases hl0 : 0 < l
      · go_wp2_with fail
        refine (pick_any wr R a len cap z q 2 hr (by omega) (by omega) (by omega)).mono ?_
        rintro e w2 ⟨v, rfl, hv1, hv2, hr2, hb2, hz2⟩
        have HR2 := hide hr2
        have HB2 := hide hb2
        have HZ2 := hide hz2
        clear hr2 hb2 hz2 hr
        cases hv : (v == 0)
        all_goals
          go_wp2_with fail
          go_roundw
          case rel => exact ⟨_, k + 1, q + 1, _, rfl, rfl, by go_num, by omega, by omega, by simp [HX.out]; rfl, by omega, allSgn_push x _ (by rfl) HS.out, by omega, HR2.out, HB.out.trans HB2.out, HZ2.out.trans HZ.out⟩
          case measure => simp [intOf]; omega
      · have HR := hide hr
        clear hr
        go_wp2_with fail
        go_roundw
        case rel => exact ⟨_, k + 1, q, _, rfl, rfl, by go_num, by omega, by omega, by simp [HX.out]; rfl, by omega, allSgn_push x _ (by rfl) HS.out, by omega, HR.out, HB.out, HZ.out⟩
        case measure => simp [intOf]; omega
    · have hsz : x.size ≤ 28 := by rw [HX.out]; omega
      go_wp2_with fail
      refine (pick_any wr R a len cap z q 10 hr (by omega) (by omega) (by omega)).mono ?_
      rintro e w2 ⟨v, rfl, hv1, hv2, hr2, hb2, hz2⟩
      have HB2 := hide (HB.out.trans hb2)
      clear hr hb2 hz2 hrd
      cases h0 : (v == 0)
      · go_wp2_with (go_at_call 45; refine (l1Tidy_any x _ (by unfold maxLen; omega) HS.out).mono ?_; rintro e w3 ⟨rfl, rfl⟩)
        go_ret
        exact ⟨_, rfl, by have := tidyS_le x; omega, HB2.out⟩
      · go_wp2_with fail
        refine (l91Row_any w2 R a len cap z (q + 1) hr2 (by omega)).mono ?_
        rintro e w3 ⟨t, q3, rfl, ht, hq3, hr3, hb3, hz3⟩
        go_wp2_with fail
        go_ret
        exact ⟨t, rfl, ht, HB2.out.trans hb3⟩

end Go.Proofs.YteibopcneflidaaDoor
