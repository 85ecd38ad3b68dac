/- TEXTS RigC, Put7. -/
import Derived.Test.YtdooboibmllfkabGreatDoorExb12
import Derived.Test.YtdooboibmllfkabGreatDoorExb17
import Derived.Deep.AppendLies
import Derived.Deep.RegionHeld3
import Derived.Maps.AppendAt
namespace Go.Proofs.YtdooboibmllfkabGreatDoor
set_option maxRecDepth 100000
open Go.RowKit

theorem rvB_length (s : ByteArray) : (rvB s).length = s.size := by unfold rvB; rw [List.length_reverse, length_bits]
theorem levOk_iff (s : ByteArray) : levOk s = true ↔ vld s = true ∧ tl (bits s) = s.size := by unfold levOk; simp
theorem mem_sizes {l : List (Int × Int)} (h : ∀ a ∈ l, 1 ≤ a.1) : (l.length : Int) ≤ pSizes l ∧ ∀ a ∈ l, a.1 ≤ pSizes l := by
  induction l with
  | nil => exact ⟨Int.le_refl _, fun a ha => by cases ha⟩
  | cons x l ih =>
    obtain ⟨i1, i2⟩ := ih (fun a ha => h a (List.mem_cons_of_mem _ ha))
    have hx := h x (List.mem_cons_self ..)
    have e : pSizes (x :: l) = x.1 + pSizes l := by unfold pSizes; simp
    rw [e]
    refine ⟨by simp; omega, fun a ha => ?_⟩
    rcases List.mem_cons.1 ha with rfl | ha
    · omega
    · have := i2 a ha; omega
theorem rc_in {p : List Bool} (h : kHi p) (hl : p.length ≤ 120) : rgFits (kRc p) p.length = true ∧ ∀ a ∈ kRc p, a.2 ≤ 120 := by
  have hp := (kInv_of p h).part
  have hb := kHi_bal h
  rw [kBal_rc] at hb
  obtain ⟨m1, m2⟩ := mem_sizes (fun a ha => (hp a ha).1)
  have hr : ∀ a ∈ kRc p, a.2 ≤ 120 := fun a ha => by
    have h1 := (hp a ha).2.2
    have h2 := room_le (kRc p) p.length a.1 (by have := (hp a ha).1; omega) (fun a ha => (hp a ha).1)
    omega
  refine ⟨(rgFits_iff _ _).2 ⟨(rgIn_iff _).2 ⟨fun a ha => ?_, kRc_sorted p, by omega⟩, by omega, fun a ha => (hp a ha).2.2⟩, hr⟩
  have := hp a ha
  have := m2 a ha
  have := hr a ha
  omega
theorem rc_next {l : List Bool} {k : Nat} {b : Bool} (h : l[k]? = some b) : (l.take (k + 1)).reverse = b :: (l.take k).reverse := by
  obtain ⟨hk, e⟩ := List.getElem?_eq_some_iff.1 h
  rw [List.take_succ_eq_append_getElem hk, List.reverse_append, e]
  rfl
theorem kHi_take {l : List Bool} (h : kHi l.reverse) (k : Nat) (hk : k ≤ l.length) : kHi (l.take k).reverse := by
  rw [kHi_lev l k hk]
  have := (kHi_lev l l.length (Nat.le_refl _)).1 (by rw [List.take_length]; exact h)
  exact fun j hj => this j (by omega)
end Go.Proofs.YtdooboibmllfkabGreatDoor

namespace Go.Proofs.YtdooboibmllfkabGreatDoor
set_option maxRecDepth 100000
open Go.RowKit Go.Sort Go.Shelf

theorem step_appK {P : Program} {w : World} {ops : Array Oper} {o : Oper} {a : Act} {K : Act → World → Prop} {Q : Exit → Act → World → Prop} {E : Prop} (hgd : o.guard = none) (s x : Operand) (t : TypeId)
    (ho : o.op = .call { callee := .builtin .append, args := #[s, x], argTypes := #[t, t] })
    (base : Nat) (e : TypeId) (i : TypeInfo) (z : Value) (size bytes : Nat) (ht : P.underlying t = some (.slice e)) (hi : P.info? e = some i) (hz : i.zero = some z)
    (hsize : i.size = size) (hby : i.bytes = bytes) (hzs : z.cells.size = size) (hsz : 0 < size)
    (v : Value) (n : Nat) (xs : List Value) (hs : a.eval s = v) (hown : w.ownsRow base e size v n xs)
    (ad : Addr) (m c : Nat) (news : List Value) (hx : a.eval x = .slice (some ad) m c) (hl : news.length = m * size) (hnews : ∀ j u, news[j]? = some u → w.cell? (ad.add j) = some u) (h1 : ∀ u ∈ news, u.oneCell' = true)
    (h63 : n + m ≤ maxLen) (hbytes : (n + m) * bytes ≤ 140737488355328) (hbase : base ≤ w.heap.size)
    (h : ∀ v' w', w'.ownsRow base e size v' (n + m) (xs ++ news) → w.grownBy w' v.ownBlock → (v'.ownBlock = v.ownBlock ∨ v'.ownBlock = some w.heap.size) → K (a.put o.dst v') w') :
    if Region.wanted o (yielded ops a.tmps) = true then Oper.wp P o a w K Q else E := by
  have hw : Region.wanted o (yielded ops a.tmps) = true := by simp [Region.wanted, hgd]
  rw [if_pos hw]
  obtain ⟨v', w', hr, h2, h3, _, h5⟩ := run_append_own_at (P := P) w base t o.type e i z size bytes ht hi hz hsize hby hzs hsz v n xs hown ad m c news hl hnews h1 h63 hbytes hbase
  unfold Oper.wp execOp
  simp only [ho, resolve, invoke, builtin, Sem.run_bind, Sem.run_pure, Result.andThen_ok, List.map_toArray, List.map_cons, List.map_nil, hs, hx, hr]
  exact h v' w' h2 h3 h5
theorem src_take {w : World} {g : Nat} {l : List (Int × Int)} (h : CellsAt w g (encZ l)) (k : Nat) : ∀ j u, (encZ (l.take k))[j]? = some u → w.cell? ((⟨g, 0, none⟩ : Addr).add j) = some u := by
  intro j u hu
  rw [encZ_take] at hu
  have hj : j < k * 2 := by
    have := (List.getElem?_eq_some_iff.1 hu).1
    rw [List.length_take] at this
    omega
  rw [List.getElem?_take_of_lt hj] at hu
  rw [Addr.add_lit, Nat.zero_add]
  exact (h j u hu).1
theorem src_drop {w : World} {g : Nat} {l : List (Int × Int)} (h : CellsAt w g (encZ l)) (k : Nat) : ∀ j u, (encZ (l.drop k))[j]? = some u → w.cell? ((⟨g, k * 2, none⟩ : Addr).add j) = some u := by
  intro j u hu
  rw [encZ_drop, List.getElem?_drop] at hu
  rw [Addr.add_lit]
  exact (h _ u hu).1
theorem src_none {w : World} {a : Addr} {l : List (Int × Int)} (h : l = []) : ∀ j u, (encZ l)[j]? = some u → w.cell? (a.add j) = some u := by
  intro j u hu
  subst h
  simp [encZ] at hu
def PartsS (lo : Nat) (w : World) (v : Value) (l : List (Int × Int)) : Prop := PartsV lo w v l ∧ ∃ g c, v = .slice (some ⟨g, 0, none⟩) l.length c ∧ l.length ≤ c ∧ lo ≤ g ∧ g < w.heap.size ∧ CellsAt w g (encZ l)
theorem own_some {v' : Value} {m : Nat} {r : Option Nat} (h : v'.ownBlock = r ∨ v'.ownBlock = some m) (hv : ∃ g, r = some g) : ∃ g, v'.ownBlock = some g := by
  rcases h with h | h
  · obtain ⟨g, hg⟩ := hv
    exact ⟨g, h.trans hg⟩
  · exact ⟨m, h⟩
theorem PartsS.of_owns {w : World} {base e n : Nat} {v : Value} {l : List (Int × Int)} (h : w.ownsRow base e 2 v n (encZ l)) (hs : n ≠ 0 ∨ ∃ g, v.ownBlock = some g) : PartsS base w v l := by
  refine ⟨PartsV.of_owns h, ?_⟩
  have hl : l.length = n := by have := h.1; rw [encZ_length] at this; omega
  have hlt := h.lt
  rcases h.2 with ⟨rfl, rfl⟩ | ⟨g, cap, cur, rfl, hb, hg, hnc, hcm, hcs, htake⟩
  · rcases hs with h | ⟨g, h⟩
    · exact absurd rfl h
    · cases h
  · refine ⟨g, cap, by rw [hl], by omega, hb, (hlt g rfl).2, ?_⟩
    intro j u hu
    have hj : j < n * 2 := by have := h.1; have := (List.getElem?_eq_some_iff.1 hu).1; omega
    exact ⟨by rw [h.cellAt j hj]; exact hu, h.frozenAt j⟩
theorem PartsS.below {lo : Nat} {w w' : World} {v : Value} {l : List (Int × Int)} (h : PartsS lo w v l) {B : Nat} (hb : Below B w w') (hB : w.heap.size ≤ B) : PartsS lo w' v l := by
  obtain ⟨h0, g, c, rfl, h1, h2, h3, h4⟩ := h
  exact ⟨h0.below hb hB, g, c, rfl, h1, h2, Nat.lt_of_lt_of_le h3 hb.size, h4.below' hb hB⟩
theorem PartsS.lo {lo lo' : Nat} {w : World} {v : Value} {l : List (Int × Int)} (h : PartsS lo w v l) (hl : lo' ≤ lo) : PartsS lo' w v l := by
  obtain ⟨h0, g, c, rfl, h1, h2, h3, h4⟩ := h
  exact ⟨.inr ⟨g, c, rfl, h1, by omega, h3, h4⟩, g, c, rfl, h1, by omega, h3, h4⟩

set_option maxRecDepth 100000 in
set_option maxHeartbeats 8000000 in
theorem specWithout_any (l : List (Int × Int)) (v : Value) (k : Nat) (w : World) {lo : Nat} (hP : PartsV lo w v l) (hk : k < l.length) (hl : l.length ≤ 1000) :
    Calls Tryz.prog 116 #[v, .int .i64 (k : Int)] w fun e w' => ∃ u, e = .returned u ∧ PartsS w.heap.size w' u (l.eraseIdx k) ∧ Below w.heap.size w w' := by
  obtain ⟨i0, hi, hz0, hz1, hz2⟩ := info_parts infoP
  obtain ⟨n, hn⟩ : ∃ n, l.length = n := ⟨_, rfl⟩
  rw [hn] at hk hl
  obtain ⟨g, c, rfl, hnc, hg, hc⟩ : ∃ g c, v = .slice (some ⟨g, 0, none⟩) n c ∧ n ≤ c ∧ g < w.heap.size ∧ CellsAt w g (encZ l) := by
    rcases hP with ⟨a, c, rfl, h0⟩ | ⟨g, c, rfl, h1, h2, h3, h4⟩
    · rw [h0] at hn; simp at hn; omega
    · exact ⟨g, c, by rw [hn], by omega, h3, h4⟩
  have HC := hide hc
  have HN := hide hn
  have HE : Hid (encZ (l.take k) ++ encZ (l.drop (k + 1)) = encZ (l.eraseIdx k)) := by show _ = _; rw [← encZ_app, ← List.eraseIdx_eq_take_drop_succ]
  obtain ⟨B, hB⟩ : ∃ B, B = w.heap.size := ⟨_, rfl⟩
  have hW0 : Hid (Below B w (w.alloc (.cells #[] 132))) := by rw [hB]; exact (Below.refl _ w).alloc (Nat.le_refl _) _
  have O0 : Hid ((w.alloc (.cells #[] 132)).ownsRow B 132 2 (.slice (some ⟨B, 0, none⟩) 0 0) 0 []) := by rw [hB]; exact World.ownsRow_lit (base := w.heap.size) (e := 132) (size := 2) w #[] 0 (Nat.le_refl _) (by unfold maxLen; omega) rfl
  have hsz : (w.alloc (.cells #[] 132)).heap.size = B + 1 := by rw [World.size_alloc, hB]
  have lT : (encZ (l.take k)).length = k * 2 := by rw [encZ_length, List.length_take, hn]; omega
  have lD : (encZ (l.drop (k + 1))).length = (n - (k + 1)) * 2 := by rw [encZ_length, List.length_drop, hn]
  have LT := hide lT
  have LD := hide lD
  have oT := hide (encZ_one (l.take k))
  have oD := hide (encZ_one (l.drop (k + 1)))
  have hkc : (k : Int) ≤ (c : Int) := by omega
  have hw1 : IntKind.i64.wrap ((k : Int) + 1) = (k : Int) + 1 := by rw [IntKind.wrap_i64]; omega
  have tn1 : ((k : Int) + 1).toNat = k + 1 := by omega
  have k1 : (0 : Int) ≤ (k : Int) + 1 := by omega
  have k2 : (k : Int) + 1 ≤ (n : Int) := by omega
  have HB := hide hB
  rw [← hB] at hg ⊢
  clear hP hc hn lT lD
  by_cases hcc : c = k + 1
  · subst hcc
    have hkk : (k : Int) ≤ (k : Int) + 1 := by omega
    have D0 : Hid (l.drop (k + 1) = []) := List.drop_of_length_le (by have := HN.out; omega)
    have LD0 : Hid ((encZ (l.drop (k + 1))).length = 0 * 2) := by show _ = _; rw [D0.out]; rfl
    go_enter Tryz.func116, Tryz.ntmps116
    go_wp2_with fail
    go_region_law (first
      | go_loud (refine step_appK (by rfl) (.tmp 5) (.tmp 8) 118 (by rfl) B 132 i0 (.agg #[.int .i64 0, .int .i64 0]) 2 16 Tryz.underlying118 hi hz0 hz1 hz2 rfl (by decide) (.slice (some ⟨w.heap.size, 0, none⟩) 0 0) 0 [] (by rfl) (by rw [← HB.out]; exact O0.out) ⟨g, 0, none⟩ k (k + 1) (encZ (l.take k)) (by rfl) LT.out (src_take (HC.out.below' hW0.out (by rw [HB.out]; exact Nat.le_refl _)) k) oT.out (by unfold maxLen; omega) (by omega) (show B ≤ (w.alloc (.cells #[] 132)).heap.size by omega) ?_; intro v1 w1 hown1 hgrow1 hat1; have S1 : Hid (∃ g, v1.ownBlock = some g) := hide (own_some hat1 ⟨w.heap.size, rfl⟩); clear hat1; have O1 := hide hown1; have B1 := hide ((Below.drew hW0.out).grown hgrow1 (show B ≤ (w.alloc (.cells #[] 132)).heap.size by omega) (fun r e => by rw [← HB.out] at e; cases e; exact Nat.le_refl _)); have z1 := hgrow1.size; clear hown1 hgrow1)
      | go_loud (refine step_appK (by rfl) (.tmp 9) (.tmp 13) 118 (by rfl) B 132 i0 (.agg #[.int .i64 0, .int .i64 0]) 2 16 Tryz.underlying118 hi hz0 hz1 hz2 rfl (by decide) v1 (0 + k) ([] ++ encZ (l.take k)) (by rfl) O1.out ⟨g, 0, none⟩ 0 0 (encZ (l.drop (k + 1))) (by rfl) LD0.out (src_none D0.out) oD.out (by unfold maxLen; omega) (by omega) (by have := B1.out.size; omega) ?_; intro v2 w2 hown2 hgrow2 hat2; have S2 : Hid (∃ g, v2.ownBlock = some g) := hide (own_some hat2 S1.out); clear hat2; have O2 := hide hown2; have B2 := hide (B1.out.grown hgrow2 (by have := B1.out.size; omega) (fun r e => (O1.out.lt r e).1)); clear hown2 hgrow2))
    all_goals (try go_wp2)
    all_goals go_ret
    all_goals (refine ⟨v2, rfl, ?_, B2.out⟩)
    all_goals (refine PartsS.of_owns (n := 0 + k + 0) (e := 132) ?_ (.inr S2.out); rw [← HE.out]; simpa using O2.out)
  · have hcn : ¬ (c = k + 1) := hcc
    go_enter Tryz.func116, Tryz.ntmps116
    go_wp2_with fail
    go_region_law (first
      | go_loud (refine step_appK (by rfl) (.tmp 5) (.tmp 8) 118 (by rfl) B 132 i0 (.agg #[.int .i64 0, .int .i64 0]) 2 16 Tryz.underlying118 hi hz0 hz1 hz2 rfl (by decide) (.slice (some ⟨w.heap.size, 0, none⟩) 0 0) 0 [] (by rfl) (by rw [← HB.out]; exact O0.out) ⟨g, 0, none⟩ k c (encZ (l.take k)) (by rfl) LT.out (src_take (HC.out.below' hW0.out (by rw [HB.out]; exact Nat.le_refl _)) k) oT.out (by unfold maxLen; omega) (by omega) (show B ≤ (w.alloc (.cells #[] 132)).heap.size by omega) ?_; intro v1 w1 hown1 hgrow1 hat1; have S1 : Hid (∃ g, v1.ownBlock = some g) := hide (own_some hat1 ⟨w.heap.size, rfl⟩); clear hat1; have O1 := hide hown1; have B1 := hide ((Below.drew hW0.out).grown hgrow1 (show B ≤ (w.alloc (.cells #[] 132)).heap.size by omega) (fun r e => by rw [← HB.out] at e; cases e; exact Nat.le_refl _)); have z1 := hgrow1.size; clear hown1 hgrow1)
      | go_loud (refine step_appK (by rfl) (.tmp 9) (.tmp 13) 118 (by rfl) B 132 i0 (.agg #[.int .i64 0, .int .i64 0]) 2 16 Tryz.underlying118 hi hz0 hz1 hz2 rfl (by decide) v1 (0 + k) ([] ++ encZ (l.take k)) (by rfl) O1.out ⟨g, (k + 1) * 2, none⟩ (n - (k + 1)) (c - (k + 1)) (encZ (l.drop (k + 1))) (by rfl) LD.out (src_drop (HC.out.below' B1.out (by rw [HB.out]; exact Nat.le_refl _)) (k + 1)) oD.out (by unfold maxLen; omega) (by omega) (by have := B1.out.size; omega) ?_; intro v2 w2 hown2 hgrow2 hat2; have S2 : Hid (∃ g, v2.ownBlock = some g) := hide (own_some hat2 S1.out); clear hat2; have O2 := hide hown2; have B2 := hide (B1.out.grown hgrow2 (by have := B1.out.size; omega) (fun r e => (O1.out.lt r e).1)); clear hown2 hgrow2))
    all_goals (try go_wp2)
    all_goals go_ret
    all_goals (refine ⟨v2, rfl, ?_, B2.out⟩)
    all_goals (refine PartsS.of_owns (n := 0 + k + (n - (k + 1))) (e := 132) ?_ (.inr S2.out); rw [← HE.out]; simpa using O2.out)
end Go.Proofs.YtdooboibmllfkabGreatDoor
