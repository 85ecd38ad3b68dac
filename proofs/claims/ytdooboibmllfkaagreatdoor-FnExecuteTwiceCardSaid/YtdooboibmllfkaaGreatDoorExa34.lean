/- TEXTS Put6, Del, Fit4, Take4. -/
import Derived.Test.YtdooboibmllfkaaGreatDoorExa33
import Derived.Test.YtdooboibmllfkaaGreatDoorExa19
import Derived.Deep.DeepAppendRoom
import Derived.Laws.ResultCell
namespace Go.Proofs.YtdooboibmllfkaaGreatDoor
set_option maxRecDepth 100000
open Go.RowKit Go.Sort Go.Shelf

set_option maxRecDepth 100000 in
set_option maxHeartbeats 4000000 in
theorem newRigged_any (l : List (Int × Int)) (v : Value) (m : Int) (w : World) {lo : Nat} (hs : pSorted l) (hP : PartsV lo w v l) (hl : l.length ≤ 900) :
    Calls Tryz.prog 183 #[v, .int .i64 m] w fun e w' => e = .returned (.pointer (some ⟨w.heap.size, 0, none⟩)) ∧ ∃ v', RigAt w' w.heap.size w.heap.size v' l m ∧ Below w.heap.size w w' := by
  obtain ⟨n, hn⟩ : ∃ n, l.length = n := ⟨_, rfl⟩
  obtain ⟨a, c, rfl, hf⟩ := hP.form hn
  have HN := hide hn
  have HF := hide hf
  rw [hn] at hl
  have HSO := hide hs
  obtain ⟨W0, hW0⟩ : ∃ W0, W0 = w.alloc (.cells #[cmpFn, .slice none 0 0, .int .i64 m] 197) := ⟨_, rfl⟩
  have hz0 : w.heap.size < W0.heap.size := by rw [hW0]; simp
  have HB0 : Hid (Below w.heap.size w W0) := by rw [hW0]; exact (Below.refl _ w).alloc (Nat.le_refl _) _
  have HR0 : Hid (RigAt W0 w.heap.size w.heap.size (.slice none 0 0) [] m) := by
    rw [hW0]
    refine ⟨?_, ?_, ?_, fun j => World.frozen?_alloc_at _ _ _ _ rfl, World.ownsRow_nil _ _ _ _, (fun h => by cases h), Nat.le_refl _⟩
    all_goals (rw [World.cell?_alloc_at _ _ _ _ rfl]; rfl)
  clear hP hn hf hs
  go_enter Tryz.func183, Tryz.ntmps183
  go_wp2
  rw [← hW0]
  clear hW0
  go_loopw [14] (fun i wr => ∃ (k : Nat) (v' : Value), k ≤ n ∧ i = .int .i64 (k : Int) ∧ Hid (RigAt wr w.heap.size w.heap.size v' (l.take k) m) ∧ Hid (Below w.heap.size w wr)) (fun i _ => n - (Go.RowKit.intOf i).toNat)
  case atStart => exact ⟨0, _, Nat.zero_le _, rfl, HR0.out, HB0.out⟩
  case round =>
    obtain ⟨k, v', hk, rfl, HR, HB⟩ := hrel
    by_cases hlt : k < n
    · obtain ⟨q, rfl, hq0, hq⟩ := HF.out (by omega)
      obtain ⟨x, hx⟩ : ∃ x, l[k]? = some x := ⟨_, List.getElem?_eq_getElem (by rw [HN.out]; exact hlt)⟩
      obtain ⟨g1, g2⟩ := encZ_get l k x hx
      have hqr := hq.below' HB.out (Nat.le_refl _)
      have d1 := (hqr _ _ g1).1
      have d2 := (hqr _ _ g2).1
      have hql : q < wr.heap.size := by have := HB.out.size; omega
      have HPT := hide (take_put HSO.out hx)
      have hlt2 : (l.take k).length ≤ 900 := by rw [List.length_take]; omega
      have hst : pSorted (l.take k) := List.Pairwise.sublist (List.take_sublist ..) HSO.out
      obtain ⟨x1, hx1⟩ : ∃ z, z = x.1 := ⟨_, rfl⟩
      obtain ⟨x2, hx2⟩ : ∃ z, z = x.2 := ⟨_, rfl⟩
      have hxe : pV x = .agg #[.int .i64 x1, .int .i64 x2] := by unfold pV; rw [hx1, hx2]
      rw [← hx1] at d1
      rw [← hx2] at d2
      obtain ⟨W1, hW1⟩ : ∃ W1, W1 = wr.alloc (.cells #[.int .i64 x1, .int .i64 x2] 98) := ⟨_, rfl⟩
      have c1 : W1.cell? ⟨wr.heap.size, 0, none⟩ = some (.int .i64 x1) := by rw [hW1, World.cell?_alloc_at _ _ _ _ rfl]; rfl
      have c2 : W1.cell? ⟨wr.heap.size, 1, none⟩ = some (.int .i64 x2) := by rw [hW1, World.cell?_alloc_at _ _ _ _ rfl]; rfl
      have hbw : Below wr.heap.size wr W1 := by rw [hW1]; exact (Below.refl _ wr).alloc (Nat.le_refl _) _
      have HBW := hide hbw
      have PT := hide (put_any w.heap.size w.heap.size v' (l.take k) m x W1.drew ((HR.out.below hbw (Nat.le_refl _)).below (Below.refl W1.heap.size W1).drew (Nat.le_refl _)) hst hlt2)
      have HWR := hide HR.out.own.lt
      have i0 : (0 : Int) ≤ (k : Int) := by omega
      have i1 : (k : Int) < (n : Int) := by omega
      have hrl : w.heap.size < wr.heap.size := HR.out.lt
      rw [hxe] at PT
      clear hx g1 g2 hqr hx1 hx2 hbw hlt2 hst hxe
      go_wp2
      rw [← hW1]
      clear hW1
      go_region_with (go_at_call 214; refine PT.out.mono ?_; rintro e w2 ⟨rfl, v2, hr2, ho2, hn2⟩; have HR2 := hide hr2; have HO2 := hide ho2; clear hr2 ho2 hn2)
      go_wp2
      go_roundw
      case rel =>
        refine ⟨k + 1, v2, by omega, by go_num, ?_, ?_⟩
        · show RigAt _ _ _ _ _ _
          rw [← HPT.out]
          exact HR2.out
        · exact (HB.out.trans (HBW.out.mono (by omega))).trans (Below.trans (Below.drew (Below.refl _ _)) (HO2.out.below (Nat.le_refl _) (fun g hg => (HWR.out g hg).1) (by have := HBW.out.size; show w.heap.size ≤ W1.heap.size; omega)))
      case measure => simp [Go.RowKit.intOf]; omega
    · have hkn : k = n := by omega
      have HE : Hid (l.take k = l) := List.take_of_length_le (by rw [HN.out]; omega)
      go_wp2
      go_ret
      exact ⟨rfl, v', by rw [← HE.out]; exact HR.out, HB.out⟩

def pSum (l : List (Int × Int)) (j : Int) : Int := (l.map (fun a => min j a.1)).sum
theorem pSum_take (l : List (Int × Int)) (j : Int) (k : Nat) (a : Int × Int) (h : l[k]? = some a) : pSum (l.take (k + 1)) j = pSum (l.take k) j + min j a.1 := by
  unfold pSum
  rw [List.take_add_one, h, List.map_append, List.sum_append]
  simp
theorem pSum_bd (l : List (Int × Int)) (j : Int) (hj : 0 ≤ j ∧ j ≤ 1000) (h : ∀ a ∈ l, 0 ≤ a.1) : 0 ≤ pSum l j ∧ pSum l j ≤ 1000 * (l.length : Int) := by
  induction l with
  | nil => exact ⟨Int.le_refl _, Int.le_refl _⟩
  | cons x l ih =>
    have := ih (fun a ha => h a (List.mem_cons_of_mem _ ha))
    have hx := h x (List.mem_cons_self ..)
    have e : pSum (x :: l) j = min j x.1 + pSum l j := by unfold pSum; simp
    rw [e, List.length_cons]
    omega

set_option maxRecDepth 100000 in
set_option maxHeartbeats 4000000 in
theorem room_grw (r lo : Nat) (v : Value) (l : List (Int × Int)) (m j : Int) (w : World) (hR : RigAt w r lo v l m) (hl : l.length ≤ 1000) (h0 : ∀ a ∈ l, 0 ≤ a.1 ∧ a.1 ≤ 1000) (hj : 0 ≤ j ∧ j ≤ 1000) (hm : -1000 ≤ m ∧ m ≤ 1000) :
    Calls Tryz.prog 241 #[.pointer (some ⟨r, 0, none⟩), .int .i64 j] w fun e w' => e = .returned (.int .i64 (pRoom l m j)) ∧ Grw w w' := by
  have hrl := hR.lt
  have c1 := hR.items
  have c2 := hR.boxes
  obtain ⟨n, hn⟩ : ∃ n, l.length = n := ⟨_, rfl⟩
  obtain ⟨a, c, rfl, hf⟩ := hR.parts.form hn
  have HN := hide hn
  have HF := hide hf
  have H0 := hide h0
  rw [hn] at hl
  obtain ⟨j0, j1⟩ := hj
  obtain ⟨m0, m1⟩ := hm
  have HC2 := hide c2
  clear hR hn hf h0 c2
  go_enter Tryz.func241, Tryz.ntmps241
  go_wp2
  clear c1
  go_loopw [5, 14] (fun s i wr => ∃ k : Nat, k ≤ n ∧ i = .int .i64 (k : Int) ∧ s = .int .i64 (pSum (l.take k) j) ∧ Hid (Grw w wr)) (fun _ i _ => n - (Go.RowKit.intOf i).toNat)
  case atStart => exact ⟨0, Nat.zero_le _, rfl, rfl, Grw.refl w⟩
  case round =>
    obtain ⟨k, hk, rfl, rfl, HG⟩ := hrel
    obtain ⟨b0, b1⟩ := pSum_bd (l.take k) j ⟨j0, j1⟩ (fun a ha => (H0.out a (List.mem_of_mem_take ha)).1)
    rw [List.length_take, HN.out, Nat.min_eq_left hk] at b1
    by_cases hlt : k < n
    · obtain ⟨q, rfl, hq0, hq⟩ := HF.out (by omega)
      obtain ⟨x, hx⟩ : ∃ x, l[k]? = some x := ⟨_, List.getElem?_eq_getElem (by rw [HN.out]; exact hlt)⟩
      obtain ⟨g1, g2⟩ := encZ_get l k x hx
      have d1 := ((HG.out.cells hq) _ _ g1).1
      have d2 := ((HG.out.cells hq) _ _ g2).1
      have hql : q < wr.heap.size := by have := HG.out.size; omega
      have HT := hide (pSum_take l j k x hx)
      obtain ⟨x0, x1⟩ := H0.out x (List.mem_of_getElem? hx)
      obtain ⟨y, hy⟩ : ∃ y, y = x.1 := ⟨_, rfl⟩
      obtain ⟨z, hz⟩ : ∃ y, y = x.2 := ⟨_, rfl⟩
      obtain ⟨t, ht⟩ : ∃ t, t = pSum (l.take k) j := ⟨_, rfl⟩
      rw [← hy] at d1 HT x0 x1
      rw [← hz] at d2
      rw [← ht] at HT b0 b1 ⊢
      clear hx g1 g2 hy hz ht
      have i0 : (0 : Int) ≤ (k : Int) := by omega
      have i1 : (k : Int) < (n : Int) := by omega
      go_wp2
      go_roundw
      case rel =>
        have e : (if y < j then y else j) = min j y := by split <;> omega
        exact ⟨k + 1, by omega, by go_num, by first | rw [HT.out, e] | rw [HT.out], HG.out.trans (Grw.alloc _ _)⟩
      case measure => simp [Go.RowKit.intOf]; omega
    · have hkn : k = n := by omega
      have HE : Hid (l.take k = l) := List.take_of_length_le (by rw [HN.out]; omega)
      have HRM : Hid (pRoom l m j = m - 2 * pSum (l.take k) j) := by rw [HE.out]; rfl
      have d2 : wr.cell? ⟨r, 2, none⟩ = some (.int .i64 m) := (HG.out.below.cell (p := ⟨r, 2, none⟩) hrl).trans HC2.out
      obtain ⟨t, ht⟩ : ∃ t, t = pSum (l.take k) j := ⟨_, rfl⟩
      rw [← ht] at HRM b0 b1 ⊢
      have w1 : IntKind.i64.wrap (2 * t) = 2 * t := by rw [IntKind.wrap_i64]; omega
      have w2 : IntKind.i64.wrap (m - 2 * t) = m - 2 * t := by rw [IntKind.wrap_i64]; omega
      clear ht
      go_wp2
      go_ret
      exact ⟨by rw [HRM.out]; rfl, HG.out⟩
end Go.Proofs.YtdooboibmllfkaaGreatDoor

namespace Go.Proofs.YtdooboibmllfkaaGreatDoor
set_option maxRecDepth 100000
open Go.RowKit Go.Sort Go.Shelf

theorem step_appF {P : Program} {w : World} {ops : Array Oper} {o : Oper} {a : Act} {K : Act → World → Prop} {Q : Exit → Act → World → Prop} {E : Prop} (hgd : o.guard = none) (s x : Operand) (t : TypeId)
    (ho : o.op = .call { callee := .builtin .append, args := #[s, x], argTypes := #[t, t] })
    (base : Nat) (e : TypeId) (i : TypeInfo) (size : Nat) (ht : P.underlying t = some (.slice e)) (hi : P.info? e = some i) (hsize : i.size = size)
    (g n cap : Nat) (xs : List Value) (hs : a.eval s = .slice (some ⟨g, 0, none⟩) n cap) (hown : w.ownsRow base e size (.slice (some ⟨g, 0, none⟩) n cap) n xs)
    (ad : Addr) (m c : Nat) (news : List Value) (hx : a.eval x = .slice (some ad) m c) (hl : news.length = m * size) (hnews : ∀ j u, news[j]? = some u → w.cell? (ad.add j) = some u) (h1 : ∀ u ∈ news, u.oneCell' = true)
    (hroom : n + m ≤ cap)
    (h : ∀ w', w'.ownsRow base e size (.slice (some ⟨g, 0, none⟩) (n + m) cap) (n + m) (xs ++ news) → w.grownBy w' (some g) → K (a.put o.dst (.slice (some ⟨g, 0, none⟩) (n + m) cap)) w') :
    if Region.wanted o (yielded ops a.tmps) = true then Oper.wp P o a w K Q else E := by
  have hw : Region.wanted o (yielded ops a.tmps) = true := by simp [Region.wanted, hgd]
  rw [if_pos hw]
  obtain ⟨w', hr, h2, h3⟩ := run_append_own_spare (P := P) w base t o.type e i size ht hi hsize g n cap xs hown ad m c news hl hnews h1 hroom
  unfold Oper.wp execOp
  simp only [ho, resolve, invoke, builtin, Sem.run_bind, Sem.run_pure, Result.andThen_ok, List.map_toArray, List.map_cons, List.map_nil, hs, hx, hr]
  exact h w' h2 h3
theorem zeroP (w : World) : (zeroValue 98).run Tryz.prog w = .ok (.agg #[.int .i64 0, .int .i64 0]) w := by kernel_rfl
theorem zeroP_one : ∀ u ∈ (Value.agg #[.int .i64 0, .int .i64 0]).cells.toList, u.oneCell' = true := by
  intro u hu
  have h : (Value.agg #[.int .i64 0, .int .i64 0]).cells.toList = [.int .i64 0, .int .i64 0] := rfl
  rw [h] at hu
  simp at hu
  subst hu
  rfl
theorem clear_tail {w : World} {b g m cap : Nat} {xs : List Value} (ty : TypeId) (ho : w.ownsRow b 98 2 (.slice (some ⟨g, 0, none⟩) m cap) m xs) (hm : m + 1 ≤ cap) (d : Nat) :
    ∃ w', (Builtin.clear_ #[85] ty #[.slice (some ⟨g, m * 2, none⟩) 1 d]).run Tryz.prog w = .ok (.tuple #[]) w' ∧ w'.ownsRow b 98 2 (.slice (some ⟨g, 0, none⟩) m cap) m xs ∧ w.grownBy w' (some g) := by
  rcases ho.2 with ⟨h0, _⟩ | ⟨g', cap', cur, hv, hb, hg, hnc, hcm, hcs, htake⟩
  · cases h0
  · cases hv
    have hr := run_clear_rowK (P := Tryz.prog) w 85 98 ty (.agg #[.int .i64 0, .int .i64 0]) Tryz.underlying85 zeroP zeroP_one g (m * 2) 1 d cur 98 (by omega) hg (by show m * 2 + 1 * 2 ≤ cur.size; omega) (by decide)
    refine ⟨_, hr, ⟨ho.1, .inr ⟨g, cap, _, rfl, hb, setRow_heap w g cur _ _ _ hg, hnc, hcm, ?_, ?_⟩⟩, ⟨rfl, rfl, rfl, by simp, fun k _ hk => setRow_other w g k _ (fun e => hk (by simp [e]))⟩⟩
    · have : (Builtin.zeroCells (Value.agg #[.int .i64 0, .int .i64 0]).cells 1).toList.length = 2 := by rw [Array.length_toList, size_zeroCells]; rfl
      simp only [List.size_toArray, List.length_append, List.length_take, List.length_drop, Array.length_toList, this]
      show min (m * 2) cur.size + 2 + (cur.size - (m * 2 + 1 * 2)) = _
      omega
    · rw [List.toList_toArray, List.append_assoc, List.take_append_of_le_length (by rw [List.length_take, Array.length_toList]; omega), List.take_take, Nat.min_self]
      exact htake

theorem drew_grown {w w' : World} {row : Option Nat} (h : w.drew.grownBy w' row) : w.grownBy w' row := ⟨h.os, h.tape, h.output, h.size, h.block⟩
theorem wpList_clear_tail {ops : Array Oper} {rest : List Oper} {o : Oper} {a : Act} {Q : Exit → Act → World → Prop} {w : World} (hgd : o.guard = none) (s : Operand)
    (ho : o.op = .call { callee := .builtin .clear, args := #[s], argTypes := #[85] }) (b g m cap L d : Nat) (xs : List Value) (hs : a.eval s = .slice (some ⟨g, m * 2, none⟩) L d) (hL : L = 1)
    (hown : w.ownsRow b 98 2 (.slice (some ⟨g, 0, none⟩) m cap) m xs) (hm : m + 1 ≤ cap)
    (h : ∀ w', w'.ownsRow b 98 2 (.slice (some ⟨g, 0, none⟩) m cap) m xs → w.grownBy w' (some g) → wpList Tryz.prog ops Q rest (a.put o.dst (.tuple #[])) w') : wpList Tryz.prog ops Q (o :: rest) a w := by
  subst hL
  obtain ⟨w', hr, h1, h2⟩ := clear_tail o.type hown hm d
  exact wpList_clear_eq w hgd s 85 ho _ hs hr (h w' h1 h2)

set_option maxRecDepth 100000 in
set_option maxHeartbeats 2000000 in
theorem delete_any (lo g c n k : Nat) (l : List (Int × Int)) (w : World) (ho : w.ownsRow lo 98 2 (.slice (some ⟨g, 0, none⟩) n c) n (encZ l)) (hk : k < n) :
    Calls Tryz.prog 261 #[.slice (some ⟨g, 0, none⟩) n c, .int .i64 (k : Int), .int .i64 ((k : Int) + 1)] w fun e w' =>
      e = .returned (.slice (some ⟨g, 0, none⟩) (n - 1) c) ∧ w'.ownsRow lo 98 2 (.slice (some ⟨g, 0, none⟩) (n - 1) c) (n - 1) (encZ (l.eraseIdx k)) ∧ w.grownBy w' (some g) := by
  have mixed : Tryz.prog.follows .mixedOrders = true := by kernel_rfl
  obtain ⟨i0, hi, hz0, hz1, hz2⟩ := info_parts infoP
  have hl : l.length = n := by have := ho.1; rw [encZ_length] at this; omega
  have hcap : n ≤ c := by
    rcases ho.2 with ⟨h0, _⟩ | ⟨g', cap', cur, hv, hb, hg, hnc, hcm, hcs, htake⟩
    · cases h0
    · cases hv; exact hnc
  have hmax : c ≤ maxLen := by
    rcases ho.2 with ⟨h0, _⟩ | ⟨g', cap', cur, hv, hb, hg, hnc, hcm, hcs, htake⟩
    · cases h0
    · cases hv; exact hcm
  unfold maxLen at hmax
  have OT := hide (owns_take ho (Nat.le_of_lt hk) (by omega))
  have HC : Hid (CellsAt w g (encZ l)) := hide (fun j u hu => by
    have hj : j < n * 2 := by have := ho.1; have := (List.getElem?_eq_some_iff.1 hu).1; omega
    exact ⟨by rw [ho.cellAt j hj]; exact hu, ho.frozenAt j⟩)
  have SRC := hide (src_drop HC.out (k + 1))
  have LD : Hid ((encZ (l.drop (k + 1))).length = (n - (k + 1)) * 2) := hide (by rw [encZ_length, List.length_drop, hl])
  have oD := hide (encZ_one (l.drop (k + 1)))
  have HE : Hid (encZ (l.take k) ++ encZ (l.drop (k + 1)) = encZ (l.eraseIdx k)) := hide (by rw [← encZ_app, List.eraseIdx_eq_take_drop_succ])
  have k0 : (0 : Int) ≤ (k : Int) := by omega
  have k1 : (k : Int) ≤ (k : Int) + 1 := by omega
  have k2 : (k : Int) + 1 ≤ (n : Int) := by omega
  have k3 : (n : Int) ≤ (c : Int) := by omega
  have k4 : ¬ ((k : Int) = (k : Int) + 1) := by omega
  have k5 : (k : Int) ≤ (c : Int) := by omega
  have k6 : (0 : Int) ≤ (k : Int) + 1 := by omega
  have ck : ¬ (c = k) := by omega
  have hroom : k + (n - (k + 1)) ≤ c := by omega
  have hnn : k + (n - (k + 1)) = n - 1 := by omega
  have HNN := hide hnn
  clear ho hl hnn
  have SRC0 : Hid (c = k + 1 → ∀ (a : Addr) j u, (encZ (l.drop (k + 1)))[j]? = some u → w.cell? (a.add j) = some u) := hide (fun h a j u hu => by
    have := (List.getElem?_eq_some_iff.1 hu).1
    rw [LD.out] at this
    omega)
  by_cases hck : c = k + 1
  · have SRC1 := hide (SRC0.out hck ⟨g, 0, none⟩)
    subst hck
    have hn0 : n - (k + 1) = 0 := by omega
    have LD0 : Hid ((encZ (l.drop (k + 1))).length = 0 * 2) := hide (by rw [LD.out, hn0])
    have hr0 : k + 0 ≤ k + 1 := by omega
    go_enter Tryz.func261, Tryz.ntmps261
    go_wp2_with fail
    go_region_held3 (fun _ => True) (first | exact trivial | fail) (first | ((refine step_appF (by rfl) (.tmp 22) (.tmp 25) 85 (by rfl) lo 98 i0 2 Tryz.underlying85 hi hz1 g k (k + 1) (encZ (l.take k)) (by rfl) OT.out ⟨g, 0, none⟩ 0 0 (encZ (l.drop (k + 1))) (by rfl) LD0.out SRC1.out oD.out hr0 ?_; intro w1 ho1 hg1; have O1 := hide ho1; have G1 := hide hg1; clear ho1 hg1)) | fail)
    all_goals go_wp2_with ((refine wpList_clear_tail rfl _ rfl lo g k (k + 1) _ _ (encZ (l.take k) ++ encZ (l.drop (k + 1))) (by rfl) (by omega) O1.out (by omega) ?_; intro w2 ho2 hg2; have O2 := hide ho2; have G2 := hide (G1.out.trans hg2); clear ho2 hg2))
    all_goals go_ret
    all_goals (rw [show n - 1 = k by omega, ← HE.out]; exact ⟨rfl, O2.out, drew_grown G2.out⟩)
  · go_enter Tryz.func261, Tryz.ntmps261
    go_wp2_with fail
    go_region_held3 (fun _ => True) (first | exact trivial | fail) (first | ((refine step_appF (by rfl) (.tmp 22) (.tmp 25) 85 (by rfl) lo 98 i0 2 Tryz.underlying85 hi hz1 g k c (encZ (l.take k)) (by rfl) OT.out ⟨g, (k + 1) * 2, none⟩ (n - (k + 1)) (c - (k + 1)) (encZ (l.drop (k + 1))) (by rfl) LD.out SRC.out oD.out hroom ?_; intro w1 ho1 hg1; have O1 := hide ho1; have G1 := hide hg1; clear ho1 hg1)) | fail)
    all_goals go_wp2_with ((refine wpList_clear_tail rfl _ rfl lo g (k + (n - (k + 1))) c _ _ (encZ (l.take k) ++ encZ (l.drop (k + 1))) (by rfl) (by omega) O1.out (by omega) ?_; intro w2 ho2 hg2; have O2 := hide ho2; have G2 := hide (G1.out.trans hg2); clear ho2 hg2))
    all_goals go_ret
    all_goals (rw [← HNN.out, ← HE.out]; exact ⟨rfl, O2.out, drew_grown G2.out⟩)
end Go.Proofs.YtdooboibmllfkaaGreatDoor

namespace Go.Proofs.YtdooboibmllfkaaGreatDoor
set_option maxRecDepth 100000
open Go.RowKit Go.Sort Go.Shelf

end Go.Proofs.YtdooboibmllfkaaGreatDoor

namespace Go.Proofs.YtdooboibmllfkaaGreatDoor
set_option maxRecDepth 100000
open Go.RowKit Go.Sort Go.Shelf

abbrev fullFn (r : Nat) : Value := .func (.func 216) #[.pointer (some ⟨r, 0, none⟩)] #[]
theorem fullEnters : ∀ args w, (callFunc 216 args).run Tryz.prog w = .ok (.enter 216 args) w := enters_of Tryz.func216 (by kernel_rfl) rfl

set_option maxRecDepth 100000 in
set_option maxHeartbeats 4000000 in
theorem full_grw (r lo : Nat) (v : Value) (l : List (Int × Int)) (m : Int) (p : Int × Int) (w : World) (hR : RigAt w r lo v l m) (hl : l.length ≤ 1000) (h0 : ∀ a ∈ l, 0 ≤ a.1 ∧ a.1 ≤ 1000) (hj : 0 ≤ p.1 ∧ p.1 ≤ 1000) (hm : -1000 ≤ m ∧ m ≤ 1000) :
    Calls Tryz.prog 216 #[.pointer (some ⟨r, 0, none⟩), pV p] w fun e w' => e = .returned (.bool (pFull l m p)) ∧ Grw w w' := by
  have mixed : Tryz.prog.follows .mixedOrders = true := by kernel_rfl
  obtain ⟨p1, p2⟩ := p
  show Calls Tryz.prog 216 #[.pointer (some ⟨r, 0, none⟩), .agg #[.int .i64 p1, .int .i64 p2]] w fun e w' => e = .returned (.bool (decide (p2 = pRoom l m p1))) ∧ Grw w w'
  obtain ⟨W, hW⟩ : ∃ W, W = w.alloc (.cells #[.int .i64 p1, .int .i64 p2] 98) := ⟨_, rfl⟩
  have hz : w.heap.size < W.heap.size := by rw [hW]; simp
  have HGW : Hid (Grw w W) := by rw [hW]; exact hide (Grw.alloc _ _)
  have c1 : W.cell? ⟨w.heap.size, 0, none⟩ = some (.int .i64 p1) := by rw [hW, World.cell?_alloc_at _ _ _ _ rfl]; rfl
  have c2 : W.cell? ⟨w.heap.size, 1, none⟩ = some (.int .i64 p2) := by rw [hW, World.cell?_alloc_at _ _ _ _ rfl]; rfl
  have e1 : ∀ n os, (grow (W.drewN n) os).cell? ⟨w.heap.size, 0, none⟩ = some (.int .i64 p1) := fun n os => cell_grown hz c1 n os
  have e2 : ∀ n os, (grow (W.drewN n) os).cell? ⟨w.heap.size, 1, none⟩ = some (.int .i64 p2) := fun n os => cell_grown hz c2 n os
  have CR := hide (fun (n' : Nat) (os : Array Obj) => room_grw r lo v l m p1 (grow (W.drewN n') os) (hR.below (HGW.out.trans (Grw.mk W n' os)).below (Nat.le_refl _)) hl h0 hj hm)
  obtain ⟨t, ht⟩ : ∃ t, t = pRoom l m p1 := ⟨_, rfl⟩
  rw [← ht] at CR ⊢
  clear ht hR hl h0 hj hm c1 c2
  go_enter Tryz.func216, Tryz.ntmps216
  go_wp2
  rw [← hW]
  clear hW
  refine wp_region_quiet_grown (by assumption) (by kernel_rfl) ?_
  repeat (first | go_big_quiet_skip | quiet_step ((go_at_call 241; refine Calls.grown_of (CR.out _ _))))
  refine wpQuiet_nil ?_
  intro _ hw'
  obtain ⟨⟨nq, osq⟩, hw''⟩ := hw'
  subst hw''
  go_wp2
  go_ret
  exact ⟨rfl, HGW.out.trans (Grw.mk _ _ _)⟩

def IxPost (f : Int × Int → Bool) (l : List (Int × Int)) (i : Int) : Prop :=
  (i = -1 ∧ l.find? f = none) ∨ ∃ (j : Nat) (a : Int × Int), i = (j : Int) ∧ j < l.length ∧ l[j]? = some a ∧ l.find? f = some a
theorem find_step {f : Int × Int → Bool} {l : List (Int × Int)} {k : Nat} {x : Int × Int} (h : (l.take k).find? f = none) (hx : l[k]? = some x) (hf : f x = false) : (l.take (k + 1)).find? f = none := by
  rw [List.take_add_one, hx, List.find?_append, h]
  simp [hf]
theorem find_hit {f : Int × Int → Bool} {l : List (Int × Int)} {k : Nat} {x : Int × Int} (h : (l.take k).find? f = none) (hx : l[k]? = some x) (hf : f x = true) : l.find? f = some x := by
  obtain ⟨hk, e⟩ := List.getElem?_eq_some_iff.1 hx
  have e2 : l = l.take k ++ x :: l.drop (k + 1) := by rw [← e, List.getElem_cons_drop, List.take_append_drop]
  rw [e2, List.find?_append, h]
  simp [hf]
set_option maxRecDepth 100000 in
set_option maxHeartbeats 4000000 in
theorem indexFunc_grw (r lo : Nat) (v : Value) (l : List (Int × Int)) (m : Int) (w : World) (hR : RigAt w r lo v l m) (hl : l.length ≤ 1000) (h0 : ∀ a ∈ l, 0 ≤ a.1 ∧ a.1 ≤ 1000) (hm : -1000 ≤ m ∧ m ≤ 1000) :
    Calls Tryz.prog 240 #[v, fullFn r] w fun e w' => (∃ i, e = .returned (.int .i64 i) ∧ IxPost (pFull l m) l i) ∧ Grw w w' := by
  have eg := fullEnters
  obtain ⟨n, hn⟩ : ∃ n, l.length = n := ⟨_, rfl⟩
  obtain ⟨a, c, rfl, hf⟩ := hR.parts.form hn
  have HN := hide hn
  have HF := hide hf
  have FL := hide (fun (p : Int × Int) (hp : p ∈ l) (W : World) (hW : Below w.heap.size w W) => full_grw r lo (.slice a n c) l m p W (hR.below hW (Nat.le_refl _)) hl h0 (h0 p hp) hm)
  unfold pV at FL
  rw [hn] at hl
  clear hR hn hf h0 hm
  go_enter Tryz.func240, Tryz.ntmps240
  go_wp2
  go_loopw [8] (fun i wr => ∃ k : Nat, k ≤ n ∧ i = .int .i64 (k : Int) ∧ Hid ((l.take k).find? (pFull l m) = none) ∧ Hid (Grw w wr)) (fun i _ => n - (Go.RowKit.intOf i).toNat)
  case atStart => exact ⟨0, Nat.zero_le _, rfl, rfl, Grw.refl _⟩
  case round =>
    obtain ⟨k, hk, rfl, HS, HG⟩ := hrel
    by_cases hlt : k < n
    · obtain ⟨q, rfl, hq0, hq⟩ := HF.out (by omega)
      obtain ⟨x, hx⟩ : ∃ x, l[k]? = some x := ⟨_, List.getElem?_eq_getElem (by rw [HN.out]; exact hlt)⟩
      obtain ⟨g1, g2⟩ := encZ_get l k x hx
      have d1 := ((HG.out.cells hq) _ _ g1).1
      have d2 := ((HG.out.cells hq) _ _ g2).1
      have FX := hide (FL.out x (List.mem_of_getElem? hx) wr HG.out.below)
      have HNX : Hid (pFull l m x = false → (l.take (k + 1)).find? (pFull l m) = none) := fun h => find_step HS.out hx h
      have HYES : Hid (pFull l m x = true → l.find? (pFull l m) = some x) := fun h => find_hit HS.out hx h
      have HX := hide hx
      obtain ⟨x1, hx1⟩ : ∃ z, z = x.1 := ⟨_, rfl⟩
      obtain ⟨x2, hx2⟩ : ∃ z, z = x.2 := ⟨_, rfl⟩
      rw [← hx1] at d1 FX
      rw [← hx2] at d2 FX
      obtain ⟨t, ht⟩ : ∃ t, t = pFull l m x := ⟨_, rfl⟩
      rw [← ht] at FX HNX HYES
      have i0 : (0 : Int) ≤ (k : Int) := by omega
      have i1 : (k : Int) < (n : Int) := by omega
      clear hx g1 g2 hx1 hx2 ht hq
      cases t
      · have HN2 := hide (HNX.out rfl)
        go_wp2_with (go_at_fn 216; refine FX.out.mono ?_; rintro e w2 ⟨rfl, hg2⟩; have G2 := hide (HG.out.trans hg2); clear hg2)
        go_roundw
        case rel => exact ⟨k + 1, by omega, by go_num, HN2.out, G2.out⟩
        case measure => simp [Go.RowKit.intOf]; omega
      · have HY2 := hide (HYES.out rfl)
        go_wp2_with (go_at_fn 216; refine FX.out.mono ?_; rintro e w2 ⟨rfl, hg2⟩; have G2 := hide (HG.out.trans hg2); clear hg2)
        go_ret
        exact ⟨⟨_, rfl, .inr ⟨k, x, rfl, by rw [HN.out]; exact hlt, HX.out, HY2.out⟩⟩, G2.out⟩
    · have HE : Hid (l.find? (pFull l m) = none) := by
        have h := HS.out
        rw [List.take_of_length_le (by rw [HN.out]; omega)] at h
        exact h
      go_wp2
      go_ret
      exact ⟨⟨_, rfl, .inl ⟨rfl, HE.out⟩⟩, HG.out⟩

set_option maxRecDepth 100000 in
set_option maxHeartbeats 4000000 in
theorem takeAt_none (r : Nat) (w : World) :
    Calls Tryz.prog 239 #[.pointer (some ⟨r, 0, none⟩), .int .i64 (-1)] w fun e w' => e = .returned (.tuple #[pV (0, 0), .bool false]) ∧ Grw w w' := by
  unfold pV
  go_enter Tryz.func239, Tryz.ntmps239
  go_wp2
  (try simp only [Exit.inBlock, Exit.then])
  refine bodyPost_ret (v := .tuple #[.agg #[.int .i64 0, .int .i64 0], .bool false]) (by rw [results_cell_tmp rfl]; go_simp) rfl ?_
  exact ⟨rfl, (Grw.alloc _ _).trans (Grw.alloc _ _)⟩

theorem Only.set_new {r : Nat} {row : Option Nat} {w A : World} (h : Only r row w A) (p : Addr) (hp : w.heap.size ≤ p.block) (u : Value) : Only r row w (A.setCell p u) :=
  ⟨h.os, h.tape, h.output, by simpa [World.setCell] using h.size, fun k hk h1 h2 => (Below.heap_setCell A p u k (by omega)).trans (h.block k hk h1 h2)⟩
theorem RigAt.far {w w' : World} {r lo : Nat} {v : Value} {l : List (Int × Int)} {m : Int} (h : RigAt w r lo v l m) (hr : w'.heap[r]? = w.heap[r]?) (hv : ∀ g, v.ownBlock = some g → w'.heap[g]? = w.heap[g]?) : RigAt w' r lo v l m :=
  ⟨(World.cell?_of_block (a := ⟨r, 0, none⟩) hr).trans h.fn, (World.cell?_of_block (a := ⟨r, 1, none⟩) hr).trans h.items, (World.cell?_of_block (a := ⟨r, 2, none⟩) hr).trans h.boxes, fun j => (World.frozen?_of_block (a := ⟨r, j, none⟩) hr).trans (h.free j), owns_far h.own hv, h.ne, h.lo_le⟩

set_option maxRecDepth 100000 in
set_option maxHeartbeats 4000000 in
theorem takeAt_some (r lo : Nat) (v : Value) (l : List (Int × Int)) (m : Int) (k : Nat) (a : Int × Int) (w : World) (hR : RigAt w r lo v l m) (ha : l[k]? = some a) (hl : l.length ≤ 1000) :
    Calls Tryz.prog 239 #[.pointer (some ⟨r, 0, none⟩), .int .i64 (k : Int)] w fun e w' => e = .returned (.tuple #[pV a, .bool true]) ∧ ∃ v', RigAt w' r lo v' (l.eraseIdx k) m ∧ Only r v.ownBlock w w' ∧ RowNext w v v' := by
  unfold pV
  obtain ⟨hk, _⟩ := List.getElem?_eq_some_iff.1 ha
  obtain ⟨n, hn⟩ : ∃ n, l.length = n + 1 := ⟨l.length - 1, by omega⟩
  have hrl := hR.lt
  have HR := hide hR
  have hown := hR.own
  rw [hn] at hown
  obtain ⟨g, c, rfl⟩ := own_form hown
  have hgl := (hown.lt g rfl).2
  obtain ⟨g1, g2⟩ := encZ_get l k a ha
  have d1 : w.cell? ⟨g, k * 2, none⟩ = some (.int .i64 a.1) := by
    rw [hown.cellAt _ (by omega)]; exact g1
  have d2 : w.cell? ⟨g, k * 2 + 1, none⟩ = some (.int .i64 a.2) := by
    rw [hown.cellAt _ (by omega)]; exact g2
  have hel : (l.eraseIdx k).length = n := by rw [List.length_eraseIdx, hn]; split <;> omega
  have HEL := hide hel
  obtain ⟨a1, ha1⟩ : ∃ z, z = a.1 := ⟨_, rfl⟩
  obtain ⟨a2, ha2⟩ : ∃ z, z = a.2 := ⟨_, rfl⟩
  rw [← ha1] at d1 ⊢
  rw [← ha2] at d2 ⊢
  have c1 := hR.items
  obtain ⟨W0, hW0⟩ : ∃ W0, W0 = w.alloc (.cells #[.int .i64 0, .int .i64 0] 98) := ⟨_, rfl⟩
  obtain ⟨W, hW⟩ : ∃ W, W = W0.alloc (.cells #[.int .i64 a1, .int .i64 a2] 98) := ⟨_, rfl⟩
  have hz0 : W0.heap.size = w.heap.size + 1 := by rw [hW0]; simp
  have HZ0 := hide hz0
  have HG0 : Hid (Grw w W0) := by rw [hW0]; exact hide (Grw.alloc _ _)
  have HWB : Hid (Below w.heap.size w W) := by rw [hW, hW0]; exact ((Below.refl _ w).alloc (Nat.le_refl _) _).alloc (by simp) _
  have DEL := hide (fun (W' : World) (hW' : W' = W) => (show Calls Tryz.prog 261 #[.slice (some ⟨g, 0, none⟩) (n + 1) c, .int .i64 (k : Int), .int .i64 ((k : Int) + 1)] W' (fun e w' =>
      e = .returned (.slice (some ⟨g, 0, none⟩) n c) ∧ w'.ownsRow lo 98 2 (.slice (some ⟨g, 0, none⟩) n c) n (encZ (l.eraseIdx k)) ∧ W'.grownBy w' (some g)) from by
    have := delete_any lo g c (n + 1) k l W' (owns_far hown (fun g' hg' => by rw [hW']; exact HWB.out.block g' (by have := (hown.lt g' hg').2; omega))) (by omega)
    rw [Nat.add_sub_cancel] at this
    exact this))
  have s1 : W.cell? ⟨w.heap.size + 1, 0, none⟩ = some (.int .i64 a1) := by rw [hW, World.cell?_alloc_at _ _ _ _ (by rw [hz0])]; rfl
  have s2 : W.cell? ⟨w.heap.size + 1, 1, none⟩ = some (.int .i64 a2) := by rw [hW, World.cell?_alloc_at _ _ _ _ (by rw [hz0])]; rfl
  have s3 : W.cell? ⟨w.heap.size, 0, none⟩ = some (.int .i64 0) := by rw [hW, World.cell?_alloc_lt W0 _ ⟨w.heap.size, 0, none⟩ (show w.heap.size < W0.heap.size by omega), hW0, World.cell?_alloc_at _ _ _ _ rfl]; rfl
  have s4 : W.cell? ⟨w.heap.size, 1, none⟩ = some (.int .i64 0) := by rw [hW, World.cell?_alloc_lt W0 _ ⟨w.heap.size, 1, none⟩ (show w.heap.size < W0.heap.size by omega), hW0, World.cell?_alloc_at _ _ _ _ rfl]; rfl
  have s5 : ∀ j, W.frozen? ⟨w.heap.size, j, none⟩ = false := fun j => by
    rw [World.frozen?_of_block (w := W0) (a := ⟨w.heap.size, j, none⟩) (by rw [hW]; exact Below.heap_alloc W0 _ w.heap.size (by omega)), hW0]
    exact World.frozen?_alloc_at _ _ _ _ rfl
  have hgz : ∀ j, j < 2 → (some (w.heap.size + j) : Option Nat) ≠ some g := fun j _ h => by injection h with h; omega
  have hzW : W.heap.size = w.heap.size + 2 := by rw [hW, World.size_alloc, hz0]
  have FIN := hide (fun (w2 : World) (hg2 : W.grownBy w2 (some g)) (ho2 : w2.ownsRow lo 98 2 (.slice (some ⟨g, 0, none⟩) n c) n (encZ (l.eraseIdx k))) =>
    (rig_next (v' := .slice (some ⟨g, 0, none⟩) n c) (l' := l.eraseIdx k) (W := W) (w2 := w2) (o := .cells #[.int .i64 a1, .int .i64 a2] 98) HR.out HG0.out (by rw [hW]) (by rw [hW]; rfl) (by rw [hW]; rfl) (by rw [hW]; rfl) hg2 (by rw [HEL.out]; exact ho2) (.inl rfl)))
  have KEEP := hide (fun (w2 : World) (hg2 : W.grownBy w2 (some g)) => (show (w2.cell? ⟨w.heap.size + 1, 0, none⟩ = some (.int .i64 a1) ∧ w2.cell? ⟨w.heap.size + 1, 1, none⟩ = some (.int .i64 a2)) ∧ (w2.cell? ⟨w.heap.size, 0, none⟩ = some (.int .i64 0) ∧ w2.cell? ⟨w.heap.size, 1, none⟩ = some (.int .i64 0)) ∧ (w2.frozen? ⟨w.heap.size, 0, none⟩ = false ∧ w2.frozen? ⟨w.heap.size, 1, none⟩ = false) from by
    have e1 := hg2.block (w.heap.size + 1) (by omega) (hgz 1 (by omega))
    have e0 := hg2.block w.heap.size (by omega) (hgz 0 (by omega))
    exact ⟨⟨(World.cell?_of_block (a := ⟨w.heap.size + 1, 0, none⟩) e1).trans s1, (World.cell?_of_block (a := ⟨w.heap.size + 1, 1, none⟩) e1).trans s2⟩, ⟨(World.cell?_of_block (a := ⟨w.heap.size, 0, none⟩) e0).trans s3, (World.cell?_of_block (a := ⟨w.heap.size, 1, none⟩) e0).trans s4⟩, (World.frozen?_of_block (a := ⟨w.heap.size, 0, none⟩) e0).trans (s5 0), (World.frozen?_of_block (a := ⟨w.heap.size, 1, none⟩) e0).trans (s5 1)⟩))
  have hrne0 : ¬ (r = w.heap.size) := by omega
  have hrne1 : ¬ (r = w.heap.size + 1) := by omega
  have hgne : ¬ (g = w.heap.size) := by omega
  have k0 : (0 : Int) ≤ (k : Int) := by omega
  have k1 : (k : Int) < ((n + 1 : Nat) : Int) := by omega
  have k2 : ¬ ((k : Int) < 0) := by omega
  clear hown ha hn g1 g2 hel ha1 ha2 s1 s2 s3 s4 s5 hR hgz hzW hz0
  go_enter Tryz.func239, Tryz.ntmps239
  go_wp2_with fail
  rw [← hW0, ← hW]
  clear hW hW0
  refine (DEL.out W rfl).mono ?_
  rintro e w2 ⟨rfl, ho2, hg2⟩
  obtain ⟨x1, x2, fin⟩ := FIN.out w2 hg2 ho2
  obtain ⟨⟨y1, y2⟩, ⟨y3, y4⟩, y5, y6⟩ := KEEP.out w2 hg2
  have HFIN := hide fin
  clear fin ho2 hg2 DEL FIN KEEP d1 d2 c1
  go_wp2_with fail
  (try simp only [Exit.inBlock, Exit.then])
  refine bodyPost_ret (v := .tuple #[.agg #[.int .i64 a1, .int .i64 a2], .bool true]) (by rw [results_cell_tmp rfl]; go_simp) rfl ?_
  obtain ⟨q1, q2, q3⟩ := HFIN.out
  refine ⟨rfl, _, q1.far ?_ ?_, (q2.set_new _ (Nat.le_refl _) _).set_new _ (Nat.le_refl _) _, q3⟩
  · exact (Below.heap_setCell _ _ _ r hrne0).trans (Below.heap_setCell _ _ _ r hrne0)
  · intro g' hg'
    obtain rfl : g = g' := by simpa [Value.ownBlock] using hg'
    exact (Below.heap_setCell _ _ _ g hgne).trans (Below.heap_setCell _ _ _ g hgne)
end Go.Proofs.YtdooboibmllfkaaGreatDoor
