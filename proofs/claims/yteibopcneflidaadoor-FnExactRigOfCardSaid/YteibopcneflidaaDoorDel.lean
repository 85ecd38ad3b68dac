/- THE WALKS of slices.Delete at parts, and of the sorted list's takeAt. -/
import Derived.Test.YteibopcneflidaaDoorPut6
import Derived.Test.YteibopcneflidaaDoorPut7
import Derived.Deep.DeepAppendRoom
namespace Go.Proofs.YteibopcneflidaaDoor
open Go.RowKit Go.Sort Go.Shelf

/-- an append within the capacity, at a step of a region that draws its order -/
theorem step_appF {P : Program} {w : World} {ops : Array Oper} {o : Oper} {a : Act} {K : Act → World → Prop} {Q : Exit → Act → World → Prop} {E : Prop} (hgd : o.guard = none) (s x : Operand) (t : TypeId)
    (ho : o.op = .call { callee := .builtin .append, args := #[s, x], argTypes := #[t, t] })
    (base : Nat) (e : TypeId) (i : TypeInfo) (size : Nat) (ht : P.underlying t = some (.slice e)) (hi : P.info? e = some i) (hsize : i.size = size)
    (g n cap : Nat) (xs : List Value) (hs : a.eval s = .slice (some ⟨g, 0, none⟩) n cap) (hown : w.ownsRow base e size (.slice (some ⟨g, 0, none⟩) n cap) n xs)
    (ad : Addr) (m c : Nat) (news : List Value) (hx : a.eval x = .slice (some ad) m c) (hl : news.length = m * size) (hnews : ∀ j u, news[j]? = some u → w.cell? (ad.add j) = some u) (h1 : ∀ u ∈ news, u.oneCell' = true)
    (hroom : n + m ≤ cap)
    (h : ∀ w', w'.ownsRow base e size (.slice (some ⟨g, 0, none⟩) (n + m) cap) (n + m) (xs ++ news) → w.grownBy w' (some g) → K (a.put o.dst (.slice (some ⟨g, 0, none⟩) (n + m) cap)) w') :
    if Region.wanted o (yielded ops a.tmps) = true then Oper.wp P o a w K Q else E := by
  have hw : Region.wanted o (yielded ops a.tmps) = true := by simp [Region.wanted, hgd]
  rw [if_pos hw]
  obtain ⟨w', hr, h2, h3⟩ := run_append_own_spare (P := P) w base t o.type e i size ht hi hsize g n cap xs hown ad m c news hl hnews h1 hroom
  unfold Oper.wp execOp
  simp only [ho, resolve, invoke, builtin, Sem.run_bind, Sem.run_pure, Result.andThen_ok, List.map_toArray, List.map_cons, List.map_nil, hs, hx, hr]
  exact h w' h2 h3
theorem zeroP (w : World) : (zeroValue 48).run Tryd.prog w = .ok (.agg #[.int .i64 0, .int .i64 0]) w := by kernel_rfl
theorem zeroP_one : ∀ u ∈ (Value.agg #[.int .i64 0, .int .i64 0]).cells.toList, u.oneCell' = true := by
  intro u hu
  have h : (Value.agg #[.int .i64 0, .int .i64 0]).cells.toList = [.int .i64 0, .int .i64 0] := rfl
  rw [h] at hu
  simp at hu
  subst hu
  rfl
/-- the part behind a row's end, cleared -/
theorem clear_tail {w : World} {b g m cap : Nat} {xs : List Value} (ty : TypeId) (ho : w.ownsRow b 48 2 (.slice (some ⟨g, 0, none⟩) m cap) m xs) (hm : m + 1 ≤ cap) (d : Nat) :
    ∃ w', (Builtin.clear_ #[24] ty #[.slice (some ⟨g, m * 2, none⟩) 1 d]).run Tryd.prog w = .ok (.tuple #[]) w' ∧ w'.ownsRow b 48 2 (.slice (some ⟨g, 0, none⟩) m cap) m xs ∧ w.grownBy w' (some g) := by
  rcases ho.2 with ⟨h0, _⟩ | ⟨g', cap', cur, hv, hb, hg, hnc, hcm, hcs, htake⟩
  · cases h0
  · cases hv
    have hr := run_clear_rowK (P := Tryd.prog) w 24 48 ty (.agg #[.int .i64 0, .int .i64 0]) Tryd.underlying24 zeroP zeroP_one g (m * 2) 1 d cur 48 (by omega) hg (by show m * 2 + 1 * 2 ≤ cur.size; omega) (by decide)
    refine ⟨_, hr, ⟨ho.1, .inr ⟨g, cap, _, rfl, hb, setRow_heap w g cur _ _ _ hg, hnc, hcm, ?_, ?_⟩⟩, ⟨rfl, rfl, rfl, by simp, fun k _ hk => setRow_other w g k _ (fun e => hk (by simp [e]))⟩⟩
    · have : (Builtin.zeroCells (Value.agg #[.int .i64 0, .int .i64 0]).cells 1).toList.length = 2 := by rw [Array.length_toList, size_zeroCells]; rfl
      simp only [List.size_toArray, List.length_append, List.length_take, List.length_drop, Array.length_toList, this]
      show min (m * 2) cur.size + 2 + (cur.size - (m * 2 + 1 * 2)) = _
      omega
    · rw [List.toList_toArray, List.append_assoc, List.take_append_of_le_length (by rw [List.length_take, Array.length_toList]; omega), List.take_take, Nat.min_self]
      exact htake

theorem drew_grown {w w' : World} {row : Option Nat} (h : w.drew.grownBy w' row) : w.grownBy w' row := ⟨h.os, h.tape, h.output, h.size, h.block⟩
theorem wpList_clear_tail {ops : Array Oper} {rest : List Oper} {o : Oper} {a : Act} {Q : Exit → Act → World → Prop} {w : World} (hgd : o.guard = none) (s : Operand)
    (ho : o.op = .call { callee := .builtin .clear, args := #[s], argTypes := #[24] }) (b g m cap L d : Nat) (xs : List Value) (hs : a.eval s = .slice (some ⟨g, m * 2, none⟩) L d) (hL : L = 1)
    (hown : w.ownsRow b 48 2 (.slice (some ⟨g, 0, none⟩) m cap) m xs) (hm : m + 1 ≤ cap)
    (h : ∀ w', w'.ownsRow b 48 2 (.slice (some ⟨g, 0, none⟩) m cap) m xs → w.grownBy w' (some g) → wpList Tryd.prog ops Q rest (a.put o.dst (.tuple #[])) w') : wpList Tryd.prog ops Q (o :: rest) a w := by
  subst hL
  obtain ⟨w', hr, h1, h2⟩ := clear_tail o.type hown hm d
  exact wpList_clear_eq w hgd s 24 ho _ hs hr (h w' h1 h2)

set_option maxRecDepth 100000 in
set_option maxHeartbeats 2000000 in
theorem delete_any (lo g c n k : Nat) (l : List (Int × Int)) (w : World) (ho : w.ownsRow lo 48 2 (.slice (some ⟨g, 0, none⟩) n c) n (encZ l)) (hk : k < n) :
    Calls Tryd.prog 105 #[.slice (some ⟨g, 0, none⟩) n c, .int .i64 (k : Int), .int .i64 ((k : Int) + 1)] w fun e w' =>
      e = .returned (.slice (some ⟨g, 0, none⟩) (n - 1) c) ∧ w'.ownsRow lo 48 2 (.slice (some ⟨g, 0, none⟩) (n - 1) c) (n - 1) (encZ (l.eraseIdx k)) ∧ w.grownBy w' (some g) := by
  have mixed : Tryd.prog.follows .mixedOrders = true := by kernel_rfl
  obtain ⟨i0, hi, hz0, hz1, hz2⟩ := info_parts infoP
  have hl : l.length = n := by have := ho.1; rw [encZ_length] at this; omega
  have hcap : n ≤ c := by
    rcases ho.2 with ⟨h0, _⟩ | ⟨g', cap', cur, hv, hb, hg, hnc, hcm, hcs, htake⟩
    · cases h0
    · cases hv; exact hnc
  have hmax : c ≤ maxLen := by
    rcases ho.2 with ⟨h0, _⟩ | ⟨g', cap', cur, hv, hb, hg, hnc, hcm, hcs, htake⟩
    · cases h0
    · cases hv; exact hcm
  unfold maxLen at hmax
  have OT := hide (owns_take ho (Nat.le_of_lt hk) (by omega))
  have HC : Hid (CellsAt w g (encZ l)) := hide (fun j u hu => by
    have hj : j < n * 2 := by have := ho.1; have := (List.getElem?_eq_some_iff.1 hu).1; omega
    exact ⟨by rw [ho.cellAt j hj]; exact hu, ho.frozenAt j⟩)
  have SRC := hide (src_drop HC.out (k + 1))
  have LD : Hid ((encZ (l.drop (k + 1))).length = (n - (k + 1)) * 2) := hide (by rw [encZ_length, List.length_drop, hl])
  have oD := hide (encZ_one (l.drop (k + 1)))
  have HE : Hid (encZ (l.take k) ++ encZ (l.drop (k + 1)) = encZ (l.eraseIdx k)) := hide (by rw [← encZ_app, List.eraseIdx_eq_take_drop_succ])
  have k0 : (0 : Int) ≤ (k : Int) := by omega
  have k1 : (k : Int) ≤ (k : Int) + 1 := by omega
  have k2 : (k : Int) + 1 ≤ (n : Int) := by omega
  have k3 : (n : Int) ≤ (c : Int) := by omega
  have k4 : ¬ ((k : Int) = (k : Int) + 1) := by omega
  have k5 : (k : Int) ≤ (c : Int) := by omega
  have k6 : (0 : Int) ≤ (k : Int) + 1 := by omega
  have ck : ¬ (c = k) := by omega
  have hroom : k + (n - (k + 1)) ≤ c := by omega
  have hnn : k + (n - (k + 1)) = n - 1 := by omega
  have HNN := hide hnn
  clear ho hl hnn
  have SRC0 : Hid (c = k + 1 → ∀ (a : Addr) j u, (encZ (l.drop (k + 1)))[j]? = some u → w.cell? (a.add j) = some u) := hide (fun h a j u hu => by
    have := (List.getElem?_eq_some_iff.1 hu).1
    rw [LD.out] at this
    omega)
  by_cases hck : c = k + 1
  · have SRC1 := hide (SRC0.out hck ⟨g, 0, none⟩)
    subst hck
    have hn0 : n - (k + 1) = 0 := by omega
    have LD0 : Hid ((encZ (l.drop (k + 1))).length = 0 * 2) := hide (by rw [LD.out, hn0])
    have hr0 : k + 0 ≤ k + 1 := by omega
    go_enter Tryd.func105, Tryd.ntmps105
    go_wp2_with fail
    go_region_held3 (fun _ => True) (first | exact trivial | fail) (first | ((refine step_appF (by rfl) (.tmp 22) (.tmp 25) 24 (by rfl) lo 48 i0 2 Tryd.underlying24 hi hz1 g k (k + 1) (encZ (l.take k)) (by rfl) OT.out ⟨g, 0, none⟩ 0 0 (encZ (l.drop (k + 1))) (by rfl) LD0.out SRC1.out oD.out hr0 ?_; intro w1 ho1 hg1; have O1 := hide ho1; have G1 := hide hg1; clear ho1 hg1)) | fail)
    all_goals go_wp2_with ((refine wpList_clear_tail rfl _ rfl lo g k (k + 1) _ _ (encZ (l.take k) ++ encZ (l.drop (k + 1))) (by rfl) (by omega) O1.out (by omega) ?_; intro w2 ho2 hg2; have O2 := hide ho2; have G2 := hide (G1.out.trans hg2); clear ho2 hg2))
    all_goals go_ret
    all_goals (rw [show n - 1 = k by omega, ← HE.out]; exact ⟨rfl, O2.out, drew_grown G2.out⟩)
  · go_enter Tryd.func105, Tryd.ntmps105
    go_wp2_with fail
    go_region_held3 (fun _ => True) (first | exact trivial | fail) (first | ((refine step_appF (by rfl) (.tmp 22) (.tmp 25) 24 (by rfl) lo 48 i0 2 Tryd.underlying24 hi hz1 g k c (encZ (l.take k)) (by rfl) OT.out ⟨g, (k + 1) * 2, none⟩ (n - (k + 1)) (c - (k + 1)) (encZ (l.drop (k + 1))) (by rfl) LD.out SRC.out oD.out hroom ?_; intro w1 ho1 hg1; have O1 := hide ho1; have G1 := hide hg1; clear ho1 hg1)) | fail)
    all_goals go_wp2_with ((refine wpList_clear_tail rfl _ rfl lo g (k + (n - (k + 1))) c _ _ (encZ (l.take k) ++ encZ (l.drop (k + 1))) (by rfl) (by omega) O1.out (by omega) ?_; intro w2 ho2 hg2; have O2 := hide ho2; have G2 := hide (G1.out.trans hg2); clear ho2 hg2))
    all_goals go_ret
    all_goals (rw [← HNN.out, ← HE.out]; exact ⟨rfl, O2.out, drew_grown G2.out⟩)
end Go.Proofs.YteibopcneflidaaDoor
