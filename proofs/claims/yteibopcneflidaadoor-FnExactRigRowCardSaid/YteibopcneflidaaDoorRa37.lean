/- TEXTS Del, Fit4. -/
import Derived.Test.YteibopcneflidaaDoorRa36
import Derived.Test.YteibopcneflidaaDoorRa32
import Derived.Deep.DeepAppendRoom
/- THE WALKS of slices.Delete at parts, and of the sorted list's takeAt. -/
namespace Go.Proofs.YteibopcneflidaaDoor
open Go.RowKit Go.Sort Go.Shelf

/-- an append within the capacity, at a step of a region that draws its order -/
theorem step_appF {P : Program} {w : World} {ops : Array Oper} {o : Oper} {a : Act} {K : Act → World → Prop} {Q : Exit → Act → World → Prop} {E : Prop} (hgd : o.guard = none) (s x : Operand) (t : TypeId)
    (ho : o.op = .call { callee := .builtin .append, args := #[s, x], argTypes := #[t, t] })
    (base : Nat) (e : TypeId) (i : TypeInfo) (size : Nat) (ht : P.underlying t = some (.slice e)) (hi : P.info? e = some i) (hsize : i.size = size)
    (g n cap : Nat) (xs : List Value) (hs : a.eval s = .slice (some ⟨g, 0, none⟩) n cap) (hown : w.ownsRow base e size (.slice (some ⟨g, 0, none⟩) n cap) n xs)
    (ad : Addr) (m c : Nat) (news : List Value) (hx : a.eval x = .slice (some ad) m c) (hl : news.length = m * size) (hnews : ∀ j u, news[j]? = some u → w.cell? (ad.add j) = some u) (h1 : ∀ u ∈ news, u.oneCell' = true)
    (hroom : n + m ≤ cap)
    (h : ∀ w', w'.ownsRow base e size (.slice (some ⟨g, 0, none⟩) (n + m) cap) (n + m) (xs ++ news) → w.grownBy w' (some g) → K (a.put o.dst (.slice (some ⟨g, 0, none⟩) (n + m) cap)) w') :
    if Region.wanted o (yielded ops a.tmps) = true then Oper.wp P o a w K Q else E := by
  have hw : Region.wanted o (yielded ops a.tmps) = true := by simp [Region.wanted, hgd]
  rw [if_pos hw]
  obtain ⟨w', hr, h2, h3⟩ := run_append_own_spare (P := P) w base t o.type e i size ht hi hsize g n cap xs hown ad m c news hl hnews h1 hroom
  unfold Oper.wp execOp
  simp only [ho, resolve, invoke, builtin, Sem.run_bind, Sem.run_pure, Result.andThen_ok, List.map_toArray, List.map_cons, List.map_nil, hs, hx, hr]
  exact h w' h2 h3
theorem zeroP (w : World) : (zeroValue 48).run Tryd.prog w = .ok (.agg #[.int .i64 0, .int .i64 0]) w := by kernel_rfl
theorem zeroP_one : ∀ u ∈ (Value.agg #[.int .i64 0, .int .i64 0]).cells.toList, u.oneCell' = true := by
  intro u hu
  have h : (Value.agg #[.int .i64 0, .int .i64 0]).cells.toList = [.int .i64 0, .int .i64 0] := rfl
  rw [h] at hu
  simp at hu
  subst hu
  rfl
/-- the part behind a row's end, cleared -/
theorem clear_tail {w : World} {b g m cap : Nat} {xs : List Value} (ty : TypeId) (ho : w.ownsRow b 48 2 (.slice (some ⟨g, 0, none⟩) m cap) m xs) (hm : m + 1 ≤ cap) (d : Nat) :
    ∃ w', (Builtin.clear_ #[24] ty #[.slice (some ⟨g, m * 2, none⟩) 1 d]).run Tryd.prog w = .ok (.tuple #[]) w' ∧ w'.ownsRow b 48 2 (.slice (some ⟨g, 0, none⟩) m cap) m xs ∧ w.grownBy w' (some g) := by
  rcases ho.2 with ⟨h0, _⟩ | ⟨g', cap', cur, hv, hb, hg, hnc, hcm, hcs, htake⟩
  · cases h0
  · cases hv
    have hr := run_clear_rowK (P := Tryd.prog) w 24 48 ty (.agg #[.int .i64 0, .int .i64 0]) Tryd.underlying24 zeroP zeroP_one g (m * 2) 1 d cur 48 (by omega) hg (by show m * 2 + 1 * 2 ≤ cur.size; omega) (by decide)
    refine ⟨_, hr, ⟨ho.1, .inr ⟨g, cap, _, rfl, hb, setRow_heap w g cur _ _ _ hg, hnc, hcm, ?_, ?_⟩⟩, ⟨rfl, rfl, rfl, by simp, fun k _ hk => setRow_other w g k _ (fun e => hk (by simp [e]))⟩⟩
    · have : (Builtin.zeroCells (Value.agg #[.int .i64 0, .int .i64 0]).cells 1).toList.length = 2 := by rw [Array.length_toList, size_zeroCells]; rfl
      simp only [List.size_toArray, List.length_append, List.length_take, List.length_drop, Array.length_toList, this]
      show min (m * 2) cur.size + 2 + (cur.size - (m * 2 + 1 * 2)) = _
      omega
    · rw [List.toList_toArray, List.append_assoc, List.take_append_of_le_length (by rw [List.length_take, Array.length_toList]; omega), List.take_take, Nat.min_self]
      exact htake

theorem drew_grown {w w' : World} {row : Option Nat} (h : w.drew.grownBy w' row) : w.grownBy w' row := ⟨h.os, h.tape, h.output, h.size, h.block⟩
theorem wpList_clear_tail {ops : Array Oper} {rest : List Oper} {o : Oper} {a : Act} {Q : Exit → Act → World → Prop} {w : World} (hgd : o.guard = none) (s : Operand)
    (ho : o.op = .call { callee := .builtin .clear, args := #[s], argTypes := #[24] }) (b g m cap L d : Nat) (xs : List Value) (hs : a.eval s = .slice (some ⟨g, m * 2, none⟩) L d) (hL : L = 1)
    (hown : w.ownsRow b 48 2 (.slice (some ⟨g, 0, none⟩) m cap) m xs) (hm : m + 1 ≤ cap)
    (h : ∀ w', w'.ownsRow b 48 2 (.slice (some ⟨g, 0, none⟩) m cap) m xs → w.grownBy w' (some g) → wpList Tryd.prog ops Q rest (a.put o.dst (.tuple #[])) w') : wpList Tryd.prog ops Q (o :: rest) a w := by
  subst hL
  obtain ⟨w', hr, h1, h2⟩ := clear_tail o.type hown hm d
  exact wpList_clear_eq w hgd s 24 ho _ hs hr (h w' h1 h2)

set_option maxRecDepth 100000 in
set_option maxHeartbeats 2000000 in
theorem delete_any (lo g c n k : Nat) (l : List (Int × Int)) (w : World) (ho : w.ownsRow lo 48 2 (.slice (some ⟨g, 0, none⟩) n c) n (encZ l)) (hk : k < n) :
    Calls Tryd.prog 105 #[.slice (some ⟨g, 0, none⟩) n c, .int .i64 (k : Int), .int .i64 ((k : Int) + 1)] w fun e w' =>
      e = .returned (.slice (some ⟨g, 0, none⟩) (n - 1) c) ∧ w'.ownsRow lo 48 2 (.slice (some ⟨g, 0, none⟩) (n - 1) c) (n - 1) (encZ (l.eraseIdx k)) ∧ w.grownBy w' (some g) := by
  have mixed : Tryd.prog.follows .mixedOrders = true := by kernel_rfl
  obtain ⟨i0, hi, hz0, hz1, hz2⟩ := info_parts infoP
  have hl : l.length = n := by have := ho.1; rw [encZ_length] at this; omega
  have hcap : n ≤ c := by
    rcases ho.2 with ⟨h0, _⟩ | ⟨g', cap', cur, hv, hb, hg, hnc, hcm, hcs, htake⟩
    · cases h0
    · cases hv; exact hnc
  have hmax : c ≤ maxLen := by
    rcases ho.2 with ⟨h0, _⟩ | ⟨g', cap', cur, hv, hb, hg, hnc, hcm, hcs, htake⟩
    · cases h0
    · cases hv; exact hcm
  unfold maxLen at hmax
  have OT := hide (owns_take ho (Nat.le_of_lt hk) (by omega))
  have HC : Hid (CellsAt w g (encZ l)) := hide (fun j u hu => by
    have hj : j < n * 2 := by have := ho.1; have := (List.getElem?_eq_some_iff.1 hu).1; omega
    exact ⟨by rw [ho.cellAt j hj]; exact hu, ho.frozenAt j⟩)
  have SRC := hide (src_drop HC.out (k + 1))
  have LD : Hid ((encZ (l.drop (k + 1))).length = (n - (k + 1)) * 2) := hide (by rw [encZ_length, List.length_drop, hl])
  have oD := hide (encZ_one (l.drop (k + 1)))
  have HE : Hid (encZ (l.take k) ++ encZ (l.drop (k + 1)) = encZ (l.eraseIdx k)) := hide (by rw [← encZ_app, List.eraseIdx_eq_take_drop_succ])
  have k0 : (0 : Int) ≤ (k : Int) := by omega
  have k1 : (k : Int) ≤ (k : Int) + 1 := by omega
  have k2 : (k : Int) + 1 ≤ (n : Int) := by omega
  have k3 : (n : Int) ≤ (c : Int) := by omega
  have k4 : ¬ ((k : Int) = (k : Int) + 1) := by omega
  have k5 : (k : Int) ≤ (c : Int) := by omega
  have k6 : (0 : Int) ≤ (k : Int) + 1 := by omega
  have ck : ¬ (c = k) := by omega
  have hroom : k + (n - (k + 1)) ≤ c := by omega
  have hnn : k + (n - (k + 1)) = n - 1 := by omega
  have HNN := hide hnn
  clear ho hl hnn
  have SRC0 : Hid (c = k + 1 → ∀ (a : Addr) j u, (encZ (l.drop (k + 1)))[j]? = some u → w.cell? (a.add j) = some u) := hide (fun h a j u hu => by
    have := (List.getElem?_eq_some_iff.1 hu).1
    rw [LD.out] at this
    omega)
  by_cases hck : c = k + 1
  · have SRC1 := hide (SRC0.out hck ⟨g, 0, none⟩)
    subst hck
    have hn0 : n - (k + 1) = 0 := by omega
    have LD0 : Hid ((encZ (l.drop (k + 1))).length = 0 * 2) := hide (by rw [LD.out, hn0])
    have hr0 : k + 0 ≤ k + 1 := by omega
    go_enter Tryd.func105, Tryd.ntmps105
    go_wp2_with fail
    go_region_held3 (fun _ => True) (first | exact trivial | fail) (first | ((refine step_appF (by rfl) (.tmp 22) (.tmp 25) 24 (by rfl) lo 48 i0 2 Tryd.underlying24 hi hz1 g k (k + 1) (encZ (l.take k)) (by rfl) OT.out ⟨g, 0, none⟩ 0 0 (encZ (l.drop (k + 1))) (by rfl) LD0.out SRC1.out oD.out hr0 ?_; intro w1 ho1 hg1; have O1 := hide ho1; have G1 := hide hg1; clear ho1 hg1)) | fail)
    all_goals go_wp2_with ((refine wpList_clear_tail rfl _ rfl lo g k (k + 1) _ _ (encZ (l.take k) ++ encZ (l.drop (k + 1))) (by rfl) (by omega) O1.out (by omega) ?_; intro w2 ho2 hg2; have O2 := hide ho2; have G2 := hide (G1.out.trans hg2); clear ho2 hg2))
    all_goals go_ret
    all_goals (rw [show n - 1 = k by omega, ← HE.out]; exact ⟨rfl, O2.out, drew_grown G2.out⟩)
  · go_enter Tryd.func105, Tryd.ntmps105
    go_wp2_with fail
    go_region_held3 (fun _ => True) (first | exact trivial | fail) (first | ((refine step_appF (by rfl) (.tmp 22) (.tmp 25) 24 (by rfl) lo 48 i0 2 Tryd.underlying24 hi hz1 g k c (encZ (l.take k)) (by rfl) OT.out ⟨g, (k + 1) * 2, none⟩ (n - (k + 1)) (c - (k + 1)) (encZ (l.drop (k + 1))) (by rfl) LD.out SRC.out oD.out hroom ?_; intro w1 ho1 hg1; have O1 := hide ho1; have G1 := hide hg1; clear ho1 hg1)) | fail)
    all_goals go_wp2_with ((refine wpList_clear_tail rfl _ rfl lo g (k + (n - (k + 1))) c _ _ (encZ (l.take k) ++ encZ (l.drop (k + 1))) (by rfl) (by omega) O1.out (by omega) ?_; intro w2 ho2 hg2; have O2 := hide ho2; have G2 := hide (G1.out.trans hg2); clear ho2 hg2))
    all_goals go_ret
    all_goals (rw [← HNN.out, ← HE.out]; exact ⟨rfl, O2.out, drew_grown G2.out⟩)
end Go.Proofs.YteibopcneflidaaDoor

/- THE WALKS of readParts, readFitting, roomIn, and the program's RigRoom, RigFits. -/
namespace Go.Proofs.YteibopcneflidaaDoor
open Go.RowKit Go.Sort Go.Shelf

theorem RigAt.down {w : World} {r lo lo' : Nat} {v : Value} {l : List (Int × Int)} {m : Int} (h : RigAt w r lo v l m) (hl : lo' ≤ lo) : RigAt w r lo' v l m :=
  ⟨h.fn, h.items, h.boxes, h.free, owns_lo h.own hl, h.ne, Nat.le_trans hl h.lo_le⟩

set_option maxHeartbeats 1000000 in
theorem readParts_ok (l : List (Int × Int)) (v : Value) (n : Int) (w : World) {lo : Nat} (hP : PartsV lo w v l) (hin : rgIn l = true) (hn : 0 ≤ n ∧ n ≤ 120) :
    Calls Tryd.prog 69 #[v, .int .i64 n] w fun e w' => ∃ r v', e = .returned (.tuple #[.pointer (some ⟨r, 0, none⟩), .nilIface]) ∧ RigAt w' r w.heap.size v' l n ∧ Below w.heap.size w w' := by
  obtain ⟨hb, hs, hl⟩ := (rgIn_iff l).1 hin
  have C := hide (checkParts_grw l v w hP (by omega))
  rw [hin] at C
  have NR := hide (fun (W : World) (h : PartsV lo W v l) => newRigged_any l v n W hs h (by omega))
  have HP := hide hP
  obtain ⟨n0, n1⟩ := hn
  have h1 : ¬ n < 0 := by omega
  have h2 : ¬ (120 : Int) < n := by omega
  clear hb hs hl hP
  go_enter Tryd.func69, Tryd.ntmps69
  go_wp2_with fail
  refine C.out.mono ?_
  rintro e w1 ⟨⟨u, rfl, hu⟩, hg⟩
  obtain rfl : u = .nilIface := hu
  have HB1 := hide hg.below
  clear hg
  go_wp2_with fail
  refine (NR.out w1 (HP.out.below HB1.out (Nat.le_refl _))).mono ?_
  rintro e w2 ⟨rfl, v', hr, hb2⟩
  have HR := hide hr
  have HB2 := hide hb2
  clear hr hb2
  go_wp2_with fail
  go_ret2
  exact ⟨_, v', rfl, HR.out.down HB1.out.size, HB1.out.trans (HB2.out.mono HB1.out.size)⟩

set_option maxHeartbeats 1000000 in
theorem readParts_no (l : List (Int × Int)) (v : Value) (n : Int) (w : World) {lo : Nat} (hP : PartsV lo w v l) (hl : l.length ≤ 1048576) (hno : (rgIn l && rgBox n) = false) :
    Calls Tryd.prog 69 #[v, .int .i64 n] w fun e w' => ∃ s, e = .returned (.tuple #[.pointer none, .iface 78 (.string s)]) ∧ Below w.heap.size w w' := by
  have C := hide (checkParts_grw l v w hP hl)
  by_cases h1 : n < 0
  · go_enter Tryd.func69, Tryd.ntmps69
    go_wp2_with fail
    go_ret2
    first | exact ⟨_, rfl, Below.refl _ _⟩ | exact ⟨⟨_, rfl⟩, Below.refl _ _⟩
  · by_cases h2 : (120 : Int) < n
    · go_enter Tryd.func69, Tryd.ntmps69
      go_wp2_with fail
      go_ret2
      first | exact ⟨_, rfl, Below.refl _ _⟩ | exact ⟨⟨_, rfl⟩, Below.refl _ _⟩
    · have hb : rgBox n = true := (rgBox_iff n).2 ⟨by omega, by omega⟩
      rw [hb, Bool.and_true] at hno
      rw [hno] at C
      clear hP hb
      go_enter Tryd.func69, Tryd.ntmps69
      go_wp2_with fail
      refine C.out.mono ?_
      rintro e w1 ⟨⟨u, rfl, hu⟩, hg⟩
      obtain ⟨s, rfl⟩ := hu
      have HB1 := hide hg.below
      clear hg
      go_wp2_with fail
      go_ret2
      exact ⟨_, rfl, HB1.out⟩

theorem rgRoomOk_iff (l : List (Int × Int)) (n j : Int) : rgRoomOk l n j = true ↔ rgIn l = true ∧ (0 ≤ n ∧ n ≤ 120) ∧ 1 ≤ j ∧ j ≤ 60 := by
  unfold rgRoomOk szOne
  rw [Bool.and_eq_true, Bool.and_eq_true, rgBox_iff, and_assoc]
  simp

/-- what readFitting hands back -/
def FitPost (w : World) (l : List (Int × Int)) (n : Int) (ok : Bool) (e : Ending) (w' : World) : Prop :=
  if ok then ∃ r v', e = .returned (.tuple #[.pointer (some ⟨r, 0, none⟩), .nilIface]) ∧ RigAt w' r w.heap.size v' l n else ∃ s, e = .returned (.tuple #[.pointer none, .iface 78 (.string s)])

set_option maxRecDepth 100000 in
set_option maxHeartbeats 4000000 in
/-- readFitting: a rigged partition that fits, or a fault -/
theorem readFitting_any (l : List (Int × Int)) (v : Value) (n : Int) (w : World) {lo : Nat} (hP : PartsV lo w v l) (hl : l.length ≤ 1048576) :
    Calls Tryd.prog 49 #[v, .int .i64 n] w fun e w' => FitPost w l n (rgFits l n) e w' ∧ Below w.heap.size w w' := by
  have mixed : Tryd.prog.follows .mixedOrders = true := by kernel_rfl
  cases hok : (rgIn l && rgBox n)
  · have e0 : rgFits l n = false := by unfold rgFits; rw [hok]; rfl
    rw [e0]
    have C := hide (readParts_no l v n w hP hl hok)
    clear hP e0 hok
    go_enter Tryd.func49, Tryd.ntmps49
    go_wp2_with fail
    refine C.out.mono ?_
    rintro e w1 ⟨s, rfl, hb1⟩
    have HB1 := hide hb1
    clear hb1
    go_wp2_with fail
    go_ret2
    exact ⟨⟨_, rfl⟩, HB1.out⟩
  · rw [Bool.and_eq_true] at hok
    obtain ⟨hin, hbox⟩ := hok
    have hnn := (rgBox_iff n).1 hbox
    have C := hide (readParts_ok l v n w hP hin hnn)
    obtain ⟨hb, hs, h60⟩ := (rgIn_iff l).1 hin
    have RM := hide (fun (r : Nat) (v' : Value) (j : Int) (hj : 1 ≤ j ∧ j ≤ 60) (W : World) (h : RigAt W r w.heap.size v' l n) => room_grw r w.heap.size v' l n j W h (by omega) (fun a ha => by have := hb a ha; omega) (by omega) (by omega))
    have HB := hide hb
    have HIN := hide hin
    have HNN := hide hnn
    have HP := hide hP
    obtain ⟨N, hN⟩ : ∃ N, l.length = N := ⟨_, rfl⟩
    obtain ⟨a, c, rfl, hf⟩ := hP.form hN
    have HN := hide hN
    have HF := hide hf
    rw [hN] at h60
    clear hP hin hbox hnn hb hs hl hN hf
    go_enter Tryd.func49, Tryd.ntmps49
    go_wp2_with fail
    refine C.out.mono ?_
    rintro e w1 ⟨r, v', rfl, hr, hb1⟩
    have HR := hide hr
    have HB1 := hide hb1
    clear hr hb1
    go_wp2
    go_loopw [21] (fun i wr => ∃ k : Nat, k ≤ N ∧ i = .int .i64 (k : Int) ∧ Hid (∀ x ∈ l.take k, x.2 ≤ pRoom l n x.1) ∧ Hid (Grw w1 wr)) (fun i _ => N - (intOf i).toNat)
    case atStart => exact ⟨0, Nat.zero_le _, rfl, (fun x hx => by simp at hx), Grw.refl _⟩
    case round =>
      obtain ⟨k, hk, rfl, HS, HG⟩ := hrel
      by_cases hlt : k < N
      · obtain ⟨q, rfl, hq0, hq⟩ := HF.out (by omega)
        obtain ⟨x, hx⟩ : ∃ x, l[k]? = some x := ⟨_, List.getElem?_eq_getElem (by rw [HN.out]; exact hlt)⟩
        obtain ⟨g1, g2⟩ := encZ_get l k x hx
        have hqr := HG.out.cells (hq.below' HB1.out (Nat.le_refl _))
        have d1 := (hqr _ _ g1).1
        have d2 := (hqr _ _ g2).1
        have hql : q < wr.heap.size := by have := HG.out.size; have := HB1.out.size; omega
        have hmem := List.mem_of_getElem? hx
        have hbx := HB.out x hmem
        have HMEM := hide hmem
        have HNX : Hid (x.2 ≤ pRoom l n x.1 → ∀ y ∈ l.take (k + 1), y.2 ≤ pRoom l n y.1) := by
          intro h y hy
          rw [List.take_add_one, hx] at hy
          rcases List.mem_append.1 hy with hy | hy
          · exact HS.out y hy
          · simp at hy; rw [hy]; exact h
        have HBAD : Hid (¬ x.2 ≤ pRoom l n x.1 → rgFits l n = false) := by
          intro h
          cases hf2 : rgFits l n
          · rfl
          · exact absurd (((rgFits_iff l n).1 hf2).2.2 x hmem) h
        obtain ⟨x1, hx1⟩ : ∃ z, z = x.1 := ⟨_, rfl⟩
        obtain ⟨x2, hx2⟩ : ∃ z, z = x.2 := ⟨_, rfl⟩
        obtain ⟨t, ht⟩ : ∃ z, z = pRoom l n x.1 := ⟨_, rfl⟩
        have RM2 := hide (fun (W : World) (h : RigAt W r w.heap.size v' l n) => RM.out r v' x.1 (by omega) W h)
        rw [← ht] at HNX HBAD RM2
        rw [← hx1] at d1 RM2
        rw [← hx2] at d2 HNX HBAD
        obtain ⟨W, hW⟩ : ∃ W, W = wr.alloc (.cells #[.int .i64 x1, .int .i64 x2] 48) := ⟨_, rfl⟩
        have hz : wr.heap.size < W.heap.size := by rw [hW]; simp
        have HGW : Hid (Grw w1 W) := by rw [hW]; exact HG.out.trans (Grw.alloc _ _)
        have c1 : W.cell? ⟨wr.heap.size, 0, none⟩ = some (.int .i64 x1) := by rw [hW, World.cell?_alloc_at _ _ _ _ rfl]; rfl
        have c2 : W.cell? ⟨wr.heap.size, 1, none⟩ = some (.int .i64 x2) := by rw [hW, World.cell?_alloc_at _ _ _ _ rfl]; rfl
        have e1 : ∀ n os, (grow (W.drewN n) os).cell? ⟨wr.heap.size, 0, none⟩ = some (.int .i64 x1) := fun n os => cell_grown hz c1 n os
        have e2 : ∀ n os, (grow (W.drewN n) os).cell? ⟨wr.heap.size, 1, none⟩ = some (.int .i64 x2) := fun n os => cell_grown hz c2 n os
        have CR := hide (fun (n' : Nat) (os : Array Obj) => RM2.out (grow (W.drewN n') os) (HR.out.below (HGW.out.trans (Grw.mk W n' os)).below (Nat.le_refl _)))
        have i0 : (0 : Int) ≤ (k : Int) := by omega
        have i1 : (k : Int) < (N : Int) := by omega
        clear hx g1 g2 hqr hx1 hx2 ht c1 c2 hmem hbx RM2
        by_cases hle : t < x2
        · have HE := hide (HBAD.out (by omega))
          have hd : decide (t < x2) = true := decide_eq_true hle
          go_wp2
          rw [← hW]
          clear hW
          refine wp_region_quiet_grown (by assumption) (by kernel_rfl) ?_
          repeat (first | go_big_quiet_skip | quiet_step ((go_at_call 70; refine Calls.grown_of (CR.out _ _))))
          refine wpQuiet_nil ?_
          intro _ hw'
          obtain ⟨⟨nq, osq⟩, hw''⟩ := hw'
          subst hw''
          go_wp2
          go_ret2
          exact ⟨by rw [HE.out]; exact ⟨_, rfl⟩, HB1.out.trans ((HGW.out.trans (Grw.mk _ _ _)).below.mono HB1.out.size)⟩
        · have HN2 := hide (HNX.out (by omega))
          have hd : decide (t < x2) = false := decide_eq_false hle
          go_wp2
          rw [← hW]
          clear hW
          refine wp_region_quiet_grown (by assumption) (by kernel_rfl) ?_
          repeat (first | go_big_quiet_skip | quiet_step ((go_at_call 70; refine Calls.grown_of (CR.out _ _))))
          refine wpQuiet_nil ?_
          intro _ hw'
          obtain ⟨⟨nq, osq⟩, hw''⟩ := hw'
          subst hw''
          go_wp2
          go_roundw
          case rel => exact ⟨k + 1, by omega, by go_num, HN2.out, HGW.out.trans (Grw.mk _ _ _)⟩
          case measure => simp [intOf]; omega
      · have hkn : k = N := by omega
        have HE : Hid (rgFits l n = true) := (rgFits_iff l n).2 ⟨HIN.out, HNN.out, fun x hx => HS.out x (by rw [List.take_of_length_le (by rw [HN.out]; omega)]; exact hx)⟩
        go_wp2
        go_ret2
        exact ⟨by rw [HE.out]; exact ⟨r, v', rfl, HR.out.below HG.out.below (Nat.le_refl _)⟩, HB1.out.trans (HG.out.below.mono HB1.out.size)⟩

set_option maxHeartbeats 1000000 in
theorem implRigFits_any (l : List (Int × Int)) (v : Value) (n : Int) (w : World) {lo : Nat} (hE : EtAt w) (hP : PartsV lo w v l) (hl : l.length ≤ 1048576) :
    Calls Tryd.prog 25 #[v, .int .i64 n] w fun e w' => e = .returned (.bool (rgFits l n)) ∧ Below w.heap.size w w' := by
  have HE := hide hE
  have C := hide (readFitting_any l v n w hP hl)
  cases hok : rgFits l n
  · rw [hok] at C
    clear hP hE hok
    go_enter Tryd.func25, Tryd.ntmps25
    go_wp2_with fail
    refine C.out.mono ?_
    rintro e w1 ⟨⟨s, rfl⟩, hb1⟩
    have HB1 := hide hb1
    have SO := hide (sound_any false _ w1 (HE.out.below hb1 (Nat.le_refl _)) (fault_mk s))
    clear hb1
    go_wp2_with fail
    refine SO.out.mono ?_
    rintro e w2 ⟨rfl, hb2⟩
    have HB2 := hide hb2
    clear hb2
    go_wp2_with fail
    go_ret
    exact ⟨rfl, HB1.out.trans (HB2.out.mono HB1.out.size)⟩
  · rw [hok] at C
    clear hP hE hok
    go_enter Tryd.func25, Tryd.ntmps25
    go_wp2_with fail
    refine C.out.mono ?_
    rintro e w1 ⟨⟨r, v', rfl, _⟩, hb1⟩
    have HB1 := hide hb1
    have SO := hide (sound_any true .nilIface w1 (HE.out.below hb1 (Nat.le_refl _)) rfl)
    clear hb1
    go_wp2_with fail
    refine SO.out.mono ?_
    rintro e w2 ⟨rfl, hb2⟩
    have HB2 := hide hb2
    clear hb2
    go_wp2_with fail
    go_ret
    exact ⟨rfl, HB1.out.trans (HB2.out.mono HB1.out.size)⟩
end Go.Proofs.YteibopcneflidaaDoor
