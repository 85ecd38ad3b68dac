/- TEXTS SCir4, SCir5. -/
import Derived.Test.YtdooboibmllfkabGreatDoorExb15
import Derived.Test.YtdooboibmllfkabGreatDoorExb23
import Derived.Maps.AppendAt
namespace Go.Proofs.YtdooboibmllfkabGreatDoor
set_option maxRecDepth 100000
open Go.RowKit

def nv (l : List Nat) : List Value := (l.map fun n : Nat => (n : Int)).map (.int .i64)
theorem nv_snoc (l : List Nat) (x : Nat) : nv (l ++ [x]) = nv l ++ [.int .i64 (x : Int)] := by simp [nv]
theorem nv_get {l : List Nat} {j x : Nat} (h : l[j]? = some x) : (nv l)[j]? = some (.int .i64 (x : Int)) := by simp [nv, h]
theorem infoN : (Tryz.prog.info? 3).map (fun i => (i.zero, i.size, i.bytes)) = some (some (.int .i64 0), 1, 8) := by kernel_rfl
theorem one_int (x : Int) : ∀ u ∈ [Value.int .i64 x], u.oneCell' = true := by intro u hu; simp at hu; subst hu; rfl
def Ap (u v : Value) : Prop := ∀ x, u.ownBlock = some x → v.ownBlock ≠ some x
theorem Ap.symm {u v : Value} (h : Ap u v) : Ap v u := fun x hx hy => h x hy hx
theorem Ap.ne {u v : Value} (h : Ap u v) : (v.ownBlock = none ∨ v.ownBlock ≠ u.ownBlock) := by
  cases hv : v.ownBlock with
  | none => exact .inl rfl
  | some y => exact .inr (fun e => h y e.symm hv)
theorem oslice {w : World} {B e n : Nat} {v : Value} {xs : List Value} (h : w.ownsRow B e 1 v n xs) : ∃ a c, v = .slice a n c := by
  rcases h.2 with ⟨rfl, rfl⟩ | ⟨g, cap, cur, rfl, _⟩
  · exact ⟨_, _, rfl⟩
  · exact ⟨_, _, rfl⟩
theorem osome {w : World} {B e n : Nat} {v : Value} {xs : List Value} (h : w.ownsRow B e 1 v n xs) (hn : 0 < n) : ∃ g c, v = .slice (some ⟨g, 0, none⟩) n c := by
  rcases h.2 with ⟨_, h0⟩ | ⟨g, cap, cur, rfl, _⟩
  · omega
  · exact ⟨_, _, rfl⟩
theorem rnext {B e m : Nat} {u v u' : Value} {ys : List Value} {W w1 : World} (hv : W.ownsRow B e 1 v m ys) (ha : Ap u v)
    (hg : W.grownBy w1 u.ownBlock) (hat : u'.ownBlock = u.ownBlock ∨ u'.ownBlock = some W.heap.size) : w1.ownsRow B e 1 v m ys ∧ Ap u' v := by
  refine ⟨hv.kept hg ha.ne, ?_⟩
  intro x hx hvx
  rcases hat with h | h
  · exact ha x (h ▸ hx) hvx
  · rw [h] at hx
    injection hx with hx
    have := (hv.lt x hvx).2
    omega
theorem ap_new {w : World} {B e n c : Nat} {v : Value} {xs : List Value} (h : w.ownsRow B e 1 v n xs) : Ap v (.slice (some ⟨w.heap.size, 0, none⟩) 0 c) := by
  intro x hx hy
  have h1 := (h.lt x hx).2
  simp [Value.ownBlock] at hy
  omega
theorem bits_getD (s : ByteArray) (k : Nat) (h : k < s.size) : (bits s).getD k false = (s[k] == 49) := by rw [List.getD_eq_getElem?_getD, bits_getElem s k h]; rfl

structure RS (B R : Nat) (w : World) (u v : Value) (left cs : List Nat) (ps : List Int) (wr : World) : Prop where
  l : wr.ownsRow R 3 1 u left.length (nv left)
  c : wr.ownsRow R 3 1 v cs.length (nv cs)
  a : Ap u v
  p : CellsAt wr B (ps.map (.int .i64))
  b : Below B w wr
  z : R ≤ wr.heap.size
structure RN (B R : Nat) (w : World) (u v x : Value) (left cs nx : List Nat) (ps : List Int) (wr : World) : Prop where
  l : wr.ownsRow R 3 1 u left.length (nv left)
  c : wr.ownsRow R 3 1 v cs.length (nv cs)
  n : wr.ownsRow R 3 1 x nx.length (nv nx)
  xl : Ap x u
  xc : Ap x v
  p : CellsAt wr B (ps.map (.int .i64))
  b : Below B w wr
  z : R ≤ wr.heap.size
theorem RN.grow {B R : Nat} (hBR : B < R) {w : World} {u v x x' : Value} {left cs nx : List Nat} {ps : List Int} {wr w' : World} (h : RN B R w u v x left cs nx ps wr) {o : Obj} {a : Nat}
    (hg : (wr.alloc o).grownBy w' x.ownBlock) (hown : w'.ownsRow R 3 1 x' (nx.length + 1) (nv nx ++ [.int .i64 (a : Int)])) (hat : x'.ownBlock = x.ownBlock ∨ x'.ownBlock = some (wr.alloc o).heap.size) :
    RN B R w u v x' left cs (nx ++ [a]) ps w' := by
  have hb : Below R wr w' := ((Below.refl R wr).alloc h.z _).grown hg (by rw [World.size_alloc]; have := h.z; omega) (fun b e => (h.n.lt b e).1)
  obtain ⟨l1, l2⟩ := rnext (h.l.alloc o) h.xl hg hat
  obtain ⟨c1, c2⟩ := rnext (h.c.alloc o) h.xc hg hat
  refine ⟨l1, c1, ?_, l2, c2, h.p.below hb hBR, h.b.trans (hb.mono (Nat.le_of_lt hBR)), by have := hb.size; have := h.z; omega⟩
  rw [nv_snoc, List.length_append]
  exact hown
theorem RS.grow {B R : Nat} (hBR : B < R) {w : World} {u v v' : Value} {left cs : List Nat} {ps : List Int} {wr w' : World} (h : RS B R w u v left cs ps wr) {o : Obj} {a : Nat}
    (hg : (wr.alloc o).grownBy w' v.ownBlock) (hown : w'.ownsRow R 3 1 v' (cs.length + 1) (nv cs ++ [.int .i64 (a : Int)])) (hat : v'.ownBlock = v.ownBlock ∨ v'.ownBlock = some (wr.alloc o).heap.size) :
    RN B R w u v' (.slice (some ⟨w'.heap.size, 0, none⟩) 0 0) left (cs ++ [a]) [] ps (w'.alloc (.cells #[] 3)) := by
  have hb : Below R wr w' := ((Below.refl R wr).alloc h.z _).grown hg (by rw [World.size_alloc]; have := h.z; omega) (fun b e => (h.c.lt b e).1)
  obtain ⟨l1, _⟩ := rnext (h.l.alloc o) h.a.symm hg hat
  have hz : R ≤ w'.heap.size := by have := hb.size; have := h.z; omega
  have c1 : w'.ownsRow R 3 1 v' (cs ++ [a]).length (nv (cs ++ [a])) := by
    rw [nv_snoc, List.length_append]
    exact hown
  refine ⟨l1.alloc _, c1.alloc _, World.ownsRow_lit (base := R) (e := 3) (size := 1) w' #[] 0 hz (by unfold maxLen; omega) rfl, (ap_new l1).symm, (ap_new c1).symm, (h.p.below hb hBR).alloc _, (h.b.trans (hb.mono (Nat.le_of_lt hBR))).alloc (by omega) _, by rw [World.size_alloc]; omega⟩
theorem RN.done {B R : Nat} {w : World} {u v x : Value} {left cs nx : List Nat} {ps : List Int} {wr : World} (h : RN B R w u v x left cs nx ps wr) : RS B R w x v nx cs ps wr := ⟨h.n, h.c, h.xc, h.p, h.b, h.z⟩
structure RK (s : ByteArray) (left cs : List Nat) (ps : List Int) : Prop where
  stg : Stg (bits s) left
  nd : left.Nodup
  prt : Prt (bits s) left 0 ps
  cnt : ∃ f, nballs (sgs (bits s) left) ≤ f ∧ cs ++ cnt10 f (sgs (bits s) left) = cnt10 (nballs (bits s)) (bits s)
  len : cs.length + left.length ≤ s.size
theorem RK.pos {s : ByteArray} {left cs : List Nat} {ps : List Int} (h : RK s left cs ps) : 0 < left.length := by
  have h1 := h.stg.1
  by_cases h0 : left.length = 0
  · rw [List.eq_nil_of_length_eq_zero h0] at h1
    simp [sgs, drf] at h1
  · omega
theorem RK.next {s : ByteArray} {left cs : List Nat} {ps : List Int} (h : RK s left cs ps) {ps' : List Int} (hp : Prt (bits s) left left.length ps') (hc : (pq (sgs (bits s) left)).count true ≠ 0) :
    RK s (nxt (bits s) left) (cs ++ [(pq (sgs (bits s) left)).count true]) ps' := by
  obtain ⟨f, h1, h2⟩ := h.cnt
  obtain ⟨f', k1, k2⟩ := cnt_more hc h1
  refine ⟨stg_step h.stg, nxt_nodup h.nd, prt_next hp h.nd, ⟨f', k1, ?_⟩, ?_⟩
  · rw [← h2, k2, List.append_assoc]
    rfl
  · have := nxt_less hc
    have := h.len
    rw [List.length_append]
    show cs.length + 1 + _ ≤ _
    omega
theorem RK.done {s : ByteArray} {left cs : List Nat} {ps : List Int} (h : RK s left cs ps) {ps' : List Int} (hp : Prt (bits s) left left.length ps') (hc : (pq (sgs (bits s) left)).count true = 0) :
    ps'.length = s.size ∧ (∀ (i : Nat) (x : Int), ps'[i]? = some x → (decide (0 ≤ x) && !((bits s).getD i false)) = (cturn (bits s)).getD i false) ∧ cs = cnt10 (nballs (bits s)) (bits s) := by
  obtain ⟨f, _, h2⟩ := h.cnt
  obtain ⟨k1, k2⟩ := cnt_end f hc
  rw [k2, List.append_nil] at h2
  have hl : ps'.length = s.size := by rw [hp.1, length_bits]
  refine ⟨hl, ?_, h2⟩
  intro i x hx
  have hi : i < (bits s).length := by rw [← hp.1]; exact (List.getElem?_eq_some_iff.1 hx).1
  rw [stg_end h.stg (by rw [k1]) i hi]
  have hn : nxt (bits s) left = left := by
    have e : (nxt (bits s) left).length = left.length := by
      have e1 : (nxt (bits s) left).length = (c10 (sgs (bits s) left)).length := by rw [← nxt_signs, sgs_length]
      rw [e1, k1, sgs_length]
    exact (sel_sub _ _).eq_of_length e
  have h3 := (prt_next hp h.nd).2 i x hx
  rw [hn] at h3
  have h4 : 0 ≤ x ↔ i ∉ left := by
    rw [h3]
    exact ⟨fun h => h.resolve_right (fun ⟨_, i', _, h0, _⟩ => absurd h0 (Nat.not_lt_zero i')), .inl⟩
  congr 1
  by_cases hm : i ∈ left
  · rw [decide_eq_true hm, decide_eq_false (fun h => h4.1 h hm)]
    rfl
  · rw [decide_eq_false hm, decide_eq_true (h4.2 hm)]
    rfl
theorem RK.start {s : ByteArray} (h : drf (bits s) < 0) {ps : List Int} (hl : ps.length = s.size) (hp : ∀ x ∈ ps, x = -1) : RK s (List.range s.size) [] ps := by
  have e : (bits s).length = s.size := length_bits s
  have hst := stg_start h
  rw [e] at hst
  refine ⟨hst, List.nodup_range, ⟨by rw [hl, e], ?_⟩, ⟨nballs (bits s), ?_, ?_⟩, by simp⟩
  · intro k x hx
    have h1 := hp x (List.mem_of_getElem? hx)
    have hk := (List.getElem?_eq_some_iff.1 hx).1
    constructor
    · intro h0; omega
    · rintro (h0 | ⟨_, i', _, h0, _⟩)
      · exact absurd (List.mem_range.2 (by omega)) h0
      · exact absurd h0 (Nat.not_lt_zero i')
  · rw [← e, sgs_all]; exact Nat.le_refl _
  · rw [← e, sgs_all]; rfl

set_option maxRecDepth 100000 in
set_option maxHeartbeats 8000000 in
theorem l6cRounds_any : RoundsC := by
  intro s w hci
  obtain ⟨hv, _, h1, h60, hdrf⟩ := ciIn_facts hci
  obtain ⟨i0, hi, hz0, hz1, hz2⟩ := info_parts infoN
  have HSG := hide (fun (k : Nat) (h : k < s.size) => sign_at hv k h)
  have HBG := hide (fun (k : Nat) (h : k < s.size) => bits_getD s k h)
  have HBL := hide (length_bits s)
  have HD := hide hdrf
  clear hci hv hdrf
  obtain ⟨B, hB⟩ : ∃ B, w.heap.size = B := ⟨_, rfl⟩
  have HB := hide hB
  clear hB
  go_enter Tryz.func148, Tryz.ntmps148
  go_wp2_with (at_make; refine wpList_make_full _ rfl _ _ 39 rfl w.heap.size 3 i0 (.int .i64 0) 1 Tryz.underlying39 hi hz0 hz1 _ _ _ _ s.size rfl rfl rfl rfl ?b2 ?b3 ?b4 ?_; rotate_right; intro w1 hown hgrow; have HO := hide hown; have HG := hide hgrow; clear hown hgrow)
  case b2 => rw [hz2]; omega
  case b3 => unfold maxLen; omega
  case b4 => exact Nat.le_refl _
  have ho := HO.out
  have hgl : w.heap.size < w1.heap.size := (ho.lt _ rfl).2
  rw [madeI] at ho
  have hc1 := CellsAt.of_owns ho
  have hb1 : Below w.heap.size w w1 := (Below.refl _ _).grown HG.out (Nat.le_refl _) (fun k e => by cases e)
  rw [HB.out] at hc1 hb1 hgl ⊢
  obtain ⟨R, hR⟩ : ∃ R, w1.heap.size = R := ⟨_, rfl⟩
  have h0 := World.ownsRow_lit (base := R) (e := 3) (size := 1) w1 #[] 0 (by omega) (by unfold maxLen; omega) rfl
  have hb2 := (Below.refl R w1).alloc (by omega) (.cells #[] 3)
  rw [hR] at hgl
  have HR := hide hR
  have HBR := hide hgl
  have HC1 := hide hc1
  have HB1 := hide hb1
  have HB2 := hide hb2
  have H0 := hide h0
  clear ho hc1 hb1 h0 hb2 HO HG hR hgl
  go_loopw [5, 6] (fun uv iv wr => ∃ (k : Nat) (ps : List Int), k ≤ s.size ∧ iv = .int .i64 (k : Int) ∧ ps.length = s.size ∧ Hid (∀ x ∈ ps.take k, x = -1) ∧ Hid (wr.ownsRow R 3 1 uv k (nv (List.range k))) ∧ Hid (CellsAt wr B (ps.map (.int .i64))) ∧ Hid (Below B w wr) ∧ R ≤ wr.heap.size) (fun _ iv _ => s.size - (Go.RowKit.intOf iv).toNat)
  case atStart =>
    refine ⟨0, List.replicate s.size 0, Nat.zero_le _, rfl, by simp, by simp [Hid], ?_, ?_, ?_, by simp [HR.out]⟩
    · have := H0.out
      rw [HR.out] at this ⊢
      exact this
    · exact HC1.out.alloc _
    · exact HB1.out.trans (HB2.out.mono (Nat.le_of_lt HBR.out))
  case round =>
    obtain ⟨k, ps, hk, rfl, hpl, HM, HO, HC, HBW, hz⟩ := hrel
    by_cases hlt : k < s.size
    · obtain ⟨x, hx⟩ : ∃ x, ps[k]? = some x := ⟨_, List.getElem?_eq_getElem (by omega)⟩
      obtain ⟨c1, f1⟩ := HC.out k (.int .i64 x) (by rw [List.getElem?_map, hx]; rfl)
      have HC2 : Hid (CellsAt (wr.setCell ⟨B, k, none⟩ (.int .i64 (-1))) B ((ps.set k (-1)).map (.int .i64))) := by
        show CellsAt _ _ _
        rw [List.map_set]
        exact HC.out.set k (by rw [List.length_map]; omega) _
      have HO2 := hide (ownsRow_setCell_below HO.out (a := ⟨B, k, none⟩) HBR.out (.int .i64 (-1)))
      have HBS := hide (HBW.out.setCell (p := ⟨B, k, none⟩) (Nat.le_refl _) (.int .i64 (-1)))
      have HM2 : Hid (∀ x ∈ (ps.set k (-1)).take (k + 1), x = -1) := by
        intro y hy
        rw [List.take_succ_eq_append_getElem (by rw [List.length_set]; omega), List.take_set_of_le (Nat.le_refl _)] at hy
        rcases List.mem_append.1 hy with hy | hy
        · exact HM.out y hy
        · simpa using hy
      have HRG : Hid (List.range (k + 1) = List.range k ++ [k]) := List.range_succ
      clear hx
      have hWz : (wr.setCell ⟨B, k, none⟩ (.int .i64 (-1))).heap.size = wr.heap.size := by simp [World.setCell]
      have HNEW : Hid (∀ j u, [Value.int .i64 (k : Int)][j]? = some u → ((wr.setCell ⟨B, k, none⟩ (.int .i64 (-1))).alloc (.cells #[.int .i64 (k : Int)] 3)).cell? ((⟨wr.heap.size, 0, none⟩ : Addr).add j) = some u) := by
        have h := cell_one_new (wr.setCell ⟨B, k, none⟩ (.int .i64 (-1))) (.int .i64 (k : Int)) 3
        rw [hWz] at h
        exact h
      have HWZ := hide hWz
      have HPL : Hid ((ps.set k (-1)).length = s.size) := by show _ = _; rw [List.length_set]; exact hpl
      clear hWz
      go_wp2_with (at_builtin; refine wpList_append_own _ rfl _ _ 39 rfl R 3 i0 (.int .i64 0) 1 8 Tryz.underlying39 hi hz0 hz1 hz2 rfl (by decide) _ _ _ rfl (HO2.out.alloc _) ⟨wr.heap.size, 0, none⟩ 1 1 [.int .i64 (k : Int)] rfl rfl HNEW.out (one_int _) (by unfold maxLen; omega) (by omega) (by rw [World.size_alloc, HWZ.out]; omega) ?_; intro v' w2 hown' hgrow _)
      go_roundw
      case rel =>
        have hb2 : Below R (wr.setCell ⟨B, k, none⟩ (.int .i64 (-1))) w2 := ((Below.refl R _).alloc (by rw [HWZ.out]; exact hz) _).grown hgrow (by rw [World.size_alloc, HWZ.out]; omega) (fun b e => (HO.out.lt b e).1)
        have hsz := hb2.size
        rw [HWZ.out] at hsz
        refine ⟨k + 1, ps.set k (-1), by omega, by go_num, HPL.out, HM2.out, ?_, HC2.out.below hb2 HBR.out, HBS.out.trans (hb2.mono (Nat.le_of_lt HBR.out)), by omega⟩
        show w2.ownsRow _ _ _ _ _ _
        rw [HRG.out, nv_snoc]
        exact hown'
      case measure => simp [Go.RowKit.intOf]; omega
    · have hkn : k = s.size := by omega
      subst hkn
      have hBz : B ≤ wr.heap.size := by have := HBR.out; omega
      have HS0 : Hid (∀ uv, wr.ownsRow R 3 1 uv s.size (nv (List.range s.size)) → RS B R w uv (.slice (some ⟨wr.heap.size, 0, none⟩) 0 0) (List.range s.size) [] ps (wr.alloc (.cells #[] 3))) := by
        intro uv ho
        refine ⟨by rw [List.length_range]; exact ho.alloc _, World.ownsRow_lit (base := R) (e := 3) (size := 1) wr #[] 0 hz (by unfold maxLen; omega) rfl, ap_new ho, HC.out.alloc _, HBW.out.alloc hBz _, by rw [World.size_alloc]; omega⟩
      have HS1 := hide (HS0.out _ HO.out)
      have HK1 := hide (RK.start HD.out hpl (fun x hx => HM.out x (by rw [List.take_of_length_le (by omega)]; exact hx)))
      clear HS0 hBz HM HO HC HBW
      go_wp2_with fail
      go_loopw [5, 7, 8, 9, 10, 11, 12, 13, 14] (fun uv cv _ _ _ _ _ _ _ wr => ∃ (left cs : List Nat) (ps : List Int), Hid (RS B R w uv cv left cs ps wr) ∧ Hid (RK s left cs ps)) (fun uv _ _ _ _ _ _ _ _ _ => match uv with | .slice _ n _ => n | _ => 0)
      case atStart => exact ⟨List.range s.size, [], ps, HS1, HK1⟩
      case round =>
        obtain ⟨left, cs, ps, HS, HK⟩ := hrel
        have hpos := HK.out.pos
        obtain ⟨gl, cl, rfl⟩ := osome HS.out.l hpos
        obtain ⟨m, hm⟩ : ∃ m, m = left.length := ⟨_, rfl⟩
        have hlen := HK.out.len
        rw [← hm] at hpos hlen ⊢
        have HM := hide hm
        clear hm
        have HP0 := hide HK.out.prt
        have HQL : Hid ((pq (sgs (bits s) left)).length = m) := by show _ = _; rw [pq_length, sgs_length, HM.out]
        have HS2 := HS
        rw [← HM.out] at HS2
        clear HS
        have HLT : Hid (∀ a ∈ left, a < s.size) := fun a ha => by have := HK.out.stg.2.1 a ha; rw [HBL.out] at this; exact this
        go_wp2_with fail
        go_loopw [9, 10, 11, 12] (fun nv' iv _ _ wr2 => ∃ (k : Nat) (ps' : List Int), k ≤ m ∧ iv = .int .i64 (k : Int) ∧ nv' = .int .i64 ((((pq (sgs (bits s) left)).take k).count true : Nat) : Int) ∧ Hid (Prt (bits s) left k ps') ∧ Hid (RS B R w (.slice (some ⟨gl, 0, none⟩) m cl) u7 left cs ps' wr2)) (fun _ iv _ _ => fun _ => m - (Go.RowKit.intOf iv).toNat)
        case atStart => exact ⟨0, ps, Nat.zero_le _, rfl, by simp, HP0, HS2⟩
        case round =>
          obtain ⟨k, ps', hk, rfl, rfl, HP, HR2⟩ := hrel
          have hcb : ((pq (sgs (bits s) left)).take k).count true ≤ k := by
            have := List.count_le_length (a := true) (l := (pq (sgs (bits s) left)).take k)
            rw [List.length_take] at this
            omega
          by_cases hlt : k < m
          · obtain ⟨k2, hk2⟩ : ∃ k2, k2 = (k + 1) % m := ⟨_, rfl⟩
            have hk2m : k2 < m := by rw [hk2]; exact Nat.mod_lt _ hpos
            obtain ⟨a, ha⟩ : ∃ a, left[k]? = some a := ⟨_, List.getElem?_eq_getElem (by rw [← HM.out]; exact hlt)⟩
            obtain ⟨b, hb⟩ : ∃ b, left[k2]? = some b := ⟨_, List.getElem?_eq_getElem (by rw [← HM.out]; exact hk2m)⟩
            have ha2 := HLT.out a (List.mem_of_getElem? ha)
            have hb2 := HLT.out b (List.mem_of_getElem? hb)
            have hown := HR2.out.l
            rw [← HM.out] at hown
            have hcl := CellsAt.of_owns hown
            have c1 := (hcl k _ (nv_get ha)).1
            have c2 := (hcl k2 _ (nv_get hb)).1
            have hb' : left[(k + 1) % left.length]? = some b := by rw [← HM.out, ← hk2]; exact hb
            have hq := pq_at (l := bits s) ha hb'
            rw [HBG.out a ha2, HBG.out b hb2] at hq
            have HQ := hide hq
            have HA := hide ha
            have HB' := hide hb'
            have e1 : Int.tmod ((k : Int) + 1) (m : Int) = (k2 : Int) := by
              rw [hk2, show ((k : Int) + 1) = ((k + 1 : Nat) : Int) by omega]; rfl
            have wk : IntKind.i64.wrap ((k : Int) + 1) = (k : Int) + 1 := by rw [IntKind.wrap_i64]; omega
            have n0 : (0 : Int) ≤ (k : Int) := by omega
            have n1 : (k : Int) < (m : Int) := by omega
            have n2 : (0 : Int) ≤ (k2 : Int) := by omega
            have n3 : (k2 : Int) < (m : Int) := by omega
            have n4 : (0 : Int) ≤ (a : Int) := by omega
            have n5 : (a : Int) < (s.size : Int) := by omega
            have n6 : (0 : Int) ≤ (b : Int) := by omega
            have n7 : (b : Int) < (s.size : Int) := by omega
            obtain ⟨ct, hct⟩ : ∃ ct, ct = ((pq (sgs (bits s) left)).take k).count true := ⟨_, rfl⟩
            have HCT := hide hct
            rw [← hct] at hcb ⊢
            have hga := HSG.out a ha2
            have hgb := HSG.out b hb2
            clear hown hcl hk2 ha hb hb' hq hct
            rcases hga with h48 | h49
            · have t1 : ((s[a].toNat : Int) == 49) = false := by rw [h48]; rfl
              have hqf : Hid ((pq (sgs (bits s) left))[k]? = some false) := by
                show _ = _
                rw [HQ.out, bit_int, t1]; rfl
              have HP2 := hide (prt_no HP.out hqf.out)
              have HC2 := hide (pq_step hqf.out)
              clear h48 hgb
              go_wp2_with fail
              go_roundw
              case rel => exact ⟨k + 1, ps', by omega, by go_num, by rw [HC2.out, ← HCT.out]; rfl, HP2, HR2⟩
              case measure => simp [Go.RowKit.intOf]; omega
            · have t1 : ((s[a].toNat : Int) == 49) = true := by rw [h49]; rfl
              rcases hgb with k48 | k49
              · have t2 : ((s[b].toNat : Int) == 48) = true := by rw [k48]; rfl
                have t3 : ((s[b].toNat : Int) == 49) = false := by rw [k48]; rfl
                have hqt : Hid ((pq (sgs (bits s) left))[k]? = some true) := by
                  show _ = _
                  rw [HQ.out, bit_int, bit_int, t1, t3]; rfl
                have hab : ¬ a = b := by
                  intro e
                  subst e
                  rw [t1] at t3
                  cases t3
                have hba : ¬ b = a := fun e => hab e.symm
                have HP2 := hide (prt_yes HP.out HA.out HB'.out hqt.out (u := (b : Int)) (v := (a : Int)) (by omega) (by omega))
                have HC2 := hide (pq_step hqt.out)
                have hpl2 : ps'.length = s.size := by rw [HP.out.1, HBL.out]
                obtain ⟨xa, hxa⟩ : ∃ x, ps'[a]? = some x := ⟨_, List.getElem?_eq_getElem (by omega)⟩
                obtain ⟨xb, hxb⟩ : ∃ x, ps'[b]? = some x := ⟨_, List.getElem?_eq_getElem (by omega)⟩
                obtain ⟨o1, f1⟩ := HR2.out.p a (.int .i64 xa) (by rw [List.getElem?_map, hxa]; rfl)
                obtain ⟨o2, f2⟩ := HR2.out.p b (.int .i64 xb) (by rw [List.getElem?_map, hxb]; rfl)
                have HR3 : Hid (RS B R w (.slice (some ⟨gl, 0, none⟩) m cl) u7 left cs ((ps'.set a (b : Int)).set b (a : Int)) ((wr.setCell ⟨B, a, none⟩ (.int .i64 (b : Int))).setCell ⟨B, b, none⟩ (.int .i64 (a : Int)))) := by
                  have h := HR2.out
                  refine ⟨ownsRow_setCell_below (ownsRow_setCell_below h.l (a := ⟨B, a, none⟩) HBR.out _) (a := ⟨B, b, none⟩) HBR.out _, ownsRow_setCell_below (ownsRow_setCell_below h.c (a := ⟨B, a, none⟩) HBR.out _) (a := ⟨B, b, none⟩) HBR.out _, h.a, ?_, (h.b.setCell (p := ⟨B, a, none⟩) (Nat.le_refl _) _).setCell (p := ⟨B, b, none⟩) (Nat.le_refl _) _, ?_⟩
                  · rw [List.map_set, List.map_set]
                    exact (h.p.set a (by rw [List.length_map]; omega) _).set b (by rw [List.length_set, List.length_map]; omega) _
                  · have := h.z
                    simpa [World.setCell] using this
                clear h49 k48 t3 hxa hxb
                go_wp2_with fail
                go_roundw
                case rel => exact ⟨k + 1, _, by omega, by go_num, by rw [HC2.out, ← HCT.out]; rfl, HP2, HR3⟩
                case measure => simp [Go.RowKit.intOf]; omega
              · have t2 : ((s[b].toNat : Int) == 48) = false := by rw [k49]; rfl
                have t3 : ((s[b].toNat : Int) == 49) = true := by rw [k49]; rfl
                have hqf : Hid ((pq (sgs (bits s) left))[k]? = some false) := by
                  show _ = _
                  rw [HQ.out, bit_int, bit_int, t1, t3]; rfl
                have HP2 := hide (prt_no HP.out hqf.out)
                have HC2 := hide (pq_step hqf.out)
                clear h49 k49
                go_wp2_with fail
                go_roundw
                case rel => exact ⟨k + 1, ps', by omega, by go_num, by rw [HC2.out, ← HCT.out]; rfl, HP2, HR2⟩
                case measure => simp [Go.RowKit.intOf]; omega
          · have hkm : k = m := by omega
            subst hkm
            have hfull : (pq (sgs (bits s) left)).take k = pq (sgs (bits s) left) := List.take_of_length_le (by rw [HQL.out]; exact Nat.le_refl _)
            rw [hfull] at hcb ⊢
            have HPE : Hid (Prt (bits s) left left.length ps') := by have := HP.out; rw [HM.out] at this; exact this
            obtain ⟨ct, hct⟩ : ∃ ct, ct = (pq (sgs (bits s) left)).count true := ⟨_, rfl⟩
            have HCT := hide hct
            rw [← hct] at hcb ⊢
            clear hfull hct HP
            by_cases hc0 : ct = 0
            · obtain ⟨d1, d2, d3⟩ := HK.out.done HPE.out (by rw [← HCT.out]; exact hc0)
              subst hc0
              have hz3 := HR2.out.z
              have I1 : Hid (IntsV w.heap.size wr (.slice (some ⟨B, 0, none⟩) s.size s.size) ps') := by
                refine .inr ⟨B, s.size, by rw [d1], by rw [d1]; exact Nat.le_refl _, by rw [HB.out]; exact Nat.le_refl _, by have := HBR.out; omega, HR2.out.p⟩
              have I2 : Hid (IntsV w.heap.size wr u7 (List.map (fun n : Nat => (n : Int)) (cnt10 (nballs (bits s)) (bits s)))) := by
                have h := IntsV.of_owns (l := List.map (fun n : Nat => (n : Int)) cs) HR2.out.c
                rw [d3] at h
                exact h.mono (by have := HBR.out; rw [HB.out]; omega)
              have D1 := hide d1
              have D2 := hide d2
              have HBF : Hid (Below w.heap.size w wr) := by have := HR2.out.b; rw [← HB.out] at this; exact this
              clear d1 d2 d3
              go_wp2_with fail
              go_ret2
              exact ⟨_, _, ps', rfl, I1.out, D1.out, D2.out, I2.out, HBF.out⟩
            · have hcz : ((ct : Int) == 0) = false := beq_eq_false_iff_ne.2 (by omega)
              have hz3 := HR2.out.z
              have HKN := hide (HK.out.next HPE.out (by rw [← HCT.out]; exact hc0))
              rw [← HCT.out] at HKN
              have HLS := hide (nxt_less (l := bits s) (left := left) (by rw [← HCT.out]; exact hc0))
              go_wp2_with (at_builtin; refine wpList_append_own_at _ rfl _ _ 39 rfl R 3 i0 (.int .i64 0) 1 8 Tryz.underlying39 hi hz0 hz1 hz2 rfl (by decide) _ _ _ rfl (HR2.out.c.alloc _) ⟨wr.heap.size, 0, none⟩ 1 1 [.int .i64 (ct : Int)] rfl rfl (cell_one_new _ _ _) (one_int _) (by unfold maxLen; omega) (by omega) (by rw [World.size_alloc]; omega) ?_; intro cv' w3 hown3 hgrow3 _ hat3)
              have HN0 := hide (HR2.out.grow HBR.out hgrow3 hown3 hat3)
              have HCL : Hid ((cm (sgs (bits s) left)).length = left.length) := by show _ = _; rw [cm_length, sgs_length]
              have hpl3 := hide (show ps'.length = s.size by rw [HPE.out.1, HBL.out])
              clear hown3 hgrow3 hat3
              go_loopw [13, 14] (fun xv iv wr4 => ∃ (j : Nat), j ≤ k ∧ iv = .int .i64 (j : Int) ∧ Hid (RN B R w (.slice (some ⟨gl, 0, none⟩) k cl) cv' xv left (cs ++ [ct]) (sel ((cm (sgs (bits s) left)).take j) (left.take j)) ps' wr4)) (fun _ iv _ => k - (Go.RowKit.intOf iv).toNat)
              case atStart => exact ⟨0, Nat.zero_le _, rfl, HN0⟩
              case round =>
                obtain ⟨j, hj, rfl, HN⟩ := hrel
                have hsl := sel_le (cm (sgs (bits s) left)) left j
                by_cases hlt : j < k
                · obtain ⟨a, ha⟩ : ∃ a, left[j]? = some a := ⟨_, List.getElem?_eq_getElem (by rw [← HM.out]; exact hlt)⟩
                  have ha2 := HLT.out a (List.mem_of_getElem? ha)
                  have hown := HN.out.l
                  rw [← HM.out] at hown
                  have c1 := (CellsAt.of_owns hown j _ (nv_get ha)).1
                  obtain ⟨x, hx⟩ : ∃ x, ps'[a]? = some x := ⟨_, List.getElem?_eq_getElem (by rw [hpl3.out]; exact ha2)⟩
                  have c2 := (HN.out.p a (.int .i64 x) (by rw [List.getElem?_map, hx]; rfl)).1
                  have hmk := prt_mark HPE.out HK.out.nd ha hx
                  have HST := hide (sel_take HCL.out hmk ha)
                  have n0 : (0 : Int) ≤ (j : Int) := by omega
                  have n1 : (j : Int) < (k : Int) := by omega
                  have n4 : (0 : Int) ≤ (a : Int) := by omega
                  have n5 : (a : Int) < (s.size : Int) := by omega
                  have hz4 := HN.out.z
                  clear hown ha hx hmk
                  by_cases hx0 : x < 0
                  · have HST2 := hide (HST.out.trans (by rw [decide_eq_true hx0, if_pos rfl]))
                    go_wp2_with (at_builtin; refine wpList_append_own_at _ rfl _ _ 39 rfl R 3 i0 (.int .i64 0) 1 8 Tryz.underlying39 hi hz0 hz1 hz2 rfl (by decide) _ _ _ rfl (HN.out.n.alloc _) ⟨wr.heap.size, 0, none⟩ 1 1 [.int .i64 (a : Int)] rfl rfl (cell_one_new _ _ _) (one_int _) (by unfold maxLen; omega) (by omega) (by rw [World.size_alloc]; omega) ?_; intro x' w5 hown5 hgrow5 _ hat5)
                    have HN5 := hide (HN.out.grow HBR.out hgrow5 hown5 hat5)
                    clear hown5 hgrow5 hat5
                    go_roundw
                    case rel => exact ⟨j + 1, by omega, by go_num, by rw [HST2.out]; exact HN5⟩
                    case measure => simp [Go.RowKit.intOf]; omega
                  · have HST2 : Hid (sel ((cm (sgs (bits s) left)).take (j + 1)) (left.take (j + 1)) = sel ((cm (sgs (bits s) left)).take j) (left.take j)) := by
                      show _ = _
                      rw [HST.out, decide_eq_false hx0]
                      simp
                    go_wp2_with fail
                    go_roundw
                    case rel => exact ⟨j + 1, by omega, by go_num, by rw [HST2.out]; exact HN⟩
                    case measure => simp [Go.RowKit.intOf]; omega
                · have hjk : j = k := by omega
                  have hfin : sel ((cm (sgs (bits s) left)).take j) (left.take j) = nxt (bits s) left := by
                    rw [hjk, List.take_of_length_le (by rw [HCL.out, HM.out]; exact Nat.le_refl _), List.take_of_length_le (by rw [HM.out]; exact Nat.le_refl _)]
                    rfl
                  rw [hfin] at HN
                  obtain ⟨ax, cx, rfl⟩ := oslice HN.out.n
                  have HSN := hide HN.out.done
                  clear hfin
                  go_wp2_with fail
                  exact ⟨⟨nxt (bits s) left, cs ++ [ct], ps', HSN, HKN⟩, by show (nxt (bits s) left).length < k; rw [HM.out]; exact HLS.out⟩
end Go.Proofs.YtdooboibmllfkabGreatDoor

namespace Go.Proofs.YtdooboibmllfkabGreatDoor
set_option maxRecDepth 100000
open Go.RowKit

theorem specCircleTurn_any (s : ByteArray) (w : World) (hs : s.size ≤ maxLen) :
    Calls Tryz.prog 122 #[.string s] w fun e w' => e = .returned (.tuple #[.string (ctS s), .bool (ciIn s)]) ∧ Below w.heap.size w w' := specCircleTurn_of l6cRounds_any s w hs
theorem specCirclePeriod_any (s : ByteArray) (w : World) (hs : s.size ≤ maxLen) :
    Calls Tryz.prog 89 #[.string s] w fun e w' => e = .returned (.tuple #[.int .i64 (cpN s), .bool (ciIn s)]) ∧ Below w.heap.size w w' := specCirclePeriod_of specCircleTurn_any s w hs

end Go.Proofs.YtdooboibmllfkabGreatDoor
