/- TEXTS AppZ, RowF. -/
import Derived.Test.YtdooboibmllfkaaGreatDoorExa01
import Derived.Lib.AppendZerosOnto
import Derived.Test.YtdooboibmllfkaaGreatDoorExa29
import Derived.Test.YtdooboibmllfkaaGreatDoorExa28
import Derived.Test.YtdooboibmllfkaaGreatDoorExa11
namespace Go.Proofs.YtdooboibmllfkaaGreatDoor
set_option maxRecDepth 100000
open Go.RowKit

theorem zeros_one (z : Value) (h : z.cells = #[z]) (k : Nat) : (Builtin.zeroCells z.cells k).toList = List.replicate k z := by
  rw [h]
  unfold Builtin.zeroCells
  apply List.ext_getElem?
  intro j
  by_cases hj : j < k
  · simp [hj, Nat.mod_one]
  · simp [hj]

theorem run_append_room_zeros {P : Program} (w : World) (t tn ty e : TypeId) (i : TypeInfo) (z : Value) (kn : IntKind) (ht : P.underlying t = some (.slice e)) (htn : P.underlying tn = some (.int kn)) (hi : P.info? e = some i) (hz : i.zero = some z) (hsize : i.size = 1) (hc : z.cells = #[z]) (h1 : z.oneCell' = true)
    (g sLen sCap k : Nat) (cur : Array Value) (hg : w.heap[g]? = some (.cells cur e (0, 0))) (h0 : 0 < k) (hroom : sLen + k ≤ sCap) (h63 : ((sLen + k : Nat) : Int) ≤ 9223372036854775807) (h48 : k * i.bytes ≤ 281474976710656) (hfit : sLen + k ≤ cur.size) :
    (Builtin.append_ #[t, tn] ty #[.slice (some ⟨g, 0, none⟩) sLen sCap, .int .i64 k]).run P w =
      .ok (.slice (some ⟨g, 0, none⟩) (sLen + k) sCap) (w.setRow g (cur.toList.take sLen ++ List.replicate k z ++ cur.toList.drop (sLen + k)).toArray) := by
  have hst := run_storeCells_at P g sLen e (List.replicate k z) 0 cur w hg (by simpa using hfit) (by intro u hu; rw [List.mem_replicate] at hu; rw [hu.2]; exact h1)
  simp only [Nat.add_zero, List.length_replicate] at hst
  have hk : k ≠ 0 := by omega
  have hw : IntKind.i64.wrap (k : Int) = k := by rw [IntKind.wrap_i64]; omega
  have h48i : ¬ (281474976710656 < (k : Int) * (i.bytes : Int)) := by
    rw [← Int.natCast_mul]
    omega
  have hneg : ¬ ((k : Int) < 0) := by omega
  have hzc := zeros_one z hc k
  simp [Builtin.append_, run_underlying ht, run_underlying htn, sizeOf, typeInfo, zeroValue, hi, hz, asInt, asIntOf, hw, hneg, h48i, hroom, hsize, hk, hzc, Addr.add_lit, hst]

theorem run_append_zeros_own {P : Program} (w : World) (base : Nat) (t tn ty e : TypeId) (i : TypeInfo) (z : Value) (kn : IntKind) (ht : P.underlying t = some (.slice e)) (htn : P.underlying tn = some (.int kn)) (hi : P.info? e = some i) (hz : i.zero = some z) (hsize : i.size = 1) (hc : z.cells = #[z]) (h1 : z.oneCell' = true) (hbytes : i.bytes ≤ 100)
    (v : Value) (n k : Nat) (xs : List Value) (hown : w.ownsRow base e 1 v n xs) (h0 : 0 < k) (hsm : n + k ≤ 100000) (hbase : base ≤ w.heap.size) :
    ∃ v' w', (Builtin.append_ #[t, tn] ty #[v, .int .i64 k]).run P w = .ok v' w' ∧ w'.ownsRow base e 1 v' (n + k) (xs ++ List.replicate k z) ∧ w.grownBy w' v.ownBlock := by
  have hxl : xs.length = n := by have := hown.1; omega
  have hmax : n + k ≤ maxLen := by unfold maxLen; omega
  have hby : ∀ m, m ≤ 100000 → m * i.bytes ≤ 10000000 := fun m hm => Nat.le_trans (Nat.mul_le_mul hm hbytes) (by omega)
  have grown : ∀ (old : Nat), ∀ (row : Option Nat), (w.drew.alloc (.cells (xs.toArray ++ Builtin.zeroCells z.cells k ++ Builtin.zeroCells z.cells (grownCap w (n + k) old e - (n + k))) e)).ownsRow base e 1
        (.slice (some ⟨w.heap.size, 0, none⟩) (n + k) (grownCap w (n + k) old e)) (n + k) (xs ++ List.replicate k z) ∧
      w.grownBy (w.drew.alloc (.cells (xs.toArray ++ Builtin.zeroCells z.cells k ++ Builtin.zeroCells z.cells (grownCap w (n + k) old e - (n + k))) e)) row := by
    intro old row
    have hge := grownCap_ge w (n + k) old e
    have hcm : grownCap w (n + k) old e ≤ maxLen := grownCap_le_maxLen w (n + k) old e hmax
    refine ⟨⟨by simp [hxl], .inr ⟨w.heap.size, _, _, rfl, hbase, heap_alloc_new w.drew _, hge, hcm, ?_, ?_⟩⟩, ⟨rfl, rfl, rfl, by simp, fun j hj _ => Below.heap_alloc w.drew _ j hj⟩⟩
    · simp only [Array.size_append, List.size_toArray, size_zeroCells, hc, hxl]
      simp
      omega
    · simp only [Array.toList_append, zeros_one z hc, List.append_assoc]
      rw [← List.append_assoc]
      have : (n + k) * 1 = (xs ++ List.replicate k z).length := by simp [hxl]
      rw [this]
      exact List.take_left
  rcases hown.2 with ⟨rfl, rfl⟩ | ⟨g, cap, cur, rfl, hbg, hg, hnc, hcm, hcs, htake⟩
  · obtain rfl : xs = [] := List.eq_nil_of_length_eq_zero hxl
    have hr := Lib.run_append_nil_zeros (P := P) w t tn ty e i z .i64 kn ht htn hi hz k h0 (by omega) (by omega) (by have := hby k (by omega); omega)
    have hgr := grown 0 (Value.ownBlock (.slice none 0 0))
    simp only [Nat.zero_add, List.nil_append, Array.empty_append] at hgr ⊢
    exact ⟨_, _, hr, hgr.1, hgr.2⟩
  · by_cases hroom : n + k ≤ cap
    · have hr := run_append_room_zeros (P := P) w t tn ty e i z kn ht htn hi hz hsize hc h1 g n cap k cur hg h0 hroom (by omega) (by have := hby k (by omega); omega) (by omega)
      refine ⟨_, _, hr, ⟨by simp [hxl], .inr ⟨g, cap, _, rfl, hbg, setRow_heap w g cur _ e _ hg, hroom, hcm, ?_, ?_⟩⟩, ⟨rfl, rfl, rfl, by simp, fun j _ hj => setRow_other w g j _ (fun e => hj (by simp [Value.ownBlock, e]))⟩⟩
      · simp only [List.size_toArray, List.length_append, List.length_take, List.length_drop, Array.length_toList, List.length_replicate]
        omega
      · have ht2 : cur.toList.take n = xs := by simpa using htake
        rw [ht2]
        have : (n + k) * 1 = (xs ++ List.replicate k z).length := by simp [hxl]
        rw [this]
        exact List.take_left
    · have hold : (Builtin.firstCells i.size n (.slice (some ⟨g, 0, none⟩) n cap)).run P w.drew = .ok xs.toArray w.drew :=
        run_firstCells_some w.drew i.size n ⟨g, 0, none⟩ n cap xs (by rw [hxl, hsize]; omega) (fun j v hj => hown.cells (g := g) rfl j v hj)
      have hr := Lib.run_append_grow_zeros (P := P) w t tn ty e i z .i64 kn ht htn hi hz (some ⟨g, 0, none⟩) n cap xs hold k h0 (by omega) (by omega) (by omega) (by have := hby k (by omega); omega) (growslice_fits (by omega) (by have := hby (n + k) hsm; omega))
      have hgr := grown cap (Value.ownBlock (.slice (some ⟨g, 0, none⟩) n cap))
      exact ⟨_, _, hr, hgr.1, hgr.2⟩
end Go.Proofs.YtdooboibmllfkaaGreatDoor

namespace Go.Proofs.YtdooboibmllfkaaGreatDoor
set_option maxRecDepth 100000
open Go.RowKit Go.Shelf Go.Maps Go.Sort

theorem inR_20 (l : List Int) : (l.all fun x => decide (1 ≤ x) && decide (x ≤ 20)) = l.all (inR 20) := rfl
theorem cntL_isr (l : List Int) (x : Int) : cntL l x = cntL (isr l) x := ((isr_perm l).count_eq x).symm

def CountRel (l : List Int) (w : World) (i : Value) (wr : World) : Prop :=
  ∃ k : Nat, k ≤ l.length ∧ i = .int .i64 (k : Int) ∧ Hid (CntAt wr w.heap.size k (cntL (l.take k))) ∧ Hid (Below w.heap.size w wr) ∧ w.heap.size ≤ wr.heap.size
def WriteRel (S : List Int) (w : World) (v i : Value) (wr : World) : Prop :=
  ∃ k : Nat, k ≤ S.length ∧ i = .int .i64 (k : Int) ∧ Hid (wr.ownsRow w.heap.size 4 1 v (szB (S.take k)).length ((szB (S.take k)).map .bool)) ∧ Hid (Below w.heap.size w wr) ∧ w.heap.size ≤ wr.heap.size

set_option maxRecDepth 100000 in
set_option maxHeartbeats 4000000 in
theorem implShapeRow_any (v : Value) (l : List Int) (w : World) {lo : Nat} (hll : l.length ≤ 1048576) (h : IntsV lo w v l) :
    Calls Tryz.prog 103 #[v] w fun e w' => e = .returned (.tuple #[.string (swS l), .bool (swO l)]) ∧ Below w.heap.size w w' := by
  have CA := hide (allWithin_any v l 20 w hll h)
  rw [← inR_20] at CA
  obtain ⟨a, c, rfl, hf⟩ : ∃ a c, v = .slice a l.length c ∧ (0 < l.length → ∃ g, a = some ⟨g, 0, none⟩ ∧ CellsAt w g (l.map (.int .i64))) := by
    rcases h with ⟨a, c, rfl, rfl⟩ | ⟨g, c, rfl, _, _, hg, hc⟩
    · exact ⟨a, c, rfl, fun h => by simp at h⟩
    · exact ⟨_, c, rfl, fun _ => ⟨g, rfl, hc⟩⟩
  by_cases hl : l.length ≤ 20
  · cases ha : l.all fun x => decide (1 ≤ x) && decide (x ≤ 20)
    · have e1 : swO l = false := by simp [swO, swC, ha]
      have e2 : swS l = ByteArray.empty := by simp [swS, e1]
      rw [e2, e1]
      rw [ha] at CA
      obtain ⟨n, hn⟩ : ∃ n, n = l.length := ⟨_, rfl⟩
      rw [← hn] at hl hll CA ⊢
      clear e1 e2 h hf hn ha
      go_enter Tryz.func103, Tryz.ntmps103
      go_wp2_with fail
      refine CA.out.mono ?_
      rintro e w' ⟨rfl, hb⟩
      go_wp2_with fail
      go_ret2
      exact ⟨rfl, hb⟩
    · have hC : swC l = true := by unfold swC; rw [ha]; simp [hl]
      obtain ⟨_, hall⟩ := swC_iff.1 hC
      have e1 : swO l = decide (tl (szB (isr l)) ≤ 120) := by unfold swO; rw [hC]; rfl
      have e2 : swS l = if tl (szB (isr l)) ≤ 120 then ofBits (cut (szB (isr l))) else ByteArray.empty := by unfold swS; rw [e1]; simp
      rw [e2, e1]
      rw [ha] at CA
      obtain ⟨hrise, hil, _, him⟩ := isr_facts l
      have HALL := hide hall
      have HRISE := hide hrise
      have HMEM := hide him
      have hmm := @run_makeMap Tryz.prog
      obtain ⟨n, hn⟩ : ∃ n, n = l.length := ⟨_, rfl⟩
      have HN := hide hn
      have HF := hide hf
      have hil2 : (isr l).length = n := by rw [hil, hn]
      rw [← hn] at hl hll CA HF ⊢
      obtain ⟨S, hS⟩ : ∃ S, S = isr l := ⟨_, rfl⟩
      have HS := hide hS
      rw [← hS] at HRISE HMEM hil2 ⊢
      have HIL := hide hil2
      obtain ⟨X, hX⟩ : ∃ X, X = if tl (szB S) ≤ 120 then ofBits (cut (szB S)) else ByteArray.empty := ⟨_, rfl⟩
      obtain ⟨O, hO⟩ : ∃ O, O = decide (tl (szB S) ≤ 120) := ⟨_, rfl⟩
      have HX := hide hX
      have HOK := hide hO
      rw [← hX, ← hO]
      clear hX hO
      have d20 : decide ((20 : Int) < (n : Int)) = false := by simp; omega
      clear e1 e2 h hf hn ha hC hall hil him hrise hS hil2
      go_enter Tryz.func103, Tryz.ntmps103
      go_wp2_with fail
      refine CA.out.mono ?_
      rintro e w1 ⟨rfl, hb1⟩
      have HB1 := hide hb1
      clear hb1 CA
      go_wp2
      clear hmm
      go_loopw [21] (CountRel l w1) (fun i _ => n - (Go.RowKit.intOf i).toNat)
      case atStart => exact ⟨0, Nat.zero_le _, rfl, (cnt_made w1).ext (fun x => by simp [cntL]), (Below.refl _ _).alloc (Nat.le_refl _) _, by simp⟩
      case round =>
        obtain ⟨k, hk, rfl, HC, HBW, hz⟩ := hrel
        rw [← HN.out] at hk
        by_cases hlt : k < n
        · obtain ⟨q, rfl, hq⟩ := HF.out (by omega)
          obtain ⟨x, hx⟩ : ∃ x, l[k]? = some x := ⟨_, List.getElem?_eq_getElem (by rw [← HN.out]; exact hlt)⟩
          have hcell := (((hq.below' HB1.out (Nat.le_refl _)).below' HBW.out (Nat.le_refl _)) k (.int .i64 x) (by rw [List.getElem?_map, hx]; rfl)).1
          obtain ⟨x0, x1⟩ := HALL.out x (List.mem_of_getElem? hx)
          have HTK : Hid (l.take (k + 1) = l.take k ++ [x]) := by show _ = _; rw [List.take_add_one, hx]; rfl
          have HKEY := hide (keyOf_int_mk (P := Tryz.prog) (k := 3) (q := .i64) (a := x) Tryz.underlying3 (wf_small _ (by omega) (by omega)))
          have hcle : cntL (l.take k) x ≤ k := by unfold cntL; refine Nat.le_trans List.count_le_length ?_; rw [List.length_take]; omega
          obtain ⟨D, hD, hat, hhas⟩ := HC.out
          have PUT := hide (fun (w5 : World) (h5 : w5.ownsMap Tryz.prog 3 (plainElem Tryz.prog 3) w1.heap.size (k + 1) (D.put (.int .i64 x) (.lit (.int .i64 ((cntL (l.take k) x + 1 : Nat) : Int))))) =>
            (show CntAt w5 w1.heap.size (k + 1) (cntL (l.take (k + 1))) from by
              obtain ⟨e1, e2⟩ := cnt_put hD.isMap hat hhas x
              exact CntAt.ext ⟨_, h5, e1, e2⟩ (fun y => by rw [HTK.out, cntL_snoc])))
          have HAT := hide (hat x)
          obtain ⟨z0, hz0⟩ : ∃ z, z = cntL (l.take k) x := ⟨_, rfl⟩
          rw [← hz0] at hcle HAT PUT
          have HD := hide hD
          have q0 : (0 : Int) ≤ (k : Int) := by omega
          have q1 : (k : Int) < (n : Int) := by omega
          clear hz0 hat hhas hD hx hq
          go_wp2_with (first
            | (at_lookup; refine wpList_lookup_own_int _ rfl _ _ 121 rfl 3 3 .i64 (int_keyed Tryz.underlying3) Tryz.underlying121 Tryz.underlying3 (zeroI _) w1.heap.size k _ rfl HD.out _ _ rfl HKEY.out ?_; intro z hatz hwz; obtain rfl : (z0 : Int) = z := (by have h := HAT.out.symm.trans hatz; injection h with h; injection h with _ h); clear hatz hwz)
            | (at_mapUpdate; refine wpList_mapUpdate_own _ rfl _ _ _ 121 rfl 3 3 (int_keyed Tryz.underlying3) Tryz.underlying121 _ w1.heap.size k _ rfl HD.out (by unfold maxLen; omega) _ _ _ rfl rfl HKEY.out _ [] (plainElem_int Tryz.underlying3 (wf_small ((z0 : Int) + 1) (by omega) (by omega))) ?_; intro w5 hown5 hgrow5))
          go_roundw
          case rel => exact ⟨k + 1, by rw [← HN.out]; omega, by go_num, PUT.out w5 hown5, HBW.out.grown hgrow5 hz (fun b e => by cases e; exact Nat.le_refl _), Nat.le_trans hz hgrow5.size⟩
          case measure => simp [Go.RowKit.intOf]; omega
        · have hkn : k = n := by omega
          have hfin : l.take k = l := List.take_of_length_le (by rw [← HN.out]; omega)
          rw [hfin] at HC
          have HCF := hide (HC.out.ext (c' := cntL S) (fun x => by rw [HS.out]; exact cntL_isr l x))
          have hbz : w1.heap.size < wr.heap.size := HCF.out.lt
          have CL := hide (list_any w1.heap.size k (cntL S) 136 cmpI cmpUp wr HCF.out (by omega)
            (fun ks hk => by rw [(manyL_perm hk).length_eq, HIL.out]; omega)
            (fun x hx => by
              have hm := HALL.out x ((HMEM.out x).1 ((cntL_pos _ x).1 hx))
              omega))
          have HB2 := hide (HB1.out.trans (HBW.out.mono HB1.out.size))
          have hz2 : w.heap.size ≤ wr.heap.size := HB2.out.size
          clear hfin HC HCF HF
          go_wp2_with fail
          refine CL.out.mono ?_
          rintro e w3 ⟨v3, ks, rfl, hl3, hi3, hb3⟩
          rw [up_all HRISE.out hl3] at hi3
          have HB3 := hide (HB2.out.trans (hb3.mono hz2))
          have hz3 : w.heap.size ≤ w3.heap.size := HB3.out.size
          obtain ⟨a3, c3, rfl, hf3⟩ : ∃ a c, v3 = .slice a S.length c ∧ (0 < S.length → ∃ g, a = some ⟨g, 0, none⟩ ∧ CellsAt w3 g (S.map (.int .i64))) := by
            rcases hi3 with ⟨a, c, rfl, h0⟩ | ⟨g, c, rfl, _, _, hg, hc⟩
            · rw [h0]; exact ⟨a, c, rfl, fun h => by simp at h⟩
            · exact ⟨_, c, rfl, fun _ => ⟨g, rfl, hc⟩⟩
          have HF3 := hide hf3
          rw [HIL.out] at HF3 ⊢
          obtain ⟨j0, hj, hy0, hy1, hy2⟩ := info_parts infoB
          clear hl3 hi3 hb3 hf3 CL
          go_wp2
          go_loopw [7, 33] (WriteRel S w3) (fun _ i _ => n - (Go.RowKit.intOf i).toNat)
          case atStart => exact ⟨0, Nat.zero_le _, rfl, World.ownsRow_nil _ _ _ _, Below.refl _ _, Nat.le_refl _⟩
          case round =>
            obtain ⟨j, hj2, rfl, HO, HBW4, hz4⟩ := hrel
            rw [HIL.out] at hj2
            have hlb : (szB (S.take j)).length ≤ 800 := by
              have h1 := szB_length (S.take j) (fun x hx => (HALL.out x ((HMEM.out x).1 (List.mem_of_mem_take hx))).2)
              have h2 : (S.take j).length ≤ 20 := by rw [List.length_take, HIL.out]; omega
              omega
            by_cases hlt2 : j < n
            · obtain ⟨q, rfl, hq⟩ := HF3.out (by omega)
              obtain ⟨x, hx⟩ : ∃ x, S[j]? = some x := ⟨_, List.getElem?_eq_getElem (by rw [HIL.out]; exact hlt2)⟩
              obtain ⟨x0, x1⟩ := HALL.out x ((HMEM.out x).1 (List.mem_of_getElem? hx))
              obtain ⟨m, rfl⟩ : ∃ m : Nat, x = (m : Int) := ⟨x.toNat, by omega⟩
              have hcell := ((hq.below' HBW4.out (Nat.le_refl _)) j (.int .i64 (m : Int)) (by rw [List.getElem?_map, hx]; rfl)).1
              have HTK : Hid (szB (S.take (j + 1)) = szB (S.take j) ++ (List.replicate m true ++ List.replicate m false)) := by
                show _ = _
                rw [List.take_add_one, hx]
                show szB (S.take j ++ [(m : Int)]) = _
                rw [szB_snoc, Int.toNat_natCast]
              obtain ⟨L, hL⟩ : ∃ L, L = szB (S.take j) := ⟨_, rfl⟩
              rw [← hL] at HO HTK hlb
              have RP := hide (fun b W (h : W.cell? ⟨b, 0, none⟩ = some (.bool true)) => repB_any (.bool true) m b W (by omega) (by omega) rfl h)
              have HB5 := hide (HBW4.out.alloc hz4 (.cells #[.bool true] 4))
              have HO5 := hide (HO.out.alloc (.cells #[.bool true] 4))
              have q0 : (0 : Int) ≤ (j : Int) := by omega
              have q1 : (j : Int) < (n : Int) := by omega
              have m0 : (0 : Int) ≤ (m : Int) := by omega
              have m1 : (m : Int) ≤ 20 := by omega
              clear hx hq hL
              go_wp2_with (first
                | (go_at_call 137; refine (RP.out wr.heap.size _ (by simp)).mono ?_; rintro e w6 ⟨rfl, hb6, hz6, hcl6⟩; rw [World.size_alloc] at hb6 hz6 hcl6; have HCL6 := hide hcl6; have HB6 := hide (HB5.out.trans (hb6.mono (by omega))); have HO6 := hide (owns_below HO5.out hb6 (by simp)); clear hcl6 hb6)
                | (at_builtin; refine wpList_append_own _ rfl _ _ 116 rfl w3.heap.size 4 j0 (.bool false) 1 1 Tryz.underlying116 hj hy0 hy1 hy2 rfl (by decide) _ _ _ rfl HO6.out ⟨wr.heap.size + 1, 0, none⟩ m m (List.replicate m (.bool true)) rfl (by simp) HCL6.out.src (by intro u hu; rw [List.mem_replicate] at hu; rw [hu.2]; rfl) (by unfold maxLen; omega) (by omega) (by omega) ?_; intro v7 w7 hown7 hgrow7 _; have hz7 := hgrow7.size; have HB7 := hide (HB6.out.grown hgrow7 (by omega) (fun b e => (HO6.out.lt b e).1)); have HO7 := hide hown7; obtain ⟨v8, w8, hrun8, hown8, hgrow8⟩ := run_append_zeros_own w7 w3.heap.size 116 3 116 4 j0 (.bool false) .i64 Tryz.underlying116 Tryz.underlying3 hj hy0 hy1 rfl rfl (by rw [hy2]; omega) _ _ m _ HO7.out (by omega) (by omega) (by omega); have HR8 := hide hrun8; have HO8 := hide hown8; have HG8 := hide hgrow8; clear hown7 hgrow7 hrun8 hown8 hgrow8)
                | (at_builtin; refine Lib.wpList_append_run _ rfl _ _ _ _ rfl _ _ rfl rfl _ _ HR8.out ?_))
              go_roundw
              case rel =>
                have hz8 := HG8.out.size
                refine ⟨j + 1, by rw [HIL.out]; omega, by go_num, ?_, HB7.out.grown HG8.out (by omega) (fun b e => (HO7.out.lt b e).1), by omega⟩
                show World.ownsRow _ _ _ _ _ _ _
                rw [HTK.out]
                have := HO8.out
                simpa [Nat.add_assoc] using this
              case measure => simp [Go.RowKit.intOf]; omega
            · have hjn : j = n := by omega
              have hfin : S.take j = S := List.take_of_length_le (by rw [HIL.out]; omega)
              rw [hfin] at HO hlb
              obtain ⟨y, g, cap, h1, h2, h3, h4, h5, _⟩ := BoolsV.of_owns (e := 4) HO.out
              have HFX := hide h1
              have HT1 := hide (fun h120 => text_g y g _ cap (szB S) wr h2 rfl h3 h4 h5 h120)
              have HT2 := hide (fun h120 => text_big y g _ cap (szB S) wr h2 rfl h3 h4 h5 h120)
              have HBF := hide (HB3.out.trans (HBW4.out.mono hz3))
              have hzF := HBF.out.size
              subst h1
              clear h2 h3 h4 h5 hfin HO HFX
              obtain ⟨bl, hbl⟩ : ∃ b, b = (szB S).length := ⟨_, rfl⟩
              by_cases h120 : tl (szB S) ≤ 120
              · have HT := hide (HT1.out h120)
                have HX1 := hide (HX.out.trans (if_pos h120))
                have HX2 := hide (HOK.out.trans (decide_eq_true h120))
                rw [← hbl] at HT ⊢
                clear HT1 HT2 hlb hbl h120
                go_wp2_with fail
                refine HT.out.mono ?_
                rintro e w9 ⟨rfl, hb9⟩
                go_wp2_with fail
                go_ret2
                exact ⟨by rw [HX1.out, HX2.out]; rfl, HBF.out.trans (hb9.mono hzF)⟩
              · have HT := hide (HT2.out (by omega))
                have HX1 := hide (HX.out.trans (if_neg h120))
                have HX2 := hide (HOK.out.trans (decide_eq_false h120))
                rw [← hbl] at HT ⊢
                clear HT1 HT2 hlb hbl h120
                go_wp2_with fail
                refine HT.out.mono ?_
                rintro e w9 ⟨rfl, hb9⟩
                go_wp2_with fail
                go_ret2
                exact ⟨by rw [HX1.out, HX2.out]; rfl, HBF.out.trans (hb9.mono hzF)⟩
  · have e1 : swO l = false := by
      have : decide (l.length ≤ 20) = false := by simp; omega
      simp [swO, swC, this]
    have e2 : swS l = ByteArray.empty := by simp [swS, e1]
    have h20 : (20 : Int) < (l.length : Int) := by omega
    rw [e2, e1]
    clear e1 e2 h hf CA
    go_enter Tryz.func103, Tryz.ntmps103
    go_wp2
    go_ret2
    exact ⟨rfl, Below.refl _ _⟩
end Go.Proofs.YtdooboibmllfkaaGreatDoor
