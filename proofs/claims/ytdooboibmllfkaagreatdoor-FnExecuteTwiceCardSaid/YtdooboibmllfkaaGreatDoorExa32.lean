/- TEXTS TimeF, CmpP, Ins4. -/
import Derived.Test.YtdooboibmllfkaaGreatDoorExa31
import Derived.Test.YtdooboibmllfkaaGreatDoorExa11
import Derived.Test.YtdooboibmllfkaaGreatDoorExa08
import Derived.Test.YtdooboibmllfkaaGreatDoorExa17
import Derived.Deep.RegionHeld3
import Derived.Maps.AppendAt
import Derived.Lib.Overlaps
import Derived.Laws.Externs
namespace Go.Proofs.YtdooboibmllfkaaGreatDoor
set_option maxRecDepth 100000
open Go.RowKit

theorem tmR_F (s : ByteArray) : tmR s = tmF 61 s 0 := by
  unfold tmR
  cases hv : vld s
  · have e1 : apOk s = false := by unfold apOk; rw [hv]; rfl
    have e2 : stOk s 200 = false := by
      cases h : stOk s 200
      · rfl
      · have := (tkOk_iff (stOk_tk h)).1; rw [hv] at this; cases this
    show ((0 : Int), false) = if apOk s then _ else if stOk s 200 then _ else _
    rw [e1, e2]; rfl
  · rfl

set_option maxRecDepth 100000 in
set_option maxHeartbeats 2000000 in
theorem implShapeTime_any (s : ByteArray) (w : World) (hs : s.size ≤ maxLen) :
    Calls Tryz.prog 118 #[.string s] w fun e w' => e = .returned (.tuple #[.int .i64 (tmR s).1, .bool (tmR s).2]) ∧ Below w.heap.size w w' := by
  rw [tmR_F]
  obtain ⟨R, hR⟩ : ∃ R, R = tmF 61 s 0 := ⟨_, rfl⟩
  rw [← hR]
  have HR := hide hR
  have HS := hide hs
  clear hR hs
  go_enter Tryz.func118, Tryz.ntmps118
  go_wp2
  go_loopw [0, 7] (fun sv n wr => ∃ (x : ByteArray) (k : Nat), k ≤ 61 ∧ sv = .string x ∧ n = .int .i64 (k : Int) ∧ Hid (x.size ≤ maxLen) ∧ Hid (R = tmF (61 - k) x k) ∧ Hid (Below w.heap.size w wr)) (fun _ n _ => 61 - (Go.RowKit.intOf n).toNat)
  case atStart => exact ⟨s, 0, Nat.zero_le _, rfl, rfl, HS, HR, Below.refl _ _⟩
  case round =>
    obtain ⟨x, k, hk, rfl, rfl, HX, HE, HBW⟩ := hrel
    by_cases hlt : k ≤ 60
    · have hE : R = if apOk x then ((k : Int), true) else if stOk x 200 then tmF (61 - (k + 1)) (stS x 200) (k + 1) else (0, false) := by
        rw [HE.out, show 61 - k = (61 - (k + 1)) + 1 by omega]; rfl
      have HE2 := hide hE
      have CA := hide (fun w => implShapeApart_any x w HX.out)
      have CS := hide (fun w => implStepOf_any x 200 w HX.out)
      have hsz : (stS x 200).size ≤ maxLen := by have := stS_size x 200; unfold maxLen; omega
      obtain ⟨y, hy⟩ : ∃ y, y = stS x 200 := ⟨_, rfl⟩
      obtain ⟨a, ha⟩ : ∃ a, a = apOk x := ⟨_, rfl⟩
      obtain ⟨b, hb⟩ : ∃ b, b = stOk x 200 := ⟨_, rfl⟩
      rw [← hy, ← ha, ← hb] at HE2
      rw [← ha] at CA
      rw [← hy, ← hb] at CS
      rw [← hy] at hsz
      have HSZ := hide hsz
      clear hy ha hb hE HE hsz
      cases a
      · go_wp2_with fail
        refine (CA.out _).mono ?_
        rintro e w1 ⟨rfl, hb1⟩
        have g1 := HBW.out.trans (hb1.mono HBW.out.size)
        clear CA hb1
        cases b
        · have HE3 := hide (HE2.out.trans rfl)
          clear HE2
          go_wp2_with fail
          refine (CS.out _).mono ?_
          rintro e w2 ⟨rfl, hb2⟩
          go_wp2_with fail
          go_ret2
          exact ⟨by rw [HE3.out]; rfl, g1.trans (hb2.mono g1.size)⟩
        · have HE3 := hide (HE2.out.trans rfl)
          clear HE2
          go_wp2_with fail
          refine (CS.out _).mono ?_
          rintro e w2 ⟨rfl, hb2⟩
          have g2 := g1.trans (hb2.mono g1.size)
          clear CS hb2
          go_wp2_with fail
          go_roundw
          case rel => exact ⟨y, k + 1, by omega, rfl, by go_num, HSZ, HE3, g2⟩
          case measure => simp [Go.RowKit.intOf]; omega
      · have HE3 := hide (HE2.out.trans rfl)
        clear HE2 CS
        go_wp2_with fail
        refine (CA.out _).mono ?_
        rintro e w1 ⟨rfl, hb1⟩
        go_wp2_with fail
        go_ret2
        exact ⟨by rw [HE3.out]; rfl, HBW.out.trans (hb1.mono HBW.out.size)⟩
    · have hk61 : k = 61 := by omega
      have HE2 := hide (HE.out.trans (by rw [hk61]; rfl : _ = ((0 : Int), false)))
      go_wp2
      go_ret2
      exact ⟨by rw [HE2.out]; rfl, HBW.out⟩

end Go.Proofs.YtdooboibmllfkaaGreatDoor

namespace Go.Proofs.YtdooboibmllfkaaGreatDoor
set_option maxRecDepth 100000
open Go.RowKit Go.Sort Go.Shelf

theorem cell_lit (W W' : World) (cs : Array Value) (t b j : Nat) (hb : b = W.heap.size) (hw : W'.heap = (W.alloc (.cells cs t)).heap) {v : Value} (hv : cs[j]? = some v) : W'.cell? ⟨b, j, none⟩ = some v := by
  have e : W'.cell? ⟨b, j, none⟩ = (W.alloc (.cells cs t)).cell? ⟨b, j, none⟩ := World.cell?_of_block (by rw [hw])
  rw [e, World.cell?_alloc_at _ _ _ _ hb]
  exact hv

set_option maxRecDepth 100000 in
set_option maxHeartbeats 4000000 in
theorem compareParts_grw (a b : Int × Int) (w : World) :
    Calls Tryz.prog 213 #[pV a, pV b] w fun e w' => e = .returned (.int .i64 (cpP a b)) ∧ Grw w w' := by
  unfold pV cpP
  obtain ⟨a1, a2⟩ := a
  obtain ⟨b1, b2⟩ := b
  have CA := hide (fun w => falling_any a1 b1 w)
  have CB := hide (fun w => falling_any a2 b2 w)
  show Calls Tryz.prog 213 #[.agg #[.int .i64 a1, .int .i64 a2], .agg #[.int .i64 b1, .int .i64 b2]] w fun e w' => e = .returned (.int .i64 (if cmpI b1 a1 = 0 then cmpI b2 a2 else cmpI b1 a1)) ∧ Grw w w'
  obtain ⟨s, hs⟩ : ∃ s, s = cmpI b1 a1 := ⟨_, rfl⟩
  obtain ⟨t, ht⟩ : ∃ t, t = cmpI b2 a2 := ⟨_, rfl⟩
  rw [← hs] at CA ⊢
  rw [← ht] at CB ⊢
  clear hs ht
  obtain ⟨r, hr⟩ : ∃ r, (if s = 0 then t else s) = r := ⟨_, rfl⟩
  have HOR := hide (fun b c w h0 h1 => or_any s t r hr b c w h0 h1)
  rw [hr]
  clear hr
  obtain ⟨W, hW⟩ : ∃ W, W = (w.alloc (.cells #[.int .i64 a1, .int .i64 a2] 98)).alloc (.cells #[.int .i64 b1, .int .i64 b2] 98) := ⟨_, rfl⟩
  have hlt : w.heap.size < (w.alloc (.cells #[.int .i64 a1, .int .i64 a2] 98)).heap.size := by simp
  have c1 : W.cell? ⟨w.heap.size, 0, none⟩ = some (.int .i64 a1) := by rw [hW, World.cell?_alloc_lt _ _ ⟨w.heap.size, 0, none⟩ hlt, World.cell?_alloc_at _ _ _ _ rfl]; rfl
  have c2 : W.cell? ⟨w.heap.size, 1, none⟩ = some (.int .i64 a2) := by rw [hW, World.cell?_alloc_lt _ _ ⟨w.heap.size, 1, none⟩ hlt, World.cell?_alloc_at _ _ _ _ rfl]; rfl
  have c3 : W.cell? ⟨w.heap.size + 1, 0, none⟩ = some (.int .i64 b1) := by rw [hW, World.cell?_alloc_at _ _ _ _ (by simp)]; rfl
  have c4 : W.cell? ⟨w.heap.size + 1, 1, none⟩ = some (.int .i64 b2) := by rw [hW, World.cell?_alloc_at _ _ _ _ (by simp)]; rfl
  have HG : Hid (Grw w W) := by
    rw [hW]
    exact hide ((Grw.alloc w _).trans (Grw.alloc _ _))
  clear hlt
  go_enter Tryz.func213, Tryz.ntmps213
  go_wp2
  rw [← hW]
  clear hW
  go_region_held3 (fun w' => w'.cell? ⟨w.heap.size, 0, none⟩ = some (.int .i64 a1) ∧ w'.cell? ⟨w.heap.size, 1, none⟩ = some (.int .i64 a2) ∧ w'.cell? ⟨w.heap.size + 1, 0, none⟩ = some (.int .i64 b1) ∧ w'.cell? ⟨w.heap.size + 1, 1, none⟩ = some (.int .i64 b2))
    (first | exact ⟨c1, c2, c3, c4⟩ | go_keep | fail)
    (first
      | (go_at_call 151; (first | (with_reducible refine (CA.out _).mono ?_) | (with_reducible refine (CB.out _).mono ?_)); rintro e w' ⟨rfl, rfl⟩)
      | (go_at_call 236; refine (HOR.out _ _ _ ?_ ?_).mono ?_; exact cell_lit W _ #[.int .i64 s, .int .i64 t] 3 _ 0 rfl rfl rfl; exact cell_lit W _ #[.int .i64 s, .int .i64 t] 3 _ 1 rfl rfl rfl; rintro e w' ⟨rfl, rfl⟩)
      | fail)
  all_goals (try go_wp2)
  all_goals go_ret
  all_goals exact ⟨rfl, HG.out.trans ((Grw.alloc _ _).trans (Grw.drew _))⟩
end Go.Proofs.YtdooboibmllfkaaGreatDoor

namespace Go.Proofs.YtdooboibmllfkaaGreatDoor
set_option maxRecDepth 100000
open Go.RowKit

theorem cells_heap {w : World} {g : Nat} {cur : Array Value} {t : TypeId} (h : w.heap[g]? = some (.cells cur t (0, 0))) (j : Nat) : w.cell? ⟨g, j, none⟩ = cur[j]? := by simp [World.cell?, h]
theorem encZ_one1 (p : Int × Int) : ∀ u ∈ [Value.int .i64 p.1, .int .i64 p.2], u.oneCell' = true := by
  intro u hu
  simp at hu
  rcases hu with rfl | rfl <;> rfl
theorem lit2_src {w : World} {vb : Nat} {p : Int × Int} {t : TypeId} (hv : w.heap[vb]? = some (.cells #[.int .i64 p.1, .int .i64 p.2] t (0, 0))) : ∀ j u, [Value.int .i64 p.1, .int .i64 p.2][j]? = some u → w.cell? ((⟨vb, 0, none⟩ : Addr).add j) = some u := by
  intro j u hu
  rw [Addr.add_lit, Nat.zero_add, cells_heap hv]
  match j, hu with
  | 0, hu => simpa using hu
  | 1, hu => simpa using hu

set_option maxRecDepth 100000 in
set_option maxHeartbeats 4000000 in
theorem insert_end (v : Value) (n : Nat) (l : List (Int × Int)) (p : Int × Int) (vb : Nat) (w : World) (base : Nat) (hn : n ≤ 1000) (hown : w.ownsRow base 98 2 v n (encZ l)) (hb : base ≤ w.heap.size)
    (hv : w.heap[vb]? = some (.cells #[.int .i64 p.1, .int .i64 p.2] 98 (0, 0))) :
    Calls Tryz.prog 238 #[v, .int .i64 (n : Int), .slice (some ⟨vb, 0, none⟩) 1 1] w fun e w' => ∃ v', e = .returned v' ∧ w'.ownsRow base 98 2 v' (n + 1) (encZ (l ++ [p])) ∧ w.grownBy w' v.ownBlock ∧ RowNext w v v' := by
  obtain ⟨i0, hi, hz0, hz1, hz2⟩ := info_parts infoP
  have HO := hide hown
  have HV := hide hv
  have fin : Hid (∀ (v' : Value) (w' : World), w'.ownsRow base 98 2 v' (n + 1) (encZ l ++ [Value.int .i64 p.1, Value.int .i64 p.2]) → w'.ownsRow base 98 2 v' (n + 1) (encZ (l ++ [p]))) := by
    intro v' w' h
    rw [encZ_snoc]
    exact h
  rcases hown.2 with ⟨rfl, rfl⟩ | ⟨g, cap, cur, rfl, hbg, hg, hnc, hcm, hcs, htake⟩
  · clear hown hv
    go_enter Tryz.func238, Tryz.ntmps238
    go_wp2_with (at_builtin; refine wpList_append_own_at _ rfl _ _ 85 rfl base 98 i0 (.agg #[.int .i64 0, .int .i64 0]) 2 16 Tryz.underlying85 hi hz0 hz1 hz2 rfl (by decide) (.slice none 0 0) 0 (encZ l) rfl HO.out ⟨vb, 0, none⟩ 1 1 [Value.int .i64 p.1, Value.int .i64 p.2] rfl rfl (lit2_src HV.out) (encZ_one1 p) (by unfold maxLen; omega) (by omega) hb ?_; intro v' w1 hown' hgrow _ hat; have HO1 := hide hown'; have HG1 := hide hgrow; have HA1 := hide hat; clear hown' hgrow hat)
    go_ret
    exact ⟨v', rfl, fin.out _ _ HO1.out, HG1.out, HA1.out.elim .inl (fun h => .inr ⟨_, h, Nat.le_refl _⟩)⟩
  · clear hown hv hg htake
    unfold maxLen at hcm
    go_enter Tryz.func238, Tryz.ntmps238
    go_wp2_with (at_builtin; refine wpList_append_own_at _ rfl _ _ 85 rfl base 98 i0 (.agg #[.int .i64 0, .int .i64 0]) 2 16 Tryz.underlying85 hi hz0 hz1 hz2 rfl (by decide) (.slice (some ⟨g, 0, none⟩) n cap) n (encZ l) rfl HO.out ⟨vb, 0, none⟩ 1 1 [Value.int .i64 p.1, Value.int .i64 p.2] rfl rfl (lit2_src HV.out) (encZ_one1 p) (by unfold maxLen; omega) (by omega) hb ?_; intro v' w1 hown' hgrow _ hat; have HO1 := hide hown'; have HG1 := hide hgrow; have HA1 := hide hat; clear hown' hgrow hat)
    all_goals go_ret
    all_goals exact ⟨_, rfl, fin.out _ _ HO1.out, HG1.out, HA1.out.elim .inl (fun h => .inr ⟨_, h, Nat.le_refl _⟩)⟩

theorem nmin (a b c : Nat) (h : min a b = c) : Nat.min a b = c := h
theorem infoPsize : (Tryz.prog.info? 98).map (·.size) = some 2 := by kernel_rfl
theorem seg_take (A B C : List Value) (n : Nat) (h : n = A.length + B.length) : (A ++ B ++ C).take n = A ++ B := by
  rw [h, ← List.length_append]
  exact List.take_left

set_option maxRecDepth 100000 in
set_option maxHeartbeats 4000000 in
theorem insert_shift (g n c k : Nat) (l : List (Int × Int)) (p : Int × Int) (vb : Nat) (w : World) (base : Nat) (hkn : k < n) (hn : n ≤ 1000) (hroom : n + 1 ≤ c) (hown : w.ownsRow base 98 2 (.slice (some ⟨g, 0, none⟩) n c) n (encZ l))
    (hv : w.heap[vb]? = some (.cells #[.int .i64 p.1, .int .i64 p.2] 98 (0, 0))) (hne : g ≠ vb) :
    Calls Tryz.prog 238 #[.slice (some ⟨g, 0, none⟩) n c, .int .i64 (k : Int), .slice (some ⟨vb, 0, none⟩) 1 1] w fun e w' => e = .returned (.slice (some ⟨g, 0, none⟩) (n + 1) c) ∧ w'.ownsRow base 98 2 (.slice (some ⟨g, 0, none⟩) (n + 1) c) (n + 1) (encZ (l.take k ++ p :: l.drop k)) ∧ w.grownBy w' (some g) := by
  have hll : l.length = n := by have := hown.1; rw [encZ_length] at this; omega
  obtain ⟨cur, hbg, hg, hcm, hcs, htake⟩ : ∃ cur, base ≤ g ∧ w.heap[g]? = some (.cells cur 98 (0, 0)) ∧ c ≤ maxLen ∧ cur.size = c * 2 ∧ cur.toList.take (n * 2) = encZ l := by
    rcases hown.2 with ⟨h, _⟩ | ⟨g', c', cur, h, h1, h2, _, h4, h5, h6⟩
    · cases h
    · injection h with h _ h7
      injection h with h
      injection h with h
      subst h h7
      exact ⟨cur, h1, h2, h4, h5, h6⟩
  have hc63 := hcm
  unfold maxLen at hc63
  have hcl : (encZ l).length = n * 2 := by rw [encZ_length, hll]
  have htl : ∀ j, j < n * 2 → cur[j]? = (encZ l)[j]? := by
    intro j hj
    rw [← htake, List.getElem?_take_of_lt hj, Array.getElem?_toList]
  -- the two copies
  obtain ⟨cs, hcs0⟩ : ∃ cs, cs = (encZ l).drop (k * 2) := ⟨_, rfl⟩
  have hdl : cs.length = (n - k) * 2 := by rw [hcs0, List.length_drop, hcl]; omega
  obtain ⟨r1, hr1⟩ : ∃ r1 : Array Value, r1 = (cur.toList.take ((k + 1) * 2) ++ cs ++ cur.toList.drop ((k + 1) * 2 + cs.length)).toArray := ⟨_, rfl⟩
  have hr1s : r1.size = c * 2 := by
    rw [hr1]
    simp only [List.size_toArray, List.length_append, List.length_take, List.length_drop, Array.length_toList, hcs, hdl]
    omega
  have cp1 : ∀ W : World, W.heap = w.heap → ∀ ty dc sc, (Builtin.copy_ #[85, 85] ty #[.slice (some ⟨g, (k + 1) * 2, none⟩) (n - k) dc, .slice (some ⟨g, k * 2, none⟩) (n + 1 - k) sc]).run Tryz.prog W = .ok (goInt (Nat.min (n + 1 - k) (n - k))) (W.setRow g r1) := by
    intro W hW ty dc sc
    rw [hr1]
    refine run_copy_rowK (P := Tryz.prog) 2 W _ _ ty 98 g ((k + 1) * 2) (n - k) dc ⟨g, k * 2, none⟩ (n + 1 - k) sc cur _ cs Tryz.underlying85 infoPsize (by rw [hW]; exact hg) ?_ ?_ ?_ ?_
    · rw [hdl, nmin (n + 1 - k) (n - k) (n - k) (by omega)]
    · intro j u hu
      have hj : j < (n - k) * 2 := by rw [← hdl]; exact (List.getElem?_eq_some_iff.1 hu).1
      rw [Addr.add_lit, cells_heap (by rw [hW]; exact hg), htl _ (by omega), ← List.getElem?_drop, ← hcs0]
      exact hu
    · rw [hdl, hcs]; omega
    · intro u hu
      rw [hcs0] at hu
      exact encZ_one l u (List.mem_of_mem_drop hu)
  obtain ⟨W1, hW1⟩ : ∃ W1, W1 = w.drew.setRow g r1 := ⟨_, rfl⟩
  have hg1 : W1.heap[g]? = some (.cells r1 98 (0, 0)) := by rw [hW1]; exact setRow_heap w.drew g cur _ _ _ hg
  have hv1 : W1.heap[vb]? = some (.cells #[.int .i64 p.1, .int .i64 p.2] 98 (0, 0)) := by rw [hW1, setRow_other w.drew g vb _ (Ne.symm hne)]; exact hv
  obtain ⟨r2, hr2⟩ : ∃ r2 : Array Value, r2 = (r1.toList.take (k * 2) ++ [Value.int .i64 p.1, Value.int .i64 p.2] ++ r1.toList.drop (k * 2 + 2)).toArray := ⟨_, rfl⟩
  have cp2 : ∀ W : World, W.heap = W1.heap → ∀ ty dc, (Builtin.copy_ #[85, 85] ty #[.slice (some ⟨g, k * 2, none⟩) (n + 1 - k) dc, .slice (some ⟨vb, 0, none⟩) 1 1]).run Tryz.prog W = .ok (goInt (Nat.min 1 (n + 1 - k))) (W.setRow g r2) := by
    intro W hW ty dc
    rw [hr2]
    refine run_copy_rowK (P := Tryz.prog) 2 W _ _ ty 98 g (k * 2) (n + 1 - k) dc ⟨vb, 0, none⟩ 1 1 r1 _ [Value.int .i64 p.1, Value.int .i64 p.2] Tryz.underlying85 infoPsize (by rw [hW]; exact hg1) ?_ ?_ ?_ (encZ_one1 p)
    · rw [nmin 1 (n + 1 - k) 1 (by omega)]; rfl
    · exact lit2_src (by rw [hW]; exact hv1)
    · rw [hr1s]; show k * 2 + 2 ≤ _; omega
  have hov : ∀ lb cb, (callFunc 259 #[.slice (some ⟨vb, 0, none⟩) 1 1, .slice (some ⟨g, (k + 1) * 2, none⟩) lb cb]).run Tryz.prog w = .ok (.value (.bool false)) w := fun lb cb => by
    rw [run_callFunc_extern Tryz.func259 (by kernel_rfl) (by kernel_rfl) (by kernel_rfl) (e := Extern.SlicesOverlaps.overlaps #[85, 85] #[4]) (by kernel_rfl),
      Lib.run_overlaps_apart w 85 4 98 Tryz.underlying85 2 Tryz.sizeOf98 ⟨vb, 0, none⟩ ⟨g, (k + 1) * 2, none⟩ 1 1 lb cb (Ne.symm hne) 98 98 2 (c * 2) (by simp [World.shape?, hv]) (by simp [World.shape?, hg, hcs]) (by omega) (by simp [World.frozen?, hv]) (by simp [World.frozen?, hv])]
    rfl
  have FIN : Hid (∀ W : World, W.heap = W1.heap → W.os = w.os → W.tape = w.tape → W.output = w.output → (W.setRow g r2).ownsRow base 98 2 (.slice (some ⟨g, 0, none⟩) (n + 1) c) (n + 1) (encZ (l.take k ++ p :: l.drop k)) ∧ w.grownBy (W.setRow g r2) (some g)) := by
    intro W hW h1 h2 h3
    have hWg : W.heap[g]? = some (.cells r1 98 (0, 0)) := by rw [hW]; exact hg1
    have e1 : r1.toList.take (k * 2) = encZ (l.take k) := by
      rw [hr1, List.toList_toArray, List.append_assoc, List.take_append_of_le_length (by rw [List.length_take, Array.length_toList, hcs]; omega), List.take_take, Nat.min_eq_left (by omega), encZ_take, ← htake, List.take_take, Nat.min_eq_left (by omega)]
    have e2 : r1.toList.drop (k * 2 + 2) = encZ (l.drop k) ++ cur.toList.drop ((k + 1) * 2 + cs.length) := by
      rw [hr1, List.toList_toArray, List.append_assoc, show k * 2 + 2 = (cur.toList.take ((k + 1) * 2)).length from by rw [List.length_take, Array.length_toList, hcs]; omega, List.drop_left, hcs0, encZ_drop]
    refine ⟨⟨?_, .inr ⟨g, c, _, rfl, hbg, setRow_heap W g r1 _ _ _ hWg, hroom, hcm, ?_, ?_⟩⟩, ?_⟩
    · rw [encZ_length, List.length_append, List.length_cons, List.length_take, List.length_drop, hll]; omega
    · rw [hr2]
      simp only [List.size_toArray, List.length_append, List.length_take, List.length_drop, Array.length_toList, hr1s, List.length_cons, List.length_nil]
      omega
    · rw [hr2, List.toList_toArray, e1, e2, ← List.append_assoc, encZ_app, encZ_cons]
      show List.take ((n + 1) * 2) (encZ (l.take k) ++ [Value.int .i64 p.1, Value.int .i64 p.2] ++ encZ (l.drop k) ++ cur.toList.drop ((k + 1) * 2 + cs.length)) = _
      rw [seg_take _ _ _ _ (by rw [List.length_append, encZ_length, encZ_length, List.length_take, List.length_drop, hll]; simp; omega), List.append_assoc]
      rfl
    · have hs : W.heap.size = w.heap.size := by rw [hW, hW1]; simp
      refine ⟨h1, h2, h3, by simp [hs], fun j hj hne2 => ?_⟩
      have hjg : j ≠ g := fun e => hne2 (by rw [e])
      rw [setRow_other W g j _ hjg, hW, hW1, setRow_other w.drew g j _ hjg]
      rfl
  have hw1 : IntKind.i64.wrap ((k : Int) + 1) = (k : Int) + 1 := by rw [IntKind.wrap_i64]; omega
  have htn : ((k : Int) + 1).toNat = k + 1 := by omega
  have hb1 : (0 : Int) ≤ (k : Int) + 1 := by omega
  have hb2 : ¬ (c = k + 1) := by omega
  have hb3 : (k : Int) ≤ (n : Int) + 1 := by omega
  have hb4 : ¬ (c = k) := by omega
  have hb5 : ¬ ((c : Int) < (n : Int) + 1) := by omega
  have hz2 : ¬ ((k : Int) = (n : Int)) := by omega
  have hz3 : (k : Int) ≤ (n : Int) := by omega
  have cp1' := cp1 w.drew rfl
  rw [← hW1] at cp1'
  have HW1 := hide hW1
  clear cp1 hown hv hg hcs htake htl hcs0 hdl hr1s hg1 hv1 hW1 hr1 hr2 hcl
  go_enter Tryz.func238, Tryz.ntmps238
  go_wp2_with (simp only [hov])
  go_region_law (refine step_copy_eq rfl (.tmp 73) (.tmp 76) 85 85 rfl (.slice (some ⟨g, (k + 1) * 2, none⟩) (n - k) (c - (k + 1))) (.slice (some ⟨g, k * 2, none⟩) (n + 1 - k) (c - k)) (by simp [Act.eval, Act.put]) (by simp [Act.eval, Act.put]) (cp1' _ _ _) ?_)
  go_wp2_with (at_builtin; refine wpList_copy_eq _ rfl _ _ 85 85 rfl _ _ rfl rfl (cp2 _ rfl _ _) ?_)
  go_ret
  exact ⟨rfl, (FIN.out _ rfl (by rw [HW1.out]; rfl) (by rw [HW1.out]; rfl) (by rw [HW1.out]; rfl)).1, (FIN.out _ rfl (by rw [HW1.out]; rfl) (by rw [HW1.out]; rfl) (by rw [HW1.out]; rfl)).2⟩

set_option maxRecDepth 100000 in
set_option maxHeartbeats 4000000 in
theorem insert_grow (g n k : Nat) (l : List (Int × Int)) (p : Int × Int) (vb : Nat) (w : World) (base : Nat) (hkn : k < n) (hn : n ≤ 1000) (hown : w.ownsRow base 98 2 (.slice (some ⟨g, 0, none⟩) n n) n (encZ l)) (hb : base ≤ w.heap.size)
    (hv : w.heap[vb]? = some (.cells #[.int .i64 p.1, .int .i64 p.2] 98 (0, 0))) :
    Calls Tryz.prog 238 #[.slice (some ⟨g, 0, none⟩) n n, .int .i64 (k : Int), .slice (some ⟨vb, 0, none⟩) 1 1] w fun e w' => ∃ G, e = .returned (.slice (some ⟨w.heap.size, 0, none⟩) (n + 1) G) ∧ w'.ownsRow base 98 2 (.slice (some ⟨w.heap.size, 0, none⟩) (n + 1) G) (n + 1) (encZ (l.take k ++ p :: l.drop k)) ∧ w.grownBy w' (some g) := by
  obtain ⟨i0, hi, hz0, hz1, hz2⟩ := info_parts infoP
  have hll : l.length = n := by have := hown.1; rw [encZ_length] at this; omega
  have hglt : g < w.heap.size := (hown.lt g rfl).2
  have hvlt : vb < w.heap.size := (Array.getElem?_eq_some_iff.1 hv).1
  have hcl : (encZ l).length = n * 2 := by rw [encZ_length, hll]
  have hgc : ∀ j u, (encZ l)[j]? = some u → w.cell? ⟨g, j, none⟩ = some u := by
    intro j u hu
    have := hown.cells (g := g) rfl j u hu
    rwa [Addr.add_lit, Nat.zero_add] at this
  obtain ⟨G, hG⟩ : ∃ G, G = grownCap w (n + 1) n 98 := ⟨_, rfl⟩
  have hGn : n + 1 ≤ G := by rw [hG]; exact grownCap_ge w _ _ _
  have hGm : G ≤ maxLen := by rw [hG]; exact grownCap_le_maxLen w (n + 1) n 98 (by unfold maxLen; omega)
  have hG63 := hGm
  unfold maxLen at hG63
  obtain ⟨r0, hr0⟩ : ∃ r0 : Array Value, r0 = (encZ (l.take k)).toArray ++ Builtin.zeroCells (Value.agg #[.int .i64 0, .int .i64 0]).cells (n + 1 - k) ++ Builtin.zeroCells (Value.agg #[.int .i64 0, .int .i64 0]).cells (G - (n + 1)) := ⟨_, rfl⟩
  have hzs : (Value.agg #[.int .i64 0, .int .i64 0]).cells.size = 2 := rfl
  have hr0s : r0.size = G * 2 := by
    rw [hr0]
    simp only [Array.size_append, List.size_toArray, size_zeroCells, hzs, encZ_length, List.length_take, hll]
    omega
  have hkk : (n : Int) + 1 - (k : Int) = ((n + 1 - k : Nat) : Int) := by omega
  have hik : k + (n + 1 - k) = n + 1 := by omega
  have hrz : ∀ ty, (Builtin.append_ #[85, 3] ty #[.slice (some ⟨g, 0, none⟩) k n, .int .i64 ((n : Int) + 1 - (k : Int))]).run Tryz.prog w = .ok (.slice (some ⟨w.heap.size, 0, none⟩) (n + 1) G) (w.drew.alloc (.cells r0 98)) := fun ty => by
    have hold : (Builtin.firstCells i0.size k (.slice (some ⟨g, 0, none⟩) k n)).run Tryz.prog w.drew = .ok (encZ (l.take k)).toArray w.drew := by
      rw [hz1]
      refine run_firstCells_some w.drew 2 k ⟨g, 0, none⟩ k n (encZ (l.take k)) (by rw [encZ_length, List.length_take]; omega) (fun j u hu => ?_)
      rw [encZ_take] at hu
      have hj : j < k * 2 := by
        have := (List.getElem?_eq_some_iff.1 hu).1
        rw [List.length_take] at this
        omega
      rw [List.getElem?_take_of_lt hj] at hu
      rw [Addr.add_lit, Nat.zero_add]
      exact hgc j u hu
    have h := Lib.run_append_grow_zeros w 85 3 ty 98 i0 _ .i64 .i64 Tryz.underlying85 Tryz.underlying3 hi hz0 (some ⟨g, 0, none⟩) k n (encZ (l.take k)) hold (n + 1 - k) (by omega) (by omega) (by omega) (by omega) (by rw [hz2]; omega) (by rw [hz2, hik]; exact growslice_fits (by omega) (by omega))
    rw [hik, ← hG, ← hr0] at h
    rw [hkk]
    exact h
  obtain ⟨W1, hW1⟩ : ∃ W1, W1 = w.drew.alloc (.cells r0 98) := ⟨_, rfl⟩
  rw [← hW1] at hrz
  obtain ⟨N, hN⟩ : ∃ N, N = w.heap.size := ⟨_, rfl⟩
  have hN1 : W1.heap[N]? = some (.cells r0 98 (0, 0)) := by rw [hW1, hN]; exact heap_alloc_new w.drew _
  have hv1 : W1.heap[vb]? = some (.cells #[.int .i64 p.1, .int .i64 p.2] 98 (0, 0)) := by rw [hW1]; exact (Below.heap_alloc w.drew _ vb hvlt).trans hv
  have hg1 : ∀ j u, (encZ l)[j]? = some u → W1.cell? ⟨g, j, none⟩ = some u := fun j u hu => by
    rw [hW1]
    exact (World.cell?_of_block (w := w) (w' := w.drew.alloc (.cells r0 98)) (a := ⟨g, j, none⟩) (Below.heap_alloc w.drew _ g hglt)).trans (hgc j u hu)
  obtain ⟨r1, hr1⟩ : ∃ r1 : Array Value, r1 = (r0.toList.take (k * 2) ++ [Value.int .i64 p.1, Value.int .i64 p.2] ++ r0.toList.drop (k * 2 + 2)).toArray := ⟨_, rfl⟩
  have hr1s : r1.size = G * 2 := by
    rw [hr1]
    simp only [List.size_toArray, List.length_append, List.length_take, List.length_drop, Array.length_toList, hr0s, List.length_cons, List.length_nil]
    omega
  have cp1 : ∀ W : World, W.heap = W1.heap → ∀ ty dc, (Builtin.copy_ #[85, 85] ty #[.slice (some ⟨N, k * 2, none⟩) (n + 1 - k) dc, .slice (some ⟨vb, 0, none⟩) 1 1]).run Tryz.prog W = .ok (goInt (Nat.min 1 (n + 1 - k))) (W.setRow N r1) := by
    intro W hW ty dc
    rw [hr1]
    refine run_copy_rowK (P := Tryz.prog) 2 W _ _ ty 98 N (k * 2) (n + 1 - k) dc ⟨vb, 0, none⟩ 1 1 r0 _ [Value.int .i64 p.1, Value.int .i64 p.2] Tryz.underlying85 infoPsize (by rw [hW]; exact hN1) ?_ ?_ ?_ (encZ_one1 p)
    · rw [nmin 1 (n + 1 - k) 1 (by omega)]; rfl
    · exact lit2_src (by rw [hW]; exact hv1)
    · rw [hr0s]; show k * 2 + 2 ≤ _; omega
  obtain ⟨W2, hW2⟩ : ∃ W2, W2 = W1.setRow N r1 := ⟨_, rfl⟩
  have hN2 : W2.heap[N]? = some (.cells r1 98 (0, 0)) := by rw [hW2]; exact setRow_heap W1 N r0 _ _ _ hN1
  have hgN : g ≠ N := by omega
  have hg2 : ∀ j u, (encZ l)[j]? = some u → W2.cell? ⟨g, j, none⟩ = some u := fun j u hu => by
    rw [hW2, cell_setRow_other W1 N r1 ⟨g, j, none⟩ hgN]
    exact hg1 j u hu
  obtain ⟨cs, hcs0⟩ : ∃ cs, cs = (encZ l).drop (k * 2) := ⟨_, rfl⟩
  have hdl : cs.length = (n - k) * 2 := by rw [hcs0, List.length_drop, hcl]; omega
  obtain ⟨r2, hr2⟩ : ∃ r2 : Array Value, r2 = (r1.toList.take ((k + 1) * 2) ++ cs ++ r1.toList.drop ((k + 1) * 2 + cs.length)).toArray := ⟨_, rfl⟩
  have cp2 : ∀ W : World, W.heap = W2.heap → ∀ ty dc sc, (Builtin.copy_ #[85, 85] ty #[.slice (some ⟨N, (k + 1) * 2, none⟩) (n - k) dc, .slice (some ⟨g, k * 2, none⟩) (n - k) sc]).run Tryz.prog W = .ok (goInt (Nat.min (n - k) (n - k))) (W.setRow N r2) := by
    intro W hW ty dc sc
    rw [hr2]
    refine run_copy_rowK (P := Tryz.prog) 2 W _ _ ty 98 N ((k + 1) * 2) (n - k) dc ⟨g, k * 2, none⟩ (n - k) sc r1 _ cs Tryz.underlying85 infoPsize (by rw [hW]; exact hN2) ?_ ?_ ?_ ?_
    · rw [hdl, nmin (n - k) (n - k) (n - k) (by omega)]
    · intro j u hu
      rw [hcs0, List.getElem?_drop] at hu
      rw [Addr.add_lit]
      have := hg2 _ u hu
      exact (World.cell?_of_block (w := W2) (w' := W) (a := ⟨g, k * 2 + j, none⟩) (by rw [hW])).trans this
    · rw [hdl, hr1s]; omega
    · intro u hu
      rw [hcs0] at hu
      exact encZ_one l u (List.mem_of_mem_drop hu)
  have FIN : Hid (∀ W : World, W.heap = W2.heap → W.os = w.os → W.tape = w.tape → W.output = w.output → (W.setRow N r2).ownsRow base 98 2 (.slice (some ⟨N, 0, none⟩) (n + 1) G) (n + 1) (encZ (l.take k ++ p :: l.drop k)) ∧ w.grownBy (W.setRow N r2) (some g)) := by
    intro W hW h1 h2 h3
    have hWN : W.heap[N]? = some (.cells r1 98 (0, 0)) := by rw [hW]; exact hN2
    have e0 : r0.toList.take (k * 2) = encZ (l.take k) := by
      rw [hr0, Array.toList_append, Array.toList_append, List.toList_toArray, List.append_assoc]
      exact List.take_left' (by rw [encZ_length, List.length_take, hll, Nat.min_eq_left (by omega)])
    have e1 : r1.toList.take ((k + 1) * 2) = encZ (l.take k) ++ [Value.int .i64 p.1, Value.int .i64 p.2] := by
      rw [hr1, List.toList_toArray, e0]
      exact seg_take _ _ _ _ (by rw [encZ_length, List.length_take, hll, Nat.min_eq_left (by omega)]; simp; omega)
    refine ⟨⟨?_, .inr ⟨N, G, _, rfl, by omega, setRow_heap W N r1 _ _ _ hWN, hGn, hGm, ?_, ?_⟩⟩, ?_⟩
    · rw [encZ_length, List.length_append, List.length_cons, List.length_take, List.length_drop, hll]; omega
    · rw [hr2]
      simp only [List.size_toArray, List.length_append, List.length_take, List.length_drop, Array.length_toList, hr1s, hdl]
      omega
    · rw [hr2, List.toList_toArray, e1, hcs0, ← encZ_drop, encZ_app, encZ_cons]
      rw [seg_take _ _ _ _ (by rw [List.length_append, encZ_length, encZ_length, List.length_take, List.length_drop, hll]; simp; omega), List.append_assoc]
      rfl
    · have hs : W.heap.size = w.heap.size + 1 := by rw [hW, hW2, hW1]; simp
      refine ⟨h1, h2, h3, by simp [hs], fun j hj hne2 => ?_⟩
      have hjN : j ≠ N := by omega
      rw [setRow_other W N j _ hjN, hW, hW2, setRow_other W1 N j _ hjN, hW1]
      exact Below.heap_alloc w.drew _ j hj
  have hw1 : IntKind.i64.wrap ((k : Int) + 1) = (k : Int) + 1 := by rw [IntKind.wrap_i64]; omega
  have htn : ((k : Int) + 1).toNat = k + 1 := by omega
  have hb1 : (0 : Int) ≤ (k : Int) + 1 := by omega
  have hb2 : ¬ (G = k + 1) := by omega
  have hb3 : (k : Int) ≤ (n : Int) + 1 := by omega
  have hb4 : ¬ (G = k) := by omega
  have hb5 : (n : Int) < (n : Int) + 1 := by omega
  have hb6 : ¬ (n = k) := by omega
  have hz2 : ¬ ((k : Int) = (n : Int)) := by omega
  have hz3 : (k : Int) ≤ (n : Int) := by omega
  have hw2 : IntKind.i64.wrap ((n : Int) + 1 - (k : Int)) = (n : Int) + 1 - (k : Int) := by rw [IntKind.wrap_i64]; omega
  rw [← hN] at hrz ⊢
  have cp1' := cp1 W1 rfl
  rw [← hW2] at cp1'
  have HW1 := hide hW1
  have HW2 := hide hW2
  have HN := hide hN
  have hwh : ∀ W : World, W = W2.drew → W.heap = W2.heap := fun W h => by rw [h]; rfl
  clear cp1 hown hv hcl hgc hG hr0 hzs hr0s hkk hik hN1 hv1 hg1 hr1 hr1s hN2 hg2 hcs0 hdl hr2 hW1 hW2 hN hi hz0 hz1
  go_enter Tryz.func238, Tryz.ntmps238
  go_wp2_with (first
    | (at_builtin; refine Lib.wpList_append_run _ rfl _ _ _ _ rfl _ _ rfl rfl _ _ (hrz _) ?_)
    | (at_builtin; refine wpList_copy_eq _ rfl _ _ 85 85 rfl _ _ rfl rfl (cp1' _ _) ?_))
  go_region_law (refine step_copy_eq rfl (.tmp 50) (.tmp 53) 85 85 rfl (.slice (some ⟨N, (k + 1) * 2, none⟩) (n - k) (G - (k + 1))) (.slice (some ⟨g, k * 2, none⟩) (n - k) (n - k)) (by simp [Act.eval, Act.put]) (by simp [Act.eval, Act.put]) (cp2 _ rfl _ _ _) ?_)
  go_wp2
  go_ret
  refine ⟨G, rfl, ?_⟩
  exact FIN.out _ rfl (by rw [HW2.out, HW1.out]; rfl) (by rw [HW2.out, HW1.out]; rfl) (by rw [HW2.out, HW1.out]; rfl)

theorem insert_any (v : Value) (n k : Nat) (l : List (Int × Int)) (p : Int × Int) (vb : Nat) (w : World) (base : Nat) (hk : k ≤ n) (hn : n ≤ 1000) (hown : w.ownsRow base 98 2 v n (encZ l)) (hb : base ≤ w.heap.size)
    (hv : w.heap[vb]? = some (.cells #[.int .i64 p.1, .int .i64 p.2] 98 (0, 0))) (hne : v.ownBlock ≠ some vb) :
    Calls Tryz.prog 238 #[v, .int .i64 (k : Int), .slice (some ⟨vb, 0, none⟩) 1 1] w fun e w' => ∃ v', e = .returned v' ∧ w'.ownsRow base 98 2 v' (n + 1) (encZ (l.take k ++ p :: l.drop k)) ∧ w.grownBy w' v.ownBlock ∧ RowNext w v v' := by
  have hll : l.length = n := by have := hown.1; rw [encZ_length] at this; omega
  by_cases e : k = n
  · subst e
    refine (insert_end v k l p vb w base hn hown hb hv).mono ?_
    rintro e w' ⟨v', rfl, h1, h2, h3⟩
    refine ⟨v', rfl, ?_, h2, h3⟩
    rw [List.take_of_length_le (by omega), List.drop_of_length_le (by omega)]
    exact h1
  · rcases hown.2 with ⟨_, h0⟩ | ⟨g, c, cur, rfl, _, _, hnc, _⟩
    · omega
    · by_cases hr : n + 1 ≤ c
      · refine (insert_shift g n c k l p vb w base (by omega) hn hr hown hv (fun h => hne (by rw [h]; rfl))).mono ?_
        rintro e w' ⟨rfl, h1, h2⟩
        exact ⟨_, rfl, h1, h2, .inl rfl⟩
      · obtain rfl : c = n := by omega
        refine (insert_grow g c k l p vb w base (by omega) hn hown hb hv).mono ?_
        rintro e w' ⟨G, rfl, h1, h2⟩
        exact ⟨_, rfl, h1, h2, .inr ⟨_, rfl, Nat.le_refl _⟩⟩
end Go.Proofs.YtdooboibmllfkaaGreatDoor
