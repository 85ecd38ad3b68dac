/- TEXTS Flow, PLinear. -/
import Derived.Test.YteibopcneflidabDoorRl21
import Derived.Test.YteibopcneflidabDoorRl11
import Derived.Test.YteibopcneflidabDoorRl15
import Derived.Test.YteibopcneflidabDoorRl24
import Derived.Test.YteibopcneflidabDoorRl43
import Derived.Test.YteibopcneflidabDoorRl14
import Derived.Test.YteibopcneflidabDoorRl32
/- THE WALKS of slices.Clone, flowOf, and the program's RigFlow. -/
namespace Go.Proofs.YteibopcneflidabDoor
open Go.RowKit Go.Sort Go.Shelf

theorem enc_rig (a b : List (Int × Int)) (x : Int × Int) (y : Int) : (encZ (a ++ x :: b)).set (a.length * 2 + 1) (.int .i64 y) = encZ (a ++ (x.1, y) :: b) := by
  rw [encZ_app, encZ_app, encZ_cons, encZ_cons, List.set_append_right _ _ (by rw [encZ_length]; omega), encZ_length, show a.length * 2 + 1 - a.length * 2 = 1 by omega]
  rfl
theorem flow_at {l : List (Int × Int)} {k : Nat} {x : Int × Int} (K : Int) (hx : l[k]? = some x) : ((l.take k).map (rgAdd K) ++ l.drop k)[k]? = some x := by
  have hk : k < l.length := (List.getElem?_eq_some_iff.1 hx).1
  rw [List.getElem?_append_right (by rw [List.length_map, List.length_take]; omega), List.length_map, List.length_take, Nat.min_eq_left (by omega), Nat.sub_self, List.getElem?_drop]
  exact hx
theorem flow_set {l : List (Int × Int)} {k : Nat} {x : Int × Int} (K : Int) (hx : l[k]? = some x) :
    (encZ ((l.take k).map (rgAdd K) ++ l.drop k)).set (k * 2 + 1) (.int .i64 (x.2 + min x.1 K)) = encZ ((l.take (k + 1)).map (rgAdd K) ++ l.drop (k + 1)) := by
  have hk : k < l.length := (List.getElem?_eq_some_iff.1 hx).1
  have e1 : l.drop k = x :: l.drop (k + 1) := by
    rw [List.drop_eq_getElem_cons hk]
    congr 1
    have := (List.getElem?_eq_some_iff.1 hx).2
    exact this
  have e2 : (l.take (k + 1)).map (rgAdd K) = (l.take k).map (rgAdd K) ++ [rgAdd K x] := by
    rw [List.take_add_one, hx, List.map_append]; rfl
  have e3 : k = ((l.take k).map (rgAdd K)).length := by rw [List.length_map, List.length_take]; omega
  have e4 := enc_rig ((l.take k).map (rgAdd K)) (l.drop (k + 1)) x (x.2 + min x.1 K)
  rw [← e3, ← e1] at e4
  rw [e4, e2, List.append_assoc]
  rfl

theorem nil_is (n c : Nat) (w : World) : (binOp .eql 24 (.slice none n c) (.slice none 0 0)).run Tryd.prog w = .ok (.bool true) w := by kernel_rfl
theorem nil_not (ad : Addr) (n c : Nat) (w : World) : (binOp .eql 24 (.slice (some ad) n c) (.slice none 0 0)).run Tryd.prog w = .ok (.bool false) w := by kernel_rfl

set_option maxRecDepth 100000 in
set_option maxHeartbeats 2000000 in
theorem clone_any (l : List (Int × Int)) (v : Value) (w : World) {lo : Nat} (hP : PartsV lo w v l) (hl : l.length ≤ 1000) :
    Calls Tryd.prog 38 #[v] w fun e w' => ∃ u, e = .returned u ∧ w'.ownsRow w.heap.size 44 2 u l.length (encZ l) ∧ Below w.heap.size w w' := by
  obtain ⟨i0, hi, hz0, hz1, hz2⟩ := info_parts infoP
  obtain ⟨n, hn⟩ : ∃ n, l.length = n := ⟨_, rfl⟩
  obtain ⟨a, c, rfl, hf⟩ := hP.form hn
  rw [hn] at hl ⊢
  have LT : Hid ((encZ l).length = n * 2) := hide (by rw [encZ_length, hn])
  cases a with
  | none =>
    have h0 : n = 0 := by
      rcases Nat.eq_zero_or_pos n with h | h
      · exact h
      · obtain ⟨g, hg, _⟩ := hf h
        cases hg
    have he : l = [] := List.eq_nil_of_length_eq_zero (by omega)
    subst h0 he
    clear hP hf hn LT
    have nl := nil_is 0 c w
    go_enter Tryd.func38, Tryd.ntmps38
    go_wp2_with fail
    go_ret
    exact ⟨_, rfl, World.ownsRow_nil _ _ _ _, Below.refl _ _⟩
  | some ad =>
    obtain ⟨W0, hW0⟩ : ∃ W0, W0 = w.alloc (.cells #[] 44) := ⟨_, rfl⟩
    have HB0 : Hid (Below w.heap.size w W0) := by rw [hW0]; exact (Below.refl _ w).alloc (Nat.le_refl _) _
    have OA : Hid (W0.ownsRow w.heap.size 44 2 (.slice (some ⟨w.heap.size, 0, none⟩) 0 0) 0 []) := hide (by
      rw [hW0]
      exact World.ownsRow_lit (base := w.heap.size) (e := 44) (size := 2) w #[] 0 (Nat.le_refl _) (by unfold maxLen; omega) rfl)
    have SRC : Hid (∀ j u, (encZ l)[j]? = some u → W0.cell? (ad.add j) = some u) := hide (by
      intro j u hu
      have hj : j < n * 2 := by have := LT.out; have := (List.getElem?_eq_some_iff.1 hu).1; omega
      obtain ⟨g, hg, hlt, hc⟩ := hf (by omega)
      injection hg with hg
      subst hg
      have := ((hc.below' HB0.out (Nat.le_refl _)) j u hu).1
      rw [Addr.add_lit, Nat.zero_add]
      exact this)
    have oT := hide (encZ_one l)
    have hs0 : w.heap.size ≤ W0.heap.size := HB0.out.size
    have nl := nil_not ad n c w
    clear hP hf hn
    subst hW0
    go_enter Tryd.func38, Tryd.ntmps38
    go_wp2_with (at_builtin; go_loud (refine wpList_append_own_at _ rfl _ _ 24 rfl w.heap.size 44 i0 (.agg #[.int .i64 0, .int .i64 0]) 2 16 Tryd.underlying24 hi hz0 hz1 hz2 rfl (by decide) (.slice (some ⟨w.heap.size, 0, none⟩) 0 0) 0 [] (by rfl) OA.out ad n c (encZ l) (by rfl) LT.out SRC.out oT.out (by unfold maxLen; omega) (by omega) hs0 ?_; intro v1 w1 hown1 hgr1 _ hat1; have O1 := hide hown1; have G1 := hide (HB0.out.grown hgr1 hs0 (fun g hg => by cases hg; exact Nat.le_refl _)); clear hown1 hgr1 hat1))
    go_ret
    exact ⟨_, rfl, by have := O1.out; rw [Nat.zero_add, List.nil_append] at this; exact this, G1.out⟩

/-- a flow's answer -/
def FlowPost (w : World) (l : List (Int × Int)) (K : Int) (e : Ending) (w' : World) : Prop :=
  ∃ u f, e = .returned (.tuple #[u, f]) ∧ FaultV (rgFlowOk l K) f ∧ PartsV w.heap.size w' u (rgFlow l K) ∧ Below w.heap.size w w'
theorem flow_no {w w' : World} {l : List (Int × Int)} {K : Int} (s : ByteArray) (h : rgFlowOk l K = false) (hb : Below w.heap.size w w') :
    FlowPost w l K (.returned (.tuple #[.slice none 0 0, .iface 61 (.string s)])) w' := by
  refine ⟨_, _, rfl, ?_, ?_, hb⟩
  · rw [h]; exact ⟨_, rfl⟩
  · unfold rgFlow
    rw [h]
    exact .inl ⟨_, _, rfl, rfl⟩

set_option maxRecDepth 100000 in
set_option maxHeartbeats 4000000 in
theorem flowOf_any (l : List (Int × Int)) (v : Value) (K : Int) (w : World) {lo : Nat} (hP : PartsV lo w v l) (hl : l.length ≤ 1048576) :
    Calls Tryd.prog 22 #[v, .int .i64 K] w (FlowPost w l K) := by
  have C := hide (checkParts_grw l v w hP hl)
  by_cases h1 : K < 1
  · have NO := hide (fun (w' : World) (s : ByteArray) (hb : Below w.heap.size w w') => flow_no (l := l) (K := K) s (by unfold rgFlowOk rmOk; rw [show decide (1 ≤ K) = false from decide_eq_false (by omega)]; simp) hb)
    clear hP C
    go_enter Tryd.func22, Tryd.ntmps22
    go_wp2_with fail
    go_ret2
    exact NO.out _ _ (Below.refl _ _)
  · by_cases h2 : (200 : Int) < K
    · have NO := hide (fun (w' : World) (s : ByteArray) (hb : Below w.heap.size w w') => flow_no (l := l) (K := K) s (by unfold rgFlowOk rmOk; rw [show decide (K ≤ 200) = false from decide_eq_false (by omega)]; simp) hb)
      clear hP C
      go_enter Tryd.func22, Tryd.ntmps22
      go_wp2_with fail
      go_ret2
      exact NO.out _ _ (Below.refl _ _)
    · have h3 : rmOk K = true := by unfold rmOk; rw [Bool.and_eq_true]; exact ⟨decide_eq_true (by omega), decide_eq_true (by omega)⟩
      cases hin : rgIn l
      · rw [hin] at C
        have NO := hide (fun (w' : World) (s : ByteArray) (hb : Below w.heap.size w w') => flow_no (l := l) (K := K) s (by unfold rgFlowOk; rw [hin]; rfl) hb)
        clear hP hin h3
        go_enter Tryd.func22, Tryd.ntmps22
        go_wp2_with fail
        refine C.out.mono ?_
        rintro e w1 ⟨⟨u, rfl, hu⟩, hg⟩
        obtain ⟨s, rfl⟩ := hu
        have HB1 := hide hg.below
        clear hg
        go_wp2_with fail
        go_ret2
        exact NO.out _ _ HB1.out
      · rw [hin] at C
        obtain ⟨hb, hs, hl2⟩ := (rgIn_iff l).1 hin
        obtain ⟨m, hm⟩ : ∃ m, m = l.map (rgAdd K) := ⟨_, rfl⟩
        have e1 : rgFlowOk l K = rgIn m := by unfold rgFlowOk; rw [hin, h3, hm]; rfl
        have NO := hide (fun (h : rgIn m = false) (w' : World) (s : ByteArray) (hb : Below w.heap.size w w') => flow_no (l := l) (K := K) s (by rw [e1]; exact h) hb)
        have YES : Hid (∀ (_ : rgIn m = true) (u : Value) (w' : World) (_ : PartsV w.heap.size w' u m) (_ : Below w.heap.size w w'), FlowPost w l K (.returned (.tuple #[u, .nilIface])) w') := hide (by
          intro h u w' hp hb
          refine ⟨u, _, rfl, by rw [e1, h]; exact rfl, ?_, hb⟩
          unfold rgFlow
          rw [e1, h, if_pos rfl, ← hm]
          exact hp)
        have hsm : pSorted m := by rw [hm]; exact add_sorted K hs
        have HSM := hide hsm
        have hml : m.length = l.length := by rw [hm, List.length_map]
        have hml2 : m.length ≤ 900 := by omega
        have CL := hide (fun (W : World) (h : PartsV lo W v l) => clone_any l v W h (by omega))
        have HP := hide hP
        have HBD := hide hb
        obtain ⟨n, hn⟩ : ∃ n, l.length = n := ⟨_, rfl⟩
        rw [hn] at CL hml
        have HN := hide hn
        have HM := hide hm
        have HML := hide hml
        have hn2 : n ≤ 60 := by omega
        clear hP hin h3 hb hs hl2 e1 hsm hn hm hl hml
        go_enter Tryd.func22, Tryd.ntmps22
        go_wp2_with fail
        refine C.out.mono ?_
        rintro e w1 ⟨⟨u, rfl, hu⟩, hg⟩
        obtain rfl : u = .nilIface := hu
        have HB1 := hide hg.below
        clear hg C
        go_wp2_with fail
        refine (CL.out w1 (HP.out.below HB1.out (Nat.le_refl _))).mono ?_
        rintro e w2 ⟨mv, rfl, ho2, hb2⟩
        have HO2 := hide ho2
        have HB2 := hide (HB1.out.trans (hb2.mono HB1.out.size))
        have hs1 := HB1.out.size
        clear hb2 CL HP
        -- where the copy stands
        obtain ⟨ma, mc, hmv, hmf⟩ : ∃ ma mc, mv = .slice ma n mc ∧ (0 < n → ∃ g, ma = some ⟨g, 0, none⟩ ∧ g < w2.heap.size ∧ w.heap.size ≤ g ∧ n ≤ mc ∧ CellsAt w2 g (encZ l)) := by
          rcases PartsV.of_owns ho2 with ⟨a, c, e1, e2⟩ | ⟨g, c, e1, e2, e3, e4, e5⟩
          · have h0 : n = 0 := by have := HN.out; rw [e2] at this; exact this.symm
            subst h0
            exact ⟨a, c, e1, fun h => absurd h (Nat.lt_irrefl _)⟩
          · exact ⟨_, c, by rw [← HN.out]; exact e1, fun _ => ⟨g, rfl, e4, by omega, by have := HN.out; omega, e5⟩⟩
        subst hmv
        have HMF := hide hmf
        clear hmf ho2 HO2
        go_wp2_with fail
        go_loopw [27] (fun i wr => ∃ k : Nat, k ≤ n ∧ i = .int .i64 (k : Int) ∧ Hid (∀ g, ma = some ⟨g, 0, none⟩ → 0 < n → CellsAt wr g (encZ ((l.take k).map (rgAdd K) ++ l.drop k))) ∧ Hid (Below w.heap.size w wr) ∧ Hid (w2.heap.size ≤ wr.heap.size)) (fun i _ => n - (intOf i).toNat)
        case atStart =>
          refine ⟨0, Nat.zero_le _, rfl, hide ?_, HB2, hide (Nat.le_refl _)⟩
          intro g hg h0
          obtain ⟨g', e, _, _, _, hc⟩ := HMF.out h0
          rw [hg] at e
          injection e with e
          injection e with e _ _
          subst e
          exact hc
        case round =>
          obtain ⟨k, hk, rfl, HC, HB, HS⟩ := hrel
          by_cases hlt : k < n
          · obtain ⟨g, rfl, hg1, hg2, hg3, _⟩ := HMF.out (by omega)
            obtain ⟨x, hx⟩ : ∃ x, l[k]? = some x := ⟨_, List.getElem?_eq_getElem (by rw [HN.out]; exact hlt)⟩
            have hc := HC.out g rfl (by omega)
            obtain ⟨g1, g2⟩ := encZ_get _ k x (flow_at K hx)
            obtain ⟨c1, _⟩ := hc _ _ g1
            obtain ⟨c2, f2⟩ := hc _ _ g2
            have hbx := HBD.out x (List.mem_of_getElem? hx)
            have HST := hide (hc.set (k * 2 + 1) (by have := (List.getElem?_eq_some_iff.1 g2).1; exact this) (.int .i64 (x.2 + min x.1 K)))
            rw [flow_set K hx] at HST
            obtain ⟨x1, hx1⟩ : ∃ z, z = x.1 := ⟨_, rfl⟩
            obtain ⟨x2, hx2⟩ : ∃ z, z = x.2 := ⟨_, rfl⟩
            rw [← hx1] at c1 hbx HST
            rw [← hx2] at c2 hbx HST
            obtain ⟨b1, b2, b3, b4⟩ := hbx
            have i0 : (0 : Int) ≤ (k : Int) := by omega
            have i1 : (k : Int) < (n : Int) := by omega
            have hgr : g < wr.heap.size := by have := HS.out; omega
            clear hx g1 g2 hx1 hx2 hc HC
            by_cases hmin : K < x1
            · have em : IntKind.i64.wrap (x2 + K) = x2 + min x1 K := by rw [IntKind.wrap_i64]; omega
              go_wp2_with fail
              go_region_with fail
              all_goals (try go_wp2_with fail)
              all_goals (try go_roundw)
              all_goals first
                | (refine ⟨k + 1, by omega, by go_num, hide ?_, hide ((Below.setCell HB.out (p := ⟨g, k * 2 + 1, none⟩) hg2 _).drew), hide (by have := HS.out; simpa [World.setCell] using this)⟩; intro g' e _; injection e with e; injection e with e _ _; subst e; exact HST.out)
                | (simp [intOf]; omega)
            · have em : IntKind.i64.wrap (x2 + x1) = x2 + min x1 K := by rw [IntKind.wrap_i64]; omega
              go_wp2_with fail
              go_region_with fail
              all_goals (try go_wp2_with fail)
              all_goals (try go_roundw)
              all_goals first
                | (refine ⟨k + 1, by omega, by go_num, hide ?_, hide ((Below.setCell HB.out (p := ⟨g, k * 2 + 1, none⟩) hg2 _).drew), hide (by have := HS.out; simpa [World.setCell] using this)⟩; intro g' e _; injection e with e; injection e with e _ _; subst e; exact HST.out)
                | (simp [intOf]; omega)
          · have hkn : k = n := by omega
            subst hkn
            have HPM : Hid (PartsV w.heap.size wr (.slice ma k mc) m) := hide (by
              have e0 : l.drop k = [] := List.drop_of_length_le (by rw [HN.out]; exact Nat.le_refl _)
              have e1 : l.take k = l := List.take_of_length_le (by rw [HN.out]; exact Nat.le_refl _)
              rcases Nat.eq_zero_or_pos k with h0 | h0
              · have : m = [] := List.eq_nil_of_length_eq_zero (by rw [HML.out]; exact h0)
                subst h0
                exact .inl ⟨_, _, rfl, this⟩
              · obtain ⟨g, rfl, hg1, hg2, hg3, _⟩ := HMF.out h0
                have hc := HC.out g rfl h0
                rw [e0, e1, List.append_nil, ← HM.out] at hc
                exact .inr ⟨g, mc, by rw [HML.out], by rw [HML.out]; exact hg3, hg2, by have := HS.out; omega, hc⟩)
            have NR := hide (newRigged_any m (.slice ma k mc) 0 wr HSM.out HPM.out hml2)
            have CK := hide (fun (v' : Value) (W : World) (lo : Nat) (h : PartsV lo W v' m) => checkParts_grw m v' W h (by omega))
            clear HC HMF HPM
            have hzr : w.heap.size ≤ wr.heap.size := HB.out.size
            go_wp2_with fail
            refine NR.out.mono ?_
            rintro e w3 ⟨rfl, v3, hr3, hb3⟩
            have R3 := hide hr3
            have c3 := hr3.items
            have B3 := hide (HB.out.trans (hb3.mono hzr))
            clear hr3 hb3
            have CK3 := hide (CK.out v3 w3 _ R3.out.parts)
            cases h5 : rgIn m
            · rw [h5] at CK3
              have NO3 := hide (NO.out h5)
              clear NO YES h5
              go_wp2_with fail
              refine CK3.out.mono ?_
              rintro e w4 ⟨⟨u, rfl, hu⟩, hg⟩
              obtain ⟨s, rfl⟩ := hu
              have B4 := hide (B3.out.trans (hg.below.mono B3.out.size))
              clear hg
              go_wp2_with fail
              go_ret2
              exact NO3.out _ _ B4.out
            · rw [h5] at CK3
              have YES3 := hide (YES.out h5)
              clear NO YES h5
              go_wp2_with fail
              refine CK3.out.mono ?_
              rintro e w4 ⟨⟨u, rfl, hu⟩, hg⟩
              obtain rfl : u = .nilIface := hu
              have B4 := hide (B3.out.trans (hg.below.mono B3.out.size))
              have P4 := hide ((R3.out.down hzr).parts.below hg.below (Nat.le_refl _))
              clear hg
              go_wp2_with fail
              go_ret2
              exact YES3.out _ _ P4.out B4.out

set_option maxHeartbeats 400000 in
theorem implRigFlow_any (l : List (Int × Int)) (v : Value) (K : Int) (w : World) {lo : Nat} (hE : EtAt w) (hP : PartsV lo w v l) (hl : l.length ≤ 1048576) :
    Calls Tryd.prog 9 #[v, .int .i64 K] w fun e w' => ∃ u, e = .returned (.tuple #[u, .bool (rgFlowOk l K)]) ∧ PartsV w.heap.size w' u (rgFlow l K) ∧ Below w.heap.size w w' := by
  have F := hide (flowOf_any l v K w hP hl)
  have HE := hide hE
  obtain ⟨b, hb⟩ : ∃ b, b = rgFlowOk l K := ⟨_, rfl⟩
  have HBB := hide hb
  rw [← hb]
  clear hP hE hb
  go_enter Tryd.func9, Tryd.ntmps9
  go_wp2_with fail
  refine F.out.mono ?_
  rintro e w1 ⟨u, f, rfl, hf, hp, hb1⟩
  rw [← HBB.out] at hf
  have S := hide (sound_any b f w1 (HE.out.below hb1 (Nat.le_refl _)) hf)
  have P1 := hide hp
  have B1 := hide hb1
  clear hf hp hb1
  go_wp2_with fail
  refine S.out.mono ?_
  rintro e w2 ⟨rfl, b2⟩
  have P2 := hide (P1.out.below b2 (Nat.le_refl _))
  have B2 := hide (B1.out.trans (b2.mono B1.out.size))
  clear b2
  go_wp2_with fail
  go_ret2
  exact ⟨_, rfl, P2.out, B2.out⟩
end Go.Proofs.YteibopcneflidabDoor

/- THE WALK of the law that steps are linear. -/
namespace Go.Proofs.YteibopcneflidabDoor
open Go.RowKit Go.Sort Go.Shelf

def rooms4 : List Int := [1, 2, 3, 200]
theorem rooms4_cells (w : World) (t : TypeId) : CellsAt (w.alloc (.cells #[.int .i64 1, .int .i64 2, .int .i64 3, .int .i64 200] t)) w.heap.size (rooms4.map (.int .i64)) := by
  intro j u hu
  refine ⟨?_, World.frozen?_alloc_at _ _ _ _ rfl⟩
  rw [World.cell?_alloc_at _ _ _ _ rfl]
  simpa [rooms4] using hu
theorem rooms4_ok : ∀ (k : Nat) (r : Int), rooms4[k]? = some r → 1 ≤ r ∧ r ≤ 200 := by
  intro k r h
  have := List.mem_of_getElem? h
  simp [rooms4] at this
  omega
/-- what a step of a high row says of its parts -/
theorem linear_facts {s : ByteArray} {K : Int} (h : highB s = true) (hk : stOk s K = true) (hK : 1 ≤ K ∧ K ≤ 200) :
    highB (stS s K) = true ∧ rgFlowOk (rgOf s) K = true ∧ rgFlow (rgOf s) K = rgOf (stS s K) := by
  obtain ⟨h1, h2, h3, h4⟩ := rigOf_step h hk (by omega)
  have hr : rmOk K = true := by unfold rmOk; simp; omega
  have h5 : rgFlowOk (rgOf s) K = true := by unfold rgFlowOk; rw [h3, hr, h4]; rfl
  exact ⟨h1, h5, by unfold rgFlow; rw [if_pos h5, h2]⟩

set_option maxRecDepth 100000 in
set_option maxHeartbeats 8000000 in
theorem walkFnLinear {w : World} (a : Option Addr) (len cap : Nat) (z : List Int) (hr : IsRow .u8 w a len cap z) (hE : EtAt w) :
    Calls Tryd.prog 3 #[.slice a len cap] w fun e w' => e = .returned (.bool true) ∧ Below w.heap.size w w' := by
  have hcap := hr.le
  have hmax := hr.max
  unfold maxLen at hmax
  by_cases hbig : 1048576 < len
  · go_enter Tryd.func3, Tryd.ntmps3
    go_wp2
    go_ret
    exact ⟨rfl, Below.refl _ _⟩
  · have D := hide (DrawRigOf_any a len cap z w (by omega) hcap hr.bytes)
    have HE := hide hE
    clear hr hE
    go_enter Tryd.func3, Tryd.ntmps3
    go_wp2_with fail
    refine D.out.mono ?_
    rintro e w1 ⟨s, rfl, hs, hb1⟩
    have B1 := hide hb1
    have hs' : s.size ≤ maxLen := by unfold maxLen; omega
    have IM := hide (fun (w : World) (hE : EtAt w) => implRigOf_any s w hE hs')
    have SP := hide (fun (w : World) => specRigOf_any s w hs')
    have hl60 := rgOf_length s
    have EQ := hide (fun (v v' : Value) (w : World) (lo lo' : Nat) (h : PartsV lo w v (rgOf s)) (h' : PartsV lo' w v' (rgOf s)) => sameParts_same (by unfold maxLen; omega) h h')
    clear hb1
    cases hok : highB s
    · rw [hok] at IM SP
      obtain ⟨l, hl⟩ : ∃ l, l = rgOf s := ⟨_, rfl⟩
      rw [← hl] at IM SP EQ
      clear hok hl hl60
      go_wp2_with fail
      refine (IM.out w1 (HE.out.below B1.out (Nat.le_refl _))).mono ?_
      rintro e w2 ⟨u1, rfl, i2, b2⟩
      have B2 := hide (B1.out.trans (b2.mono B1.out.size))
      have I2 := hide i2
      clear b2 i2
      go_wp2_with fail
      refine (SP.out w2).mono ?_
      rintro e w3 ⟨u2, rfl, i3, b3⟩
      have B3 := hide (B2.out.trans (b3.mono B2.out.size))
      have I3 := hide (I2.out.below b3 (Nat.le_refl _))
      have J3 := hide i3.1
      clear b3 i3
      go_wp2_with fail
      refine (EQ.out _ _ w3 _ _ I3.out J3.out).mono ?_
      rintro e w4 ⟨rfl, q4⟩
      have B4 := hide (B3.out.trans (q4.2 _))
      have I4 := hide (I3.out.below (q4.2 w3.heap.size) (Nat.le_refl _))
      have J4 := hide (J3.out.below (q4.2 w3.heap.size) (Nat.le_refl _))
      clear q4
      go_wp2_with fail
      refine (EQ.out _ _ w4 _ _ I4.out J4.out).mono ?_
      rintro e w5 ⟨rfl, q5⟩
      have B5 := hide (B4.out.trans (q5.2 _))
      clear q5
      go_wp2_with fail
      go_ret
      exact ⟨by simp, B5.out⟩
    · have FX : Hid (∀ r : Int, 1 ≤ r ∧ r ≤ 200 → ∃ (t : ByteArray) (ob hb fb : Bool) (x y : List (Int × Int)),
          (∀ w, Calls Tryd.prog 8 #[.string s, .int .i64 r] w (fun e w' => e = .returned (.tuple #[.string t, .bool ob]) ∧ Below w.heap.size w w')) ∧
          (∀ w, EtAt w → Calls Tryd.prog 5 #[.string t] w (fun e w' => ∃ u, e = .returned (.tuple #[u, .bool hb]) ∧ PartsV w.heap.size w' u x ∧ Below w.heap.size w w')) ∧
          (∀ (lo : Nat) (v : Value) w, EtAt w → PartsV lo w v (rgOf s) → Calls Tryd.prog 9 #[v, .int .i64 r] w (fun e w' => ∃ u, e = .returned (.tuple #[u, .bool fb]) ∧ PartsV w.heap.size w' u y ∧ Below w.heap.size w w')) ∧
          x.length ≤ 60 ∧ (ob = true → hb = true ∧ fb = true ∧ y = x)) := by
        intro r hr
        refine ⟨stS s r, stOk s r, highB (stS s r), rgFlowOk (rgOf s) r, rgOf (stS s r), rgFlow (rgOf s) r, fun w => implStepOf_any s r w hs', fun w hE => implRigOf_any _ w hE (by have := stS_size s r; unfold maxLen; omega), fun lo v w hE h => implRigFlow_any (rgOf s) v r w hE h (by omega), rgOf_length _, fun ho => linear_facts hok ho hr⟩
      rw [hok] at IM SP
      obtain ⟨l, hl⟩ : ∃ l, l = rgOf s := ⟨_, rfl⟩
      rw [← hl] at IM SP EQ FX
      clear hok hl hl60
      go_wp2_with fail
      refine (IM.out w1 (HE.out.below B1.out (Nat.le_refl _))).mono ?_
      rintro e w2 ⟨u1, rfl, i2, b2⟩
      have B2 := hide (B1.out.trans (b2.mono B1.out.size))
      have I2 := hide i2
      clear b2 i2
      go_wp2_with fail
      refine (SP.out w2).mono ?_
      rintro e w3 ⟨u2, rfl, i3, b3⟩
      have B3 := hide (B2.out.trans (b3.mono B2.out.size))
      have I3 := hide (I2.out.below b3 (Nat.le_refl _))
      have J3 := hide i3.1
      clear b3 i3
      go_wp2_with fail
      refine (EQ.out _ _ w3 _ _ I3.out J3.out).mono ?_
      rintro e w4 ⟨rfl, q4⟩
      have B4 := hide (B3.out.trans (q4.2 _))
      have I4 := hide (I3.out.below (q4.2 w3.heap.size) (Nat.le_refl _))
      have G5 := hide (B4.out.alloc B4.out.size (.cells #[.int .i64 1, .int .i64 2, .int .i64 3, .int .i64 200] 3))
      have HR := hide (rooms4_cells w4 3)
      have I5 := hide (I4.out.below ((Below.refl w4.heap.size w4).alloc (Nat.le_refl _) (.cells #[.int .i64 1, .int .i64 2, .int .i64 3, .int .i64 200] 3)) (Nat.le_refl _))
      clear q4 I3 J3 I2 IM SP EQ
      go_wp2
      go_loopw [9] (fun i wr => ∃ k : Nat, k ≤ 4 ∧ i = .int .i64 (k : Int) ∧ Hid (CellsAt wr w4.heap.size (rooms4.map (.int .i64))) ∧ Hid (PartsV w1.heap.size wr u1 l) ∧ Hid (Below w.heap.size w wr) ∧ w4.heap.size < wr.heap.size) (fun i _ => 4 - (intOf i).toNat)
      case atStart => exact ⟨0, Nat.zero_le _, rfl, HR, I5, G5, by simp⟩
      case round =>
        obtain ⟨k, hk4, rfl, HC, HV, HB, hsz⟩ := hrel
        by_cases hlt : k < 4
        · obtain ⟨r, hr⟩ : ∃ r, rooms4[k]? = some r := ⟨_, List.getElem?_eq_getElem (by simpa [rooms4] using hlt)⟩
          obtain ⟨t, ob, hb, fb, x, y, C1, C2, C3, hx, C4⟩ := FX.out r (rooms4_ok k r hr)
          have C1 := hide C1
          have C2 := hide C2
          have C3 := hide C3
          have HX := hide hx
          have hcell := (HC.out k (.int .i64 r) (by simp [hr])).1
          have HRR := hide hr
          clear hr hx
          have i0 : (0 : Int) ≤ (k : Int) := by omega
          have i1 : (k : Int) < 4 := by omega
          go_wp2_with fail
          refine (C1.out wr).mono ?_
          rintro e w5 ⟨rfl, b5⟩
          have HC5 := hide (HC.out.below b5 hsz)
          have HV5 := hide (HV.out.below b5 (Nat.le_refl _))
          have HB5 := hide (HB.out.trans (b5.mono HB.out.size))
          have hz5 : w4.heap.size < w5.heap.size := Nat.lt_of_lt_of_le hsz b5.size
          clear hcell b5
          go_wp2_with fail
          refine (C2.out w5 (HE.out.below HB5.out (Nat.le_refl _))).mono ?_
          rintro e w6 ⟨ux, rfl, p6, b6⟩
          have HC6 := hide (HC5.out.below b6 hz5)
          have HV6 := hide (HV5.out.below b6 (Nat.le_refl _))
          have HB6 := hide (HB5.out.trans (b6.mono HB5.out.size))
          have hz6 : w4.heap.size < w6.heap.size := Nat.lt_of_lt_of_le hz5 b6.size
          have PX := hide p6
          have hcell := (HC6.out k (.int .i64 r) (by simp [HRR.out])).1
          clear b6 p6
          go_wp2_with fail
          refine (C3.out _ _ w6 (HE.out.below HB6.out (Nat.le_refl _)) HV6.out).mono ?_
          rintro e w7 ⟨uy, rfl, p7, b7⟩
          have HC7 := hide (HC6.out.below b7 hz6)
          have HV7 := hide (HV6.out.below b7 (Nat.le_refl _))
          have HB7 := hide (HB6.out.trans (b7.mono HB6.out.size))
          have hz7 : w4.heap.size < w7.heap.size := Nat.lt_of_lt_of_le hz6 b7.size
          have PX7 := hide (PX.out.below b7 (Nat.le_refl _))
          have PY7 := hide p7
          clear b7 p7 hcell
          cases ob
          · clear C4
            go_wp2_with fail
            go_roundw
            case rel => exact ⟨k + 1, by omega, by go_num, HC7, HV7, HB7, hz7⟩
            case measure => simp [intOf]; omega
          · obtain ⟨rfl, rfl, rfl⟩ := C4 rfl
            have EQ7 := hide (sameParts_same (by have := HX.out; unfold maxLen; omega) PX7.out PY7.out)
            go_wp2_with fail
            refine EQ7.out.mono ?_
            rintro e w8 ⟨rfl, q8⟩
            have HC8 := hide (HC7.out.below (q8.2 w7.heap.size) hz7)
            have HV8 := hide (HV7.out.below (q8.2 w7.heap.size) (Nat.le_refl _))
            have HB8 := hide (HB7.out.trans (q8.2 _))
            have hz8 : w4.heap.size < w8.heap.size := Nat.lt_of_lt_of_le hz7 (q8.2 0).size
            clear q8
            go_wp2_with fail
            go_roundw
            case rel => exact ⟨k + 1, by omega, by go_num, HC8, HV8, HB8, hz8⟩
            case measure => simp [intOf]; omega
        · go_wp2
          go_ret
          exact ⟨rfl, HB.out⟩
end Go.Proofs.YteibopcneflidabDoor
