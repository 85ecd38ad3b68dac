/- TEXTS Spec4b. -/
import Derived.Test.YteibopcneflidaaDoorRa28
import Derived.Test.YteibopcneflidaaDoorRa30
import Derived.Test.YteibopcneflidaaDoorRa07
import Derived.Test.YteibopcneflidaaDoorRa10
/- THE WALKS of the model's RigRoom, RigFits, RigSizes; of the program's RigSizes. -/
namespace Go.Proofs.YteibopcneflidaaDoor
open Go.RowKit Go.Sort Go.Shelf

theorem rgIn_small {l : List (Int × Int)} (h : rgIn l = true) : l.length ≤ 1000 ∧ ∀ a ∈ l, 0 ≤ a.1 ∧ a.1 ≤ 1000 := by
  obtain ⟨h1, _, h3⟩ := (rgIn_iff l).1 h
  exact ⟨by omega, fun a ha => by have := h1 a ha; omega⟩

set_option maxHeartbeats 2000000 in
theorem specRigFits_any (l : List (Int × Int)) (v : Value) (n : Int) (w : World) {lo : Nat} (hP : PartsV lo w v l) (hl : l.length ≤ 1048576) :
    Calls Tryd.prog 26 #[v, .int .i64 n] w fun e w' => e = .returned (.bool (rgFits l n)) ∧ Below w.heap.size w w' := by
  have CI := hide (specRigIn_any l v w hP hl)
  have CB := hide (fun w => l6In_any n 0 120 (rgBox n) w rfl)
  have HP := hide hP
  cases h1 : rgIn l
  · have e1 : rgFits l n = false := by unfold rgFits; rw [h1]; rfl
    rw [h1] at CI
    rw [e1]
    clear e1 h1 hP
    go_enter Tryd.func26, Tryd.ntmps26
    go_wp2_with (go_at_call 29; refine CI.out.mono ?_; rintro e w1 ⟨rfl, g1⟩; have G1 := hide g1; clear g1)
    go_ret
    exact ⟨rfl, G1.out.below⟩
  · cases h2 : rgBox n
    · have e1 : rgFits l n = false := by unfold rgFits; rw [h1, h2]; rfl
      rw [h1] at CI
      rw [h2] at CB
      rw [e1]
      clear e1 h1 h2 hP
      go_enter Tryd.func26, Tryd.ntmps26
      go_wp2_with (first | (go_at_call 29; refine CI.out.mono ?_; rintro e w1 ⟨rfl, g1⟩; have G1 := hide g1; clear g1) | (go_at_call 50; refine (CB.out _).mono ?_; rintro e w' ⟨rfl, rfl⟩))
      go_ret
      exact ⟨rfl, G1.out.below⟩
    · obtain ⟨s1, s2⟩ := rgIn_small h1
      have hn := (rgBox_iff n).1 h2
      have CR := hide (fun (x : Int) (hx : 0 ≤ x ∧ x ≤ 1000) (W : World) (h : PartsV lo W v l) => specRoom_any l v n x W lo h s1 s2 hx (by omega))
      have H0 := hide s2
      have HIN := hide h1
      have HBX := hide hn
      rw [h1] at CI
      rw [h2] at CB
      obtain ⟨N, hN⟩ : ∃ N, l.length = N := ⟨_, rfl⟩
      obtain ⟨a, c, rfl, hf⟩ := hP.form hN
      have HN := hide hN
      have HF := hide hf
      rw [hN] at s1
      have HFR : Hid (rgFits l n = l.all (fun a => decide (a.2 ≤ pRoom l n a.1))) := by show _ = _; unfold rgFits; rw [h1, h2]; rfl
      obtain ⟨rf, hrf⟩ : ∃ rf, rf = rgFits l n := ⟨_, rfl⟩
      rw [← hrf] at HFR ⊢
      clear h1 h2 hP s2 hn hN hf hl hrf
      go_enter Tryd.func26, Tryd.ntmps26
      go_wp2_with (first | (go_at_call 29; refine CI.out.mono ?_; rintro e w1 ⟨rfl, g1⟩; have G1 := hide g1; clear g1) | (go_at_call 50; refine (CB.out _).mono ?_; rintro e w' ⟨rfl, rfl⟩))
      go_loopw [5] (fun i wr => ∃ k : Nat, k ≤ N ∧ i = .int .i64 (k : Int) ∧ Hid ((l.take k).all (fun a => decide (a.2 ≤ pRoom l n a.1)) = true) ∧ Hid (Quiet w1 wr)) (fun i _ => N - (intOf i).toNat)
      case atStart => exact ⟨0, Nat.zero_le _, rfl, rfl, Quiet.refl _⟩
      case round =>
        obtain ⟨k, hk, rfl, HS, HQ⟩ := hrel
        by_cases hlt : k < N
        · obtain ⟨q, rfl, hq0, hq⟩ := HF.out (by omega)
          obtain ⟨x, hx⟩ : ∃ x, l[k]? = some x := ⟨_, List.getElem?_eq_getElem (by rw [HN.out]; exact hlt)⟩
          obtain ⟨g1, g2⟩ := encZ_get l k x hx
          have hqr := HQ.out.cells (G1.out.cells hq)
          have d1 := (hqr _ _ g1).1
          have d2 := (hqr _ _ g2).1
          have hmem := List.mem_of_getElem? hx
          have hbx := H0.out x hmem
          have HNX : Hid ((l.take (k + 1)).all (fun a => decide (a.2 ≤ pRoom l n a.1)) = decide (x.2 ≤ pRoom l n x.1)) := by
            show _ = _
            rw [List.take_add_one, hx, List.all_append, HS.out]
            simp
          have HBAD : Hid (¬ x.2 ≤ pRoom l n x.1 → rf = false) := by
            intro h
            rw [HFR.out, List.all_eq_false]
            exact ⟨x, hmem, by simpa using h⟩
          obtain ⟨x1, hx1⟩ : ∃ z, z = x.1 := ⟨_, rfl⟩
          obtain ⟨x2, hx2⟩ : ∃ z, z = x.2 := ⟨_, rfl⟩
          obtain ⟨t, ht⟩ : ∃ z, z = pRoom l n x.1 := ⟨_, rfl⟩
          have CR2 := hide (fun (N : Nat) => CR.out x.1 hbx (wr.drewN N) ((HP.out.below G1.out.below (Nat.le_refl _)).below ((HQ.out.trans (Quiet.drewN N)).2 w1.heap.size) (Nat.le_refl _)))
          rw [← ht] at HNX HBAD CR2
          rw [← hx1] at d1 CR2
          rw [← hx2] at d2 HNX HBAD
          have i0 : (0 : Int) ≤ (k : Int) := by omega
          have i1 : (k : Int) < (N : Int) := by omega
          clear hx g1 g2 hqr hmem hbx hx1 hx2 ht
          by_cases hle : t < x2
          · have HE := hide (HBAD.out (by omega))
            have hd : decide (t < x2) = true := decide_eq_true hle
            go_wp2
            go_quiet ((go_at_call 43; exact Calls.quiet_of_same (CR2.out _)))
            go_wp2
            go_ret
            exact ⟨by rw [HE.out]; rfl, G1.out.below.trans ((HQ.out.trans (Quiet.drewN _)).2 _)⟩
          · have hd : decide (t < x2) = false := decide_eq_false hle
            have HN2 := hide (HNX.out.trans (decide_eq_true (show x2 ≤ t by omega)))
            go_wp2
            go_quiet ((go_at_call 43; exact Calls.quiet_of_same (CR2.out _)))
            go_wp2
            go_roundw
            case rel => exact ⟨k + 1, by omega, by go_num, HN2.out, HQ.out.trans (Quiet.drewN _)⟩
            case measure => simp [intOf]; omega
        · have HE : Hid (rf = true) := by
            rw [HFR.out]
            have := HS.out
            rw [List.take_of_length_le (by rw [HN.out]; omega)] at this
            exact this
          go_wp2
          go_ret
          exact ⟨by rw [HE.out]; rfl, G1.out.below.trans (HQ.out.2 _)⟩

/-- the loop that lists sizes -/
def SzRel (l : List (Int × Int)) (N B : Nat) (w : World) (o i : Value) (wr : World) : Prop :=
  ∃ k : Nat, k ≤ N ∧ i = .int .i64 (k : Int) ∧ Hid (wr.ownsRow B 3 1 o k (((l.take k).map (fun a => a.1)).map (.int .i64))) ∧ Hid (Below B w wr) ∧ B ≤ wr.heap.size
theorem sz_next {l : List (Int × Int)} {k : Nat} {x : Int × Int} (hx : l[k]? = some x) : (((l.take (k + 1)).map (fun a => a.1)).map (Value.int .i64)) = (((l.take k).map (fun a => a.1)).map (Value.int .i64)) ++ [.int .i64 x.1] := by
  rw [List.take_add_one, hx, List.map_append, List.map_append]
  rfl

set_option maxHeartbeats 2000000 in
theorem implRigSizes_any (l : List (Int × Int)) (v : Value) (w : World) {lo : Nat} (hE : EtAt w) (hP : PartsV lo w v l) (hl : l.length ≤ 1048576) :
    Calls Tryd.prog 18 #[v] w fun e w' => ∃ u, e = .returned (.tuple #[u, .bool (rgIn l)]) ∧ IntsV w.heap.size w' u (rgSizes l) ∧ Below w.heap.size w w' := by
  have C := hide (checkParts_grw l v w hP hl)
  have HE := hide hE
  obtain ⟨B, hB⟩ : ∃ B, B = w.heap.size := ⟨_, rfl⟩
  rw [← hB]
  cases h1 : rgIn l
  · rw [h1] at C
    have e1 : rgSizes l = [] := by unfold rgSizes; rw [h1]; rfl
    rw [e1]
    clear e1 h1 hP hE
    go_enter Tryd.func18, Tryd.ntmps18
    go_wp2_with fail
    refine C.out.mono ?_
    rintro e w1 ⟨⟨u, rfl, hu⟩, hg⟩
    have HB := hide hg.below
    have SO := hide (sound_any false u w1 (HE.out.below hg.below (Nat.le_refl _)) hu)
    clear hu hg
    go_wp2_with fail
    refine SO.out.mono ?_
    rintro e w2 ⟨rfl, hb2⟩
    have HB2 := hide hb2
    clear hb2
    go_wp2_with fail
    go_ret2
    exact ⟨_, rfl, .inl ⟨_, _, rfl, rfl⟩, by rw [hB]; exact HB.out.trans (HB2.out.mono HB.out.size)⟩
  · rw [h1] at C
    obtain ⟨s1, _⟩ := rgIn_small h1
    obtain ⟨i0, hi, hz0', hz1, hz2⟩ := info_parts infoI
    have e1 : rgSizes l = l.map (fun a => a.1) := by unfold rgSizes; rw [h1]; rfl
    rw [e1]
    obtain ⟨N, hN⟩ : ∃ N, l.length = N := ⟨_, rfl⟩
    obtain ⟨a, c, rfl, hf⟩ := hP.form hN
    have HN := hide hN
    have HF := hide hf
    rw [hN] at s1
    clear e1 h1 hP hN hf hl hE
    go_enter Tryd.func18, Tryd.ntmps18
    go_wp2_with fail
    refine C.out.mono ?_
    rintro e w1 ⟨⟨u, rfl, hu⟩, hg⟩
    have HB := hide hg.below
    have SO := hide (sound_any true u w1 (HE.out.below hg.below (Nat.le_refl _)) hu)
    clear hu hg
    go_wp2_with fail
    refine SO.out.mono ?_
    rintro e w2 ⟨rfl, hb2⟩
    have HB2 : Hid (Below B w w2) := by rw [hB]; exact HB.out.trans (hb2.mono HB.out.size)
    have hz2' : B ≤ w2.heap.size := by have := HB.out.size; have := hb2.size; omega
    clear hb2
    go_wp2
    go_loopw [4, 13] (SzRel l N B w) (fun _ i _ => N - (intOf i).toNat)
    case atStart => exact ⟨0, Nat.zero_le _, rfl, World.ownsRow_nil _ _ _ _, HB2.out, hz2'⟩
    case round =>
      obtain ⟨k, hk, rfl, HO, HBW, hzr⟩ := hrel
      by_cases hlt : k < N
      · obtain ⟨q, rfl, hq0, hq⟩ := HF.out (by omega)
        obtain ⟨x, hx⟩ : ∃ x, l[k]? = some x := ⟨_, List.getElem?_eq_getElem (by rw [HN.out]; exact hlt)⟩
        obtain ⟨g1, g2⟩ := encZ_get l k x hx
        have hqr := hq.below' HBW.out (by omega)
        have d1 := (hqr _ _ g1).1
        have d2 := (hqr _ _ g2).1
        have hql : q < wr.heap.size := by omega
        have HNX := hide (sz_next hx)
        obtain ⟨x1, hx1⟩ : ∃ z, z = x.1 := ⟨_, rfl⟩
        obtain ⟨x2, hx2⟩ : ∃ z, z = x.2 := ⟨_, rfl⟩
        rw [← hx1] at d1 HNX
        rw [← hx2] at d2
        have i0' : (0 : Int) ≤ (k : Int) := by omega
        have i1 : (k : Int) < (N : Int) := by omega
        have HO2 := hide ((HO.out.alloc (.cells #[.int .i64 x1, .int .i64 x2] 48)).alloc (.cells #[.int .i64 x1] 3))
        have HB2 := hide ((HBW.out.alloc hzr (.cells #[.int .i64 x1, .int .i64 x2] 48)).alloc (by simp; omega) (.cells #[.int .i64 x1] 3))
        clear hx g1 g2 hqr hx1 hx2
        go_wp2_with (at_builtin; refine wpList_append_own _ rfl _ _ 34 rfl B 3 i0 (.int .i64 0) 1 8 Tryd.underlying34 hi hz0' hz1 hz2 rfl (by decide) _ _ _ rfl HO2.out ⟨wr.heap.size + 1, 0, none⟩ 1 1 [.int .i64 x1] rfl rfl (by have h := cell_one_new (wr.alloc (.cells #[.int .i64 x1, .int .i64 x2] 48)) (.int .i64 x1) 3; rw [World.size_alloc] at h; exact h) (by simp [Value.oneCell']) (by unfold maxLen; omega) (by omega) (by simp; omega) ?_; intro v' w5 hown' hgrow _; have HO5 := hide hown'; have HB5 := hide (HB2.out.grown hgrow (by simp; omega) (fun b e => (HO2.out.lt b e).1)); have hz5 := hgrow.size; clear hown' hgrow)
        go_roundw
        case rel =>
          refine ⟨k + 1, by omega, by go_num, ?_, HB5.out, by simp at hz5; omega⟩
          show World.ownsRow _ _ _ _ _ _ _
          rw [HNX.out]
          exact HO5.out
        case measure => simp [intOf]; omega
      · have hkn : k = N := by omega
        have HE : Hid (l.take k = l) := List.take_of_length_le (by rw [HN.out]; omega)
        rw [HE.out] at HO
        go_wp2
        go_ret2
        exact ⟨_, rfl, IntsV.of_owns (e := 3) HO.out, HBW.out⟩
end Go.Proofs.YteibopcneflidaaDoor
