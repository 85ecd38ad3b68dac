/- TEXTS Spec4, Spec4b. -/
import Derived.Test.YteibopcneflidabGreatDoorRo09
import Derived.Test.YteibopcneflidabGreatDoorRo24
import Derived.Test.YteibopcneflidabGreatDoorRo17
import Derived.Test.YteibopcneflidabGreatDoorRo07
import Derived.Test.YteibopcneflidabGreatDoorRo02
/- THE WALKS of the model's RigIn, RigRoom, RigFits, RigSizes; the program's compareParts. -/
namespace Go.Proofs.YteibopcneflidabGreatDoor
open Go.RowKit Go.Sort Go.Shelf

theorem grw_same {f : FuncId} {args : Array Value} {v : Value} (h : ∀ w, Calls Tryz.prog f args w fun e w' => e = .returned v ∧ w = w') (W : World) :
    Calls Tryz.prog f args W fun e w' => e = .returned v ∧ ∃ (q : Nat) (os : Array Obj), w' = grow (W.drewN q) os :=
  (h W).mono (by rintro e w' ⟨rfl, rfl⟩; exact ⟨rfl, Grw.refl _⟩)

end Go.Proofs.YteibopcneflidabGreatDoor

/- THE WALKS of the model's RigRoom, RigFits, RigSizes; of the program's RigSizes. -/
namespace Go.Proofs.YteibopcneflidabGreatDoor
open Go.RowKit Go.Sort Go.Shelf

theorem rgIn_small {l : List (Int × Int)} (h : rgIn l = true) : l.length ≤ 1000 ∧ ∀ a ∈ l, 0 ≤ a.1 ∧ a.1 ≤ 1000 := by
  obtain ⟨h1, _, h3⟩ := (rgIn_iff l).1 h
  exact ⟨by omega, fun a ha => by have := h1 a ha; omega⟩

/-- the loop that lists sizes -/
def SzRel (l : List (Int × Int)) (N B : Nat) (w : World) (o i : Value) (wr : World) : Prop :=
  ∃ k : Nat, k ≤ N ∧ i = .int .i64 (k : Int) ∧ Hid (wr.ownsRow B 3 1 o k (((l.take k).map (fun a => a.1)).map (.int .i64))) ∧ Hid (Below B w wr) ∧ B ≤ wr.heap.size
theorem sz_next {l : List (Int × Int)} {k : Nat} {x : Int × Int} (hx : l[k]? = some x) : (((l.take (k + 1)).map (fun a => a.1)).map (Value.int .i64)) = (((l.take k).map (fun a => a.1)).map (Value.int .i64)) ++ [.int .i64 x.1] := by
  rw [List.take_add_one, hx, List.map_append, List.map_append]
  rfl

set_option maxHeartbeats 2000000 in
theorem implRigSizes_any (l : List (Int × Int)) (v : Value) (w : World) {lo : Nat} (hE : EtAt w) (hP : PartsV lo w v l) (hl : l.length ≤ 1048576) :
    Calls Tryz.prog 9 #[v] w fun e w' => ∃ u, e = .returned (.tuple #[u, .bool (rgIn l)]) ∧ IntsV w.heap.size w' u (rgSizes l) ∧ Below w.heap.size w w' := by
  have C := hide (checkParts_grw l v w hP hl)
  have HE := hide hE
  obtain ⟨B, hB⟩ : ∃ B, B = w.heap.size := ⟨_, rfl⟩
  rw [← hB]
  cases h1 : rgIn l
  · rw [h1] at C
    have e1 : rgSizes l = [] := by unfold rgSizes; rw [h1]; rfl
    rw [e1]
    clear e1 h1 hP hE
    go_enter Tryz.func9, Tryz.ntmps9
    go_wp2_with fail
    refine C.out.mono ?_
    rintro e w1 ⟨⟨u, rfl, hu⟩, hg⟩
    have HB := hide hg.below
    have SO := hide (sound_any false u w1 (HE.out.below hg.below (Nat.le_refl _)) hu)
    clear hu hg
    go_wp2_with fail
    refine SO.out.mono ?_
    rintro e w2 ⟨rfl, hb2⟩
    have HB2 := hide hb2
    clear hb2
    go_wp2_with fail
    go_ret2
    exact ⟨_, rfl, .inl ⟨_, _, rfl, rfl⟩, by rw [hB]; exact HB.out.trans (HB2.out.mono HB.out.size)⟩
  · rw [h1] at C
    obtain ⟨s1, _⟩ := rgIn_small h1
    obtain ⟨i0, hi, hz0', hz1, hz2⟩ := info_parts infoI
    have e1 : rgSizes l = l.map (fun a => a.1) := by unfold rgSizes; rw [h1]; rfl
    rw [e1]
    obtain ⟨N, hN⟩ : ∃ N, l.length = N := ⟨_, rfl⟩
    obtain ⟨a, c, rfl, hf⟩ := hP.form hN
    have HN := hide hN
    have HF := hide hf
    rw [hN] at s1
    clear e1 h1 hP hN hf hl hE
    go_enter Tryz.func9, Tryz.ntmps9
    go_wp2_with fail
    refine C.out.mono ?_
    rintro e w1 ⟨⟨u, rfl, hu⟩, hg⟩
    have HB := hide hg.below
    have SO := hide (sound_any true u w1 (HE.out.below hg.below (Nat.le_refl _)) hu)
    clear hu hg
    go_wp2_with fail
    refine SO.out.mono ?_
    rintro e w2 ⟨rfl, hb2⟩
    have HB2 : Hid (Below B w w2) := by rw [hB]; exact HB.out.trans (hb2.mono HB.out.size)
    have hz2' : B ≤ w2.heap.size := by have := HB.out.size; have := hb2.size; omega
    clear hb2
    go_wp2
    go_loopw [4, 13] (SzRel l N B w) (fun _ i _ => N - (intOf i).toNat)
    case atStart => exact ⟨0, Nat.zero_le _, rfl, World.ownsRow_nil _ _ _ _, HB2.out, hz2'⟩
    case round =>
      obtain ⟨k, hk, rfl, HO, HBW, hzr⟩ := hrel
      by_cases hlt : k < N
      · obtain ⟨q, rfl, hq0, hq⟩ := HF.out (by omega)
        obtain ⟨x, hx⟩ : ∃ x, l[k]? = some x := ⟨_, List.getElem?_eq_getElem (by rw [HN.out]; exact hlt)⟩
        obtain ⟨g1, g2⟩ := encZ_get l k x hx
        have hqr := hq.below' HBW.out (by omega)
        have d1 := (hqr _ _ g1).1
        have d2 := (hqr _ _ g2).1
        have hql : q < wr.heap.size := by omega
        have HNX := hide (sz_next hx)
        obtain ⟨x1, hx1⟩ : ∃ z, z = x.1 := ⟨_, rfl⟩
        obtain ⟨x2, hx2⟩ : ∃ z, z = x.2 := ⟨_, rfl⟩
        rw [← hx1] at d1 HNX
        rw [← hx2] at d2
        have i0' : (0 : Int) ≤ (k : Int) := by omega
        have i1 : (k : Int) < (N : Int) := by omega
        have HO2 := hide ((HO.out.alloc (.cells #[.int .i64 x1, .int .i64 x2] 48)).alloc (.cells #[.int .i64 x1] 3))
        have HB2 := hide ((HBW.out.alloc hzr (.cells #[.int .i64 x1, .int .i64 x2] 48)).alloc (by simp; omega) (.cells #[.int .i64 x1] 3))
        clear hx g1 g2 hqr hx1 hx2
        go_wp2_with (at_builtin; refine wpList_append_own _ rfl _ _ 30 rfl B 3 i0 (.int .i64 0) 1 8 Tryz.underlying30 hi hz0' hz1 hz2 rfl (by decide) _ _ _ rfl HO2.out ⟨wr.heap.size + 1, 0, none⟩ 1 1 [.int .i64 x1] rfl rfl (by have h := cell_one_new (wr.alloc (.cells #[.int .i64 x1, .int .i64 x2] 48)) (.int .i64 x1) 3; rw [World.size_alloc] at h; exact h) (by simp [Value.oneCell']) (by unfold maxLen; omega) (by omega) (by simp; omega) ?_; intro v' w5 hown' hgrow _; have HO5 := hide hown'; have HB5 := hide (HB2.out.grown hgrow (by simp; omega) (fun b e => (HO2.out.lt b e).1)); have hz5 := hgrow.size; clear hown' hgrow)
        go_roundw
        case rel =>
          refine ⟨k + 1, by omega, by go_num, ?_, HB5.out, by simp at hz5; omega⟩
          show World.ownsRow _ _ _ _ _ _ _
          rw [HNX.out]
          exact HO5.out
        case measure => simp [intOf]; omega
      · have hkn : k = N := by omega
        have HE : Hid (l.take k = l) := List.take_of_length_le (by rw [HN.out]; omega)
        rw [HE.out] at HO
        go_wp2
        go_ret2
        exact ⟨_, rfl, IntsV.of_owns (e := 3) HO.out, HBW.out⟩
end Go.Proofs.YteibopcneflidabGreatDoor
