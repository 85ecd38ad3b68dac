/- TEXTS Fit4. -/
import Derived.Test.YteibopcneflidabGreatDoorRo18
/- THE WALKS of readParts, readFitting, roomIn, and the program's RigRoom, RigFits. -/
namespace Go.Proofs.YteibopcneflidabGreatDoor
open Go.RowKit Go.Sort Go.Shelf

theorem RigAt.down {w : World} {r lo lo' : Nat} {v : Value} {l : List (Int × Int)} {m : Int} (h : RigAt w r lo v l m) (hl : lo' ≤ lo) : RigAt w r lo' v l m :=
  ⟨h.fn, h.items, h.boxes, h.free, owns_lo h.own hl, h.ne, Nat.le_trans hl h.lo_le⟩

set_option maxHeartbeats 1000000 in
theorem readParts_ok (l : List (Int × Int)) (v : Value) (n : Int) (w : World) {lo : Nat} (hP : PartsV lo w v l) (hin : rgIn l = true) (hn : 0 ≤ n ∧ n ≤ 120) :
    Calls Tryz.prog 55 #[v, .int .i64 n] w fun e w' => ∃ r v', e = .returned (.tuple #[.pointer (some ⟨r, 0, none⟩), .nilIface]) ∧ RigAt w' r w.heap.size v' l n ∧ Below w.heap.size w w' := by
  obtain ⟨hb, hs, hl⟩ := (rgIn_iff l).1 hin
  have C := hide (checkParts_grw l v w hP (by omega))
  rw [hin] at C
  have NR := hide (fun (W : World) (h : PartsV lo W v l) => newRigged_any l v n W hs h (by omega))
  have HP := hide hP
  obtain ⟨n0, n1⟩ := hn
  have h1 : ¬ n < 0 := by omega
  have h2 : ¬ (120 : Int) < n := by omega
  clear hb hs hl hP
  go_enter Tryz.func55, Tryz.ntmps55
  go_wp2_with fail
  refine C.out.mono ?_
  rintro e w1 ⟨⟨u, rfl, hu⟩, hg⟩
  obtain rfl : u = .nilIface := hu
  have HB1 := hide hg.below
  clear hg
  go_wp2_with fail
  refine (NR.out w1 (HP.out.below HB1.out (Nat.le_refl _))).mono ?_
  rintro e w2 ⟨rfl, v', hr, hb2⟩
  have HR := hide hr
  have HB2 := hide hb2
  clear hr hb2
  go_wp2_with fail
  go_ret2
  exact ⟨_, v', rfl, HR.out.down HB1.out.size, HB1.out.trans (HB2.out.mono HB1.out.size)⟩

set_option maxHeartbeats 1000000 in
theorem readParts_no (l : List (Int × Int)) (v : Value) (n : Int) (w : World) {lo : Nat} (hP : PartsV lo w v l) (hl : l.length ≤ 1048576) (hno : (rgIn l && rgBox n) = false) :
    Calls Tryz.prog 55 #[v, .int .i64 n] w fun e w' => ∃ s, e = .returned (.tuple #[.pointer none, .iface 73 (.string s)]) ∧ Below w.heap.size w w' := by
  have C := hide (checkParts_grw l v w hP hl)
  by_cases h1 : n < 0
  · go_enter Tryz.func55, Tryz.ntmps55
    go_wp2_with fail
    go_ret2
    first | exact ⟨_, rfl, Below.refl _ _⟩ | exact ⟨⟨_, rfl⟩, Below.refl _ _⟩
  · by_cases h2 : (120 : Int) < n
    · go_enter Tryz.func55, Tryz.ntmps55
      go_wp2_with fail
      go_ret2
      first | exact ⟨_, rfl, Below.refl _ _⟩ | exact ⟨⟨_, rfl⟩, Below.refl _ _⟩
    · have hb : rgBox n = true := (rgBox_iff n).2 ⟨by omega, by omega⟩
      rw [hb, Bool.and_true] at hno
      rw [hno] at C
      clear hP hb
      go_enter Tryz.func55, Tryz.ntmps55
      go_wp2_with fail
      refine C.out.mono ?_
      rintro e w1 ⟨⟨u, rfl, hu⟩, hg⟩
      obtain ⟨s, rfl⟩ := hu
      have HB1 := hide hg.below
      clear hg
      go_wp2_with fail
      go_ret2
      exact ⟨_, rfl, HB1.out⟩

theorem rgRoomOk_iff (l : List (Int × Int)) (n j : Int) : rgRoomOk l n j = true ↔ rgIn l = true ∧ (0 ≤ n ∧ n ≤ 120) ∧ 1 ≤ j ∧ j ≤ 60 := by
  unfold rgRoomOk szOne
  rw [Bool.and_eq_true, Bool.and_eq_true, rgBox_iff, and_assoc]
  simp

/-- what readFitting hands back -/
def FitPost (w : World) (l : List (Int × Int)) (n : Int) (ok : Bool) (e : Ending) (w' : World) : Prop :=
  if ok then ∃ r v', e = .returned (.tuple #[.pointer (some ⟨r, 0, none⟩), .nilIface]) ∧ RigAt w' r w.heap.size v' l n else ∃ s, e = .returned (.tuple #[.pointer none, .iface 73 (.string s)])

set_option maxRecDepth 100000 in
set_option maxHeartbeats 4000000 in
/-- readFitting: a rigged partition that fits, or a fault -/
theorem readFitting_any (l : List (Int × Int)) (v : Value) (n : Int) (w : World) {lo : Nat} (hP : PartsV lo w v l) (hl : l.length ≤ 1048576) :
    Calls Tryz.prog 30 #[v, .int .i64 n] w fun e w' => FitPost w l n (rgFits l n) e w' ∧ Below w.heap.size w w' := by
  have mixed : Tryz.prog.follows .mixedOrders = true := by kernel_rfl
  cases hok : (rgIn l && rgBox n)
  · have e0 : rgFits l n = false := by unfold rgFits; rw [hok]; rfl
    rw [e0]
    have C := hide (readParts_no l v n w hP hl hok)
    clear hP e0 hok
    go_enter Tryz.func30, Tryz.ntmps30
    go_wp2_with fail
    refine C.out.mono ?_
    rintro e w1 ⟨s, rfl, hb1⟩
    have HB1 := hide hb1
    clear hb1
    go_wp2_with fail
    go_ret2
    exact ⟨⟨_, rfl⟩, HB1.out⟩
  · rw [Bool.and_eq_true] at hok
    obtain ⟨hin, hbox⟩ := hok
    have hnn := (rgBox_iff n).1 hbox
    have C := hide (readParts_ok l v n w hP hin hnn)
    obtain ⟨hb, hs, h60⟩ := (rgIn_iff l).1 hin
    have RM := hide (fun (r : Nat) (v' : Value) (j : Int) (hj : 1 ≤ j ∧ j ≤ 60) (W : World) (h : RigAt W r w.heap.size v' l n) => room_grw r w.heap.size v' l n j W h (by omega) (fun a ha => by have := hb a ha; omega) (by omega) (by omega))
    have HB := hide hb
    have HIN := hide hin
    have HNN := hide hnn
    have HP := hide hP
    obtain ⟨N, hN⟩ : ∃ N, l.length = N := ⟨_, rfl⟩
    obtain ⟨a, c, rfl, hf⟩ := hP.form hN
    have HN := hide hN
    have HF := hide hf
    rw [hN] at h60
    clear hP hin hbox hnn hb hs hl hN hf
    go_enter Tryz.func30, Tryz.ntmps30
    go_wp2_with fail
    refine C.out.mono ?_
    rintro e w1 ⟨r, v', rfl, hr, hb1⟩
    have HR := hide hr
    have HB1 := hide hb1
    clear hr hb1
    go_wp2
    go_loopw [21] (fun i wr => ∃ k : Nat, k ≤ N ∧ i = .int .i64 (k : Int) ∧ Hid (∀ x ∈ l.take k, x.2 ≤ pRoom l n x.1) ∧ Hid (Grw w1 wr)) (fun i _ => N - (intOf i).toNat)
    case atStart => exact ⟨0, Nat.zero_le _, rfl, (fun x hx => by simp at hx), Grw.refl _⟩
    case round =>
      obtain ⟨k, hk, rfl, HS, HG⟩ := hrel
      by_cases hlt : k < N
      · obtain ⟨q, rfl, hq0, hq⟩ := HF.out (by omega)
        obtain ⟨x, hx⟩ : ∃ x, l[k]? = some x := ⟨_, List.getElem?_eq_getElem (by rw [HN.out]; exact hlt)⟩
        obtain ⟨g1, g2⟩ := encZ_get l k x hx
        have hqr := HG.out.cells (hq.below' HB1.out (Nat.le_refl _))
        have d1 := (hqr _ _ g1).1
        have d2 := (hqr _ _ g2).1
        have hql : q < wr.heap.size := by have := HG.out.size; have := HB1.out.size; omega
        have hmem := List.mem_of_getElem? hx
        have hbx := HB.out x hmem
        have HMEM := hide hmem
        have HNX : Hid (x.2 ≤ pRoom l n x.1 → ∀ y ∈ l.take (k + 1), y.2 ≤ pRoom l n y.1) := by
          intro h y hy
          rw [List.take_add_one, hx] at hy
          rcases List.mem_append.1 hy with hy | hy
          · exact HS.out y hy
          · simp at hy; rw [hy]; exact h
        have HBAD : Hid (¬ x.2 ≤ pRoom l n x.1 → rgFits l n = false) := by
          intro h
          cases hf2 : rgFits l n
          · rfl
          · exact absurd (((rgFits_iff l n).1 hf2).2.2 x hmem) h
        obtain ⟨x1, hx1⟩ : ∃ z, z = x.1 := ⟨_, rfl⟩
        obtain ⟨x2, hx2⟩ : ∃ z, z = x.2 := ⟨_, rfl⟩
        obtain ⟨t, ht⟩ : ∃ z, z = pRoom l n x.1 := ⟨_, rfl⟩
        have RM2 := hide (fun (W : World) (h : RigAt W r w.heap.size v' l n) => RM.out r v' x.1 (by omega) W h)
        rw [← ht] at HNX HBAD RM2
        rw [← hx1] at d1 RM2
        rw [← hx2] at d2 HNX HBAD
        obtain ⟨W, hW⟩ : ∃ W, W = wr.alloc (.cells #[.int .i64 x1, .int .i64 x2] 48) := ⟨_, rfl⟩
        have hz : wr.heap.size < W.heap.size := by rw [hW]; simp
        have HGW : Hid (Grw w1 W) := by rw [hW]; exact HG.out.trans (Grw.alloc _ _)
        have c1 : W.cell? ⟨wr.heap.size, 0, none⟩ = some (.int .i64 x1) := by rw [hW, World.cell?_alloc_at _ _ _ _ rfl]; rfl
        have c2 : W.cell? ⟨wr.heap.size, 1, none⟩ = some (.int .i64 x2) := by rw [hW, World.cell?_alloc_at _ _ _ _ rfl]; rfl
        have e1 : ∀ n os, (grow (W.drewN n) os).cell? ⟨wr.heap.size, 0, none⟩ = some (.int .i64 x1) := fun n os => cell_grown hz c1 n os
        have e2 : ∀ n os, (grow (W.drewN n) os).cell? ⟨wr.heap.size, 1, none⟩ = some (.int .i64 x2) := fun n os => cell_grown hz c2 n os
        have CR := hide (fun (n' : Nat) (os : Array Obj) => RM2.out (grow (W.drewN n') os) (HR.out.below (HGW.out.trans (Grw.mk W n' os)).below (Nat.le_refl _)))
        have i0 : (0 : Int) ≤ (k : Int) := by omega
        have i1 : (k : Int) < (N : Int) := by omega
        clear hx g1 g2 hqr hx1 hx2 ht c1 c2 hmem hbx RM2
        by_cases hle : t < x2
        · have HE := hide (HBAD.out (by omega))
          have hd : decide (t < x2) = true := decide_eq_true hle
          go_wp2
          rw [← hW]
          clear hW
          refine wp_region_quiet_grown (by assumption) (by kernel_rfl) ?_
          repeat (first | go_big_quiet_skip | quiet_step ((go_at_call 56; refine Calls.grown_of (CR.out _ _))))
          refine wpQuiet_nil ?_
          intro _ hw'
          obtain ⟨⟨nq, osq⟩, hw''⟩ := hw'
          subst hw''
          go_wp2
          go_ret2
          exact ⟨by rw [HE.out]; exact ⟨_, rfl⟩, HB1.out.trans ((HGW.out.trans (Grw.mk _ _ _)).below.mono HB1.out.size)⟩
        · have HN2 := hide (HNX.out (by omega))
          have hd : decide (t < x2) = false := decide_eq_false hle
          go_wp2
          rw [← hW]
          clear hW
          refine wp_region_quiet_grown (by assumption) (by kernel_rfl) ?_
          repeat (first | go_big_quiet_skip | quiet_step ((go_at_call 56; refine Calls.grown_of (CR.out _ _))))
          refine wpQuiet_nil ?_
          intro _ hw'
          obtain ⟨⟨nq, osq⟩, hw''⟩ := hw'
          subst hw''
          go_wp2
          go_roundw
          case rel => exact ⟨k + 1, by omega, by go_num, HN2.out, HGW.out.trans (Grw.mk _ _ _)⟩
          case measure => simp [intOf]; omega
      · have hkn : k = N := by omega
        have HE : Hid (rgFits l n = true) := (rgFits_iff l n).2 ⟨HIN.out, HNN.out, fun x hx => HS.out x (by rw [List.take_of_length_le (by rw [HN.out]; omega)]; exact hx)⟩
        go_wp2
        go_ret2
        exact ⟨by rw [HE.out]; exact ⟨r, v', rfl, HR.out.below HG.out.below (Nat.le_refl _)⟩, HB1.out.trans (HG.out.below.mono HB1.out.size)⟩

set_option maxHeartbeats 1000000 in
theorem implRigFits_any (l : List (Int × Int)) (v : Value) (n : Int) (w : World) {lo : Nat} (hE : EtAt w) (hP : PartsV lo w v l) (hl : l.length ≤ 1048576) :
    Calls Tryz.prog 12 #[v, .int .i64 n] w fun e w' => e = .returned (.bool (rgFits l n)) ∧ Below w.heap.size w w' := by
  have HE := hide hE
  have C := hide (readFitting_any l v n w hP hl)
  cases hok : rgFits l n
  · rw [hok] at C
    clear hP hE hok
    go_enter Tryz.func12, Tryz.ntmps12
    go_wp2_with fail
    refine C.out.mono ?_
    rintro e w1 ⟨⟨s, rfl⟩, hb1⟩
    have HB1 := hide hb1
    have SO := hide (sound_any false _ w1 (HE.out.below hb1 (Nat.le_refl _)) (fault_mk s))
    clear hb1
    go_wp2_with fail
    refine SO.out.mono ?_
    rintro e w2 ⟨rfl, hb2⟩
    have HB2 := hide hb2
    clear hb2
    go_wp2_with fail
    go_ret
    exact ⟨rfl, HB1.out.trans (HB2.out.mono HB1.out.size)⟩
  · rw [hok] at C
    clear hP hE hok
    go_enter Tryz.func12, Tryz.ntmps12
    go_wp2_with fail
    refine C.out.mono ?_
    rintro e w1 ⟨⟨r, v', rfl, _⟩, hb1⟩
    have HB1 := hide hb1
    have SO := hide (sound_any true .nilIface w1 (HE.out.below hb1 (Nat.le_refl _)) rfl)
    clear hb1
    go_wp2_with fail
    refine SO.out.mono ?_
    rintro e w2 ⟨rfl, hb2⟩
    have HB2 := hide hb2
    clear hb2
    go_wp2_with fail
    go_ret
    exact ⟨rfl, HB1.out.trans (HB2.out.mono HB1.out.size)⟩
end Go.Proofs.YteibopcneflidabGreatDoor
