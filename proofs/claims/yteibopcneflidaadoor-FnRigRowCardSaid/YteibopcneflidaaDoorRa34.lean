/- TEXTS SRigRow. -/
import Derived.Test.YteibopcneflidaaDoorRa26
import Derived.Test.YteibopcneflidaaDoorRa31
import Derived.Test.YteibopcneflidaaDoorRa33
import Derived.Test.YteibopcneflidaaDoorRa11
/- THE WALK of the model's RigRow. -/
namespace Go.Proofs.YteibopcneflidaaDoor
open Go.RowKit Go.Sort Go.Shelf

theorem PartsV.lo {lo lo' : Nat} {w : World} {v : Value} {l : List (Int × Int)} (h : PartsV lo w v l) (hl : lo' ≤ lo) : PartsV lo' w v l := by
  rcases h with h | ⟨g, c, rfl, h1, h2, h3, h4⟩
  · exact .inl h
  · exact .inr ⟨g, c, rfl, h1, by omega, h3, h4⟩
theorem chars_cons (b : Bool) (l : List Bool) : chars (b :: l) = (if b then 49 else 48) :: chars l := rfl
theorem put_ahead {x lit : ByteArray} {A : List Bool} {b : Bool} (hl : lit.data.toList = [if b then 49 else 48]) (h : x.data.toList = chars A.reverse) : (lit ++ x).data.toList = chars (A ++ [b]).reverse := by
  rw [ByteArray.data_append, Array.toList_append, hl, h, List.reverse_append]; rfl
theorem kRow_succ (m : Nat) (l : List (Int × Int)) : kRow (m + 1) l = (l.reverse.find? (pFull l ((m : Int) + 1))).isSome :: kRow m (pBack l ((m : Int) + 1)) := rfl
/-- what a loop of RigRow knows: the boxes behind are done, the rest fits in the boxes ahead -/
structure RowInv (N : Nat) (l : List (Int × Int)) (m : Nat) (lm : List (Int × Int)) (A : List Bool) : Prop where
  row : kRow N l = A ++ kRow m lm
  len : A.length + m = N
  fits : pFits lm (m : Int)
theorem RowInv.start {N : Nat} {l : List (Int × Int)} (h : pFits l (N : Int)) : RowInv N l N l [] := ⟨rfl, by simp, h⟩
theorem RowInv.none {N m : Nat} {l lm : List (Int × Int)} {A : List Bool} (h : RowInv N l (m + 1) lm A) (hf : lm.reverse.find? (pFull lm ((m : Int) + 1)) = none) : RowInv N l m lm (A ++ [false]) := by
  have e := h.row
  rw [kRow_succ, hf, pBack_none hf] at e
  refine ⟨by rw [e]; simp, by have := h.len; simp; omega, fits_none (by have := h.fits; rwa [Int.natCast_succ] at this) hf⟩
theorem RowInv.some {N m : Nat} {l lm : List (Int × Int)} {A : List Bool} {a : Int × Int} (h : RowInv N l (m + 1) lm A) (hf : lm.reverse.find? (pFull lm ((m : Int) + 1)) = some a) : RowInv N l m (pBack lm ((m : Int) + 1)) (A ++ [true]) := by
  have e := h.row
  rw [kRow_succ, hf] at e
  refine ⟨by rw [e]; simp, by have := h.len; simp; omega, (step_of_back (by have := h.fits; rwa [Int.natCast_succ] at this) hf).1⟩
theorem RowInv.stop {N : Nat} {l lm : List (Int × Int)} {A : List Bool} (h : RowInv N l 0 lm A) : lm = [] ∧ A = kRow N l := by
  have e := h.row
  have e0 : kRow 0 lm = [] := rfl
  rw [e0, List.append_nil] at e
  refine ⟨?_, e.symm⟩
  have := (kRow_back 0 lm h.fits).2.1
  exact this
/-- numbers of what fits -/
theorem pFits.bd {l : List (Int × Int)} {m : Nat} (h : pFits l (m : Int)) (hm : m ≤ 120) : l.length ≤ 60 ∧ (∀ a ∈ l, 1 ≤ a.1 ∧ a.1 ≤ 60 ∧ 0 ≤ a.2 ∧ a.2 ≤ 120) := by
  have hs := fits_sizes h (by omega)
  obtain ⟨m1, m2⟩ := mem_sizes (fun a ha => (h.part a ha).1)
  refine ⟨by omega, fun a ha => ?_⟩
  obtain ⟨h1, h2, h3⟩ := h.part a ha
  have := m2 a ha
  have := room_le l (m : Int) a.1 (by omega) (fun a ha => (h.part a ha).1)
  omega

set_option maxRecDepth 100000 in
set_option maxHeartbeats 8000000 in
theorem specRigRow_any (l : List (Int × Int)) (v : Value) (n : Int) (w : World) {lo : Nat} (hP : PartsV lo w v l) (hl : l.length ≤ 1048576) :
    Calls Tryd.prog 22 #[v, .int .i64 n] w fun e w' => e = .returned (.tuple #[.string (rgRow l n), .bool (rgFits l n)]) ∧ Below w.heap.size w w' := by
  have C := hide (specRigFits_any l v n w hP hl)
  cases h1 : rgFits l n
  · rw [h1] at C
    have e1 : rgRow l n = ByteArray.empty := by unfold rgRow; rw [h1]; rfl
    rw [e1]
    clear e1 h1 hP
    go_enter Tryd.func22, Tryd.ntmps22
    go_wp2_with fail
    refine C.out.mono ?_
    rintro e w1 ⟨rfl, b1⟩
    have B1 := hide b1
    clear b1
    go_wp2_with fail
    go_ret2
    exact ⟨rfl, B1.out⟩
  · rw [h1] at C
    have hp := rgFits_p h1
    have hnn := ((rgFits_iff l n).1 h1).2.1
    obtain ⟨N, rfl⟩ := Int.eq_ofNat_of_zero_le hnn.1
    have hN : N ≤ 120 := by omega
    have e1 : rgRow l (N : Int) = ofBits (cut (kRow N l).reverse) := by unfold rgRow; rw [h1]; rfl
    rw [e1]
    have ST := hide (RowInv.start hp)
    obtain ⟨B, hB⟩ : ∃ B, B = w.heap.size := ⟨_, rfl⟩
    have HP := hide (hP.lo (Nat.zero_le _))
    have HB := hide hB
    rw [← hB]
    clear e1 h1 hp hnn hP hl
    go_enter Tryd.func22, Tryd.ntmps22
    go_wp2_with fail
    refine C.out.mono ?_
    rintro e w1 ⟨rfl, b1⟩
    have HP1 := hide (HP.out.below b1 (Nat.le_refl _))
    have HB1 : Hid (Below B w w1) := by rw [hB]; exact hide b1
    have hz1 : B ≤ w1.heap.size := by rw [hB]; exact b1.size
    clear b1 C hB
    go_wp2_with fail
    go_loopw [0, 6, 7] (fun v o i wr => ∃ (m : Nat) (lm : List (Int × Int)) (A : List Bool) (x : ByteArray), m ≤ N ∧ i = .int .i64 (m : Int) ∧ o = .string x ∧ x.size + m ≤ N ∧ Hid (x.data.toList = chars A.reverse) ∧ Hid (RowInv N l m lm A) ∧ Hid (PartsV 0 wr v lm) ∧ Hid (Below B w wr) ∧ B ≤ wr.heap.size) (fun _ _ i _ => (intOf i).toNat)
    case atStart => exact ⟨N, l, [], ⟨#[]⟩, Nat.le_refl _, rfl, rfl, by show 0 + N ≤ N; omega, rfl, ST, HP1, HB1, hz1⟩
    case round =>
      obtain ⟨m, lm, A, x, hm, rfl, rfl, hx, HX, HI, HP, HW, hzr⟩ := hrel
      by_cases hlt : 0 < m
      · obtain ⟨m, rfl⟩ : ∃ k, m = k + 1 := ⟨m - 1, by omega⟩
        have em : ((m + 1 : Nat) : Int) = (m : Int) + 1 := by omega
        rw [em]
        obtain ⟨f60, fbd⟩ := HI.out.fits.bd (by omega)
        have bd0 : ∀ a ∈ lm, 0 ≤ a.1 ∧ a.1 ≤ 1000 := fun a ha => by have := fbd a ha; omega
        have CF := hide (specFull_any lm _ ((m : Int) + 1) false wr 0 HP.out (by omega) bd0 (by omega))
        have BD := hide bd0
        have FBD := hide fbd
        clear bd0 fbd em
        rcases fIx_false (pFull lm ((m : Int) + 1)) lm lm.length (Nat.le_refl _) with ⟨f1, f2⟩ | ⟨j, a, f0, f1, f2, f3⟩
        · rw [List.take_length] at f2
          rw [f1] at CF
          have HI2 := hide (HI.out.none f2)
          clear f1 f2 FBD BD
          go_wp2_with (go_at_call 41; refine CF.out.mono ?_; rintro e w1 ⟨rfl, qq⟩; have Q1 := hide (qq.2 wr.heap.size); clear qq)
          go_roundw
          case rel =>
            have hq := Q1.out.size
            refine ⟨m, lm, A ++ [false], _, by omega, by go_num, rfl, ?_, ?_, HI2, hide (HP.out.below Q1.out (Nat.le_refl _)), hide (HW.out.trans (Q1.out.mono hzr)), by omega⟩
            · rw [ByteArray.size_append]
              show 1 + x.size + m ≤ N
              omega
            · exact hide (put_ahead (b := false) rfl HX.out)
          case measure => simp [intOf]
        · rw [List.take_length] at f3
          rw [f1] at CF
          have HI2 := hide (HI.out.some f3)
          have hja := FBD.out a (List.mem_of_getElem? f2)
          obtain ⟨g1, _⟩ := encZ_get lm j a f2
          obtain ⟨k, hk⟩ : ∃ k, lm.length = k := ⟨_, rfl⟩
          have HK := hide hk
          obtain ⟨a', c, rfl, hf⟩ := HP.out.form hk
          rw [hk] at f0 f60
          obtain ⟨g, rfl, hgl, hc⟩ := hf (by omega)
          have HCE := hide hc
          have HCC : Hid (∀ W, Below wr.heap.size wr W → W.cell? ⟨g, j * 2, none⟩ = some (.int .i64 a.1)) := hide (fun W hW => ((HCE.out.below' hW (Nat.le_refl _)) _ _ g1).1)
          have hj0 : (0 : Int) ≤ (j : Int) := by omega
          have hj1 : (j : Int) < (k : Int) := by omega
          obtain ⟨l', hl'⟩ : ∃ l', l' = lm.eraseIdx j := ⟨_, rfl⟩
          have her : lm.erase a = l' := by rw [hl']; exact (eraseIdx_erase HI.out.fits.sorted f2).symm
          have CW := hide (fun (W : World) (hW : Below wr.heap.size wr W) => specWithout_any lm (.slice (some ⟨g, 0, none⟩) k c) j W (HP.out.below hW (Nat.le_refl _)) (by have := HK.out; omega) (by have := HK.out; omega))
          rw [← hl'] at CW
          have hl2 : l'.length ≤ 100 := by rw [hl', List.length_eraseIdx]; split <;> (have := HK.out; omega)
          have bd2 : ∀ x ∈ l', 0 ≤ x.1 ∧ x.1 ≤ 1000 := fun x hx => BD.out x (List.mem_of_mem_eraseIdx (hl' ▸ hx))
          obtain ⟨a1, ha1⟩ : ∃ z, z = a.1 := ⟨_, rfl⟩
          by_cases h1 : a.1 = 1
          · rw [pBack_one f3 h1, her] at HI2
            rw [h1] at HCC
            clear f1 f2 f3 hf hc hl' her hl2 bd2 g1 hja ha1 h1 hk FBD BD
            go_wp2_with (first
              | (go_at_call 41; refine CF.out.mono ?_; rintro e w1 ⟨rfl, qq⟩; have Q1 := hide (qq.2 wr.heap.size); have c1 := HCC.out w1 Q1.out; clear qq)
              | (go_at_call 42; refine (CW.out _ Q1.out).mono ?_; rintro e w2 ⟨u2, rfl, p2, b2⟩; have P2 := hide p2; have B2 := hide b2; clear p2 b2 c1))
            go_roundw
            case rel =>
              have hq := Q1.out.size
              have hq2 := B2.out.size
              refine ⟨m, l', A ++ [true], _, by omega, by go_num, rfl, ?_, ?_, HI2, hide (P2.out.1.lo (Nat.zero_le _)), hide (HW.out.trans ((Q1.out.mono hzr).trans (B2.out.mono (by omega)))), by omega⟩
              · rw [ByteArray.size_append]
                show 1 + x.size + m ≤ N
                omega
              · exact hide (put_ahead (b := true) rfl HX.out)
            case measure => simp [intOf]
          · rw [pBack_more f3 h1, her] at HI2
            obtain ⟨r, hr⟩ : ∃ r, r = pRoom l' ((m : Int) + 1 - 1) (a.1 - 1) := ⟨_, rfl⟩
            have rb := room_bd l' ((m : Int) + 1 - 1) (a.1 - 1) (by omega) (fun a ha => (bd2 a ha).1)
            rw [← hr] at HI2
            have CR := hide (fun (u : Value) (W : World) (lo : Nat) (z : Int) (hz : z = (m : Int)) (hW : PartsS lo W u l') => (show Calls Tryd.prog 43 #[u, .int .i64 z, .int .i64 (a.1 - 1)] W (fun e w' => e = .returned (.int .i64 (pRoom l' ((m : Int) + 1 - 1) (a.1 - 1))) ∧ w' = W) from by rw [hz, show (m : Int) + 1 - 1 = (m : Int) by omega]; exact specRoom_any l' u (m : Int) (a.1 - 1) W lo hW.1 (by omega) bd2 (by omega) (by omega)))
            rw [← hr] at CR rb
            have CP := hide (fun (u : Value) (W : World) (lo : Nat) (y : Int) (hy : y = r - 2 * (a.1 - 1)) (hW : PartsS lo W u l') => (show Calls Tryd.prog 31 #[u, .agg #[.int .i64 (a.1 - 1), .int .i64 y]] W (fun e w' => ∃ u, e = .returned u ∧ PartsS W.heap.size w' u (pPut l' (a.1 - 1, r - 2 * (a.1 - 1))) ∧ Below W.heap.size W w') from by subst hy; exact specPut_any l' u (a.1 - 1, r - 2 * (a.1 - 1)) W hW (by omega)))
            obtain ⟨rb1, rb2⟩ := rb
            have rb3 : r ≤ 1000 := by omega
            have rb4 : -1000000 ≤ r := by omega
            rw [← ha1] at CR CP HI2 HCC hja h1
            obtain ⟨ja1, ja2, _, _⟩ := hja
            clear hr f1 f2 f3 hf hc hl' her hl2 bd2 g1 ha1 hk FBD BD rb1 rb2
            go_wp2_with (first
              | (go_at_call 41; refine CF.out.mono ?_; rintro e w1 ⟨rfl, qq⟩; have Q1 := hide (qq.2 wr.heap.size); have c1 := HCC.out w1 Q1.out; clear qq)
              | (go_at_call 42; refine (CW.out _ Q1.out).mono ?_; rintro e w2 ⟨u2, rfl, p2, b2⟩; have P2 := hide p2; have B2 := hide b2; clear p2 b2 c1)
              | (go_at_call 43; refine (CR.out _ _ _ _ ?_ P2.out).mono ?_; omega; rintro e w3 ⟨rfl, rfl⟩)
              | (go_at_call 31; refine (CP.out _ _ _ _ ?_ P2.out).mono ?_; omega; rintro e w3 ⟨u, rfl, p3, b3⟩; have P3 := hide p3; have B3 := hide b3; clear p3 b3))
            go_roundw
            case rel =>
              have hq := Q1.out.size
              have hq2 := B2.out.size
              have hq3 := B3.out.size
              refine ⟨m, _, A ++ [true], _, by omega, by go_num, rfl, ?_, ?_, HI2, hide (P3.out.1.lo (Nat.zero_le _)), hide (HW.out.trans ((Q1.out.mono hzr).trans ((B2.out.mono (by omega)).trans (B3.out.mono (by omega))))), by omega⟩
              · rw [ByteArray.size_append]
                show 1 + x.size + m ≤ N
                omega
              · exact hide (put_ahead (b := true) rfl HX.out)
            case measure => simp [intOf]
      · obtain rfl : m = 0 := by omega
        obtain ⟨s1, s2⟩ := HI.out.stop
        have FIN : Hid (tidyS x = ofBits (cut (kRow N l).reverse)) := by
          show _ = _
          have hg : allSgn x.data.toList = true := by rw [HX.out]; exact chars_sgn _
          rw [← tidyS_eq x hg, bits_chars _ x HX.out, s2]
        have HG : Hid (allSgn x.data.toList = true) := by show _ = _; rw [HX.out]; exact chars_sgn _
        subst s1
        obtain ⟨a', c, rfl, _⟩ := HP.out.form (n := 0) rfl
        clear s2
        go_wp2_with (go_at_call 45; refine (l1Tidy_any x _ (by unfold maxLen; omega) HG.out).mono ?_; rintro e w' ⟨rfl, rfl⟩)
        rw [FIN.out]
        go_ret2
        exact ⟨rfl, HW.out⟩
end Go.Proofs.YteibopcneflidaaDoor
