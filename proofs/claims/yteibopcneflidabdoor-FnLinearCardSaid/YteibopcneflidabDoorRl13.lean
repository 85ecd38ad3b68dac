/- TEXTS SRigOf, LawP. -/
import Derived.Test.YteibopcneflidabDoorRl09
import Derived.Test.YteibopcneflidabDoorRl12
import Derived.Test.YteibopcneflidabDoorRl10
import Derived.Deep.SlicePairs
import Derived.ChangeArms
/- THE WALK of the model's RigOf. -/
namespace Go.Proofs.YteibopcneflidabDoor
open Go.RowKit Go.Sort Go.Shelf

theorem parts_lit (w : World) : PartsS w.heap.size (w.alloc (.cells #[] 44)) (.slice (some ⟨w.heap.size, 0, none⟩) 0 0) [] :=
  PartsS.of_owns (n := 0) (e := 44) (World.ownsRow_lit (base := w.heap.size) (e := 44) (size := 2) w #[] 0 (Nat.le_refl _) (by unfold maxLen; omega) rfl) (.inr ⟨_, rfl⟩)

set_option maxRecDepth 100000 in
set_option maxHeartbeats 4000000 in
theorem specRigOf_any (s : ByteArray) (w : World) (hs : s.size ≤ maxLen) :
    Calls Tryd.prog 6 #[.string s] w fun e w' => ∃ u, e = .returned (.tuple #[u, .bool (highB s)]) ∧ PartsS w.heap.size w' u (rgOf s) ∧ Below w.heap.size w w' := by
  obtain ⟨B, hB⟩ : ∃ B, B = w.heap.size := ⟨_, rfl⟩
  obtain ⟨W0, hW0⟩ : ∃ W0, W0 = w.alloc (.cells #[] 44) := ⟨_, rfl⟩
  have HB0 : Hid (Below B w W0) := by rw [hW0, hB]; exact (Below.refl _ w).alloc (Nat.le_refl _) _
  have HP0 : Hid (PartsS B W0 (.slice (some ⟨w.heap.size, 0, none⟩) 0 0) []) := by rw [hW0, hB]; exact parts_lit w
  have hz0 : B ≤ W0.heap.size := by rw [hW0, hB]; simp
  have CH := hide (specRowHigh_any s W0 hs)
  rw [← hB]
  cases h1 : highB s
  · rw [h1] at CH
    have e1 : rgOf s = [] := by unfold rgOf; rw [h1]; rfl
    rw [e1]
    clear e1 h1
    go_enter Tryd.func6, Tryd.ntmps6
    go_wp2_with fail
    rw [← hW0, ← hB]
    clear hW0
    refine CH.out.mono ?_
    rintro e w1 ⟨rfl, b1⟩
    have B1 := hide b1
    clear b1
    go_wp2_with fail
    go_ret2
    exact ⟨_, rfl, HP0.out.below B1.out (Nat.le_refl _), HB0.out.trans (B1.out.mono (by omega))⟩
  · rw [h1] at CH
    obtain ⟨h2, h3⟩ := (highB_iff s).1 h1
    obtain ⟨hv, _⟩ := (levOk_iff s).1 h2
    have hsz := vld_le s hv
    have e1 : rgOf s = kRc (rvB s) := by unfold rgOf; rw [h1, if_pos rfl]
    rw [e1]
    have HI := hide h3
    have HV := hide hv
    have HSGN : Hid (∀ k (h : k < s.size), (s[k].toNat : Int) = 48 ∨ (s[k].toNat : Int) = 49) := hide (fun k h => by
      by_cases hc : (s[k].toNat : Int) = 48 ∨ (s[k].toNat : Int) = 49
      · exact hc
      · have := vld_bad s k h hc
        rw [HV.out] at this
        cases this)
    clear e1 h1 h2 h3 hv
    go_enter Tryd.func6, Tryd.ntmps6
    go_wp2_with fail
    rw [← hW0, ← hB]
    clear hW0
    refine CH.out.mono ?_
    rintro e w1 ⟨rfl, b1⟩
    have HB1 := hide (HB0.out.trans (b1.mono hz0))
    have HP1 := hide (HP0.out.below b1 (Nat.le_refl _))
    have hz1 : B ≤ w1.heap.size := by have := b1.size; omega
    clear b1 CH HB0 HP0 hz0
    go_wp2_with fail
    go_loopw [4, 5] (fun v i wr => ∃ k : Nat, k ≤ s.size ∧ i = .int .i64 (k : Int) ∧ Hid (PartsS B wr v (kRc ((bits s).take k).reverse)) ∧ Hid (Below B w wr) ∧ B ≤ wr.heap.size) (fun _ i _ => s.size - (intOf i).toNat)
    case atStart => exact ⟨0, Nat.zero_le _, rfl, HP1, HB1, hz1⟩
    case round =>
      obtain ⟨k, hk, rfl, HP, HW, hzr⟩ := hrel
      by_cases hlt : k < s.size
      · have HG := hide (bits_getElem s k hlt)
        rw [bit_int] at HG
        obtain ⟨p, hp⟩ : ∃ p, p = ((bits s).take k).reverse := ⟨_, rfl⟩
        have HPL : Hid (p.length = k) := by show _ = _; rw [hp, List.length_reverse, List.length_take, length_bits]; omega
        have HPH : Hid (kHi p) := by rw [hp]; exact hide (kHi_take HI.out k (by rw [length_bits]; omega))
        have HPN : Hid (((bits s).take (k + 1)).reverse = ((s[k].toNat : Int) == 49) :: p) := by rw [hp]; exact hide (rc_next HG.out)
        rw [← hp] at HP
        clear hp HG
        obtain ⟨r1, _⟩ := rc_in HPH.out (by have := HPL.out; omega)
        obtain ⟨r2, r3, r4⟩ := (rgIn_iff _).1 ((rgFits_iff _ _).1 r1).1
        obtain ⟨l, hl⟩ : ∃ l, l = kRc p := ⟨_, rfl⟩
        have HL := hide hl
        rw [← hl] at HP r2 r3 r4
        clear hl r1
        rcases HSGN.out k hlt with hc | hc
        · have HN : Hid (kRc ((bits s).take (k + 1)).reverse = l) := by
            show _ = _
            rw [HPN.out, hc, HL.out]
            rfl
          have hb : ((s[k].toNat : Int) == 48) = true := by rw [hc]; rfl
          clear r2 r3 r4 hc
          go_wp2
          go_roundw
          case rel => exact ⟨k + 1, by omega, by go_num, by rw [HN.out]; exact HP, HW, hzr⟩
          case measure => simp [intOf]; omega
        · have HN0 : Hid (kRc ((bits s).take (k + 1)).reverse = pStep l (k : Int)) := by
            show _ = _
            rw [HPN.out, hc, HL.out]
            show pStep (kRc p) (p.length : Int) = _
            rw [HPL.out]
          have hb : ((s[k].toNat : Int) == 48) = false := by rw [hc]; rfl
          clear hc
          obtain ⟨n, hn⟩ : ∃ n, l.length = n := ⟨_, rfl⟩
          obtain ⟨_, g, c, rfl, q1, q2, q3, q4⟩ := HP.out
          have HP' := HP.out
          rw [hn] at q1 HP' r4 ⊢
          have HPV := hide HP'
          have HNL := hide hn
          have HCE := hide q4
          have HR2 := hide r2
          have HR3 := hide r3
          have bd0 : ∀ a ∈ l, 0 ≤ a.1 ∧ a.1 ≤ 1000 := fun a ha => by have := r2 a ha; omega
          have BD := hide bd0
          have CF := hide (specFull_any l (.slice (some ⟨g, 0, none⟩) n c) (k : Int) true wr B HPV.out.1 (by omega) bd0 (by omega))
          have kk0 : (0 : Int) ≤ (k : Int) := by omega
          have kk1 : (k : Int) < (s.size : Int) := by omega
          have kk2 : (s.size : Int) ≤ 120 := by omega
          clear HP HP' q4 r2 r3 bd0
          rcases fIx_true (pFull l (k : Int)) l l.length (Nat.le_refl _) with ⟨f1, f2⟩ | ⟨j, a, f0, f1, f2, f3⟩
          · rw [List.take_length] at f2
            rw [f1] at CF
            obtain ⟨r, hr⟩ : ∃ r, r = pRoom l ((k : Int) + 1) 1 := ⟨_, rfl⟩
            have rb := room_bd l ((k : Int) + 1) 1 (by omega) (fun a ha => (BD.out a ha).1)
            have HN : Hid (kRc ((bits s).take (k + 1)).reverse = pPut l (1, r - 2)) := by
              show _ = _
              rw [HN0.out, pStep_none f2, hr]
              rfl
            have CR := hide (fun (W : World) (hW : Below wr.heap.size wr W) => specRoom_any l (.slice (some ⟨g, 0, none⟩) n c) ((k : Int) + 1) 1 W B (HPV.out.below hW (Nat.le_refl _)).1 (by have := HNL.out; omega) BD.out (by omega) (by omega))
            rw [← hr] at CR rb
            rw [hn] at rb
            have CP := hide (fun (W : World) (y : Int) (hy : y = r - 2) (hW : Below wr.heap.size wr W) => (show Calls Tryd.prog 18 #[.slice (some ⟨g, 0, none⟩) n c,   .agg #[.int .i64 1, .int .i64 y]] W (fun e w' => ∃ u, e = .returned u ∧ PartsS W.heap.size w' u (pPut l (1, r - 2)) ∧ Below W.heap.size W w') from by subst hy; exact specPut_any l (.slice (some ⟨g, 0, none⟩) n c) (1, r - 2) W (HPV.out.below hW (Nat.le_refl _)) (by have := HNL.out; omega)))
            obtain ⟨rb1, rb2⟩ := rb
            have rb3 : r ≤ 1000 := by omega
            have rb4 : -1000000 ≤ r := by omega
            clear hr f1 f2 HN0 hn rb1 rb2
            go_wp2_with (first
              | (go_at_call 15; refine CF.out.mono ?_; rintro e w1 ⟨rfl, qq⟩; have Q1 := hide (qq.2 wr.heap.size); clear qq)
              | (go_at_call 17; refine (CR.out _ Q1.out).mono ?_; rintro e w2 ⟨rfl, rfl⟩)
              | (go_at_call 18; refine (CP.out _ _ ?_ Q1.out).mono ?_; omega; rintro e w3 ⟨u, rfl, p3, b3⟩; have P3 := hide p3; have B3 := hide b3; clear p3 b3))
            go_roundw
            case rel =>
              have hq := Q1.out.size
              have hq3 := B3.out.size
              exact ⟨k + 1, by omega, by go_num, by rw [HN.out]; exact hide (P3.out.lo (by omega)), hide (HW.out.trans ((Q1.out.mono (by omega)).trans (B3.out.mono (by omega)))), by omega⟩
            case measure => simp [intOf]; omega
          · rw [List.take_length] at f3
            rw [f1] at CF
            have hja := HR2.out a (List.mem_of_getElem? f2)
            obtain ⟨g1, _⟩ := encZ_get l j a f2
            have HJ := hide (hn ▸ f0 : j < n)
            have hj0 : (0 : Int) ≤ (j : Int) := by omega
            have hj1 : (j : Int) < (n : Int) := by have := HJ.out; omega
            have HCC : Hid (∀ W, Below wr.heap.size wr W → W.cell? ⟨g, j * 2, none⟩ = some (.int .i64 a.1)) := hide (fun W hW => ((HCE.out.below' hW (Nat.le_refl _)) _ _ g1).1)
            obtain ⟨l', hl'⟩ : ∃ l', l' = l.eraseIdx j := ⟨_, rfl⟩
            have her : l.erase a = l' := by rw [hl']; exact (eraseIdx_erase HR3.out f2).symm
            have CW := hide (fun (W : World) (hW : Below wr.heap.size wr W) => specWithout_any l (.slice (some ⟨g, 0, none⟩) n c) j W (HPV.out.below hW (Nat.le_refl _)).1 f0 (by have := HNL.out; omega))
            rw [← hl'] at CW
            have hl2 : l'.length ≤ 100 := by rw [hl', List.length_eraseIdx]; split <;> (have := HNL.out; omega)
            have bd2 : ∀ x ∈ l', 0 ≤ x.1 ∧ x.1 ≤ 1000 := fun x hx => BD.out x (List.mem_of_mem_eraseIdx (hl' ▸ hx))
            obtain ⟨r, hr⟩ : ∃ r, r = pRoom l' ((k : Int) + 1) (a.1 + 1) := ⟨_, rfl⟩
            have rb := room_bd l' ((k : Int) + 1) (a.1 + 1) (by omega) (fun a ha => (bd2 a ha).1)
            have HN : Hid (kRc ((bits s).take (k + 1)).reverse = pPut l' (a.1 + 1, r - 2 * (a.1 + 1))) := by
              show _ = _
              rw [HN0.out, pStep_some f3, hr, her]
              rfl
            have CR := hide (fun (u : Value) (W : World) (lo : Nat) (hW : PartsS lo W u l') => specRoom_any l' u ((k : Int) + 1) (a.1 + 1) W lo hW.1 (by omega) bd2 (by omega) (by omega))
            rw [← hr] at CR rb
            have CP := hide (fun (u : Value) (W : World) (lo : Nat) (y : Int) (hy : y = r - 2 * (a.1 + 1)) (hW : PartsS lo W u l') => (show Calls Tryd.prog 18 #[u, .agg #[.int .i64 (a.1 + 1), .int .i64 y]] W (fun e w' => ∃ u, e = .returned u ∧ PartsS W.heap.size w' u (pPut l' (a.1 + 1, r - 2 * (a.1 + 1))) ∧ Below W.heap.size W w') from by subst hy; exact specPut_any l' u (a.1 + 1, r - 2 * (a.1 + 1)) W hW (by omega)))
            obtain ⟨rb1, rb2⟩ := rb
            have rb3 : r ≤ 1000 := by omega
            have rb4 : -1000000 ≤ r := by omega
            obtain ⟨a1, ha1⟩ : ∃ z, z = a.1 := ⟨_, rfl⟩
            rw [← ha1] at CR CP HN HCC hja
            obtain ⟨ja1, ja2, _, _⟩ := hja
            clear hr f0 f1 f2 f3 HN0 hn hl' her hl2 bd2 g1 ha1 rb1 rb2
            go_wp2_with (first
              | (go_at_call 15; refine CF.out.mono ?_; rintro e w1 ⟨rfl, qq⟩; have Q1 := hide (qq.2 wr.heap.size); have c1 := HCC.out w1 Q1.out; clear qq)
              | (go_at_call 16; refine (CW.out _ Q1.out).mono ?_; rintro e w2 ⟨u2, rfl, p2, b2⟩; have P2 := hide p2; have B2 := hide b2; clear p2 b2 c1)
              | (go_at_call 17; refine (CR.out _ _ _ P2.out).mono ?_; rintro e w3 ⟨rfl, rfl⟩)
              | (go_at_call 18; refine (CP.out _ _ _ _ ?_ P2.out).mono ?_; omega; rintro e w3 ⟨u, rfl, p3, b3⟩; have P3 := hide p3; have B3 := hide b3; clear p3 b3))
            go_roundw
            case rel =>
              have hq := Q1.out.size
              have hq2 := B2.out.size
              have hq3 := B3.out.size
              exact ⟨k + 1, by omega, by go_num, by rw [HN.out]; exact hide (P3.out.lo (by omega)), hide (HW.out.trans ((Q1.out.mono (by omega)).trans ((B2.out.mono (by omega)).trans (B3.out.mono (by omega))))), by omega⟩
            case measure => simp [intOf]; omega
      · have hkn : k = s.size := by omega
        subst hkn
        have e : ((bits s).take s.size).reverse = rvB s := by unfold rvB; rw [← length_bits, List.take_length]
        rw [e] at HP
        clear e
        go_wp2
        go_ret2
        exact ⟨_, rfl, HP.out, HW.out⟩
end Go.Proofs.YteibopcneflidabDoor

/- LISTS OF PARTS THAT CAME IN, and the laws' own helpers over lists of parts. -/
namespace Go.Proofs.YteibopcneflidabDoor
open Go.RowKit Go.Deep

/-- a slice of the laws' own parts that came in: its elements -/
def IsPairs (w : World) (a : Option Addr) (len cap : Nat) (l : List (Int × Int)) : Prop :=
  l.length = len ∧ len ≤ cap ∧ cap ≤ maxLen ∧ (0 < len → ∃ b off, a = some ⟨b, off, none⟩ ∧ b < w.heap.size ∧ ∀ j p, l[j]? = some p → w.cell? ⟨b, off + j * 2, none⟩ = some (.int .i64 p.1) ∧ w.cell? ⟨b, off + j * 2 + 1, none⟩ = some (.int .i64 p.2))
theorem IsPairs.below {w w' : World} {a : Option Addr} {len cap : Nat} {l : List (Int × Int)} (h : IsPairs w a len cap l) (hb : Below w.heap.size w w') : IsPairs w' a len cap l := by
  obtain ⟨h1, h2, h3, h4⟩ := h
  refine ⟨h1, h2, h3, fun h0 => ?_⟩
  obtain ⟨b, off, rfl, hl, hc⟩ := h4 h0
  exact ⟨b, off, rfl, Nat.lt_of_lt_of_le hl hb.size, fun j p hp => ⟨(hb.cell (p := ⟨b, _, none⟩) hl).trans (hc j p hp).1, (hb.cell (p := ⟨b, _, none⟩) hl).trans (hc j p hp).2⟩⟩
end Go.Proofs.YteibopcneflidabDoor
