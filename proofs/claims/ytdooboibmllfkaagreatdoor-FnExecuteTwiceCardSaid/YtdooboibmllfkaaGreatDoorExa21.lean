/- TEXTS SRigOf, Draw4, Pick, LawP, LawQ, LawR, DrawP, SExe4. -/
import Derived.Test.YtdooboibmllfkaaGreatDoorExa19
import Derived.Test.YtdooboibmllfkaaGreatDoorExa20
import Derived.Test.YtdooboibmllfkaaGreatDoorExa05
import Derived.Laws.BitsAllLaws
import Derived.Test.YtdooboibmllfkaaGreatDoorExa17
import Derived.Deep.SlicePairs
import Derived.ChangeArms
import Derived.Test.YtdooboibmllfkaaGreatDoorExa02
import Derived.Laws.StructEq
import Derived.Test.YtdooboibmllfkaaGreatDoorExa18
import Derived.Test.YtdooboibmllfkaaGreatDoorExa11
namespace Go.Proofs.YtdooboibmllfkaaGreatDoor
set_option maxRecDepth 100000
open Go.RowKit Go.Sort Go.Shelf

theorem parts_lit (w : World) : PartsS w.heap.size (w.alloc (.cells #[] 98)) (.slice (some ⟨w.heap.size, 0, none⟩) 0 0) [] :=
  PartsS.of_owns (n := 0) (e := 98) (World.ownsRow_lit (base := w.heap.size) (e := 98) (size := 2) w #[] 0 (Nat.le_refl _) (by unfold maxLen; omega) rfl) (.inr ⟨_, rfl⟩)

set_option maxRecDepth 100000 in
set_option maxHeartbeats 4000000 in
theorem specRigOf_any (s : ByteArray) (w : World) (hs : s.size ≤ maxLen) :
    Calls Tryz.prog 51 #[.string s] w fun e w' => ∃ u, e = .returned (.tuple #[u, .bool (highB s)]) ∧ PartsS w.heap.size w' u (rgOf s) ∧ Below w.heap.size w w' := by
  obtain ⟨B, hB⟩ : ∃ B, B = w.heap.size := ⟨_, rfl⟩
  obtain ⟨W0, hW0⟩ : ∃ W0, W0 = w.alloc (.cells #[] 98) := ⟨_, rfl⟩
  have HB0 : Hid (Below B w W0) := by rw [hW0, hB]; exact (Below.refl _ w).alloc (Nat.le_refl _) _
  have HP0 : Hid (PartsS B W0 (.slice (some ⟨w.heap.size, 0, none⟩) 0 0) []) := by rw [hW0, hB]; exact parts_lit w
  have hz0 : B ≤ W0.heap.size := by rw [hW0, hB]; simp
  have CH := hide (specRowHigh_any s W0 hs)
  rw [← hB]
  cases h1 : highB s
  · rw [h1] at CH
    have e1 : rgOf s = [] := by unfold rgOf; rw [h1]; rfl
    rw [e1]
    clear e1 h1
    go_enter Tryz.func51, Tryz.ntmps51
    go_wp2_with fail
    rw [← hW0, ← hB]
    clear hW0
    refine CH.out.mono ?_
    rintro e w1 ⟨rfl, b1⟩
    have B1 := hide b1
    clear b1
    go_wp2_with fail
    go_ret2
    exact ⟨_, rfl, HP0.out.below B1.out (Nat.le_refl _), HB0.out.trans (B1.out.mono (by omega))⟩
  · rw [h1] at CH
    obtain ⟨h2, h3⟩ := (highB_iff s).1 h1
    obtain ⟨hv, _⟩ := (levOk_iff s).1 h2
    have hsz := vld_le s hv
    have e1 : rgOf s = kRc (rvB s) := by unfold rgOf; rw [h1, if_pos rfl]
    rw [e1]
    have HI := hide h3
    have HV := hide hv
    have HSGN : Hid (∀ k (h : k < s.size), (s[k].toNat : Int) = 48 ∨ (s[k].toNat : Int) = 49) := hide (fun k h => by
      by_cases hc : (s[k].toNat : Int) = 48 ∨ (s[k].toNat : Int) = 49
      · exact hc
      · have := vld_bad s k h hc
        rw [HV.out] at this
        cases this)
    clear e1 h1 h2 h3 hv
    go_enter Tryz.func51, Tryz.ntmps51
    go_wp2_with fail
    rw [← hW0, ← hB]
    clear hW0
    refine CH.out.mono ?_
    rintro e w1 ⟨rfl, b1⟩
    have HB1 := hide (HB0.out.trans (b1.mono hz0))
    have HP1 := hide (HP0.out.below b1 (Nat.le_refl _))
    have hz1 : B ≤ w1.heap.size := by have := b1.size; omega
    clear b1 CH HB0 HP0 hz0
    go_wp2_with fail
    go_loopw [4, 5] (fun v i wr => ∃ k : Nat, k ≤ s.size ∧ i = .int .i64 (k : Int) ∧ Hid (PartsS B wr v (kRc ((bits s).take k).reverse)) ∧ Hid (Below B w wr) ∧ B ≤ wr.heap.size) (fun _ i _ => s.size - (Go.RowKit.intOf i).toNat)
    case atStart => exact ⟨0, Nat.zero_le _, rfl, HP1, HB1, hz1⟩
    case round =>
      obtain ⟨k, hk, rfl, HP, HW, hzr⟩ := hrel
      by_cases hlt : k < s.size
      · have HG := hide (bits_getElem s k hlt)
        rw [bit_int] at HG
        obtain ⟨p, hp⟩ : ∃ p, p = ((bits s).take k).reverse := ⟨_, rfl⟩
        have HPL : Hid (p.length = k) := by show _ = _; rw [hp, List.length_reverse, List.length_take, length_bits]; omega
        have HPH : Hid (kHi p) := by rw [hp]; exact hide (kHi_take HI.out k (by rw [length_bits]; omega))
        have HPN : Hid (((bits s).take (k + 1)).reverse = ((s[k].toNat : Int) == 49) :: p) := by rw [hp]; exact hide (rc_next HG.out)
        rw [← hp] at HP
        clear hp HG
        obtain ⟨r1, _⟩ := rc_in HPH.out (by have := HPL.out; omega)
        obtain ⟨r2, r3, r4⟩ := (rgIn_iff _).1 ((rgFits_iff _ _).1 r1).1
        obtain ⟨l, hl⟩ : ∃ l, l = kRc p := ⟨_, rfl⟩
        have HL := hide hl
        rw [← hl] at HP r2 r3 r4
        clear hl r1
        rcases HSGN.out k hlt with hc | hc
        · have HN : Hid (kRc ((bits s).take (k + 1)).reverse = l) := by
            show _ = _
            rw [HPN.out, hc, HL.out]
            rfl
          have hb : ((s[k].toNat : Int) == 48) = true := by rw [hc]; rfl
          clear r2 r3 r4 hc
          go_wp2
          go_roundw
          case rel => exact ⟨k + 1, by omega, by go_num, by rw [HN.out]; exact HP, HW, hzr⟩
          case measure => simp [Go.RowKit.intOf]; omega
        · have HN0 : Hid (kRc ((bits s).take (k + 1)).reverse = pStep l (k : Int)) := by
            show _ = _
            rw [HPN.out, hc, HL.out]
            show pStep (kRc p) (p.length : Int) = _
            rw [HPL.out]
          have hb : ((s[k].toNat : Int) == 48) = false := by rw [hc]; rfl
          clear hc
          obtain ⟨n, hn⟩ : ∃ n, l.length = n := ⟨_, rfl⟩
          obtain ⟨_, g, c, rfl, q1, q2, q3, q4⟩ := HP.out
          have HP' := HP.out
          rw [hn] at q1 HP' r4 ⊢
          have HPV := hide HP'
          have HNL := hide hn
          have HCE := hide q4
          have HR2 := hide r2
          have HR3 := hide r3
          have bd0 : ∀ a ∈ l, 0 ≤ a.1 ∧ a.1 ≤ 1000 := fun a ha => by have := r2 a ha; omega
          have BD := hide bd0
          have CF := hide (specFull_any l (.slice (some ⟨g, 0, none⟩) n c) (k : Int) true wr B HPV.out.1 (by omega) bd0 (by omega))
          have kk0 : (0 : Int) ≤ (k : Int) := by omega
          have kk1 : (k : Int) < (s.size : Int) := by omega
          have kk2 : (s.size : Int) ≤ 120 := by omega
          clear HP HP' q4 r2 r3 bd0
          rcases fIx_true (pFull l (k : Int)) l l.length (Nat.le_refl _) with ⟨f1, f2⟩ | ⟨j, a, f0, f1, f2, f3⟩
          · rw [List.take_length] at f2
            rw [f1] at CF
            obtain ⟨r, hr⟩ : ∃ r, r = pRoom l ((k : Int) + 1) 1 := ⟨_, rfl⟩
            have rb := room_bd l ((k : Int) + 1) 1 (by omega) (fun a ha => (BD.out a ha).1)
            have HN : Hid (kRc ((bits s).take (k + 1)).reverse = pPut l (1, r - 2)) := by
              show _ = _
              rw [HN0.out, pStep_none f2, hr]
              rfl
            have CR := hide (fun (W : World) (hW : Below wr.heap.size wr W) => specRoom_any l (.slice (some ⟨g, 0, none⟩) n c) ((k : Int) + 1) 1 W B (HPV.out.below hW (Nat.le_refl _)).1 (by have := HNL.out; omega) BD.out (by omega) (by omega))
            rw [← hr] at CR rb
            rw [hn] at rb
            have CP := hide (fun (W : World) (y : Int) (hy : y = r - 2) (hW : Below wr.heap.size wr W) => (show Calls Tryz.prog 88 #[.slice (some ⟨g, 0, none⟩) n c,   .agg #[.int .i64 1, .int .i64 y]] W (fun e w' => ∃ u, e = .returned u ∧ PartsS W.heap.size w' u (pPut l (1, r - 2)) ∧ Below W.heap.size W w') from by subst hy; exact specPut_any l (.slice (some ⟨g, 0, none⟩) n c) (1, r - 2) W (HPV.out.below hW (Nat.le_refl _)) (by have := HNL.out; omega)))
            obtain ⟨rb1, rb2⟩ := rb
            have rb3 : r ≤ 1000 := by omega
            have rb4 : -1000000 ≤ r := by omega
            clear hr f1 f2 HN0 hn rb1 rb2
            go_wp2_with (first
              | (go_at_call 85; refine CF.out.mono ?_; rintro e w1 ⟨rfl, qq⟩; have Q1 := hide (qq.2 wr.heap.size); clear qq)
              | (go_at_call 87; refine (CR.out _ Q1.out).mono ?_; rintro e w2 ⟨rfl, rfl⟩)
              | (go_at_call 88; refine (CP.out _ _ ?_ Q1.out).mono ?_; omega; rintro e w3 ⟨u, rfl, p3, b3⟩; have P3 := hide p3; have B3 := hide b3; clear p3 b3))
            go_roundw
            case rel =>
              have hq := Q1.out.size
              have hq3 := B3.out.size
              exact ⟨k + 1, by omega, by go_num, by rw [HN.out]; exact hide (P3.out.lo (by omega)), hide (HW.out.trans ((Q1.out.mono (by omega)).trans (B3.out.mono (by omega)))), by omega⟩
            case measure => simp [Go.RowKit.intOf]; omega
          · rw [List.take_length] at f3
            rw [f1] at CF
            have hja := HR2.out a (List.mem_of_getElem? f2)
            obtain ⟨g1, _⟩ := encZ_get l j a f2
            have HJ := hide (hn ▸ f0 : j < n)
            have hj0 : (0 : Int) ≤ (j : Int) := by omega
            have hj1 : (j : Int) < (n : Int) := by have := HJ.out; omega
            have HCC : Hid (∀ W, Below wr.heap.size wr W → W.cell? ⟨g, j * 2, none⟩ = some (.int .i64 a.1)) := hide (fun W hW => ((HCE.out.below' hW (Nat.le_refl _)) _ _ g1).1)
            obtain ⟨l', hl'⟩ : ∃ l', l' = l.eraseIdx j := ⟨_, rfl⟩
            have her : l.erase a = l' := by rw [hl']; exact (eraseIdx_erase HR3.out f2).symm
            have CW := hide (fun (W : World) (hW : Below wr.heap.size wr W) => specWithout_any l (.slice (some ⟨g, 0, none⟩) n c) j W (HPV.out.below hW (Nat.le_refl _)).1 f0 (by have := HNL.out; omega))
            rw [← hl'] at CW
            have hl2 : l'.length ≤ 100 := by rw [hl', List.length_eraseIdx]; split <;> (have := HNL.out; omega)
            have bd2 : ∀ x ∈ l', 0 ≤ x.1 ∧ x.1 ≤ 1000 := fun x hx => BD.out x (List.mem_of_mem_eraseIdx (hl' ▸ hx))
            obtain ⟨r, hr⟩ : ∃ r, r = pRoom l' ((k : Int) + 1) (a.1 + 1) := ⟨_, rfl⟩
            have rb := room_bd l' ((k : Int) + 1) (a.1 + 1) (by omega) (fun a ha => (bd2 a ha).1)
            have HN : Hid (kRc ((bits s).take (k + 1)).reverse = pPut l' (a.1 + 1, r - 2 * (a.1 + 1))) := by
              show _ = _
              rw [HN0.out, pStep_some f3, hr, her]
              rfl
            have CR := hide (fun (u : Value) (W : World) (lo : Nat) (hW : PartsS lo W u l') => specRoom_any l' u ((k : Int) + 1) (a.1 + 1) W lo hW.1 (by omega) bd2 (by omega) (by omega))
            rw [← hr] at CR rb
            have CP := hide (fun (u : Value) (W : World) (lo : Nat) (y : Int) (hy : y = r - 2 * (a.1 + 1)) (hW : PartsS lo W u l') => (show Calls Tryz.prog 88 #[u, .agg #[.int .i64 (a.1 + 1), .int .i64 y]] W (fun e w' => ∃ u, e = .returned u ∧ PartsS W.heap.size w' u (pPut l' (a.1 + 1, r - 2 * (a.1 + 1))) ∧ Below W.heap.size W w') from by subst hy; exact specPut_any l' u (a.1 + 1, r - 2 * (a.1 + 1)) W hW (by omega)))
            obtain ⟨rb1, rb2⟩ := rb
            have rb3 : r ≤ 1000 := by omega
            have rb4 : -1000000 ≤ r := by omega
            obtain ⟨a1, ha1⟩ : ∃ z, z = a.1 := ⟨_, rfl⟩
            rw [← ha1] at CR CP HN HCC hja
            obtain ⟨ja1, ja2, _, _⟩ := hja
            clear hr f0 f1 f2 f3 HN0 hn hl' her hl2 bd2 g1 ha1 rb1 rb2
            go_wp2_with (first
              | (go_at_call 85; refine CF.out.mono ?_; rintro e w1 ⟨rfl, qq⟩; have Q1 := hide (qq.2 wr.heap.size); have c1 := HCC.out w1 Q1.out; clear qq)
              | (go_at_call 86; refine (CW.out _ Q1.out).mono ?_; rintro e w2 ⟨u2, rfl, p2, b2⟩; have P2 := hide p2; have B2 := hide b2; clear p2 b2 c1)
              | (go_at_call 87; refine (CR.out _ _ _ P2.out).mono ?_; rintro e w3 ⟨rfl, rfl⟩)
              | (go_at_call 88; refine (CP.out _ _ _ _ ?_ P2.out).mono ?_; omega; rintro e w3 ⟨u, rfl, p3, b3⟩; have P3 := hide p3; have B3 := hide b3; clear p3 b3))
            go_roundw
            case rel =>
              have hq := Q1.out.size
              have hq2 := B2.out.size
              have hq3 := B3.out.size
              exact ⟨k + 1, by omega, by go_num, by rw [HN.out]; exact hide (P3.out.lo (by omega)), hide (HW.out.trans ((Q1.out.mono (by omega)).trans ((B2.out.mono (by omega)).trans (B3.out.mono (by omega))))), by omega⟩
            case measure => simp [Go.RowKit.intOf]; omega
      · have hkn : k = s.size := by omega
        subst hkn
        have e : ((bits s).take s.size).reverse = rvB s := by unfold rvB; rw [← length_bits, List.take_length]
        rw [e] at HP
        clear e
        go_wp2
        go_ret2
        exact ⟨_, rfl, HP.out, HW.out⟩
end Go.Proofs.YtdooboibmllfkaaGreatDoor

namespace Go.Proofs.YtdooboibmllfkaaGreatDoor
set_option maxRecDepth 100000
open Go.RowKit

end Go.Proofs.YtdooboibmllfkaaGreatDoor

namespace Go.Proofs.YtdooboibmllfkaaGreatDoor
set_option maxRecDepth 100000
open Go.RowKit

def Picked2 (w : World) (R : Nat) (a : Option Addr) (len cap : Nat) (z : List Int) (p : Nat) (n : Int) (e : Ending) (w' : World) : Prop :=
  ∃ v : Int, e = .returned (.int .i64 v) ∧ 0 ≤ v ∧ v < n ∧ Rd w' R a len cap z (p + 1) ∧ Below R w w' ∧ w'.heap.size = w.heap.size ∧ w.grownBy w' (some R)

theorem picked2_next {w : World} {R : Nat} {a : Option Addr} {len cap : Nat} {z : List Int} {p : Nat} {n v : Int} (h : Rd w R a len cap z p) (h1 : 0 ≤ v) (h2 : v < n) (k : Nat) :
    Picked2 w R a len cap z p n (.returned (.int .i64 v)) ((w.setCell ⟨R, 1, none⟩ (.int .i64 ((p : Int) + 1))).drewN k) := by
  have e : ((p : Int) + 1) = ((p + 1 : Nat) : Int) := by omega
  rw [e]
  refine ⟨v, rfl, h1, h2, h.next.below ((Quiet.drewN k).2 (R + 1)) (Nat.lt_succ_self R), ?_, ?_, ?_⟩
  · exact ((Below.refl R w).setCell (Nat.le_refl _) _).trans ((Quiet.drewN k).2 R)
  · show (World.setCell _ _ _).heap.size = _; simp [World.setCell]
  · exact ⟨rfl, rfl, rfl, by show w.heap.size ≤ (World.setCell _ _ _).heap.size; simp [World.setCell], fun j _ hj => heap_setCell_other w ⟨R, 1, none⟩ j _ (fun e => hj (by simp [e]))⟩

theorem CellsAt.grown {w w' : World} {g R : Nat} {l : List Value} (h : CellsAt w g l) (hg : w.grownBy w' (some R)) (hne : g ≠ R) : CellsAt w' g l := by
  intro j v hv
  obtain ⟨a, b⟩ := h j v hv
  have hb := hg.block g (World.block_lt_of_cell? w _ a) (by intro e; injection e with e; exact hne e)
  exact ⟨(World.cell?_of_block (a := ⟨g, j, none⟩) hb).trans a, (World.frozen?_of_block (a := ⟨g, j, none⟩) hb).trans b⟩
theorem i64_xor_nat (a b : Nat) (ha : a < 9223372036854775808) (hb : b < 9223372036854775808) : Go.bits .xor .i64 (a : Int) (b : Int) = ((a ^^^ b : Nat) : Int) := by
  have hx : a ^^^ b < 2 ^ 63 := Nat.xor_lt_two_pow (by omega) (by omega)
  show IntKind.i64.wrap ((BitVec.ofInt 64 (a : Int) ^^^ BitVec.ofInt 64 (b : Int)).toNat : Int) = _
  rw [BitVec.toNat_xor, ofInt_u64 a (by omega), ofInt_u64 b (by omega), IntKind.wrap_i64]
  omega
theorem pick_nonneg (y1 y2 P D n : Int) (h1 : 0 ≤ y1 ∧ y1 ≤ 255) (h2 : 0 ≤ y2 ∧ y2 ≤ 255) (h3 : 0 ≤ P ∧ P ≤ 100000) (h4 : 0 ≤ D ∧ D ≤ 100000) (hn : 1 ≤ n) (X : Int)
    (hX : X = wrap64 (wrap64 (wrap64 (wrap64 (wrap64 y1 * 131) + wrap64 (wrap64 y2 * 1117)) + P * 29) + wrap64 (wrap64 D * 53))) :
    0 ≤ (Go.bits BinOp.xor IntKind.i64 X (wrap64 (X.tdiv 64))).tmod n ∧ (Go.bits BinOp.xor IntKind.i64 X (wrap64 (X.tdiv 64))).tmod n < n := by
  have e1 : wrap64 y1 = y1 := IntWalk.wrap64_in _ (by omega)
  have e2 : wrap64 y2 = y2 := IntWalk.wrap64_in _ (by omega)
  have e3 : wrap64 (y1 * 131) = y1 * 131 := IntWalk.wrap64_in _ (by omega)
  have e4 : wrap64 (y2 * 1117) = y2 * 1117 := IntWalk.wrap64_in _ (by omega)
  have e5 : wrap64 (y1 * 131 + y2 * 1117) = y1 * 131 + y2 * 1117 := IntWalk.wrap64_in _ (by omega)
  have e6 : wrap64 (y1 * 131 + y2 * 1117 + P * 29) = y1 * 131 + y2 * 1117 + P * 29 := IntWalk.wrap64_in _ (by omega)
  have e7 : wrap64 D = D := IntWalk.wrap64_in _ (by omega)
  have e8 : wrap64 (D * 53) = D * 53 := IntWalk.wrap64_in _ (by omega)
  have e9 : wrap64 (y1 * 131 + y2 * 1117 + P * 29 + D * 53) = y1 * 131 + y2 * 1117 + P * 29 + D * 53 := IntWalk.wrap64_in _ (by omega)
  rw [e1, e2, e3, e4, e5, e6, e7, e8, e9] at hX
  have hx0 : 0 ≤ X := by omega
  have hx1 : X ≤ 100000000 := by omega
  obtain ⟨x, rfl⟩ := Int.eq_ofNat_of_zero_le hx0
  have e10 : (x : Int).tdiv 64 = ((x / 64 : Nat) : Int) := rfl
  rw [e10, IntWalk.wrap64_in _ (by omega), i64_xor_nat x (x / 64) (by omega) (by omega)]
  exact ⟨Int.tmod_nonneg _ (by omega), Int.tmod_lt_of_pos _ (by omega)⟩

set_option maxHeartbeats 1000000 in
theorem pick2_any (w : World) (R : Nat) (a : Option Addr) (len cap : Nat) (z : List Int) (p : Nat) (n : Int) (hrd : Rd w R a len cap z p) (hp : p ≤ 100000) (hn1 : 1 ≤ n) (hn2 : n ≤ 1000) :
    Calls Tryz.prog 12 #[.pointer (some ⟨R, 0, none⟩), .int .i64 n] w (Picked2 w R a len cap z p n) := by
  have hc0 := hrd.c0
  have hc1 := hrd.c1
  have hf1 := hrd.f1
  have hlen := hrd.len_le
  by_cases h0 : len = 0
  · subst h0
    have HR := hide hrd
    clear hrd
    go_enter Tryz.func12, Tryz.ntmps12
    go_wp2
    go_ret
    exact picked2_next HR.out (by omega) (by omega) 0
  · obtain ⟨b, off, rfl, hbR, hby⟩ := hrd.bytes (by omega)
    have HR := hide hrd
    have HB := hide hby
    clear hrd hby
    have l0 : ((len : Int) == 0) = false := beq_eq_false_iff_ne.2 (by omega)
    by_cases hpl : p < len
    · obtain ⟨hcell, hz0, hz1⟩ := HB.out p hpl
      obtain ⟨y, hy⟩ : ∃ y, y = z.getD p 0 := ⟨_, rfl⟩
      rw [← hy] at hcell hz0 hz1
      clear hy
      go_enter Tryz.func12, Tryz.ntmps12
      go_wp2
      go_ret
      have h1 := Int.emod_nonneg y (show n ≠ 0 by omega)
      have h2 := Int.emod_lt_of_pos y (show 0 < n by omega)
      exact picked2_next HR.out h1 h2 0
    · obtain ⟨i1, hi1⟩ : ∃ i, i = p % len := ⟨_, rfl⟩
      obtain ⟨i2, hi2⟩ : ∃ i, i = (p * 7 + 3) % len := ⟨_, rfl⟩
      have b1 : i1 < len := by rw [hi1]; exact Nat.mod_lt _ (by omega)
      have b2 : i2 < len := by rw [hi2]; exact Nat.mod_lt _ (by omega)
      have hcell1 := (HB.out i1 b1).1
      have hcell2 := (HB.out i2 b2).1
      have yb1 := hide (HB.out i1 b1).2
      have yb2 := hide (HB.out i2 b2).2
      obtain ⟨y1, hy1⟩ : ∃ y, y = z.getD i1 0 := ⟨_, rfl⟩
      obtain ⟨y2, hy2⟩ : ∃ y, y = z.getD i2 0 := ⟨_, rfl⟩
      rw [← hy1] at hcell1 yb1
      rw [← hy2] at hcell2 yb2
      have hd := hide (show 0 ≤ (p : Int) / (len : Int) ∧ (p : Int) / (len : Int) ≤ 100000 from ⟨Int.ediv_nonneg (by omega) (by omega), Int.le_trans (Int.ediv_le_self _ (by omega)) (by omega)⟩)
      have e1 : Int.tmod (p : Int) (len : Int) = (i1 : Int) := by rw [hi1]; rfl
      have e2 : Int.tmod ((p : Int) * 7 + 3) (len : Int) = (i2 : Int) := by
        rw [hi2, show ((p : Int) * 7 + 3) = ((p * 7 + 3 : Nat) : Int) by omega]; rfl
      have w1 : IntKind.i64.wrap ((p : Int) * 7) = (p : Int) * 7 := IntWalk.i64_in _ (by omega)
      have w2 : IntKind.i64.wrap ((p : Int) * 7 + 3) = (p : Int) * 7 + 3 := IntWalk.i64_in _ (by omega)
      have n1 : (0 : Int) ≤ (i1 : Int) := by omega
      have n2 : (0 : Int) ≤ (i2 : Int) := by omega
      have m1 : (i1 : Int) < (len : Int) := by omega
      have m2 : (i2 : Int) < (len : Int) := by omega
      clear hi1 hi2 hy1 hy2 b1 b2
      go_enter Tryz.func12, Tryz.ntmps12
      go_wp2
      go_quiet (fail)
      go_wp2
      go_ret
      have hf := pick_nonneg y1 y2 (p : Int) ((p : Int) / (len : Int)) n yb1.out yb2.out (by omega) hd.out hn1 _ rfl
      exact picked2_next HR.out hf.1 hf.2 _

end Go.Proofs.YtdooboibmllfkaaGreatDoor

namespace Go.Proofs.YtdooboibmllfkaaGreatDoor
set_option maxRecDepth 100000
open Go.RowKit Go.Deep

end Go.Proofs.YtdooboibmllfkaaGreatDoor

namespace Go.Proofs.YtdooboibmllfkaaGreatDoor
set_option maxRecDepth 100000
open Go.RowKit Go.Sort Go.Shelf

end Go.Proofs.YtdooboibmllfkaaGreatDoor

namespace Go.Proofs.YtdooboibmllfkaaGreatDoor
set_option maxRecDepth 100000
open Go.RowKit Go.Sort Go.Shelf

end Go.Proofs.YtdooboibmllfkaaGreatDoor

namespace Go.Proofs.YtdooboibmllfkaaGreatDoor
set_option maxRecDepth 100000
open Go.RowKit Go.Sort Go.Shelf

theorem PartsS.kept {lo R : Nat} {w w' : World} {v : Value} {l : List (Int × Int)} (h : PartsS lo w v l) (hg : w.grownBy w' (some R)) (hR : R < lo) : PartsS lo w' v l := by
  obtain ⟨_, g, c, rfl, h1, h2, h3, h4⟩ := h
  have h5 := h4.grown hg (by omega)
  have h6 : g < w'.heap.size := Nat.lt_of_lt_of_le h3 hg.size
  exact ⟨.inr ⟨g, c, rfl, h1, h2, h6, h5⟩, g, c, rfl, h1, h2, h6, h5⟩
def PBd (l : List (Int × Int)) : Prop := ∀ x ∈ l, 0 ≤ x.1 ∧ x.1 ≤ 60 ∧ -10000 ≤ x.2 ∧ x.2 ≤ 10000
theorem rgOf_bd (s : ByteArray) : PBd (rgOf s) ∧ (rgOf s).length ≤ 60 := by
  unfold rgOf
  cases h : highB s
  · show PBd [] ∧ ([] : List (Int × Int)).length ≤ 60
    exact ⟨(fun x hx => by cases hx), Nat.zero_le _⟩
  · obtain ⟨h1, h2⟩ := (highB_iff s).1 h
    obtain ⟨h3, _⟩ := (levOk_iff s).1 h1
    obtain ⟨r1, _⟩ := rc_in h2 (by rw [rvB_length]; exact vld_le s h3)
    obtain ⟨r2, _, r4⟩ := (rgIn_iff _).1 ((rgFits_iff _ _).1 r1).1
    show PBd (kRc (rvB s)) ∧ (kRc (rvB s)).length ≤ 60
    exact ⟨fun x hx => by have := r2 x hx; omega, r4⟩

end Go.Proofs.YtdooboibmllfkaaGreatDoor

namespace Go.Proofs.YtdooboibmllfkaaGreatDoor
set_option maxRecDepth 100000
open Go.RowKit

theorem le_sum8 {l : List Nat} {x : Nat} (h : x ∈ l) : x ≤ l.sum := by
  induction l with
  | nil => cases h
  | cons y l ih =>
    rw [List.sum_cons]
    rcases List.mem_cons.1 h with rfl | h
    · omega
    · have := ih h; omega
theorem len_sum8 {l : List Nat} (h : ∀ x ∈ l, 1 ≤ x) : l.length ≤ l.sum := by
  induction l with
  | nil => exact Nat.le_refl _
  | cons y l ih =>
    have h1 := h y (List.mem_cons_self ..)
    have h2 := ih (fun x hx => h x (List.mem_cons_of_mem _ hx))
    rw [List.sum_cons, List.length_cons]
    omega
theorem nballs8 {s : ByteArray} (h : vld s = true) : nballs (bits s) ≤ 120 := by
  have h1 : nballs (bits s) ≤ (bits s).length := List.count_le_length
  rw [length_bits] at h1
  have := vld_le s h
  omega
theorem ni_bd {l : List Nat} (h1 : ∀ x ∈ l, 1 ≤ x) (h2 : l.sum ≤ 120) : (ni l).length ≤ 1000 ∧ ∀ x ∈ ni l, 0 ≤ x ∧ x < 10000000 := by
  have h3 := len_sum8 h1
  refine ⟨by rw [ni_length]; omega, fun x hx => ?_⟩
  unfold ni at hx
  obtain ⟨y, hy, rfl⟩ := List.mem_map.1 hx
  have := le_sum8 hy
  omega
theorem shR_bd {s : ByteArray} (h : vld s = true) : (shR s).length ≤ 1000 ∧ ∀ x ∈ shR s, 0 ≤ x ∧ x < 10000000 := by
  obtain ⟨h1, _, h3⟩ := shape_facts s
  unfold shR
  rw [if_pos h]
  exact ni_bd h1 (by rw [h3]; exact nballs8 h)
theorem rnR_bd {s : ByteArray} (h : vld s = true) : (rnR s).length ≤ 1000 ∧ ∀ x ∈ rnR s, 0 ≤ x ∧ x < 10000000 := by
  obtain ⟨_, h2, h3⟩ := runs_energy (bits s)
  unfold rnR
  rw [if_pos h]
  exact ni_bd h3 (by rw [h2]; exact nballs8 h)
theorem tmF_bd : ∀ (f : Nat) (s : ByteArray) (n : Nat), 0 ≤ (tmF f s n).1 ∧ (tmF f s n).1 ≤ (n : Int) + (f : Int)
  | 0, _, n => by show (0 : Int) ≤ 0 ∧ (0 : Int) ≤ _; omega
  | f + 1, s, n => by
    have ih := tmF_bd f (stS s 200) (n + 1)
    simp only [tmF]
    split
    · show (0 : Int) ≤ (n : Int) ∧ (n : Int) ≤ _; omega
    · split
      · omega
      · show (0 : Int) ≤ 0 ∧ (0 : Int) ≤ _; omega
theorem tmR_bd (s : ByteArray) : 0 ≤ (tmR s).1 ∧ (tmR s).1 ≤ 61 := by
  unfold tmR
  split
  · have := tmF_bd 61 s 0; omega
  · exact ⟨Int.le_refl _, by decide⟩

theorem word_ne {word : ByteArray} (l : List UInt8) (h : ¬ word = ofL l) : (word.toList == l) = false := by
  rw [beq_eq_false_iff_ne]
  intro e
  rw [ByteArray.toList_eq] at e
  exact h (lst_inj (by rw [lst_ofL]; exact e))
theorem rowS_le {s : ByteArray} (h : vld s = true) : (rowS s).size ≤ 120 := (rowS_size h).2
theorem rg_bd {s : ByteArray} (h : highB s = true) : ∀ p ∈ rgOf s, (0 ≤ p.1 ∧ p.1 < 10000000) ∧ 0 ≤ p.2 ∧ p.2 < 10000000 := by
  unfold rgOf
  rw [if_pos h]
  obtain ⟨h1, h2⟩ := (highB_iff s).1 h
  obtain ⟨h3, _⟩ := (levOk_iff s).1 h1
  obtain ⟨r1, _⟩ := rc_in h2 (by rw [rvB_length]; exact vld_le s h3)
  obtain ⟨r2, _, _⟩ := (rgIn_iff _).1 ((rgFits_iff _ _).1 r1).1
  intro p hp
  have := r2 p hp
  omega

set_option maxHeartbeats 2000000 in
theorem bare_show (s : ByteArray) (w : World) (hv : vld s = true) :
    Calls Tryz.prog 32 #[.string s, .string ⟨#[115, 104, 111, 119]⟩] w fun e w' => e = .returned (.string (rowS s ++ nlT)) ∧ Below w.heap.size w w' := by
  have C := hide (fun w => specRow_any s w)
  have hz := rowS_le hv
  have f1 : ¬ 9223372036854775807 < (rowS s).size + 1 := by omega
  obtain ⟨x, hx⟩ : ∃ x, x = rowS s := ⟨_, rfl⟩
  rw [← hx] at C f1 hz ⊢
  clear hx
  go_enter Tryz.func32, Tryz.ntmps32
  go_wp2_with (go_at_call 22; refine (C.out _).mono ?_; rintro e w1 ⟨rfl, rfl⟩)
  go_ret
  exact ⟨rfl, Below.refl _ _⟩

set_option maxHeartbeats 2000000 in
theorem bare_shape (s : ByteArray) (w : World) (hv : vld s = true) :
    Calls Tryz.prog 32 #[.string s, .string ⟨#[115, 104, 97, 112, 101]⟩] w fun e w' => e = .returned (.string (saidS (shR s) (vld s))) ∧ Below w.heap.size w w' := by
  have hs : s.size ≤ maxLen := by have := vld_le s hv; unfold maxLen; omega
  have C := hide (fun w => specShapeOf_any s w hs)
  have HB := hide (shR_bd hv)
  rw [hv] at C ⊢
  obtain ⟨l, hl⟩ : ∃ l, l = shR s := ⟨_, rfl⟩
  rw [← hl] at C HB ⊢
  clear hl hv hs
  go_enter Tryz.func32, Tryz.ntmps32
  go_wp2_with (first | (go_at_call 45; refine (C.out _).mono ?_; rintro e w1 ⟨v, rfl, hi, hb⟩) | (go_at_call 43; refine (specSaid_any l true v w1 hi HB.out.1 (fun _ => HB.out.2)).mono ?_; rintro e w2 ⟨rfl, hb2⟩))
  go_ret
  exact ⟨rfl, hb.trans (hb2.mono hb.size)⟩

theorem one_cell (W : World) (x : Value) (t : TypeId) : CellsAt (W.alloc (.cells #[x] t)) W.heap.size [x] := by
  intro j v hj
  match j, hj with
  | 0, hj =>
    simp at hj
    subst hj
    exact ⟨by rw [World.cell?_alloc_at _ _ _ _ rfl]; rfl, World.frozen?_alloc_at _ _ _ _ rfl⟩

set_option maxHeartbeats 2000000 in
theorem bare_runs (s : ByteArray) (w : World) (hv : vld s = true) :
    Calls Tryz.prog 32 #[.string s, .string ⟨#[114, 117, 110, 115]⟩] w fun e w' => e = .returned (.string (saidS (rnR s) (vld s))) ∧ Below w.heap.size w w' := by
  have hs : s.size ≤ maxLen := by have := vld_le s hv; unfold maxLen; omega
  have C := hide (fun w => specShapeRuns_any s w hs)
  have HB := hide (rnR_bd hv)
  rw [hv] at C ⊢
  obtain ⟨l, hl⟩ : ∃ l, l = rnR s := ⟨_, rfl⟩
  rw [← hl] at C HB ⊢
  clear hl hv hs
  go_enter Tryz.func32, Tryz.ntmps32
  go_wp2_with (first | (go_at_call 46; refine (C.out _).mono ?_; rintro e w1 ⟨v, rfl, hi, hb⟩) | (go_at_call 43; refine (specSaid_any l true v w1 hi HB.out.1 (fun _ => HB.out.2)).mono ?_; rintro e w2 ⟨rfl, hb2⟩))
  go_ret
  exact ⟨rfl, hb.trans (hb2.mono hb.size)⟩

set_option maxHeartbeats 2000000 in
theorem bare_apart (s : ByteArray) (w : World) (hv : vld s = true) :
    Calls Tryz.prog 32 #[.string s, .string ⟨#[97, 112, 97, 114, 116]⟩] w fun e w' => e = .returned (.string (yesS (apOk s))) ∧ Below w.heap.size w w' := by
  have hs : s.size ≤ maxLen := by have := vld_le s hv; unfold maxLen; omega
  have C := hide (fun w => specShapeApart_any s w hs)
  have C2 := hide (fun w => specYes_any (apOk s) w)
  obtain ⟨b, hb0⟩ : ∃ b, b = apOk s := ⟨_, rfl⟩
  rw [← hb0] at C C2 ⊢
  clear hb0 hv hs
  go_enter Tryz.func32, Tryz.ntmps32
  go_wp2_with (first | (go_at_call 49; refine (C.out _).mono ?_; rintro e w1 ⟨rfl, hb⟩) | (go_at_call 48; refine (C2.out _).mono ?_; rintro e w2 ⟨rfl, rfl⟩))
  go_ret
  exact ⟨rfl, hb⟩

set_option maxHeartbeats 2000000 in
theorem bare_high (s : ByteArray) (w : World) (hv : vld s = true) :
    Calls Tryz.prog 32 #[.string s, .string ⟨#[104, 105, 103, 104]⟩] w fun e w' => e = .returned (.string (yesS (highB s))) ∧ Below w.heap.size w w' := by
  have hs : s.size ≤ maxLen := by have := vld_le s hv; unfold maxLen; omega
  have C := hide (fun w => specRowHigh_any s w hs)
  have C2 := hide (fun w => specYes_any (highB s) w)
  obtain ⟨b, hb0⟩ : ∃ b, b = highB s := ⟨_, rfl⟩
  rw [← hb0] at C C2 ⊢
  clear hb0 hv hs
  go_enter Tryz.func32, Tryz.ntmps32
  go_wp2_with (first | (go_at_call 50; refine (C.out _).mono ?_; rintro e w1 ⟨rfl, hb⟩) | (go_at_call 48; refine (C2.out _).mono ?_; rintro e w2 ⟨rfl, rfl⟩))
  go_ret
  exact ⟨rfl, hb⟩

set_option maxHeartbeats 2000000 in
theorem bare_rigged (s : ByteArray) (w : World) (hv : vld s = true) :
    Calls Tryz.prog 32 #[.string s, .string ⟨#[114, 105, 103, 103, 101, 100]⟩] w fun e w' => e = .returned (.string (rigS (rgOf s) (highB s))) ∧ Below w.heap.size w w' := by
  have hs : s.size ≤ maxLen := by have := vld_le s hv; unfold maxLen; omega
  have C := hide (fun w => specRigOf_any s w hs)
  have HB := hide (rgOf_bd s).2
  have HX := hide (fun h => rg_bd (s := s) h)
  obtain ⟨b, hb0⟩ : ∃ b, b = highB s := ⟨_, rfl⟩
  obtain ⟨l, hl⟩ : ∃ l, l = rgOf s := ⟨_, rfl⟩
  rw [← hb0, ← hl] at C ⊢
  rw [← hb0, ← hl] at HX
  rw [← hl] at HB
  clear hb0 hl hv hs
  go_enter Tryz.func32, Tryz.ntmps32
  go_wp2_with (first | (go_at_call 51; refine (C.out _).mono ?_; rintro e w1 ⟨v, rfl, hi, hb⟩) | (go_at_call 52; refine (specRigged_any l b v w1 hi.1 (Nat.le_trans HB.out (by decide)) HX.out).mono ?_; rintro e w2 ⟨rfl, hb2⟩))
  go_ret
  exact ⟨rfl, hb.trans (hb2.mono hb.size)⟩

set_option maxHeartbeats 2000000 in
theorem bare_balls (s : ByteArray) (w : World) (hv : vld s = true) :
    Calls Tryz.prog 32 #[.string s, .string ⟨#[98, 97, 108, 108, 115]⟩] w fun e w' => e = .returned (.string (saidS [(nballs (bits s) : Int)] true)) ∧ Below w.heap.size w w' := by
  have hs : s.size ≤ maxLen := by have := vld_le s hv; unfold maxLen; omega
  have C := hide (fun w => l1Balls_any s w hs)
  have hn := nballs8 hv
  obtain ⟨m, hm⟩ : ∃ m, m = nballs (bits s) := ⟨_, rfl⟩
  rw [← hm] at C hn ⊢
  have CS := hide (fun (W : World) (h : CellsAt W w.heap.size [.int .i64 (m : Int)]) (hl : w.heap.size < W.heap.size) => specSaid_any [(m : Int)] true (lo := w.heap.size) (.slice (some ⟨w.heap.size, 0, none⟩) 1 1) W (.inr ⟨w.heap.size, 1, rfl, Nat.le_refl _, Nat.le_refl _, hl, h⟩) (show 1 ≤ 1000 by decide) (fun _ x hx => by simp at hx; subst hx; omega))
  clear hm hn hv hs
  go_enter Tryz.func32, Tryz.ntmps32
  go_wp2_with (first | (go_at_call 44; refine (C.out _).mono ?_; rintro e w1 ⟨rfl, rfl⟩) | (go_at_call 43; go_loud (refine (CS.out _ (one_cell _ _ _) (by rw [World.size_alloc]; omega)).mono ?_; rintro e w2 ⟨rfl, hb2⟩)))
  go_ret
  exact ⟨rfl, ((Below.refl _ _).alloc (Nat.le_refl _) _).trans (hb2.mono (by rw [World.size_alloc]; omega))⟩

set_option maxHeartbeats 2000000 in
theorem bare_time (s : ByteArray) (w : World) (hv : vld s = true) :
    Calls Tryz.prog 32 #[.string s, .string ⟨#[116, 105, 109, 101]⟩] w fun e w' => e = .returned (.string (saidS [(tmR s).1] (tmR s).2)) ∧ Below w.heap.size w w' := by
  have hs : s.size ≤ maxLen := by have := vld_le s hv; unfold maxLen; omega
  have C := hide (fun w => specShapeTime_any s w hs)
  have hn := tmR_bd s
  obtain ⟨m, hm⟩ : ∃ m, m = (tmR s).1 := ⟨_, rfl⟩
  obtain ⟨b, hb0⟩ : ∃ b, b = (tmR s).2 := ⟨_, rfl⟩
  rw [← hm] at C hn ⊢
  rw [← hb0] at C ⊢
  have CS := hide (fun (W : World) (g : Nat) (h : CellsAt W g [.int .i64 m]) (hl : g < W.heap.size) => specSaid_any [m] b (lo := g) (.slice (some ⟨g, 0, none⟩) 1 1) W (.inr ⟨g, 1, rfl, Nat.le_refl _, Nat.le_refl _, hl, h⟩) (show 1 ≤ 1000 by decide) (fun _ x hx => by simp at hx; subst hx; omega))
  clear hm hb0 hn hv hs
  go_enter Tryz.func32, Tryz.ntmps32
  go_wp2_with (first | (go_at_call 47; refine (C.out _).mono ?_; rintro e w1 ⟨rfl, hb⟩) | (go_at_call 43; go_loud (refine (CS.out _ w1.heap.size (one_cell _ _ _) (by rw [World.size_alloc]; omega)).mono ?_; rintro e w2 ⟨rfl, hb2⟩)))
  go_ret
  exact ⟨rfl, (hb.alloc hb.size _).trans (hb2.mono (by rw [World.size_alloc]; have := hb.size; omega))⟩

set_option maxHeartbeats 2000000 in
theorem specBare_any (s word : ByteArray) (w : World) (hv : vld s = true) :
    Calls Tryz.prog 32 #[.string s, .string word] w fun e w' => e = .returned (.string (bareS s word)) ∧ Below w.heap.size w w' := by
  unfold bareS
  by_cases e1 : word = wShow
  · rw [if_pos e1, e1]; exact bare_show s w hv
  rw [if_neg e1]
  by_cases e2 : word = wBalls
  · rw [if_pos e2, e2]; exact bare_balls s w hv
  rw [if_neg e2]
  by_cases e3 : word = wShape
  · rw [if_pos e3, e3]; exact bare_shape s w hv
  rw [if_neg e3]
  by_cases e4 : word = wRuns
  · rw [if_pos e4, e4]; exact bare_runs s w hv
  rw [if_neg e4]
  by_cases e5 : word = wTime
  · rw [if_pos e5, e5]; exact bare_time s w hv
  rw [if_neg e5]
  by_cases e6 : word = wApart
  · rw [if_pos e6, e6]; exact bare_apart s w hv
  rw [if_neg e6]
  by_cases e7 : word = wHigh
  · rw [if_pos e7, e7]; exact bare_high s w hv
  rw [if_neg e7]
  by_cases e8 : word = wRigged
  · rw [if_pos e8, e8]; exact bare_rigged s w hv
  rw [if_neg e8]
  have q1 := word_ne [115, 104, 111, 119] e1
  have q2 := word_ne [98, 97, 108, 108, 115] e2
  have q3 := word_ne [115, 104, 97, 112, 101] e3
  have q4 := word_ne [114, 117, 110, 115] e4
  have q5 := word_ne [116, 105, 109, 101] e5
  have q6 := word_ne [97, 112, 97, 114, 116] e6
  have q7 := word_ne [104, 105, 103, 104] e7
  have q8 := word_ne [114, 105, 103, 103, 101, 100] e8
  clear e1 e2 e3 e4 e5 e6 e7 e8
  go_enter Tryz.func32, Tryz.ntmps32
  go_wp2
  go_ret
  exact ⟨rfl, Below.refl _ _⟩
end Go.Proofs.YtdooboibmllfkaaGreatDoor
