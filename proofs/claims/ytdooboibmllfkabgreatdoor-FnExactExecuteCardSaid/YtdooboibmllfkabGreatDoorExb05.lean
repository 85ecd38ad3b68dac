/- TEXTS Draw, Levels, L6In, RowOf. -/
import Derived.Test.YtdooboibmllfkabGreatDoorExb02
import Derived.Deep.QuietTactic
import Derived.BigQuiet
import Derived.Test.YtdooboibmllfkabGreatDoorExb01
import Derived.Test.YtdooboibmllfkabGreatDoorChecked
import Derived.Test.YtdooboibmllfkabGreatDoorExb04
namespace Go.Proofs.YtdooboibmllfkabGreatDoor
set_option maxRecDepth 100000
open Go.RowKit

structure Rd (w : World) (R : Nat) (a : Option Addr) (len cap : Nat) (z : List Int) (p : Nat) : Prop where
  c0 : w.cell? ⟨R, 0, none⟩ = some (.slice a len cap)
  c1 : w.cell? ⟨R, 1, none⟩ = some (.int .i64 (p : Int))
  f1 : w.frozen? ⟨R, 1, none⟩ = false
  len_le : len ≤ 2000
  bytes : 0 < len → ∃ b off, a = some ⟨b, off, none⟩ ∧ b < R ∧ (∀ j, j < len → w.cell? ⟨b, off + j, none⟩ = some (.int .u8 (z.getD j 0)) ∧ 0 ≤ z.getD j 0 ∧ z.getD j 0 ≤ 255)

theorem Rd.lt {w : World} {R : Nat} {a : Option Addr} {len cap : Nat} {z : List Int} {p : Nat} (h : Rd w R a len cap z p) : R < w.heap.size := World.block_lt_of_cell? w _ h.c0
theorem Rd.below {w w' : World} {R : Nat} {a : Option Addr} {len cap : Nat} {z : List Int} {p : Nat} (h : Rd w R a len cap z p) {B : Nat} (hb : Below B w w') (hR : R < B) : Rd w' R a len cap z p where
  c0 := (hb.cell (p := ⟨R, 0, none⟩) hR).trans h.c0
  c1 := (hb.cell (p := ⟨R, 1, none⟩) hR).trans h.c1
  f1 := (hb.frozen (p := ⟨R, 1, none⟩) hR).trans h.f1
  len_le := h.len_le
  bytes := fun h0 => by
    obtain ⟨b, off, e, hb1, hc⟩ := h.bytes h0
    exact ⟨b, off, e, hb1, fun j hj => ⟨(hb.cell (p := ⟨b, off + j, none⟩) (Nat.lt_trans hb1 hR)).trans (hc j hj).1, (hc j hj).2⟩⟩
theorem Rd.next {w : World} {R : Nat} {a : Option Addr} {len cap : Nat} {z : List Int} {p : Nat} (h : Rd w R a len cap z p) : Rd (w.setCell ⟨R, 1, none⟩ (.int .i64 ((p + 1 : Nat) : Int))) R a len cap z (p + 1) where
  c0 := by rw [World.cell?_setCell_other _ _ _ _ (by intro h; injection h with _ h2; cases h2)]; exact h.c0
  c1 := World.cell?_setCell_same' _ _ _ (by rw [h.c1]; rfl)
  f1 := by rw [World.frozen?_setCell]; exact h.f1
  len_le := h.len_le
  bytes := fun h0 => by
    obtain ⟨b, off, e, hb1, hc⟩ := h.bytes h0
    exact ⟨b, off, e, hb1, fun j hj => ⟨by rw [World.cell?_setCell_other _ _ _ _ (by intro h; injection h with h2 _; omega)]; exact (hc j hj).1, (hc j hj).2⟩⟩

def Picked (w : World) (R : Nat) (a : Option Addr) (len cap : Nat) (z : List Int) (p : Nat) (n : Int) (e : Ending) (w' : World) : Prop :=
  ∃ v : Int, e = .returned (.int .i64 v) ∧ -n < v ∧ v < n ∧ Rd w' R a len cap z (p + 1) ∧ Below R w w' ∧ w'.heap.size = w.heap.size

theorem picked_next {w : World} {R : Nat} {a : Option Addr} {len cap : Nat} {z : List Int} {p : Nat} {n v : Int} (h : Rd w R a len cap z p) (h1 : -n < v) (h2 : v < n) (k : Nat) :
    Picked w R a len cap z p n (.returned (.int .i64 v)) ((w.setCell ⟨R, 1, none⟩ (.int .i64 ((p : Int) + 1))).drewN k) := by
  have e : ((p : Int) + 1) = ((p + 1 : Nat) : Int) := by omega
  rw [e]
  refine ⟨v, rfl, h1, h2, h.next.below ((Quiet.drewN k).2 (R + 1)) (Nat.lt_succ_self R), ?_, ?_⟩
  · exact ((Below.refl R w).setCell (Nat.le_refl _) _).trans ((Quiet.drewN k).2 R)
  · show (World.setCell _ _ _).heap.size = _; simp [World.setCell]

theorem tmod_bd (x n : Int) (h : 1 ≤ n) : -n < x.tmod n ∧ x.tmod n < n := by
  constructor
  · have := Int.tmod_lt_of_pos (-x) (show 0 < n by omega); rw [Int.neg_tmod] at this; omega
  · exact Int.tmod_lt_of_pos x (by omega)

set_option maxHeartbeats 1000000 in
theorem pick_any (w : World) (R : Nat) (a : Option Addr) (len cap : Nat) (z : List Int) (p : Nat) (n : Int) (hrd : Rd w R a len cap z p) (hp : p ≤ 100000) (hn1 : 1 ≤ n) (hn2 : n ≤ 1000) :
    Calls Tryz.prog 55 #[.pointer (some ⟨R, 0, none⟩), .int .i64 n] w (Picked w R a len cap z p n) := by
  have hc0 := hrd.c0
  have hc1 := hrd.c1
  have hf1 := hrd.f1
  have hlen := hrd.len_le
  by_cases h0 : len = 0
  · subst h0
    have HR := hide hrd
    clear hrd
    go_enter Tryz.func55, Tryz.ntmps55
    go_wp2
    go_ret
    exact picked_next HR.out (by omega) (by omega) 0
  · obtain ⟨b, off, rfl, hbR, hby⟩ := hrd.bytes (by omega)
    have HR := hide hrd
    have HB := hide hby
    clear hrd hby
    have l0 : ((len : Int) == 0) = false := beq_eq_false_iff_ne.2 (by omega)
    by_cases hpl : p < len
    · obtain ⟨hcell, hz0, hz1⟩ := HB.out p hpl
      obtain ⟨y, hy⟩ : ∃ y, y = z.getD p 0 := ⟨_, rfl⟩
      rw [← hy] at hcell hz0 hz1
      clear hy
      go_enter Tryz.func55, Tryz.ntmps55
      go_wp2
      go_ret
      have h1 := Int.emod_nonneg y (show n ≠ 0 by omega)
      have h2 := Int.emod_lt_of_pos y (show 0 < n by omega)
      exact picked_next HR.out (by omega) h2 0
    · obtain ⟨i1, hi1⟩ : ∃ i, i = p % len := ⟨_, rfl⟩
      obtain ⟨i2, hi2⟩ : ∃ i, i = (p * 7 + 3) % len := ⟨_, rfl⟩
      have b1 : i1 < len := by rw [hi1]; exact Nat.mod_lt _ (by omega)
      have b2 : i2 < len := by rw [hi2]; exact Nat.mod_lt _ (by omega)
      have hcell1 := (HB.out i1 b1).1
      have hcell2 := (HB.out i2 b2).1
      obtain ⟨y1, hy1⟩ : ∃ y, y = z.getD i1 0 := ⟨_, rfl⟩
      obtain ⟨y2, hy2⟩ : ∃ y, y = z.getD i2 0 := ⟨_, rfl⟩
      rw [← hy1] at hcell1
      rw [← hy2] at hcell2
      have e1 : Int.tmod (p : Int) (len : Int) = (i1 : Int) := by rw [hi1]; rfl
      have e2 : Int.tmod ((p : Int) * 7 + 3) (len : Int) = (i2 : Int) := by
        rw [hi2, show ((p : Int) * 7 + 3) = ((p * 7 + 3 : Nat) : Int) by omega]; rfl
      have w1 : IntKind.i64.wrap ((p : Int) * 7) = (p : Int) * 7 := IntWalk.i64_in _ (by omega)
      have w2 : IntKind.i64.wrap ((p : Int) * 7 + 3) = (p : Int) * 7 + 3 := IntWalk.i64_in _ (by omega)
      have n1 : (0 : Int) ≤ (i1 : Int) := by omega
      have n2 : (0 : Int) ≤ (i2 : Int) := by omega
      have m1 : (i1 : Int) < (len : Int) := by omega
      have m2 : (i2 : Int) < (len : Int) := by omega
      clear hi1 hi2 hy1 hy2 b1 b2
      go_enter Tryz.func55, Tryz.ntmps55
      go_wp2
      go_quiet (fail)
      go_wp2
      go_ret
      exact picked_next HR.out (tmod_bd _ n hn1).1 (tmod_bd _ n hn1).2 _

theorem Rd.new (w : World) (a : Option Addr) (len cap : Nat) (z : List Int) (hlen : len ≤ 2000)
    (hby : 0 < len → ∃ b off, a = some ⟨b, off, none⟩ ∧ b < w.heap.size ∧ (∀ j, j < len → w.cell? ⟨b, off + j, none⟩ = some (.int .u8 (z.getD j 0)) ∧ 0 ≤ z.getD j 0 ∧ z.getD j 0 ≤ 255)) (t : TypeId) :
    Rd (w.alloc (.cells #[.slice a len cap, .int .i64 0] t)) w.heap.size a len cap z 0 where
  c0 := by rw [World.cell?_alloc_at _ _ _ _ rfl]; rfl
  c1 := by rw [World.cell?_alloc_at _ _ _ _ rfl]; rfl
  f1 := World.frozen?_alloc_at _ _ _ _ rfl
  len_le := hlen
  bytes := fun h0 => by
    obtain ⟨b, off, e, hb, hc⟩ := hby h0
    exact ⟨b, off, e, hb, fun j hj => ⟨by rw [World.cell?_alloc_past _ _ _ hb]; exact (hc j hj).1, (hc j hj).2⟩⟩

set_option maxHeartbeats 400000 in
theorem l6Open_any (a : Option Addr) (len cap : Nat) (z : List Int) (w : World) (hlen : len ≤ 1048576) (hcap : len ≤ cap)
    (hby : 0 < len → ∃ b off, a = some ⟨b, off, none⟩ ∧ b < w.heap.size ∧ (∀ j, j < len → w.cell? ⟨b, off + j, none⟩ = some (.int .u8 (z.getD j 0)) ∧ 0 ≤ z.getD j 0 ∧ z.getD j 0 ≤ 255)) :
    Calls Tryz.prog 33 #[.slice a len cap] w fun e w' => e = .returned (.pointer (some ⟨w.heap.size, 0, none⟩)) ∧ Rd w' w.heap.size a (min len 2000) cap z 0 ∧ Below w.heap.size w w' ∧ w'.heap.size = w.heap.size + 1 := by
  have HB := hide hby
  clear hby
  by_cases h : 2000 < len
  · have HE := hide (show min len 2000 = 2000 by omega)
    go_enter Tryz.func33, Tryz.ntmps33
    go_wp2
    go_ret
    rw [HE.out]
    exact ⟨rfl, Rd.new w a 2000 cap z (by omega) (fun _ => by obtain ⟨b, off, e, hb, hc⟩ := HB.out (by omega); exact ⟨b, off, e, hb, fun j hj => hc j (by omega)⟩) _, (Below.refl _ _).alloc (Nat.le_refl _) _, by simp⟩
  · have HE := hide (show min len 2000 = len by omega)
    go_enter Tryz.func33, Tryz.ntmps33
    go_wp2
    go_ret
    rw [HE.out]
    exact ⟨rfl, Rd.new w a len cap z (by omega) HB.out _, (Below.refl _ _).alloc (Nat.le_refl _) _, by simp⟩

def rep {α : Type} (n : Nat) (l : List α) : List α := (List.replicate n l).flatten
theorem rep_zero {α : Type} (l : List α) : rep 0 l = [] := rfl
theorem rep_succ {α : Type} (n : Nat) (l : List α) : rep (n + 1) l = l ++ rep n l := by simp [rep, List.replicate_succ]
theorem rep_double {α : Type} (m : Nat) (l : List α) : rep (2 * m) l = rep m (l ++ l) := by
  induction m with
  | zero => rfl
  | succ m ih => rw [show 2 * (m + 1) = 2 * m + 1 + 1 by omega, rep_succ, rep_succ, rep_succ, ih, List.append_assoc]
theorem rep_length {α : Type} (n : Nat) (l : List α) : (rep n l).length = n * l.length := by simp [rep]

set_option maxHeartbeats 1000000 in
theorem l6Many_any (s : ByteArray) (n : Nat) (w : World) (hn : n ≤ 1000) (hs : s.size ≤ 1000) :
    Calls Tryz.prog 63 #[.string s, .int .i64 (n : Int)] w fun e w' => (∃ out : ByteArray, e = .returned (.string out) ∧ out.data.toList = rep n s.data.toList) ∧ w = w' := by
  go_enter Tryz.func63, Tryz.ntmps63
  go_wp2
  go_loop [0, 1, 5] (fun t m o => ∃ (ss so : ByteArray) (k : Nat), k ≤ n ∧ t = .string ss ∧ m = .int .i64 (k : Int) ∧ o = .string so ∧ Hid (so.data.toList ++ rep k ss.data.toList = rep n s.data.toList)) (fun _ m _ => (Go.RowKit.intOf m).toNat)
  case atStart => exact ⟨s, ⟨#[]⟩, n, Nat.le_refl _, rfl, rfl, rfl, rfl⟩
  case round =>
    obtain ⟨ss, so, k, hk, rfl, rfl, rfl, HR⟩ := hrel
    by_cases h0 : k = 0
    · subst h0
      go_wp2
      go_ret
      exact ⟨⟨so, rfl, by have := HR.out; rwa [rep_zero, List.append_nil] at this⟩, rfl⟩
    · have k1 : (0 : Int) < (k : Int) := by omega
      have kk : (0 : Int) ≤ (k : Int) := by omega
      have hz : so.size + ss.size ≤ 1000000 := by
        have h := congrArg List.length HR.out
        rw [List.length_append, rep_length, rep_length] at h
        have h1 : n * s.data.toList.length ≤ 1000 * 1000 := Nat.mul_le_mul hn hs
        have h2 : 1 * ss.data.toList.length ≤ k * ss.data.toList.length := Nat.mul_le_mul_right _ (by omega)
        have h3 : so.data.toList.length = so.size := rfl
        have h4 : ss.data.toList.length = ss.size := rfl
        omega
      have hz2 : ss.size + ss.size ≤ 2000000 := by omega
      by_cases h1 : k % 2 = 1
      · have e1 : ((k : Int) % 2 == 1) = true := by simp; omega
        obtain ⟨m, rfl⟩ : ∃ m, k = 2 * m + 1 := ⟨k / 2, by omega⟩
        have HM := hide (show ((2 * m + 1 : Nat) : Int) / 2 = (m : Int) by omega)
        have HI := hide (show Go.RowKit.intOf (.int .i64 ((2 * m + 1 : Nat) : Int)) = 2 * m + 1 by simp [Go.RowKit.intOf])
        obtain ⟨k, hkk⟩ : ∃ k, k = 2 * m + 1 := ⟨_, rfl⟩
        rw [← hkk] at HR HM HI hk k1 kk e1 ⊢
        have HK := hide hkk
        clear hkk h0 h1
        go_wp2
        go_round
        case rel =>
          refine ⟨ss ++ ss, so ++ ss, m, by have := HK.out; omega, rfl, by rw [HM.out], rfl, ?_⟩
          have h := HR.out
          rw [HK.out, rep_succ, rep_double] at h
          simpa [Hid] using h
        case measure => rw [HM.out, HI.out]; simp [Go.RowKit.intOf]; omega
      · have e1 : ((k : Int) % 2 == 1) = false := by simp; omega
        obtain ⟨m, rfl⟩ : ∃ m, k = 2 * m := ⟨k / 2, by omega⟩
        have HM := hide (show ((2 * m : Nat) : Int) / 2 = (m : Int) by omega)
        have HI := hide (show Go.RowKit.intOf (.int .i64 ((2 * m : Nat) : Int)) = 2 * m by simp [Go.RowKit.intOf])
        have HP := hide (show 0 < m by omega)
        obtain ⟨k, hkk⟩ : ∃ k, k = 2 * m := ⟨_, rfl⟩
        rw [← hkk] at HR HM HI hk k1 kk e1 ⊢
        have HK := hide hkk
        clear hkk h0 h1
        go_wp2
        go_round
        case rel =>
          refine ⟨ss ++ ss, so, m, by have := HK.out; omega, rfl, by rw [HM.out], rfl, ?_⟩
          have h := HR.out
          rw [HK.out, rep_double] at h
          simpa [Hid] using h
        case measure => rw [HM.out, HI.out]; have := HP.out; simp [Go.RowKit.intOf]; omega
end Go.Proofs.YtdooboibmllfkabGreatDoor

namespace Go.Proofs.YtdooboibmllfkabGreatDoor
set_option maxRecDepth 100000
open Go.RowKit

def DrawnS (w : World) (R : Nat) (a : Option Addr) (len cap : Nat) (z : List Int) (p : Nat) (e : Ending) (w' : World) : Prop :=
  ∃ (s : ByteArray) (q : Nat), e = .returned (.string s) ∧ s.size ≤ 300 ∧ q ≤ p + 70 ∧ Rd w' R a len cap z q ∧ Below R w w' ∧ w'.heap.size = w.heap.size
def DrawnRel (w : World) (R : Nat) (a : Option Addr) (len cap : Nat) (z : List Int) (p d : Nat) (s : Value) (i : Value) (wr : World) : Prop :=
  ∃ (x : ByteArray) (k q : Nat), s = .string x ∧ i = .int .i64 (k : Int) ∧ x.size = k ∧ k ≤ 28 ∧ allSgn x.data.toList = true ∧ q ≤ p + 1 + d * k ∧ Rd wr R a len cap z q ∧ Below R w wr ∧ wr.heap.size = w.heap.size

theorem allSgn_push (x : ByteArray) (c : UInt8) (hc : sgn c = true) (h : allSgn x.data.toList = true) : allSgn (x ++ ⟨#[c]⟩).data.toList = true := by
  unfold allSgn at h ⊢
  simp [ByteArray.data_append, hc]
  simpa using h

theorem tidyS_le (x : ByteArray) : (tidyS x).size ≤ x.size := by
  unfold tidyS; simp; omega
theorem many61 (w : World) : Calls Tryz.prog 63 #[.string ⟨#[49, 48]⟩, .int .i64 61] w fun e w' => (∃ out : ByteArray, e = .returned (.string out) ∧ out.size = 122) ∧ w = w' :=
  (l6Many_any ⟨#[49, 48]⟩ 61 w (by omega) (by decide)).mono fun e w' ⟨⟨out, he, ho⟩, hw⟩ => ⟨⟨out, he, by have := congrArg List.length ho; rw [rep_length] at this; exact this⟩, hw⟩

set_option maxHeartbeats 1000000 in
theorem l91Row_any (w : World) (R : Nat) (a : Option Addr) (len cap : Nat) (z : List Int) (p : Nat) (hrd : Rd w R a len cap z p) (hp : p ≤ 1000) :
    Calls Tryz.prog 41 #[.pointer (some ⟨R, 0, none⟩)] w (DrawnS w R a len cap z p) := by
  go_enter Tryz.func41, Tryz.ntmps41
  go_wp2_with fail
  refine (pick_any w R a len cap z p 28 hrd (by omega) (by omega) (by omega)).mono ?_
  rintro e w1 ⟨n, rfl, hn1, hn2, hr1, hb1, hz1⟩
  go_wp2_with fail
  go_loopw [3, 5] (DrawnRel w R a len cap z p 1) (fun _ i _ => (n - Go.RowKit.intOf i).toNat)
  case atStart => exact ⟨_, 0, _, rfl, rfl, rfl, by omega, rfl, by omega, hr1, hb1, hz1⟩
  case round =>
    obtain ⟨x, k, q, rfl, rfl, hx, hk, hs, hq, hr, hb, hz⟩ := hrel
    have HS := hide hs
    have HX := hide hx
    have HB := hide hb
    have HZ := hide hz
    clear hs hx hb hz hr1 hb1 hz1
    by_cases hlt : (k : Int) < n
    · have hsz : x.size + 1 ≤ 1000 := by rw [HX.out]; omega
      go_wp2_with fail
      refine (pick_any wr R a len cap z q 3 hr (by omega) (by omega) (by omega)).mono ?_
      rintro e w2 ⟨v, rfl, hv1, hv2, hr2, hb2, hz2⟩
      have HR2 := hide hr2
      have HB2 := hide hb2
      have HZ2 := hide hz2
      clear hr2 hb2 hz2 hr
      cases hv : (v == 0)
      all_goals
        go_wp2_with fail
        go_roundw
        case rel => exact ⟨_, k + 1, q + 1, rfl, by go_num, by simp [HX.out]; rfl, by omega, allSgn_push x _ (by rfl) HS.out, by omega, HR2.out, HB.out.trans HB2.out, HZ2.out.trans HZ.out⟩
        case measure => simp [Go.RowKit.intOf]; omega
    · go_wp2_with fail
      refine (pick_any wr R a len cap z q 24 hr (by omega) (by omega) (by omega)).mono ?_
      rintro e w2 ⟨v, rfl, hv1, hv2, hr2, hb2, hz2⟩
      have hsz : x.size ≤ 28 := by rw [HX.out]; omega
      have fin : ∀ t : ByteArray, t.size ≤ 300 → DrawnS w R a len cap z p (.returned (.string t)) w2 := fun t ht => ⟨t, q + 1, rfl, ht, by omega, hr2, HB.out.trans hb2, hz2.trans HZ.out⟩
      have FIN := hide fin
      clear fin hr2 hb2 hz2 hr hrd
      cases h0 : (v == 0)
      · cases h1 : (v == 1)
        · cases h2 : (v == 2)
          · go_wp2_with (go_at_call 48; refine (l1Tidy_any x _ (by unfold maxLen; omega) HS.out).mono ?_; rintro e w3 ⟨rfl, rfl⟩)
            go_ret
            exact FIN.out _ (by have := tidyS_le x; omega)
          · go_wp2
            go_ret
            exact FIN.out _ (by omega)
        · go_wp2_with (go_at_call 63; refine (many61 _).mono ?_; rintro e w3 ⟨⟨out, rfl, hout⟩, rfl⟩)
          · go_ret
            exact FIN.out _ (by simp; omega)
      · go_wp2
        go_ret
        exact FIN.out _ (by have : (⟨#[50]⟩ : ByteArray).size = 1 := rfl; simp; omega)
end Go.Proofs.YtdooboibmllfkabGreatDoor

namespace Go.Proofs.YtdooboibmllfkabGreatDoor
set_option maxRecDepth 100000
open Go.RowKit

def IsRow (k : IntKind) (w : World) (a : Option Addr) (len cap : Nat) (zs : List Int) : Prop :=
  (a = none ∧ len = 0 ∧ cap = 0 ∧ zs = []) ∨
  ∃ x, a = some x ∧ len ≤ cap ∧ cap ≤ maxLen ∧ zs.length = cap ∧ (∀ i, i < zs.length → w.cell? (x.add i) = some (.int k (zs.getD i 0))) ∧ ∀ n ∈ zs, (Lit.int k n).wf = true

def Bytes (w : World) (a : Option Addr) (len : Nat) (z : List Int) : Prop :=
  0 < len → ∃ b off, a = some ⟨b, off, none⟩ ∧ b < w.heap.size ∧ (∀ j, j < len → w.cell? ⟨b, off + j, none⟩ = some (.int .u8 (z.getD j 0)) ∧ 0 ≤ z.getD j 0 ∧ z.getD j 0 ≤ 255)

theorem IsRow.bytes {w : World} {a : Option Addr} {len cap : Nat} {z : List Int} (h : IsRow .u8 w a len cap z) : Bytes w a len z := by
  intro h0
  rcases h with ⟨_, rfl, _, _⟩ | ⟨x, rfl, hl, hm, hz, hcell, hwz⟩
  · omega
  · obtain ⟨b, off, spot⟩ := x
    have hc := hcell 0 (by omega)
    have hspot : spot = none := by simpa [Addr.add] using World.cell?_spot hc
    subst hspot
    refine ⟨b, off, rfl, World.block_lt_of_cell? w _ hc, ?_⟩
    intro j hj
    have hcj := hcell j (by omega)
    have hw := hwz (z.getD j 0) (by rw [List.getD_eq_getElem?_getD, List.getElem?_eq_getElem (by omega)]; exact List.getElem_mem _)
    rw [Addr.add_lit] at hcj
    obtain ⟨x, hx⟩ : ∃ x, x = z.getD j 0 := ⟨_, rfl⟩
    rw [← hx] at hw hcj ⊢
    have hr : 0 ≤ x ∧ x ≤ 255 := by
      have m1 : IntKind.u8.min = 0 := rfl
      have m2 : IntKind.u8.max = 255 := rfl
      simp [Lit.wf] at hw; omega
    exact ⟨hcj, hr⟩
theorem IsRow.le {k : IntKind} {w : World} {a : Option Addr} {len cap : Nat} {z : List Int} (h : IsRow k w a len cap z) : len ≤ cap := by
  rcases h with ⟨_, rfl, _, _⟩ | ⟨x, rfl, hl, hm, hz, hcell, hwz⟩
  · omega
  · exact hl
theorem IsRow.max {k : IntKind} {w : World} {a : Option Addr} {len cap : Nat} {z : List Int} (h : IsRow k w a len cap z) : cap ≤ maxLen := by
  rcases h with ⟨_, _, rfl, _⟩ | ⟨x, rfl, hl, hm, hz, hcell, hwz⟩
  · unfold maxLen; omega
  · exact hm

def DrawnRow (w : World) (e : Ending) (w' : World) : Prop := ∃ s : ByteArray, e = .returned (.string s) ∧ s.size ≤ 300 ∧ Below w.heap.size w w'

end Go.Proofs.YtdooboibmllfkabGreatDoor

namespace Go.Proofs.YtdooboibmllfkabGreatDoor
set_option maxRecDepth 100000
open Go.RowKit

def levAt (l : List Bool) (i : Nat) : Int := (i : Int) - 2 * (nballs (l.take i) : Int)
def lev (l : List Bool) : List Int := (List.range (l.length + 1)).map (levAt l)
theorem levAt_succ (l : List Bool) (k : Nat) (b : Bool) (h : l[k]? = some b) : levAt l (k + 1) = levAt l k + if b then -1 else 1 := by
  unfold levAt; rw [nballs_snoc l k b h]; cases b <;> simp <;> omega
theorem levAt_zero (l : List Bool) : levAt l 0 = 0 := by simp [levAt, nballs]
theorem levAt_bd (l : List Bool) (k : Nat) : -(k : Int) ≤ levAt l k ∧ levAt l k ≤ k := by
  have := nballs_le l k; unfold levAt; omega
theorem lev_length (l : List Bool) : (lev l).length = l.length + 1 := by simp [lev]
theorem lev_getElem (l : List Bool) (k : Nat) (h : k ≤ l.length) : (lev l)[k]? = some (levAt l k) := by simp [lev, show k < l.length + 1 by omega]
theorem lev_take_succ (l : List Bool) (k : Nat) (h : k ≤ l.length) : (lev l).take (k + 1) = (lev l).take k ++ [levAt l k] := by
  have hb : k < (lev l).length := by rw [lev_length]; omega
  have e := lev_getElem l k h
  rw [List.getElem?_eq_getElem hb] at e
  simp only [Option.some.injEq] at e
  rw [List.take_succ_eq_append_getElem hb, e]

theorem infoI : (Tryz.prog.info? 3).map (fun i => (i.zero, i.size, i.bytes)) = some (some (.int .i64 0), 1, 8) := by kernel_rfl

set_option maxHeartbeats 400000 in
theorem l1Levels_any (s : ByteArray) (w : World) (hs : s.size ≤ 120) :
    Calls Tryz.prog 57 #[.string s] w fun e w' => ∃ v, e = .returned v ∧ IntsV w.heap.size w' v (lev (bits s)) ∧ Below w.heap.size w w' := by
  obtain ⟨i0, hi, hz0, hz1, hz2⟩ := info_parts infoI
  obtain ⟨B, hB⟩ : ∃ B, w.heap.size = B := ⟨_, rfl⟩
  have h0 := World.ownsRow_lit (base := B) (e := 3) (size := 1) w #[.int .i64 0] 1 (by omega) (by unfold maxLen; omega) rfl
  have hb0 := (Below.refl B w).alloc (by omega) (.cells #[.int .i64 0] 3)
  rw [hB] at h0 ⊢
  have HB := hide hB
  clear hB
  have H0 := hide h0
  clear h0
  go_enter Tryz.func57, Tryz.ntmps57
  go_wp2
  go_loopw [3, 4, 5] (fun v n i wr => ∃ k : Nat, k ≤ s.size ∧ i = .int .i64 k ∧ n = .int .i64 (levAt (bits s) k) ∧ Hid (wr.ownsRow B 3 1 v (k + 1) (((lev (bits s)).take (k + 1)).map (.int .i64))) ∧ Hid (Below B w wr) ∧ B ≤ wr.heap.size) (fun _ _ i _ => s.size - (Go.RowKit.intOf i).toNat)
  case atStart =>
    refine ⟨0, Nat.zero_le _, rfl, by rw [levAt_zero], ?_, hb0, by simp [← HB.out]⟩
    rw [lev_take_succ _ _ (Nat.zero_le _), levAt_zero]; rw [HB.out]; exact H0.out
  case round =>
    obtain ⟨k, hk, rfl, rfl, HO, HBW, hsz⟩ := hrel
    have hl := levAt_bd (bits s) k
    by_cases hlt : k < s.size
    · have HG := hide (bits_getElem s k hlt)
      rw [bit_int] at HG
      obtain ⟨m, hm⟩ : ∃ m, m = levAt (bits s) k := ⟨_, rfl⟩
      have HM := hide hm
      rw [← hm] at hl ⊢
      clear hm
      have hone : ∀ x : Int, ∀ u ∈ [Value.int .i64 x], u.oneCell' = true := by intro x u hu; simp at hu; subst hu; rfl
      have H1 := hide hone
      clear hone
      cases hb : ((s[k].toNat : Int) == 49)
      · have HS := hide ((levAt_succ (bits s) k _ HG.out).trans (by rw [hb, ← HM.out]; rfl : _ = m + 1))
        clear HG
        go_wp2_with (at_builtin; refine wpList_append_own _ rfl _ _ 39 rfl B 3 i0 (.int .i64 0) 1 8 Tryz.underlying39 hi hz0 hz1 hz2 rfl (by decide) _ _ _ rfl (HO.out.alloc _) ⟨wr.heap.size, 0, none⟩ 1 1 [.int .i64 (m + 1)] rfl rfl (cell_one_new _ _ _) (H1.out _) (by unfold maxLen; omega) (by omega) (by simp; omega) ?_; intro v' w1 hown' hgrow _)
        go_roundw
        case rel =>
          refine ⟨k + 1, by omega, by go_num, by rw [HS.out], ?_, ?_, ?_⟩
          · rw [lev_take_succ _ _ (by rw [length_bits]; omega), HS.out, List.map_append]; exact hown'
          · exact (HBW.out.alloc hsz _).grown hgrow (by simp; omega) (fun b e => (HO.out.lt b e).1)
          · have := hgrow.size; simp at this; omega
        case measure => simp [Go.RowKit.intOf]; omega
      · have HS := hide ((levAt_succ (bits s) k _ HG.out).trans (by rw [hb, ← HM.out]; show m + -1 = m + 1 - 2; omega : _ = m + 1 - 2))
        clear HG
        go_wp2_with (at_builtin; refine wpList_append_own _ rfl _ _ 39 rfl B 3 i0 (.int .i64 0) 1 8 Tryz.underlying39 hi hz0 hz1 hz2 rfl (by decide) _ _ _ rfl (HO.out.alloc _) ⟨wr.heap.size, 0, none⟩ 1 1 [.int .i64 (m + 1 - 2)] rfl rfl (cell_one_new _ _ _) (H1.out _) (by unfold maxLen; omega) (by omega) (by simp; omega) ?_; intro v' w1 hown' hgrow _)
        go_roundw
        case rel =>
          refine ⟨k + 1, by omega, by go_num, by rw [HS.out], ?_, ?_, ?_⟩
          · rw [lev_take_succ _ _ (by rw [length_bits]; omega), HS.out, List.map_append]; exact hown'
          · exact (HBW.out.alloc hsz _).grown hgrow (by simp; omega) (fun b e => (HO.out.lt b e).1)
          · have := hgrow.size; simp at this; omega
        case measure => simp [Go.RowKit.intOf]; omega
    · go_wp2
      go_ret
      refine ⟨_, rfl, IntsV.of_owns (e := 3) (n := k + 1) ?_, HBW.out⟩
      have := HO.out
      rw [List.take_of_length_le (by rw [lev_length, length_bits]; omega)] at this
      exact this

theorem lev_step (l : List Bool) (xs : List Int) (k : Nat) (h : k < l.length) (hx : xs.length = l.length + 1) (ht : xs.take (k + 1) = (lev l).take (k + 1)) (y : Int) (hy : levAt l (k + 1) = y) :
    (xs.set (k + 1) y).take (k + 1 + 1) = (lev l).take (k + 1 + 1) := by
  rw [lev_take_succ l (k + 1) (by omega), List.take_succ_eq_append_getElem (by simp; omega), List.take_set_of_le (Nat.le_refl _), ht, hy]; simp

set_option maxHeartbeats 400000 in
theorem levels_any (g n cap : Nat) (l : List Bool) (w : World) (hl : l.length = n) (hc : CellsAt w g (l.map .bool)) (hn : n ≤ cap) (hm : n ≤ 120) :
    Calls Tryz.prog 56 #[.slice (some ⟨g, 0, none⟩) n cap] w fun e w' => ∃ v, e = .returned v ∧ IntsV w.heap.size w' v (lev l) ∧ Below w.heap.size w w' := by
  obtain ⟨i0, hi, hz0, hz1, hz2⟩ := info_parts infoI
  have HL := hide hl
  have HC := hide hc
  clear hl hc
  go_enter Tryz.func56, Tryz.ntmps56
  go_wp2_with (at_make; refine wpList_make_full _ rfl _ _ 39 rfl w.heap.size 3 i0 (.int .i64 0) 1 Tryz.underlying39 hi hz0 hz1 _ _ _ _ (n + 1) rfl rfl ?b0 ?b1 ?b2 ?b3 ?b4 ?_; rotate_right; intro w1 hown hgrow)
  case b0 => omega
  case b1 => omega
  case b2 => rw [hz2]; omega
  case b3 => unfold maxLen; omega
  case b4 => exact Nat.le_refl _
  rw [madeI] at hown
  have hb1 : Below w.heap.size w w1 := (Below.refl _ _).grown hgrow (Nat.le_refl _) (fun k e => by cases e)
  have hz : w.heap.size < w1.heap.size := (hown.lt _ rfl).2
  have hc1 := CellsAt.of_owns hown
  have HC1 := hide (HC.out.below' hb1 (Nat.le_refl _))
  have HLT := hide (fun h : 0 < (l.map Value.bool).length => HC.out.lt h)
  clear hown hgrow
  obtain ⟨q, hq⟩ : ∃ q, w.heap.size = q := ⟨_, rfl⟩
  rw [hq] at hb1 hz hc1 HLT ⊢
  have HQ := hide hq
  clear hq
  go_loopw [12] (fun i wr => ∃ k : Nat, k ≤ n ∧ i = .int .i64 k ∧ Hid (Below q w wr) ∧ q < wr.heap.size ∧ Hid (CellsAt wr g (l.map .bool)) ∧ ∃ xs : List Int, Hid (xs.length = l.length + 1) ∧ Hid (xs.take (k + 1) = (lev l).take (k + 1)) ∧ Hid (CellsAt wr q (xs.map (.int .i64)))) (fun i _ => n - (Go.RowKit.intOf i).toNat)
  case atStart =>
    refine ⟨0, Nat.zero_le _, rfl, hb1, hz, HC1, List.replicate (n + 1) 0, by simp [Hid, HL.out], ?_, hc1⟩
    rw [lev_take_succ _ _ (Nat.zero_le _), levAt_zero]; simp [Hid]
  case round =>
    obtain ⟨k, hk, rfl, HBW, hsz, HR, xs, HX, HT, HI⟩ := hrel
    by_cases hlt : k < n
    · obtain ⟨b, hb⟩ : ∃ b, l[k]? = some b := ⟨_, List.getElem?_eq_getElem (by rw [HL.out]; exact hlt)⟩
      have hbl := levAt_bd l k
      have hcr : wr.cell? ⟨g, k, none⟩ = some (.bool b) := (HR.out k (.bool b) (by simp [hb])).1
      have hx0 : xs[k]? = some (levAt l k) := by
        have e := congrArg (fun t => t[k]?) HT.out
        simp only [List.getElem?_take, Nat.lt_succ_self, if_true] at e
        rw [e]; exact lev_getElem l k (by rw [HL.out]; omega)
      obtain ⟨y, hy⟩ : ∃ y, xs[k + 1]? = some y := ⟨_, List.getElem?_eq_getElem (by rw [HX.out, HL.out]; omega)⟩
      have hce := (HI.out k (.int .i64 (levAt l k)) (by simp [hx0])).1
      obtain ⟨hcs, hfs⟩ := HI.out (k + 1) (.int .i64 y) (by simp [hy])
      have HE := hide (levAt_succ l k b hb)
      clear hx0 hy hb
      obtain ⟨m, hm2⟩ : ∃ m, m = levAt l k := ⟨_, rfl⟩
      rw [← hm2] at hbl hce HE
      clear hm2
      cases b
      · go_wp2
        go_roundw
        case rel =>
          refine ⟨k + 1, by omega, by go_num, HBW.out.setCell (Nat.le_refl _) _, by simpa [World.setCell] using hsz, HR.out.far _ ?_ _, xs.set (k + 1) (m + 1), by simp [Hid, HX.out], ?_, ?_⟩
          · have := HLT.out (by simp [HL.out]; omega); simp; omega
          · exact lev_step l xs k (by rw [HL.out]; exact hlt) HX.out HT.out _ HE.out
          · have := HI.out.set (k + 1) (by simp [HX.out, HL.out]; omega) (.int .i64 (m + 1))
            rw [List.map_set]; exact this
        case measure => simp [Go.RowKit.intOf]; omega
      · go_wp2
        go_roundw
        case rel =>
          refine ⟨k + 1, by omega, by go_num, HBW.out.setCell (Nat.le_refl _) _, by simpa [World.setCell] using hsz, HR.out.far _ ?_ _, xs.set (k + 1) (m - 1), by simp [Hid, HX.out], ?_, ?_⟩
          · have := HLT.out (by simp [HL.out]; omega); simp; omega
          · exact lev_step l xs k (by rw [HL.out]; exact hlt) HX.out HT.out _ HE.out
          · have := HI.out.set (k + 1) (by simp [HX.out, HL.out]; omega) (.int .i64 (m - 1))
            rw [List.map_set]; exact this
        case measure => simp [Go.RowKit.intOf]; omega
    · obtain rfl : k = n := by omega
      have hxs : xs = lev l := by
        have := HT.out
        rw [List.take_of_length_le (by rw [HX.out, HL.out]; omega), List.take_of_length_le (by rw [lev_length, HL.out]; omega)] at this
        exact this
      subst hxs
      go_wp2
      go_ret
      have hq := HQ.out
      subst hq
      refine ⟨_, rfl, .inr ⟨w.heap.size, k + 1, ?_, by rw [lev_length, HL.out]; omega, Nat.le_refl _, hsz, HI.out⟩, HBW.out⟩
      rw [lev_length, HL.out]; rfl
end Go.Proofs.YtdooboibmllfkabGreatDoor

namespace Go.Proofs.YtdooboibmllfkabGreatDoor
set_option maxRecDepth 100000
open Go.RowKit

def levOk (s : ByteArray) : Bool := vld s && decide (tl (bits s) = s.size)
def levR (s : ByteArray) : List Int := if levOk s then lev (bits s) else []

theorem tidyS_self (s : ByteArray) (h : tl (bits s) = s.size) : tidyS s = s := by
  unfold tidyS; rw [h]; simp
theorem tidyS_size (s : ByteArray) : (tidyS s).size = tl (bits s) := by
  have := tl_le (bits s)
  rw [length_bits] at this
  unfold tidyS; simp; omega

set_option maxHeartbeats 400000 in
theorem specRowLevels_any (s : ByteArray) (w : World) (hs : s.size ≤ maxLen) :
    Calls Tryz.prog 36 #[.string s] w fun e w' => ∃ v, e = .returned (.tuple #[v, .bool (levOk s)]) ∧ IntsV w.heap.size w' v (levR s) ∧ Below w.heap.size w w' := by
  cases hv : vld s
  · have hk : levOk s = false := by simp [levOk, hv]
    have hr : levR s = [] := by simp [levR, hk]
    rw [hk, hr]
    clear hk hr
    go_enter Tryz.func36, Tryz.ntmps36
    go_wp2_with (go_at_call 22; refine (specRowValid_any _ _ hs).mono ?_; rintro e w' ⟨rfl, rfl⟩)
    go_ret2
    exact ⟨_, rfl, .inl ⟨_, _, rfl, rfl⟩, (Below.refl _ _).alloc (Nat.le_refl _) _⟩
  · have hg := hide (vld_sgn s hv)
    have h120 := vld_le s hv
    by_cases ht : tl (bits s) = s.size
    · have hk : levOk s = true := by simp [levOk, hv, ht]
      have hr : levR s = lev (bits s) := by simp [levR, hk]
      rw [hk, hr]
      have HT := hide (tidyS_self s ht)
      clear hk hr ht
      have c1 := fun w => (l1Tidy_any s w hs hg.out).mono (R' := fun e w' => e = .returned (.string s) ∧ w = w') (by rintro e w' ⟨rfl, h⟩; rw [HT.out]; exact ⟨rfl, h⟩)
      have C1 := hide c1
      clear c1
      go_enter Tryz.func36, Tryz.ntmps36
      go_wp2_with (first | (go_at_call 22; refine (specRowValid_any _ _ hs).mono ?_; rintro e w' ⟨rfl, rfl⟩) | (go_at_call 48; refine (C1.out _).mono ?_; rintro e w' ⟨rfl, rfl⟩) | (go_at_call 57; refine (l1Levels_any _ _ h120).mono ?_; rintro e w' ⟨v, rfl, hi, hb⟩))
      go_ret2
      exact ⟨_, rfl, hi, hb⟩
    · have hk : levOk s = false := by simp [levOk, ht]
      have hr : levR s = [] := by simp [levR, hk]
      rw [hk, hr]
      have HS := tidyS_size s
      have hne : ((tidyS s).toList == s.toList) = false := by
        rw [ByteArray.toList_eq, ByteArray.toList_eq]
        exact beq_eq_false_iff_ne.2 (fun e => ht (by rw [← HS]; have := congrArg List.length e; simpa using this))
      clear hk hr HS
      go_enter Tryz.func36, Tryz.ntmps36
      go_wp2_with (first | (go_at_call 22; refine (specRowValid_any _ _ hs).mono ?_; rintro e w' ⟨rfl, rfl⟩) | (go_at_call 48; refine (l1Tidy_any _ _ hs hg.out).mono ?_; rintro e w' ⟨rfl, rfl⟩))
      go_ret2
      exact ⟨_, rfl, .inl ⟨_, _, rfl, rfl⟩, (Below.refl _ _).alloc (Nat.le_refl _) _⟩

set_option maxHeartbeats 400000 in
theorem implRowLevels_any (s : ByteArray) (w : World) (hs : s.size ≤ maxLen) :
    Calls Tryz.prog 34 #[.string s] w fun e w' => ∃ v, e = .returned (.tuple #[v, .bool (levOk s)]) ∧ IntsV w.heap.size w' v (levR s) ∧ Below w.heap.size w w' := by
  have hs' := hs
  unfold maxLen at hs'
  cases hv : vld s
  · have hk : levOk s = false := by simp [levOk, hv]
    have hr : levR s = [] := by simp [levR, hk]
    rw [hk, hr]
    clear hk hr
    go_enter Tryz.func34, Tryz.ntmps34
    go_wp2_with (go_at_call 37; refine (readRow_no _ _ hs hv).mono ?_; rintro e w' ⟨rfl, rfl⟩)
    go_ret2
    exact ⟨_, rfl, .inl ⟨_, _, rfl, rfl⟩, Below.refl _ _⟩
  · have h120 := vld_le s hv
    have hle := tl_le (bits s)
    rw [length_bits] at hle
    by_cases ht : tl (bits s) = s.size
    · have hk : levOk s = true := by simp [levOk, hv, ht]
      have hr : levR s = lev (bits s) := by simp [levR, hk]
      rw [hk, hr]
      have c1 := fun w => readRow_yes s w hv
      rw [ht] at c1
      have C1 := hide c1
      clear c1 hk hr ht hle
      go_enter Tryz.func34, Tryz.ntmps34
      go_wp2_with (first | (go_at_call 37; refine (C1.out _).mono ?_; rintro e w1 ⟨rfl, hb1, hc1, hz1⟩) | (go_at_call 56; refine (levels_any _ _ _ (bits s) _ (length_bits s) hc1 (Nat.le_refl _) h120).mono ?_; rintro e w2 ⟨v, rfl, hi, hb⟩))
      go_ret2
      exact ⟨_, rfl, hi.mono hb1.size, hb1.trans (hb.mono hb1.size)⟩
    · have hk : levOk s = false := by simp [levOk, ht]
      have hr : levR s = [] := by simp [levR, hk]
      rw [hk, hr]
      obtain ⟨t, hte⟩ : ∃ t, t = tl (bits s) := ⟨_, rfl⟩
      have c1 := fun w => readRow_yes s w hv
      rw [← hte] at c1 hle ht
      have C1 := hide c1
      have hne : ((t : Int) != (s.size : Int)) = true := by simp; omega
      clear c1 hk hr ht hte
      go_enter Tryz.func34, Tryz.ntmps34
      go_wp2_with (go_at_call 37; refine (C1.out _).mono ?_; rintro e w1 ⟨rfl, hb1, hc1, hz1⟩)
      go_ret2
      exact ⟨_, rfl, .inl ⟨_, _, rfl, rfl⟩, hb1⟩

theorem levR_len (s : ByteArray) : (levR s).length ≤ 121 := by
  unfold levR
  cases h : levOk s
  · simp
  · have : vld s = true := by unfold levOk at h; simp at h; exact h.1
    have := vld_le s this
    simp [lev_length, length_bits]; omega

end Go.Proofs.YtdooboibmllfkabGreatDoor

namespace Go.Proofs.YtdooboibmllfkabGreatDoor
set_option maxRecDepth 100000
open Go.RowKit

theorem l6In_any (n low high : Int) (b : Bool) (w : World) (hb : (decide (low ≤ n) && decide (n ≤ high)) = b) :
    Calls Tryz.prog 47 #[.int .i64 n, .int .i64 low, .int .i64 high] w fun e w' => e = .returned (.bool b) ∧ w = w' := by
  by_cases h1 : low ≤ n
  · by_cases h2 : n ≤ high
    · obtain rfl : true = b := by rw [← hb]; simp [h1, h2]
      clear hb
      go_enter Tryz.func47, Tryz.ntmps47
      go_wp2
      go_ret
      exact ⟨rfl, rfl⟩
    · obtain rfl : false = b := by rw [← hb]; simp [h2]
      clear hb
      go_enter Tryz.func47, Tryz.ntmps47
      go_wp2
      go_ret
      exact ⟨rfl, rfl⟩
  · obtain rfl : false = b := by rw [← hb]; simp [h1]
    clear hb
    go_enter Tryz.func47, Tryz.ntmps47
    go_wp2
    go_ret
    exact ⟨rfl, rfl⟩
end Go.Proofs.YtdooboibmllfkabGreatDoor

namespace Go.Proofs.YtdooboibmllfkabGreatDoor
set_option maxRecDepth 100000
open Go.RowKit

end Go.Proofs.YtdooboibmllfkabGreatDoor

namespace Go.Proofs.YtdooboibmllfkabGreatDoor
set_option maxRecDepth 100000
open Go.RowKit

theorem chars_length (h : List Bool) : (chars h).length = h.length := by simp [chars]
theorem chars_sgn (h : List Bool) : allSgn (chars h) = true := by
  unfold allSgn chars
  rw [List.all_map, List.all_eq_true]
  intro b _
  cases b <;> rfl
theorem bits_chars (h : List Bool) (x : ByteArray) (hx : x.data.toList = chars h) : bits x = h := by
  unfold bits
  rw [hx]; unfold chars
  rw [List.map_map]
  have : h.map ((fun x : UInt8 => x == 49) ∘ fun b => if b = true then 49 else 48) = h.map id := by
    apply List.map_congr_left
    intro b _
    cases b <;> rfl
  rw [this, List.map_id]

end Go.Proofs.YtdooboibmllfkabGreatDoor

namespace Go.Proofs.YtdooboibmllfkabGreatDoor
set_option maxRecDepth 100000
open Go.RowKit

theorem IsRow.below {k : IntKind} {w w' : World} {a : Option Addr} {len cap : Nat} {z : List Int} (h : IsRow k w a len cap z) (hb : Below w.heap.size w w') : IsRow k w' a len cap z := by
  rcases h with h | ⟨x, rfl, hl, hm, hz, hcell, hwz⟩
  · exact .inl h
  · refine .inr ⟨x, rfl, hl, hm, hz, fun i hi => ?_, hwz⟩
    have hc := hcell i hi
    have hlt := World.block_lt_of_cell? w _ hc
    exact (hb.cell hlt).trans hc
end Go.Proofs.YtdooboibmllfkabGreatDoor
