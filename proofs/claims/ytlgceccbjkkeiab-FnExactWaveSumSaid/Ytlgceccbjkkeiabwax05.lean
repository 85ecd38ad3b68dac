/- TEXTS Draw. -/
import Derived.Test.Ytlgceccbjkkeiabwax02
import Derived.Deep.QuietTactic
import Derived.BigQuiet
/- THE WALKS of the drawing: the reader of a code, its picks; texts of signs. Of what is drawn it is only said how long it may be. -/
namespace Go.Proofs.Ytlgceccbjkkeiab
open Go.RowKit

/-- the reader at block R: its bytes lie below R, it has picked p times -/
structure Rd (w : World) (R : Nat) (a : Option Addr) (len cap : Nat) (z : List Int) (p : Nat) : Prop where
  c0 : w.cell? ⟨R, 0, none⟩ = some (.slice a len cap)
  c1 : w.cell? ⟨R, 1, none⟩ = some (.int .i64 (p : Int))
  f1 : w.frozen? ⟨R, 1, none⟩ = false
  len_le : len ≤ 2000
  bytes : 0 < len → ∃ b off, a = some ⟨b, off, none⟩ ∧ b < R ∧ (∀ j, j < len → w.cell? ⟨b, off + j, none⟩ = some (.int .u8 (z.getD j 0)) ∧ 0 ≤ z.getD j 0 ∧ z.getD j 0 ≤ 255)

theorem Rd.lt {w : World} {R : Nat} {a : Option Addr} {len cap : Nat} {z : List Int} {p : Nat} (h : Rd w R a len cap z p) : R < w.heap.size := World.block_lt_of_cell? w _ h.c0
theorem Rd.below {w w' : World} {R : Nat} {a : Option Addr} {len cap : Nat} {z : List Int} {p : Nat} (h : Rd w R a len cap z p) {B : Nat} (hb : Below B w w') (hR : R < B) : Rd w' R a len cap z p where
  c0 := (hb.cell (p := ⟨R, 0, none⟩) hR).trans h.c0
  c1 := (hb.cell (p := ⟨R, 1, none⟩) hR).trans h.c1
  f1 := (hb.frozen (p := ⟨R, 1, none⟩) hR).trans h.f1
  len_le := h.len_le
  bytes := fun h0 => by
    obtain ⟨b, off, e, hb1, hc⟩ := h.bytes h0
    exact ⟨b, off, e, hb1, fun j hj => ⟨(hb.cell (p := ⟨b, off + j, none⟩) (Nat.lt_trans hb1 hR)).trans (hc j hj).1, (hc j hj).2⟩⟩
theorem Rd.next {w : World} {R : Nat} {a : Option Addr} {len cap : Nat} {z : List Int} {p : Nat} (h : Rd w R a len cap z p) : Rd (w.setCell ⟨R, 1, none⟩ (.int .i64 ((p + 1 : Nat) : Int))) R a len cap z (p + 1) where
  c0 := by rw [World.cell?_setCell_other _ _ _ _ (by intro h; injection h with _ h2; cases h2)]; exact h.c0
  c1 := World.cell?_setCell_same' _ _ _ (by rw [h.c1]; rfl)
  f1 := by rw [World.frozen?_setCell]; exact h.f1
  len_le := h.len_le
  bytes := fun h0 => by
    obtain ⟨b, off, e, hb1, hc⟩ := h.bytes h0
    exact ⟨b, off, e, hb1, fun j hj => ⟨by rw [World.cell?_setCell_other _ _ _ _ (by intro h; injection h with h2 _; omega)]; exact (hc j hj).1, (hc j hj).2⟩⟩

/-- what a pick leaves -/
def Picked (w : World) (R : Nat) (a : Option Addr) (len cap : Nat) (z : List Int) (p : Nat) (n : Int) (e : Ending) (w' : World) : Prop :=
  ∃ v : Int, e = .returned (.int .i64 v) ∧ -n < v ∧ v < n ∧ Rd w' R a len cap z (p + 1) ∧ Below R w w' ∧ w'.heap.size = w.heap.size

theorem picked_next {w : World} {R : Nat} {a : Option Addr} {len cap : Nat} {z : List Int} {p : Nat} {n v : Int} (h : Rd w R a len cap z p) (h1 : -n < v) (h2 : v < n) (k : Nat) :
    Picked w R a len cap z p n (.returned (.int .i64 v)) ((w.setCell ⟨R, 1, none⟩ (.int .i64 ((p : Int) + 1))).drewN k) := by
  have e : ((p : Int) + 1) = ((p + 1 : Nat) : Int) := by omega
  rw [e]
  refine ⟨v, rfl, h1, h2, h.next.below ((Quiet.drewN k).2 (R + 1)) (Nat.lt_succ_self R), ?_, ?_⟩
  · exact ((Below.refl R w).setCell (Nat.le_refl _) _).trans ((Quiet.drewN k).2 R)
  · show (World.setCell _ _ _).heap.size = _; simp [World.setCell]

theorem tmod_bd (x n : Int) (h : 1 ≤ n) : -n < x.tmod n ∧ x.tmod n < n := by
  constructor
  · have := Int.tmod_lt_of_pos (-x) (show 0 < n by omega); rw [Int.neg_tmod] at this; omega
  · exact Int.tmod_lt_of_pos x (by omega)

theorem Rd.new (w : World) (a : Option Addr) (len cap : Nat) (z : List Int) (hlen : len ≤ 2000)
    (hby : 0 < len → ∃ b off, a = some ⟨b, off, none⟩ ∧ b < w.heap.size ∧ (∀ j, j < len → w.cell? ⟨b, off + j, none⟩ = some (.int .u8 (z.getD j 0)) ∧ 0 ≤ z.getD j 0 ∧ z.getD j 0 ≤ 255)) (t : TypeId) :
    Rd (w.alloc (.cells #[.slice a len cap, .int .i64 0] t)) w.heap.size a len cap z 0 where
  c0 := by rw [World.cell?_alloc_at _ _ _ _ rfl]; rfl
  c1 := by rw [World.cell?_alloc_at _ _ _ _ rfl]; rfl
  f1 := World.frozen?_alloc_at _ _ _ _ rfl
  len_le := hlen
  bytes := fun h0 => by
    obtain ⟨b, off, e, hb, hc⟩ := hby h0
    exact ⟨b, off, e, hb, fun j hj => ⟨by rw [World.cell?_alloc_past _ _ _ hb]; exact (hc j hj).1, (hc j hj).2⟩⟩

/-- a list n times -/
def rep {α : Type} (n : Nat) (l : List α) : List α := (List.replicate n l).flatten
theorem rep_zero {α : Type} (l : List α) : rep 0 l = [] := rfl
theorem rep_succ {α : Type} (n : Nat) (l : List α) : rep (n + 1) l = l ++ rep n l := by simp [rep, List.replicate_succ]
theorem rep_double {α : Type} (m : Nat) (l : List α) : rep (2 * m) l = rep m (l ++ l) := by
  induction m with
  | zero => rfl
  | succ m ih => rw [show 2 * (m + 1) = 2 * m + 1 + 1 by omega, rep_succ, rep_succ, rep_succ, ih, List.append_assoc]
theorem rep_length {α : Type} (n : Nat) (l : List α) : (rep n l).length = n * l.length := by simp [rep]

set_option maxHeartbeats 1000000 in
theorem l6Many_any (s : ByteArray) (n : Nat) (w : World) (hn : n ≤ 1000) (hs : s.size ≤ 1000) :
    Calls Try.prog 30 #[.string s, .int .i64 (n : Int)] w fun e w' => (∃ out : ByteArray, e = .returned (.string out) ∧ out.data.toList = rep n s.data.toList) ∧ w = w' := by
  go_enter Try.func30, Try.ntmps30
  go_wp2
  go_loop [0, 1, 5] (fun t m o => ∃ (ss so : ByteArray) (k : Nat), k ≤ n ∧ t = .string ss ∧ m = .int .i64 (k : Int) ∧ o = .string so ∧ Hid (so.data.toList ++ rep k ss.data.toList = rep n s.data.toList)) (fun _ m _ => (Go.RowKit.intOf m).toNat)
  case atStart => exact ⟨s, ⟨#[]⟩, n, Nat.le_refl _, rfl, rfl, rfl, rfl⟩
  case round =>
    obtain ⟨ss, so, k, hk, rfl, rfl, rfl, HR⟩ := hrel
    by_cases h0 : k = 0
    · subst h0
      go_wp2
      go_ret
      exact ⟨⟨so, rfl, by have := HR.out; rwa [rep_zero, List.append_nil] at this⟩, rfl⟩
    · have k1 : (0 : Int) < (k : Int) := by omega
      have kk : (0 : Int) ≤ (k : Int) := by omega
      have hz : so.size + ss.size ≤ 1000000 := by
        have h := congrArg List.length HR.out
        rw [List.length_append, rep_length, rep_length] at h
        have h1 : n * s.data.toList.length ≤ 1000 * 1000 := Nat.mul_le_mul hn hs
        have h2 : 1 * ss.data.toList.length ≤ k * ss.data.toList.length := Nat.mul_le_mul_right _ (by omega)
        have h3 : so.data.toList.length = so.size := rfl
        have h4 : ss.data.toList.length = ss.size := rfl
        omega
      have hz2 : ss.size + ss.size ≤ 2000000 := by omega
      by_cases h1 : k % 2 = 1
      · have e1 : ((k : Int) % 2 == 1) = true := by simp; omega
        obtain ⟨m, rfl⟩ : ∃ m, k = 2 * m + 1 := ⟨k / 2, by omega⟩
        have HM := hide (show ((2 * m + 1 : Nat) : Int) / 2 = (m : Int) by omega)
        have HI := hide (show Go.RowKit.intOf (.int .i64 ((2 * m + 1 : Nat) : Int)) = 2 * m + 1 by simp [Go.RowKit.intOf])
        obtain ⟨k, hkk⟩ : ∃ k, k = 2 * m + 1 := ⟨_, rfl⟩
        rw [← hkk] at HR HM HI hk k1 kk e1 ⊢
        have HK := hide hkk
        clear hkk h0 h1
        go_wp2
        go_round
        case rel =>
          refine ⟨ss ++ ss, so ++ ss, m, by have := HK.out; omega, rfl, by rw [HM.out], rfl, ?_⟩
          have h := HR.out
          rw [HK.out, rep_succ, rep_double] at h
          simpa [Hid] using h
        case measure => rw [HM.out, HI.out]; simp [Go.RowKit.intOf]; omega
      · have e1 : ((k : Int) % 2 == 1) = false := by simp; omega
        obtain ⟨m, rfl⟩ : ∃ m, k = 2 * m := ⟨k / 2, by omega⟩
        have HM := hide (show ((2 * m : Nat) : Int) / 2 = (m : Int) by omega)
        have HI := hide (show Go.RowKit.intOf (.int .i64 ((2 * m : Nat) : Int)) = 2 * m by simp [Go.RowKit.intOf])
        have HP := hide (show 0 < m by omega)
        obtain ⟨k, hkk⟩ : ∃ k, k = 2 * m := ⟨_, rfl⟩
        rw [← hkk] at HR HM HI hk k1 kk e1 ⊢
        have HK := hide hkk
        clear hkk h0 h1
        go_wp2
        go_round
        case rel =>
          refine ⟨ss ++ ss, so, m, by have := HK.out; omega, rfl, by rw [HM.out], rfl, ?_⟩
          have h := HR.out
          rw [HK.out, rep_double] at h
          simpa [Hid] using h
        case measure => rw [HM.out, HI.out]; have := HP.out; simp [Go.RowKit.intOf]; omega
end Go.Proofs.Ytlgceccbjkkeiab

/- THE WALKS of the drawing of rows. -/
namespace Go.Proofs.Ytlgceccbjkkeiab
open Go.RowKit

/-- what the drawing of a text leaves -/
def DrawnS (w : World) (R : Nat) (a : Option Addr) (len cap : Nat) (z : List Int) (p : Nat) (e : Ending) (w' : World) : Prop :=
  ∃ (s : ByteArray) (q : Nat), e = .returned (.string s) ∧ s.size ≤ 300 ∧ q ≤ p + 70 ∧ Rd w' R a len cap z q ∧ Below R w w' ∧ w'.heap.size = w.heap.size
/-- the same, of signs alone -/
def DrawnRel (w : World) (R : Nat) (a : Option Addr) (len cap : Nat) (z : List Int) (p d : Nat) (s : Value) (i : Value) (wr : World) : Prop :=
  ∃ (x : ByteArray) (k q : Nat), s = .string x ∧ i = .int .i64 (k : Int) ∧ x.size = k ∧ k ≤ 28 ∧ allSgn x.data.toList = true ∧ q ≤ p + 1 + d * k ∧ Rd wr R a len cap z q ∧ Below R w wr ∧ wr.heap.size = w.heap.size

theorem allSgn_push (x : ByteArray) (c : UInt8) (hc : sgn c = true) (h : allSgn x.data.toList = true) : allSgn (x ++ ⟨#[c]⟩).data.toList = true := by
  unfold allSgn at h ⊢
  simp [ByteArray.data_append, hc]
  simpa using h

theorem tidyS_le (x : ByteArray) : (tidyS x).size ≤ x.size := by
  unfold tidyS; simp; omega
theorem many61 (w : World) : Calls Try.prog 30 #[.string ⟨#[49, 48]⟩, .int .i64 61] w fun e w' => (∃ out : ByteArray, e = .returned (.string out) ∧ out.size = 122) ∧ w = w' :=
  (l6Many_any ⟨#[49, 48]⟩ 61 w (by omega) (by decide)).mono fun e w' ⟨⟨out, he, ho⟩, hw⟩ => ⟨⟨out, he, by have := congrArg List.length ho; rw [rep_length] at this; exact this⟩, hw⟩

end Go.Proofs.Ytlgceccbjkkeiab

/- THE WALKS of the functions that draw rows out of a code; what a slice of bytes that came in is. -/
namespace Go.Proofs.Ytlgceccbjkkeiab
open Go.RowKit

/-- a slice of integers that came in: nil, or a row of cap cells -/
def IsRow (k : IntKind) (w : World) (a : Option Addr) (len cap : Nat) (zs : List Int) : Prop :=
  (a = none ∧ len = 0 ∧ cap = 0 ∧ zs = []) ∨
  ∃ x, a = some x ∧ len ≤ cap ∧ cap ≤ maxLen ∧ zs.length = cap ∧ (∀ i, i < zs.length → w.cell? (x.add i) = some (.int k (zs.getD i 0))) ∧ ∀ n ∈ zs, (Lit.int k n).wf = true

/-- the code's bytes, as the reader wants them -/
def Bytes (w : World) (a : Option Addr) (len : Nat) (z : List Int) : Prop :=
  0 < len → ∃ b off, a = some ⟨b, off, none⟩ ∧ b < w.heap.size ∧ (∀ j, j < len → w.cell? ⟨b, off + j, none⟩ = some (.int .u8 (z.getD j 0)) ∧ 0 ≤ z.getD j 0 ∧ z.getD j 0 ≤ 255)

theorem IsRow.bytes {w : World} {a : Option Addr} {len cap : Nat} {z : List Int} (h : IsRow .u8 w a len cap z) : Bytes w a len z := by
  intro h0
  rcases h with ⟨_, rfl, _, _⟩ | ⟨x, rfl, hl, hm, hz, hcell, hwz⟩
  · omega
  · obtain ⟨b, off, spot⟩ := x
    have hc := hcell 0 (by omega)
    have hspot : spot = none := by simpa [Addr.add] using World.cell?_spot hc
    subst hspot
    refine ⟨b, off, rfl, World.block_lt_of_cell? w _ hc, ?_⟩
    intro j hj
    have hcj := hcell j (by omega)
    have hw := hwz (z.getD j 0) (by rw [List.getD_eq_getElem?_getD, List.getElem?_eq_getElem (by omega)]; exact List.getElem_mem _)
    rw [Addr.add_lit] at hcj
    obtain ⟨x, hx⟩ : ∃ x, x = z.getD j 0 := ⟨_, rfl⟩
    rw [← hx] at hw hcj ⊢
    have hr : 0 ≤ x ∧ x ≤ 255 := by
      have m1 : IntKind.u8.min = 0 := rfl
      have m2 : IntKind.u8.max = 255 := rfl
      simp [Lit.wf] at hw; omega
    exact ⟨hcj, hr⟩
theorem IsRow.le {k : IntKind} {w : World} {a : Option Addr} {len cap : Nat} {z : List Int} (h : IsRow k w a len cap z) : len ≤ cap := by
  rcases h with ⟨_, rfl, _, _⟩ | ⟨x, rfl, hl, hm, hz, hcell, hwz⟩
  · omega
  · exact hl
theorem IsRow.max {k : IntKind} {w : World} {a : Option Addr} {len cap : Nat} {z : List Int} (h : IsRow k w a len cap z) : cap ≤ maxLen := by
  rcases h with ⟨_, _, rfl, _⟩ | ⟨x, rfl, hl, hm, hz, hcell, hwz⟩
  · unfold maxLen; omega
  · exact hm

/-- what the drawing of a row leaves -/
def DrawnRow (w : World) (e : Ending) (w' : World) : Prop := ∃ s : ByteArray, e = .returned (.string s) ∧ s.size ≤ 300 ∧ Below w.heap.size w w'

end Go.Proofs.Ytlgceccbjkkeiab
