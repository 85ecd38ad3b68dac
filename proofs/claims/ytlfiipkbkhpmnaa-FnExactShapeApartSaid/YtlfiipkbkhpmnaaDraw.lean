/- THE WALKS of the drawing: the reader of a code, its picks; texts of signs. Of what is drawn it is only said how long it may be. -/
import Derived.Test.YtlfiipkbkhpmnaaSpec1
import Derived.Deep.QuietTactic
import Derived.BigQuiet
namespace Go.Proofs.Ytlfiipkbkhpmnaa
open Go.RowKit

/-- the reader at block R: its bytes lie below R, it has picked p times -/
structure Rd (w : World) (R : Nat) (a : Option Addr) (len cap : Nat) (z : List Int) (p : Nat) : Prop where
  c0 : w.cell? ⟨R, 0, none⟩ = some (.slice a len cap)
  c1 : w.cell? ⟨R, 1, none⟩ = some (.int .i64 (p : Int))
  f1 : w.frozen? ⟨R, 1, none⟩ = false
  len_le : len ≤ 2000
  bytes : 0 < len → ∃ b off, a = some ⟨b, off, none⟩ ∧ b < R ∧ (∀ j, j < len → w.cell? ⟨b, off + j, none⟩ = some (.int .u8 (z.getD j 0)) ∧ 0 ≤ z.getD j 0 ∧ z.getD j 0 ≤ 255)

theorem Rd.lt {w : World} {R : Nat} {a : Option Addr} {len cap : Nat} {z : List Int} {p : Nat} (h : Rd w R a len cap z p) : R < w.heap.size := World.block_lt_of_cell? w _ h.c0
theorem Rd.below {w w' : World} {R : Nat} {a : Option Addr} {len cap : Nat} {z : List Int} {p : Nat} (h : Rd w R a len cap z p) {B : Nat} (hb : Below B w w') (hR : R < B) : Rd w' R a len cap z p where
  c0 := (hb.cell (p := ⟨R, 0, none⟩) hR).trans h.c0
  c1 := (hb.cell (p := ⟨R, 1, none⟩) hR).trans h.c1
  f1 := (hb.frozen (p := ⟨R, 1, none⟩) hR).trans h.f1
  len_le := h.len_le
  bytes := fun h0 => by
    obtain ⟨b, off, e, hb1, hc⟩ := h.bytes h0
    exact ⟨b, off, e, hb1, fun j hj => ⟨(hb.cell (p := ⟨b, off + j, none⟩) (Nat.lt_trans hb1 hR)).trans (hc j hj).1, (hc j hj).2⟩⟩
theorem Rd.next {w : World} {R : Nat} {a : Option Addr} {len cap : Nat} {z : List Int} {p : Nat} (h : Rd w R a len cap z p) : Rd (w.setCell ⟨R, 1, none⟩ (.int .i64 ((p + 1 : Nat) : Int))) R a len cap z (p + 1) where
  c0 := by rw [World.cell?_setCell_other _ _ _ _ (by intro h; injection h with _ h2; cases h2)]; exact h.c0
  c1 := World.cell?_setCell_same' _ _ _ (by rw [h.c1]; rfl)
  f1 := by rw [World.frozen?_setCell]; exact h.f1
  len_le := h.len_le
  bytes := fun h0 => by
    obtain ⟨b, off, e, hb1, hc⟩ := h.bytes h0
    exact ⟨b, off, e, hb1, fun j hj => ⟨by rw [World.cell?_setCell_other _ _ _ _ (by intro h; injection h with h2 _; omega)]; exact (hc j hj).1, (hc j hj).2⟩⟩

/-- what a pick leaves -/
def Picked (w : World) (R : Nat) (a : Option Addr) (len cap : Nat) (z : List Int) (p : Nat) (n : Int) (e : Ending) (w' : World) : Prop :=
  ∃ v : Int, e = .returned (.int .i64 v) ∧ -n < v ∧ v < n ∧ Rd w' R a len cap z (p + 1) ∧ Below R w w' ∧ w'.heap.size = w.heap.size

theorem picked_next {w : World} {R : Nat} {a : Option Addr} {len cap : Nat} {z : List Int} {p : Nat} {n v : Int} (h : Rd w R a len cap z p) (h1 : -n < v) (h2 : v < n) (k : Nat) :
    Picked w R a len cap z p n (.returned (.int .i64 v)) ((w.setCell ⟨R, 1, none⟩ (.int .i64 ((p : Int) + 1))).drewN k) := by
  have e : ((p : Int) + 1) = ((p + 1 : Nat) : Int) := by omega
  rw [e]
  refine ⟨v, rfl, h1, h2, h.next.below ((Quiet.drewN k).2 (R + 1)) (Nat.lt_succ_self R), ?_, ?_⟩
  · exact ((Below.refl R w).setCell (Nat.le_refl _) _).trans ((Quiet.drewN k).2 R)
  · show (World.setCell _ _ _).heap.size = _; simp [World.setCell]

theorem tmod_bd (x n : Int) (h : 1 ≤ n) : -n < x.tmod n ∧ x.tmod n < n := by
  constructor
  · have := Int.tmod_lt_of_pos (-x) (show 0 < n by omega); rw [Int.neg_tmod] at this; omega
  · exact Int.tmod_lt_of_pos x (by omega)

theorem Rd.new (w : World) (a : Option Addr) (len cap : Nat) (z : List Int) (hlen : len ≤ 2000)
    (hby : 0 < len → ∃ b off, a = some ⟨b, off, none⟩ ∧ b < w.heap.size ∧ (∀ j, j < len → w.cell? ⟨b, off + j, none⟩ = some (.int .u8 (z.getD j 0)) ∧ 0 ≤ z.getD j 0 ∧ z.getD j 0 ≤ 255)) (t : TypeId) :
    Rd (w.alloc (.cells #[.slice a len cap, .int .i64 0] t)) w.heap.size a len cap z 0 where
  c0 := by rw [World.cell?_alloc_at _ _ _ _ rfl]; rfl
  c1 := by rw [World.cell?_alloc_at _ _ _ _ rfl]; rfl
  f1 := World.frozen?_alloc_at _ _ _ _ rfl
  len_le := hlen
  bytes := fun h0 => by
    obtain ⟨b, off, e, hb, hc⟩ := hby h0
    exact ⟨b, off, e, hb, fun j hj => ⟨by rw [World.cell?_alloc_past _ _ _ hb]; exact (hc j hj).1, (hc j hj).2⟩⟩

/-- a list n times -/
def rep {α : Type} (n : Nat) (l : List α) : List α := (List.replicate n l).flatten
theorem rep_zero {α : Type} (l : List α) : rep 0 l = [] := rfl
theorem rep_succ {α : Type} (n : Nat) (l : List α) : rep (n + 1) l = l ++ rep n l := by simp [rep, List.replicate_succ]
theorem rep_double {α : Type} (m : Nat) (l : List α) : rep (2 * m) l = rep m (l ++ l) := by
  induction m with
  | zero => rfl
  | succ m ih => rw [show 2 * (m + 1) = 2 * m + 1 + 1 by omega, rep_succ, rep_succ, rep_succ, ih, List.append_assoc]
theorem rep_length {α : Type} (n : Nat) (l : List α) : (rep n l).length = n * l.length := by simp [rep]

set_option maxHeartbeats 1000000 in
theorem l6Many_any (s : ByteArray) (n : Nat) (w : World) (hn : n ≤ 1000) (hs : s.size ≤ 1000) :
    Calls Try.prog 39 #[.string s, .int .i64 (n : Int)] w fun e w' => (∃ out : ByteArray, e = .returned (.string out) ∧ out.data.toList = rep n s.data.toList) ∧ w = w' := by
  go_enter Try.func39, Try.ntmps39
  go_wp2
  go_loop [0, 1, 5] (fun t m o => ∃ (ss so : ByteArray) (k : Nat), k ≤ n ∧ t = .string ss ∧ m = .int .i64 (k : Int) ∧ o = .string so ∧ Hid (so.data.toList ++ rep k ss.data.toList = rep n s.data.toList)) (fun _ m _ => (intOf m).toNat)
  case atStart => exact ⟨s, ⟨#[]⟩, n, Nat.le_refl _, rfl, rfl, rfl, rfl⟩
  case round =>
    obtain ⟨ss, so, k, hk, rfl, rfl, rfl, HR⟩ := hrel
    by_cases h0 : k = 0
    · subst h0
      go_wp2
      go_ret
      exact ⟨⟨so, rfl, by have := HR.out; rwa [rep_zero, List.append_nil] at this⟩, rfl⟩
    · have k1 : (0 : Int) < (k : Int) := by omega
      have kk : (0 : Int) ≤ (k : Int) := by omega
      have hz : so.size + ss.size ≤ 1000000 := by
        have h := congrArg List.length HR.out
        rw [List.length_append, rep_length, rep_length] at h
        have h1 : n * s.data.toList.length ≤ 1000 * 1000 := Nat.mul_le_mul hn hs
        have h2 : 1 * ss.data.toList.length ≤ k * ss.data.toList.length := Nat.mul_le_mul_right _ (by omega)
        have h3 : so.data.toList.length = so.size := rfl
        have h4 : ss.data.toList.length = ss.size := rfl
        omega
      have hz2 : ss.size + ss.size ≤ 2000000 := by omega
      by_cases h1 : k % 2 = 1
      · have e1 : ((k : Int) % 2 == 1) = true := by simp; omega
        obtain ⟨m, rfl⟩ : ∃ m, k = 2 * m + 1 := ⟨k / 2, by omega⟩
        have HM := hide (show ((2 * m + 1 : Nat) : Int) / 2 = (m : Int) by omega)
        have HI := hide (show intOf (.int .i64 ((2 * m + 1 : Nat) : Int)) = 2 * m + 1 by simp [intOf])
        obtain ⟨k, hkk⟩ : ∃ k, k = 2 * m + 1 := ⟨_, rfl⟩
        rw [← hkk] at HR HM HI hk k1 kk e1 ⊢
        have HK := hide hkk
        clear hkk h0 h1
        go_wp2
        go_round
        case rel =>
          refine ⟨ss ++ ss, so ++ ss, m, by have := HK.out; omega, rfl, by rw [HM.out], rfl, ?_⟩
          have h := HR.out
          rw [HK.out, rep_succ, rep_double] at h
          simpa [Hid] using h
        case measure => rw [HM.out, HI.out]; simp [intOf]; omega
      · have e1 : ((k : Int) % 2 == 1) = false := by simp; omega
        obtain ⟨m, rfl⟩ : ∃ m, k = 2 * m := ⟨k / 2, by omega⟩
        have HM := hide (show ((2 * m : Nat) : Int) / 2 = (m : Int) by omega)
        have HI := hide (show intOf (.int .i64 ((2 * m : Nat) : Int)) = 2 * m by simp [intOf])
        have HP := hide (show 0 < m by omega)
        obtain ⟨k, hkk⟩ : ∃ k, k = 2 * m := ⟨_, rfl⟩
        rw [← hkk] at HR HM HI hk k1 kk e1 ⊢
        have HK := hide hkk
        clear hkk h0 h1
        go_wp2
        go_round
        case rel =>
          refine ⟨ss ++ ss, so, m, by have := HK.out; omega, rfl, by rw [HM.out], rfl, ?_⟩
          have h := HR.out
          rw [HK.out, rep_double] at h
          simpa [Hid] using h
        case measure => rw [HM.out, HI.out]; have := HP.out; simp [intOf]; omega
end Go.Proofs.Ytlfiipkbkhpmnaa
