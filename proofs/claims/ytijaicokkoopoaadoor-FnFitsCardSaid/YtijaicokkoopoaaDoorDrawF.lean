/- THE DRAWING of rigged partitions and boxes. -/
import Derived.Test.YtijaicokkoopoaaDoorDrawP
namespace Go.Proofs.YtijaicokkoopoaaDoor
open Go.RowKit Go.Sort Go.Shelf

/-- a drawing of parts and a number, with the reader's beginning -/
def DrawnPN (w : World) (e : Ending) (w' : World) : Prop := ∃ (v : Value) (l : List (Int × Int)) (n : Int), e = .returned (.tuple #[v, .int .i64 n]) ∧ -10000000 ≤ n ∧ n ≤ 10000000 ∧ PartsS w.heap.size w' v l ∧ PBd l ∧ l.length ≤ 100 ∧ Below w.heap.size w w'

set_option maxRecDepth 100000 in
set_option maxHeartbeats 4000000 in
theorem l91Fit_any (a : Option Addr) (len cap : Nat) (z : List Int) (w : World) (hlen : len ≤ 1048576) (hcap : len ≤ cap) (hb : Bytes w a len z) :
    Calls Tryd.prog 30 #[.slice a len cap] w (DrawnPN w) := by
  go_enter Tryd.func30, Tryd.ntmps30
  go_wp2_with fail
  refine (l6Open_any a len cap z w hlen hcap hb).mono ?_
  rintro e w1 ⟨rfl, hr, hb1, hz1⟩
  go_wp2_with fail
  refine (l91Parts_any w1 w.heap.size a _ cap z 0 hr (by omega)).mono ?_
  rintro e w2 ⟨v, l, q, rfl, p2, bd, hl, hq, hr2, hb2⟩
  have BD := hide bd
  have P2 := hide p2
  have B2 := hide (hb1.trans hb2)
  have R2 := hide hr2
  clear hb2 bd hb1 hr hz1 hr2
  obtain ⟨n, hn⟩ : ∃ n, l.length = n := ⟨_, rfl⟩
  obtain ⟨_, g, c, rfl, q1, q2, q3, q4⟩ := p2
  rw [hn] at hl q1 P2 ⊢
  have HC := hide q4
  have HN := hide hn
  clear hn q4 q2 q3
  go_wp2_with fail
  go_loopw [6, 7] (fun t i wr => ∃ (k : Nat) (x : Int), k ≤ n ∧ i = .int .i64 (k : Int) ∧ t = .int .i64 x ∧ -(20000 * (k : Int)) ≤ x ∧ x ≤ 20000 * (k : Int) ∧ Hid (Quiet w2 wr)) (fun _ i _ => n - (intOf i).toNat)
  case atStart => exact ⟨0, 0, Nat.zero_le _, rfl, rfl, by omega, by omega, Quiet.refl _⟩
  case round =>
    obtain ⟨k, t, hk, rfl, rfl, t0, t1, HQ⟩ := hrel
    by_cases hlt : k < n
    · obtain ⟨x, hx⟩ : ∃ x, l[k]? = some x := ⟨_, List.getElem?_eq_getElem (by rw [HN.out]; exact hlt)⟩
      obtain ⟨g1, g2⟩ := encZ_get l k x hx
      have hqc := HQ.out.cells HC.out
      have c1 : wr.cell? ⟨g, k * 2, none⟩ = some (.int .i64 x.1) := (hqc _ _ g1).1
      have c2 : wr.cell? ⟨g, k * 2 + 1, none⟩ = some (.int .i64 x.2) := (hqc _ _ g2).1
      obtain ⟨b1, b2, b3, b4⟩ := BD.out x (List.mem_of_getElem? hx)
      obtain ⟨x1, hx1⟩ : ∃ y, y = x.1 := ⟨_, rfl⟩
      obtain ⟨x2, hx2⟩ : ∃ y, y = x.2 := ⟨_, rfl⟩
      rw [← hx1] at c1 b1 b2
      rw [← hx2] at c2 b3 b4
      clear hx g1 g2 hqc hx1 hx2
      have i0 : (0 : Int) ≤ (k : Int) := by omega
      have i1 : (k : Int) < (n : Int) := by omega
      have e1 : IntKind.i64.wrap (2 * x1) = 2 * x1 := by rw [IntKind.wrap_i64]; omega
      have e2 : IntKind.i64.wrap (t + 2 * x1) = t + 2 * x1 := by rw [IntKind.wrap_i64]; omega
      have e3 : IntKind.i64.wrap (t + 2 * x1 + x2) = t + 2 * x1 + x2 := by rw [IntKind.wrap_i64]; omega
      have t2 : -(20000 * ((k + 1 : Nat) : Int)) ≤ t + 2 * x1 + x2 ∧ t + 2 * x1 + x2 ≤ 20000 * ((k + 1 : Nat) : Int) := by omega
      have T2 := hide t2
      have hk' := hide (show k + 1 ≤ n by omega)
      clear t2 t0 t1 b1 b2 b3 b4
      go_wp2
      go_quiet (fail)
      go_wp2
      go_roundw
      case rel => clear e1 e2 e3; exact ⟨k + 1, _, hk'.out, by go_num, rfl, T2.out.1, T2.out.2, HQ.out.trans (Quiet.drewN _)⟩
      case measure => clear e1 e2 e3; simp [intOf]; omega
    · have BW := hide (B2.out.trans (HQ.out.2 w.heap.size))
      have PW := hide (P2.out.below (HQ.out.2 w2.heap.size) (Nat.le_refl _))
      have RW := hide (R2.out.below (HQ.out.2 w2.heap.size) R2.out.lt)
      have kn : ¬ ((k : Int) < (n : Int)) := by omega
      have ll := hide (show l.length ≤ 100 by have := HN.out; omega)
      have tb0 : -2000000 ≤ t := by omega
      have tb1 : t ≤ 2000000 := by omega
      have q0 : q ≤ 1000 := by omega
      clear t0 t1
      go_wp2_with fail
      refine (pick2_any wr w.heap.size a _ cap z q 6 RW.out (by omega) (by omega) (by omega)).mono ?_
      rintro e w3 ⟨x, rfl, x0, x1, hr3, hb3, hz3, hg3⟩
      have P3 := hide (PW.out.kept hg3 (Nat.lt_succ_self _))
      have B3 := hide (BW.out.trans hb3)
      clear hb3 hg3 hr3
      go_wp2_with fail
      go_ret2
      exact ⟨_, l, _, rfl, by omega, by omega, P3.out.lo (Nat.le_succ _), BD.out, ll.out, B3.out⟩

set_option maxHeartbeats 400000 in
theorem DrawRigFits_any (a : Option Addr) (len cap : Nat) (z : List Int) (w : World) (hlen : len ≤ 1048576) (hcap : len ≤ cap) (hb : Bytes w a len z) :
    Calls Tryd.prog 9 #[.slice a len cap] w (DrawnPN w) := by
  have D := hide (l91Fit_any a len cap z w hlen hcap hb)
  clear hb
  go_enter Tryd.func9, Tryd.ntmps9
  go_wp2_with fail
  refine D.out.mono ?_
  rintro e w1 ⟨v, l, n, rfl, h1, h2, h3, h4, h5, h6⟩
  have K := hide (show DrawnPN w (.returned (.tuple #[v, .int .i64 n])) w1 from ⟨v, l, n, rfl, h1, h2, h3, h4, h5, h6⟩)
  clear h1 h2 h3 h4 h5 h6
  go_wp2_with fail
  go_ret2
  exact K.out

end Go.Proofs.YtijaicokkoopoaaDoor
