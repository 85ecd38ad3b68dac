/- LISTS OF PARTS THAT CAME IN, and the laws' own helpers over lists of parts. -/
import Derived.Test.YteibopcneflidaaDoorSeg
import Derived.Deep.SlicePairs
import Derived.ChangeArms
namespace Go.Proofs.YteibopcneflidaaDoor
open Go.RowKit Go.Deep

/-- a slice of the laws' own parts that came in: its elements -/
def IsPairs (w : World) (a : Option Addr) (len cap : Nat) (l : List (Int × Int)) : Prop :=
  l.length = len ∧ len ≤ cap ∧ cap ≤ maxLen ∧ (0 < len → ∃ b off, a = some ⟨b, off, none⟩ ∧ b < w.heap.size ∧ ∀ j p, l[j]? = some p → w.cell? ⟨b, off + j * 2, none⟩ = some (.int .i64 p.1) ∧ w.cell? ⟨b, off + j * 2 + 1, none⟩ = some (.int .i64 p.2))
theorem IsPairs.below {w w' : World} {a : Option Addr} {len cap : Nat} {l : List (Int × Int)} (h : IsPairs w a len cap l) (hb : Below w.heap.size w w') : IsPairs w' a len cap l := by
  obtain ⟨h1, h2, h3, h4⟩ := h
  refine ⟨h1, h2, h3, fun h0 => ?_⟩
  obtain ⟨b, off, rfl, hl, hc⟩ := h4 h0
  exact ⟨b, off, rfl, Nat.lt_of_lt_of_le hl hb.size, fun j p hp => ⟨(hb.cell (p := ⟨b, _, none⟩) hl).trans (hc j p hp).1, (hb.cell (p := ⟨b, _, none⟩) hl).trans (hc j p hp).2⟩⟩
theorem open_pairs {H : Type} {enc : TypeId × Value → H} {W : World} {fuel : Nat} {a : Option Addr} {len cap : Nat} {x : DataW H × List MemPlace}
    (h : DataW.trod enc Tryd.prog W 0 (fun _ => true) true fuel 22 (Value.slice a len cap).cells.toList = some x) : ∃ l, IsPairs W a len cap l := by
  have hst : ∃ f0 f1 : Field, Tryd.prog.underlying 50 = some (.struct #[f0, f1]) ∧ f0.offset = 0 ∧ f1.offset = 1 ∧ f0.type = 3 ∧ f1.type = 3 := ⟨_, _, Tryd.underlying50, rfl, rfl, rfl, rfl⟩
  obtain ⟨f0, f1, he, o0, o1, t0, t1⟩ := hst
  have ci : Tryd.prog.cellsOf 3 = 1 := by kernel_rfl
  rcases open_slice_pairs Tryd.underlying22 he (by kernel_rfl) o0 o1 (by rw [t0]; exact ci) (by rw [t1]; exact ci) h with ⟨hcs, _⟩ | ⟨ad, len', cap', m, n, V0, V1, D0, D1, P0, P1, hcs, hb, hl, hm, hmm, _, hx⟩
  · simp [Value.cells] at hcs
    obtain ⟨rfl, rfl, rfl⟩ := hcs
    exact ⟨[], rfl, Nat.le_refl _, by unfold maxLen; omega, fun h0 => by omega⟩
  · simp [Value.cells] at hcs
    obtain ⟨rfl, rfl, rfl⟩ := hcs
    have hmc : m = cap := by rw [hmm]; rfl
    subst hmc
    have each : ∀ i, i < m → ∃ p : Int × Int, W.cell? (ad.add (i * 2)) = some (.int .i64 p.1) ∧ W.cell? (ad.add (i * 2 + 1)) = some (.int .i64 p.2) := by
      intro i hi
      obtain ⟨c0, c1, g0, g1⟩ := hx i hi
      rw [t0] at g0
      rw [t1] at g1
      obtain ⟨k0, e0, _⟩ := DataW.trod_int Tryd.underlying3 g0
      obtain ⟨k1, e1, _⟩ := DataW.trod_int Tryd.underlying3 g1
      injection e0 with e0
      injection e1 with e1
      exact ⟨(k0, k1), by rw [c0, e0], by rw [c1, e1]⟩
    by_cases h0 : 0 < len
    · obtain ⟨b, off, spot⟩ := ad
      obtain ⟨p0, hc0, _⟩ := each 0 (by omega)
      have hspot : spot = none := by simpa [Addr.add] using World.cell?_spot hc0
      subst hspot
      have hbl : b < W.heap.size := World.block_lt_of_cell? W _ hc0
      have build : ∀ k, k ≤ len → ∃ l : List (Int × Int), l.length = k ∧ ∀ j p, l[j]? = some p → W.cell? ⟨b, off + j * 2, none⟩ = some (.int .i64 p.1) ∧ W.cell? ⟨b, off + j * 2 + 1, none⟩ = some (.int .i64 p.2) := by
        intro k
        induction k with
        | zero => exact fun _ => ⟨[], rfl, fun j p hp => by simp at hp⟩
        | succ k ih =>
          intro hk
          obtain ⟨l, hl1, hl2⟩ := ih (by omega)
          obtain ⟨p, hp0, hp1⟩ := each k (by omega)
          refine ⟨l ++ [p], by simp [hl1], fun j q hq => ?_⟩
          by_cases hj : j < l.length
          · rw [List.getElem?_append_left hj] at hq
            exact hl2 j q hq
          · have hjk : j = k := by
              have := (List.getElem?_eq_some_iff.1 hq).1
              simp at this
              omega
            subst hjk
            rw [List.getElem?_append_right (by omega), hl1, Nat.sub_self] at hq
            simp at hq
            subst hq
            rw [Addr.add_lit] at hp0 hp1
            exact ⟨hp0, by rw [Nat.add_assoc]; exact hp1⟩
      obtain ⟨l, hl1, hl2⟩ := build len (Nat.le_refl _)
      exact ⟨l, hl1, hl, hm, fun _ => ⟨b, off, rfl, hbl, hl2⟩⟩
    · have : len = 0 := by omega
      subst this
      exact ⟨[], rfl, hl, hm, fun h => by omega⟩
end Go.Proofs.YteibopcneflidaaDoor
