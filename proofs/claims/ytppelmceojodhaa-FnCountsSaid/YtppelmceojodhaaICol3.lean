/- THE WALK of the program's method moved, and of the method move of each colour. -/
import Derived.Test.YtppelmceojodhaaICol2
import Derived.Test.YtppelmceojodhaaOwnSet
namespace Go.Proofs.Ytppelmceojodhaa
open Go.RowKit Go.Lib

theorem OwnC.cells {B : Nat} {w : World} {g n cp : Nat} {l : List UInt8} (h : w.ownsRow B 44 1 (.slice (some ⟨g, 0, none⟩) n cp) n (cV l)) : CellsAt w g (cV l) := CellsAt.of_owns h
theorem cell_c_new (w : World) (v : Value) (t : TypeId) : ∀ j u, [v][j]? = some u → (w.alloc (.cells #[v] t)).cell? ((⟨w.heap.size, 0, none⟩ : Addr).add j) = some u := cell_one_new _ _ _

/-- what is known behind a round -/
theorem own_next {B : Nat} {w : World} {g n cp k e : Nat} {c : UInt8} {l l' : List UInt8} (h : w.ownsRow B 44 1 (.slice (some ⟨g, 0, none⟩) n cp) n (cV l)) (hl : l' = (l.set e c).set k 48) (hn : l.length = n) (hke : k ≠ e) (hcp : n ≤ cp) (hm : cp ≤ maxLen) (hB : B ≤ g) (hg : g < w.heap.size) :
    OwnC B ((w.setCell ⟨g, k, none⟩ .nilIface).setCell ⟨g, e, none⟩ (cv c)) (.slice (some ⟨g, 0, none⟩) n cp) l' := by
  have h1 := own_set (own_set h rfl (k := k) .nilIface) rfl (k := e) (cv c)
  have e1 : ((cV l).set k .nilIface).set e (cv c) = cV l' := by
    rw [hl, cV_set, cV_set, List.set_comm _ _ hke]
    rfl
  have e2 : l'.length = n := by rw [hl, List.length_set, List.length_set, hn]
  rw [e1] at h1
  exact ⟨g, cp, by rw [e2], hB, by simpa [World.setCell] using hg, by omega, hm, by rw [e2]; exact h1⟩

theorem app_own {B : Nat} {w : World} {v : Value} {m : Nat} {L : List UInt8} (h : w.ownsRow B 44 1 v (m + 1) (cV L ++ [.nilIface])) (hm : m = L.length) :
    ∃ g cp, v = .slice (some ⟨g, 0, none⟩) (m + 1) cp ∧ B ≤ g ∧ g < w.heap.size ∧ m + 1 ≤ cp ∧ cp ≤ maxLen ∧ w.ownsRow B 44 1 (.slice (some ⟨g, 0, none⟩) (m + 1) cp) (m + 1) (cV (L ++ [48])) := by
  have e1 : cV L ++ [.nilIface] = cV (L ++ [48]) := by unfold cV; rw [List.map_append]; rfl
  have e2 : (L ++ [48]).length = m + 1 := by rw [List.length_append, hm]; rfl
  rw [e1, ← e2] at h
  have hn : v ≠ .slice none 0 0 := by
    rintro rfl
    rcases h.2 with ⟨_, h0⟩ | ⟨g, cap, cur, h1, _⟩
    · omega
    · cases h1
  obtain ⟨g, cp, k1, k2, k3, k4, k5, k6⟩ := ownC_of h hn
  rw [e2] at k1 k4 k6
  rw [k1] at k6
  exact ⟨g, cp, k1, k2, k3, k4, k5, k6⟩
theorem app_cell {B : Nat} {w : World} {g cp m : Nat} {L : List UInt8} (h : w.ownsRow B 44 1 (.slice (some ⟨g, 0, none⟩) (m + 1) cp) (m + 1) (cV (L ++ [48]))) (hm : m = L.length) {j : Nat} (hj : j < m + 1) :
    ∃ v, w.cell? ⟨g, j, none⟩ = some v ∧ w.frozen? ⟨g, j, none⟩ = false := by
  obtain ⟨y, hy⟩ : ∃ y, (L ++ [48])[j]? = some y := ⟨_, List.getElem?_eq_getElem (by rw [List.length_append, ← hm]; exact hj)⟩
  have := CellsAt.of_owns h j _ (cV_get hy)
  exact ⟨_, this.1, this.2⟩
theorem fz_sg {c : UInt8} (hc : sg3 c = true) : ∀ (u : Nat) (l : List UInt8), (∀ x ∈ l, sg3 x = true) → ∀ x ∈ fz c u l, sg3 x = true
  | _, [], _, x, hx => by simp [fz] at hx
  | u, y :: l, h, x, hx => by
    unfold fz at hx
    split at hx
    · rcases List.mem_cons.1 hx with rfl | hx
      · exact hc
      · exact fz_sg hc _ l (fun z hz => h z (List.mem_cons_of_mem _ hz)) x hx
    · rcases List.mem_cons.1 hx with rfl | hx
      · exact h _ (List.mem_cons_self ..)
      · exact fz_sg hc _ l (fun z hz => h z (List.mem_cons_of_mem _ hz)) x hx
theorem cv_nil {x : UInt8} (h : cv x = .nilIface) (h3 : sg3 x = true) : x = 48 := by
  rcases (sg3_iff x).1 h3 with rfl | rfl | rfl | rfl
  · rfl
  · cases h
  · cases h
  · cases h
theorem aAt_sg {c : UInt8} (hc : sg3 c = true) {l : List UInt8} (h : ∀ x ∈ l, sg3 x = true) (i : Nat) : ∀ x ∈ aAt c l i, sg3 x = true := by
  intro x hx
  unfold aAt at hx
  rcases List.mem_append.1 hx with hx | hx
  · unfold cAt at hx
    rcases List.mem_append.1 hx with hx | hx
    · exact cMv_sg hc _ _ (fun y hy => h y (List.mem_of_mem_take hy)) x hx
    · exact fz_sg hc _ _ (fun y hy => h y (List.mem_of_mem_drop hy)) x hx
  · rw [(List.mem_replicate.1 hx).2]; exact hc

end Go.Proofs.Ytppelmceojodhaa
