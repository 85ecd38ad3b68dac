/- TEXTS Col4, Cir6, Cir7, SCol, SCir. -/
import Derived.Test.Ytlgceccbjkkeiabwax19
import Derived.Test.Ytlgceccbjkkeiabwax14
import Derived.Test.Ytlgceccbjkkeiabwax18
import Derived.Test.Ytlgceccbjkkeiabwax01
import Derived.Test.Ytlgceccbjkkeiabwax06
import Derived.Lib.Strings
import Derived.Test.Ytlgceccbjkkeiabwax02
/- MOVES OF ONE COLOUR ALONE ARE THE STEP OF CHAPTER 2. Pure: no walk. -/
namespace Go.Proofs.Ytlgceccbjkkeiab
open Go.RowKit

/-- its own carrier is that of chapter 2, with room enough -/
theorem cMv_own {c : UInt8} (hc : c ≠ 48) (f : Nat → Bool) : ∀ n : Nat, n ≤ 300 → (∀ i, i ≤ n → ld 200 f i < 200) → cMv c (chC c ((List.range n).map f)) 0 = chC c (stpU 200 f n) ∧ cLd c (chC c ((List.range n).map f)) 0 = ld 200 f n
  | 0, _, _ => ⟨rfl, rfl⟩
  | n + 1, hn, h => by
    obtain ⟨h1, h2⟩ := cMv_own hc f n (by omega) (fun i hi => h i (by omega))
    have hl := h n (by omega)
    have e : chC c ((List.range (n + 1)).map f) = chC c ((List.range n).map f) ++ [if f n then c else 48] := by
      unfold chC
      rw [List.range_succ, List.map_append, List.map_append]
      rfl
    rw [e, cMv_append, cLd_append, h1, h2, stpU_succ, ld_succ]
    have eg : cg c (if f n then c else 48) (ld 200 f n) = (if tr 200 f n then c else 48, nx 200 (f n) (ld 200 f n)) := by
      unfold cg tr ot nx
      have h0 : ¬ (48 : UInt8) = c := fun h => hc h.symm
      cases f n
      · by_cases hu : 0 < ld 200 f n
        · simp [h0, hu]
        · have : ld 200 f n = 0 := by omega
          simp [h0, this]
      · simp [hl]
    refine ⟨?_, ?_⟩
    · show chC c (stpU 200 f n) ++ [(cg c _ _).1] = _
      rw [eg]
      unfold chC
      rw [List.map_append]
      rfl
    · show (cg c _ _).2 = _
      rw [eg]
theorem range_bx (b : List Bool) (m : Nat) (hm : b.length ≤ m) : (List.range m).map (bx b) = b ++ List.replicate (m - b.length) false := by
  refine List.ext_getElem? fun j => ?_
  rw [List.getElem?_map]
  by_cases hj : j < m
  · rw [List.getElem?_range hj]
    by_cases hb : j < b.length
    · rw [List.getElem?_append_left hb]
      show some (bx b j) = _
      unfold bx
      rw [List.getElem?_eq_getElem hb]
      rfl
    · rw [List.getElem?_append_right (by omega), List.getElem?_replicate, if_pos (by omega)]
      show some (bx b j) = _
      rw [bx_out b j (by omega)]
  · rw [List.getElem?_eq_none_iff.2 (by rw [List.length_range]; omega), List.getElem?_eq_none_iff.2 (by rw [List.length_append, List.length_replicate]; omega)]
    rfl
theorem padN_chC (c : UInt8) (b : List Bool) : padN (chC c b) = chC c ((List.range (2 * b.length + 1)).map (bx b)) := by
  rw [range_bx b _ (by omega)]
  unfold padN chC
  rw [List.map_append, List.map_replicate, List.length_map, show 2 * b.length + 1 - b.length = b.length + 1 by omega]
  simp
theorem ld_small {b : List Bool} (h : b.length ≤ 120) (i : Nat) : ld 200 (bx b) i < 200 := by
  have h1 := ld_le_cn 200 (bx b) i
  have h2 : cn (bx b) i ≤ b.length := by
    by_cases hi : i ≤ b.length
    · exact Nat.le_trans (cn_le (bx b) i) hi
    · obtain ⟨j, rfl⟩ : ∃ j, i = b.length + j := ⟨i - b.length, by omega⟩
      rw [cn_tail (fun k hk => bx_out b k hk)]
      exact cn_le (bx b) b.length
  omega
theorem mv_own {c : UInt8} (hc : c ≠ 48) (b : List Bool) (h : b.length ≤ 120) : mv1 c (chC c b) = chC c (cut (stp 200 b)) := by
  unfold mv1
  rw [padN_chC, (cMv_own hc (bx b) (2 * b.length + 1) (by omega) (fun i _ => ld_small h i)).1, cz_chC hc]
  congr 1
  apply cut_ext
  intro i
  have hf := fin_le 200 b
  rw [bx_stp]
  by_cases hi : i < 2 * b.length + 1
  · exact bx_some _ i _ (by unfold stpU; rw [List.getElem?_map, List.getElem?_range hi]; rfl)
  · rw [bx_out _ i (by rw [stpU_length]; omega)]
    have := tr_end (K := 200) (f := bx b) (n := b.length) (fun k hk => bx_out b k hk) i (by omega)
    exact this.symm
/-- P40: one colour alone -/
theorem one_colour {c : UInt8} (hc : c = 49 ∨ c = 51) {b : List Bool} (h : b.length ≤ 120) (hl : tl (stp 200 b) ≤ 120) : stepL (chC c b) = some (chC c (cut (stp 200 b))) := by
  obtain ⟨r, hr⟩ : ∃ r, r = cut (stp 200 b) := ⟨_, rfl⟩
  have hrl : (chC c r).length ≤ 120 := by rw [chC_length, hr, cut_length]; exact hl
  have hcr : cut r = r := by rw [hr, cut_cut]
  rw [← hr]
  rcases hc with rfl | rfl
  · have e1 : mv1 49 (chC 49 b) = chC 49 r := by rw [mv_own n49 b h, hr]
    have e2 : mv1 50 (chC 49 r) = chC 49 r := by rw [mv_by (by decide) n50, cz_chC n49, hcr]
    have e3 : mv1 51 (chC 49 r) = chC 49 r := by rw [mv_by (by decide) n51, cz_chC n49, hcr]
    exact (bind_of (mvO_ok e1 hrl)).trans ((bind_of (mvO_ok e2 hrl)).trans (mvO_ok e3 hrl))
  · have hb : (cut b).length ≤ 120 := by rw [cut_length]; exact Nat.le_trans (tl_le b) h
    have hbl : (chC 51 (cut b)).length ≤ 120 := by rw [chC_length]; exact hb
    have hst : cut (stp 200 (cut b)) = cut (stp 200 b) := cut_ext (fun i => by rw [bx_stp, bx_stp, bx_fun_cut])
    have e1 : mv1 49 (chC 51 b) = chC 51 (cut b) := by rw [mv_by (by decide) n49, cz_chC n51]
    have e2 : mv1 50 (chC 51 (cut b)) = chC 51 (cut b) := by rw [mv_by (by decide) n50, cz_chC n51, cut_cut]
    have e3 : mv1 51 (chC 51 (cut b)) = chC 51 r := by rw [mv_own n51 _ hb, hst, hr]
    exact (bind_of (mvO_ok e1 hbl)).trans ((bind_of (mvO_ok e2 hbl)).trans (mvO_ok e3 hrl))
end Go.Proofs.Ytlgceccbjkkeiab

/- CIRCLES. Pure: no walk. On a long circle a turn is a step. -/
namespace Go.Proofs.Ytlgceccbjkkeiab
open Go.RowKit

theorem tn_own (f : Nat → Bool) : ∀ n : Nat, (∀ i, i ≤ n → ld 200 f i < 200) → tn 0 ((List.range n).map f) = stpU 200 f n ∧ lend 0 ((List.range n).map f) = ld 200 f n
  | 0, _ => ⟨rfl, rfl⟩
  | n + 1, h => by
    obtain ⟨h1, h2⟩ := tn_own f n (fun i hi => h i (by omega))
    have hl := h n (by omega)
    have e : (List.range (n + 1)).map f = (List.range n).map f ++ [f n] := by
      rw [List.range_succ, List.map_append]
      rfl
    rw [e, tn_app, lend_app, h1, h2, stpU_succ, ld_succ]
    refine ⟨?_, ?_⟩
    · congr 1
      show [!(f n) && decide (0 < ld 200 f n)] = [tr 200 f n]
      unfold tr ot
      cases f n
      · by_cases hu : 0 < ld 200 f n
        · simp [hu]
        · have : ld 200 f n = 0 := by omega
          simp [this]
      · simp [hl]
    · show lstp (ld 200 f n) (f n) = _
      unfold lstp nx
      cases f n
      · simp
      · simp [hl]
/-- P49 -/
theorem cturn_long {b : List Bool} (h : b.length ≤ 120) (m : Nat) (hm : 2 * b.length ≤ m) :
    cturn (b ++ List.replicate (m - b.length) false) = stpU 200 (bx b) m ∧ cut (stpU 200 (bx b) m) = cut (stp 200 b) := by
  have hr := range_bx b m (by omega)
  obtain ⟨h1, h2⟩ := tn_own (bx b) m (fun i _ => ld_small h i)
  have he : ld 200 (bx b) m = 0 := ld_end (fun i hi => bx_out b i hi) m hm
  refine ⟨?_, ?_⟩
  · unfold cturn
    rw [← hr, h2, he, h1]
  · apply cut_ext
    intro i
    rw [bx_stp]
    by_cases hi : i < m
    · exact bx_some _ i _ (by unfold stpU; rw [List.getElem?_map, List.getElem?_range hi]; rfl)
    · rw [bx_out _ i (by rw [stpU_length]; omega)]
      exact (tr_end (K := 200) (f := bx b) (n := b.length) (fun k hk => bx_out b k hk) i (by omega)).symm
theorem drf_long (b : List Bool) : drf (b ++ List.replicate (2 * b.length + 1) false) < 0 := by
  rw [drf_balls]
  have h := nballs_le b b.length
  rw [List.take_of_length_le (Nat.le_refl _)] at h
  have e : nballs (b ++ List.replicate (2 * b.length + 1) false) = nballs b := by
    unfold nballs
    rw [List.count_append, List.count_replicate]
    simp
  rw [e, List.length_append, List.length_replicate]
  omega
end Go.Proofs.Ytlgceccbjkkeiab

/- CIRCLES. Pure: no walk. The boxes that are left behind some rounds, as indexes. -/
namespace Go.Proofs.Ytlgceccbjkkeiab

/-- the signs of some boxes -/
def sgs (l : List Bool) (left : List Nat) : List Bool := left.map fun i => l.getD i false
theorem sel_map {α β : Type} (f : α → β) : ∀ (m : List Bool) (l : List α), (sel m l).map f = sel m (l.map f)
  | [], _ => by simp [sel]
  | _ :: _, [] => by simp [sel]
  | b :: m, x :: l => by
    have ih := sel_map f m l
    cases b <;> simp [sel, ih]
theorem sel_mem {α : Type} : ∀ (m : List Bool) (l : List α) (x : α), x ∈ sel m l → x ∈ l
  | [], _, _, h => by simp [sel] at h
  | _ :: _, [], _, h => by simp [sel] at h
  | b :: m, y :: l, x, h => by
    cases b
    · simp only [sel] at h
      exact List.mem_cons_of_mem _ (sel_mem m l x (by simpa using h))
    · simp only [sel] at h
      rcases List.mem_cons.1 (by simpa using h) with rfl | h
      · exact List.mem_cons_self ..
      · exact List.mem_cons_of_mem _ (sel_mem m l x h)
theorem sel_out {α : Type} : ∀ (m : List Bool) (l : List α) (x : α), m.length = l.length → x ∈ l → x ∉ sel m l → ∃ j : Nat, m[j]? = some false ∧ l[j]? = some x
  | [], [], x, _, h, _ => by simp at h
  | [], _ :: _, _, h, _, _ => by simp at h
  | _ :: _, [], _, h, _, _ => by simp at h
  | b :: m, y :: l, x, hl, h, hn => by
    cases b
    · rcases List.mem_cons.1 h with rfl | h
      · exact ⟨0, rfl, rfl⟩
      · obtain ⟨j, h1, h2⟩ := sel_out m l x (by simpa using hl) h (by simpa [sel] using hn)
        exact ⟨j + 1, h1, h2⟩
    · have hn' : x ≠ y ∧ x ∉ sel m l := by simpa [sel] using hn
      rcases List.mem_cons.1 h with e | h
      · exact absurd e hn'.1
      · obtain ⟨j, h1, h2⟩ := sel_out m l x (by simpa using hl) h hn'.2
        exact ⟨j + 1, h1, h2⟩
/-- what is known behind some rounds -/
def Stg (l : List Bool) (left : List Nat) : Prop :=
  drf (sgs l left) < 0 ∧ (∀ i ∈ left, i < l.length) ∧ cturn (sgs l left) = sgs (cturn l) left ∧
  ∀ i, i < l.length → i ∉ left → (cturn l).getD i false = !(l.getD i false)
theorem sgs_all (l : List Bool) : sgs l (List.range l.length) = l := by
  unfold sgs
  refine List.ext_getElem? fun j => ?_
  rw [List.getElem?_map]
  by_cases hj : j < l.length
  · rw [List.getElem?_range hj, List.getElem?_eq_getElem hj]
    simp [List.getD, hj]
  · rw [List.getElem?_eq_none_iff.2 (by rw [List.length_range]; omega), List.getElem?_eq_none_iff.2 (by omega)]
    rfl
theorem stg_start {l : List Bool} (h : drf l < 0) : Stg l (List.range l.length) := by
  refine ⟨by rw [sgs_all]; exact h, fun i hi => List.mem_range.1 hi, ?_, fun i hi hn => absurd (List.mem_range.2 hi) hn⟩
  rw [sgs_all]
  have := sgs_all (cturn l)
  rw [cturn_length] at this
  exact this.symm
/-- the boxes that are left behind one round more -/
def nxt (l : List Bool) (left : List Nat) : List Nat := sel (cm (sgs l left)) left
theorem nxt_signs (l : List Bool) (left : List Nat) : sgs l (nxt l left) = c10 (sgs l left) := by
  unfold nxt sgs
  rw [sel_map, c10_sel]
theorem stg_step {l : List Bool} {left : List Nat} (h : Stg l left) : Stg l (nxt l left) := by
  obtain ⟨h1, h2, h3, h4⟩ := h
  refine ⟨by rw [nxt_signs, c10_drf]; exact h1, fun i hi => h2 i (sel_mem _ _ i hi), ?_, fun i hi hn => ?_⟩
  · rw [nxt_signs, cturn_sel h1, h3]
    unfold nxt
    conv => rhs; unfold sgs
    rw [sel_map]
    rfl
  · by_cases hm : i ∈ left
    · obtain ⟨j, j1, j2⟩ := sel_out (cm (sgs l left)) left i (by rw [cm_length]; simp [sgs]) hm hn
      have e1 : (sgs l left)[j]? = some (l.getD i false) := by unfold sgs; rw [List.getElem?_map, j2]; rfl
      have e2 : (sgs (cturn l) left)[j]? = some ((cturn l).getD i false) := by unfold sgs; rw [List.getElem?_map, j2]; rfl
      have e3 := cturn_other h1 j1 e1
      rw [h3, e2] at e3
      injection e3
    · exact h4 i hi hm
/-- at the end: a turn's balls lie in the empty boxes that were paired -/
theorem stg_end {l : List Bool} {left : List Nat} (h : Stg l left) (he : (c10 (sgs l left)).length = (sgs l left).length) (i : Nat) (hi : i < l.length) :
    (cturn l).getD i false = (!(decide (i ∈ left)) && !(l.getD i false)) := by
  obtain ⟨h1, h2, h3, h4⟩ := h
  by_cases hm : i ∈ left
  · have hz := c10_none h1 he
    have hs := cturn_still hz
    rw [h3] at hs
    have hall : ∀ x ∈ sgs l left, x = false := by
      intro x hx
      cases x
      · rfl
      · unfold nballs at hz
        exact absurd hx (List.count_eq_zero.1 hz)
    have e : sgs (cturn l) left = sgs l left := hs
    have m1 : (cturn l).getD i false ∈ sgs (cturn l) left := List.mem_map.2 ⟨i, hm, rfl⟩
    rw [e] at m1
    rw [hall _ m1]
    simp [hm]
  · rw [h4 i hi hm]
    simp [hm]
/-- rounds behind rounds -/
theorem cnt_step {l : List Bool} {left : List Nat} (f : Nat) (he : (c10 (sgs l left)).length ≠ (sgs l left).length) :
    cnt10 (f + 1) (sgs l left) = ((sgs l left).length - (c10 (sgs l left)).length) / 2 :: cnt10 f (sgs l (nxt l left)) := by
  rw [nxt_signs]
  simp only [cnt10]
  rw [if_neg he]
end Go.Proofs.Ytlgceccbjkkeiab

/- THE WALKS of the model's ColourIn, l1Tidy and l1Done of whatever text. -/
namespace Go.Proofs.Ytlgceccbjkkeiab
open Go.RowKit

theorem lst_get (s : ByteArray) (k : Nat) (h : k < s.size) : (lst s)[k]? = some s[k] := by
  unfold lst
  rw [List.getElem?_eq_getElem (by simpa using h)]
  simp
  rfl
/-- a text cut behind its last ball, of whatever colour -/
def tidyC (s : ByteArray) : ByteArray := s.extract 0 (tl (nz (lst s)))
theorem tidyC_lst (s : ByteArray) : lst (tidyC s) = cz (lst s) := by
  unfold tidyC cz lst
  rw [Lib.extract_data]
  simp
theorem tidyC_ofL (s : ByteArray) : tidyC s = ofL (cz (lst s)) := by rw [← tidyC_lst, ofL_lst]
theorem tidyC_size (s : ByteArray) : (tidyC s).size = (cz (lst s)).length := by rw [← lst_size, tidyC_lst]

/-- a sign of a coloured row, as an int -/
theorem sg3_int (x : UInt8) : sg3 x = true ↔ 48 ≤ (x.toNat : Int) ∧ (x.toNat : Int) ≤ 51 := by
  rw [sg3_iff]
  constructor
  · rintro (h | h | h | h) <;> (rw [h]; decide)
  · rintro ⟨h1, h2⟩
    have h : x.toNat = 48 ∨ x.toNat = 49 ∨ x.toNat = 50 ∨ x.toNat = 51 := by omega
    rcases h with h | h | h | h
    · exact .inl (UInt8.toNat_inj.1 h)
    · exact .inr (.inl (UInt8.toNat_inj.1 h))
    · exact .inr (.inr (.inl (UInt8.toNat_inj.1 h)))
    · exact .inr (.inr (.inr (UInt8.toNat_inj.1 h)))
theorem cIn_bad (s : ByteArray) (k : Nat) (h : k < s.size) (hb : ¬ (48 ≤ (s[k].toNat : Int) ∧ (s[k].toNat : Int) ≤ 51)) : cIn s = false := by
  cases hc : cIn s
  · rfl
  · have := ((cIn_iff s).1 hc).1 s[k] (List.mem_of_getElem? (lst_get s k h))
    exact absurd ((sg3_int _).1 this) hb
theorem cIn_good (s : ByteArray) (h : ∀ k (h : k < s.size), sg3 s[k] = true) : cIn s = decide (s.size ≤ 120) := by
  have : (lst s).all sg3 = true := by
    rw [List.all_eq_true]
    intro x hx
    obtain ⟨k, hk, e⟩ := List.getElem_of_mem hx
    have hk' : k < s.size := by rw [← lst_size]; exact hk
    have e2 := lst_get s k hk'
    rw [List.getElem?_eq_getElem hk] at e2
    injection e2 with e2
    rw [← e, e2]
    exact h k hk'
  unfold cIn
  rw [this]
  rfl

end Go.Proofs.Ytlgceccbjkkeiab

/- THE WALKS of the model's CircleIn, l6cTurned, CircleRotate. -/
namespace Go.Proofs.Ytlgceccbjkkeiab
open Go.RowKit

/-- 1 to 60 signs -/
def ci60 (s : ByteArray) : Bool := decide ((1 : Int) ≤ (s.size : Int)) && decide ((s.size : Int) ≤ 60)
def ciIn (s : ByteArray) : Bool := vld s && ci60 s && decide (2 * (nballs (bits s) : Int) < (s.size : Int))
theorem ciIn_facts {s : ByteArray} (h : ciIn s = true) : vld s = true ∧ ci60 s = true ∧ 1 ≤ s.size ∧ s.size ≤ 60 ∧ drf (bits s) < 0 := by
  unfold ciIn at h
  rw [Bool.and_eq_true, Bool.and_eq_true] at h
  obtain ⟨⟨h1, h2⟩, h3⟩ := h
  have h2' := h2
  unfold ci60 at h2'
  simp at h2' h3
  refine ⟨h1, h2, by omega, by omega, ?_⟩
  rw [drf_balls, length_bits]
  omega

theorem sub_one (t : ByteArray) (k : Nat) (h : k < t.size) : (t.extract k (k + 1)).data.toList = [t[k]] := by
  rw [Lib.extract_data, show k + 1 - k = 1 by omega, List.drop_eq_getElem_cons (by simpa using h)]
  simp
  rfl
/-- CircleRotate -/
def rtOk (s : ByteArray) (n : Int) : Bool := ciIn s && (decide ((0 : Int) ≤ n) && decide (n ≤ (s.size : Int)))
def rtS (s : ByteArray) (n : Int) : ByteArray := if rtOk s n then s.extract n.toNat s.size ++ s.extract 0 n.toNat else ByteArray.empty
end Go.Proofs.Ytlgceccbjkkeiab
