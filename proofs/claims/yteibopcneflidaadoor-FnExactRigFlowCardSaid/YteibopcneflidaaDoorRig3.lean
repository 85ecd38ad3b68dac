/- A STEP ADDS TO RIGGINGS; the energies of a high row are those of its sizes. Pure: nothing of the program is named here. -/
import Derived.Test.YteibopcneflidaaDoorRig2
namespace Go.Proofs.YteibopcneflidaaDoor

def pSh (a : Int × Int) : Int × Int := (a.1, a.2 + 1)
def fl4 (K : Nat) (a : Int × Int) : Int × Int := (a.1, a.2 + min a.1 (K : Int))
theorem put_sh (l : List (Int × Int)) (a : Int × Int) : pPut (l.map pSh) (pSh a) = (pPut l a).map pSh := by
  induction l with
  | nil => rfl
  | cons x l ih =>
    have e : pLess (pSh x) (pSh a) = pLess x a := by unfold pLess pSh; simp
    rw [List.map_cons, pPut_cons, pPut_cons, e, ih]
    split <;> rfl
theorem room_sh (l : List (Int × Int)) (n j : Int) : pRoom (l.map pSh) n j = pRoom l n j := by
  unfold pRoom
  rw [List.map_map]
  rfl
theorem new_sh (l : List (Int × Int)) (n s : Int) : pNew (l.map pSh) (n + 1) s = (pNew l n s).map pSh := by
  unfold pNew
  rw [← put_sh, room_sh, room_add]
  congr 1
  show (s, _) = (s, _)
  congr 1
  omega
theorem erase_sh (l : List (Int × Int)) (a : Int × Int) : (l.map pSh).erase (pSh a) = (l.erase a).map pSh := by
  induction l with
  | nil => rfl
  | cons x l ih =>
    by_cases hx : x = a
    · subst hx; simp
    · have hu : pSh x ≠ pSh a := fun e => hx (by
        have e1 : (pSh x).1 = (pSh a).1 := by rw [e]
        have e2 : (pSh x).2 = (pSh a).2 := by rw [e]
        have e3 : x.2 + 1 = a.2 + 1 := e2
        exact Prod.ext e1 (by omega))
      rw [List.map_cons, List.erase_cons_tail (by simpa using hu), List.erase_cons_tail (by simpa using hx), ih]
      rfl
theorem step_sh (l : List (Int × Int)) (n : Int) : pStep (l.map pSh) (n + 1) = (pStep l n).map pSh := by
  have e : (l.map pSh).find? (pFull (l.map pSh) (n + 1)) = (l.find? (pFull l n)).map pSh := by
    rw [List.find?_map]
    congr 1
    refine find_congr (fun a _ => ?_)
    show decide (a.2 + 1 = pRoom (l.map pSh) (n + 1) a.1) = decide (a.2 = pRoom l n a.1)
    rw [room_sh, room_add]
    exact decide_eq_decide.2 ⟨fun h => by omega, fun h => by omega⟩
  cases hf : l.find? (pFull l n) with
  | none => rw [hf] at e; rw [pStep_none hf, pStep_none e, new_sh]
  | some a => rw [hf] at e; rw [pStep_some hf, pStep_some (a := pSh a) e, erase_sh]; exact new_sh _ _ _
theorem kRc_snoc (q : List Bool) : kRc (q ++ [false]) = (kRc q).map pSh := by
  induction q with
  | nil => rfl
  | cons b q ih =>
    cases b
    · exact ih
    · rw [List.cons_append, kRc_true, kRc_true, ih, show ((q ++ [false]).length : Int) = (q.length : Int) + 1 by simp]
      exact step_sh _ _
theorem kBal_cons (b : Bool) (p : List Bool) : kBal (b :: p) = kBal p + if b then -1 else 1 := rfl
theorem kBal_tr (K : Nat) (p : List Bool) : kBal (kTr K p) = kBal p + 2 * (kLd K p : Int) := by
  induction p with
  | nil => rfl
  | cons b p ih =>
    rw [kTr_cons, kLd_cons]
    unfold kBal
    rw [ih]
    unfold ot nx
    cases b
    · by_cases h : 0 < kLd K p <;> simp [h] <;> omega
    · by_cases h : kLd K p < K <;> simp [h] <;> omega
theorem kHi_bal {p : List Bool} (h : kHi p) : 0 ≤ kBal p := by
  cases p with
  | nil => exact Int.le_refl _
  | cons b p => exact h.2
theorem kHi_tr (K : Nat) (p : List Bool) (h : kHi p) : kHi (kTr K p) := by
  induction p with
  | nil => trivial
  | cons b p ih =>
    have := kBal_tr K (b :: p)
    have h2 := kHi_bal h
    exact ⟨ih h.1, by rw [← kTr_cons]; omega⟩
theorem kHi_run (v : Nat) (t : List Bool) (h : kHi t) (hb : (v : Int) ≤ kBal t) : kHi (List.replicate v true ++ t) ∧ kBal (List.replicate v true ++ t) = kBal t - v := by
  induction v with
  | zero => exact ⟨h, by simp⟩
  | succ v ih =>
    obtain ⟨i1, i2⟩ := ih (by omega)
    have e : kBal (true :: (List.replicate v true ++ t)) = kBal t - ((v + 1 : Nat) : Int) := by
      rw [kBal_cons, i2]
      simp
      omega
    exact ⟨⟨i1, by show 0 ≤ kBal (true :: (List.replicate v true ++ t)); omega⟩, e⟩
theorem kHi_W (K : Nat) (p : List Bool) (h : kHi p) : kHi (kW K p) := by
  have := kBal_tr K p
  have h2 := kHi_bal h
  exact (kHi_run _ _ (kHi_tr K p h) (by omega)).1
/-- a step adds the lesser one of size and room to each rigging -/
theorem kFlow (K : Nat) : ∀ p : List Bool, kHi p → kRc (kW K p) = (kRc p).map (fl4 K) := by
  induction K with
  | zero =>
    intro p h
    rw [kW_zero]
    have : ∀ a ∈ kRc p, fl4 0 a = id a := fun a ha => by
      have := ((kInv_of p h).part a ha).1
      unfold fl4
      exact Prod.ext rfl (by show a.2 + min a.1 ((0 : Nat) : Int) = a.2; omega)
    rw [List.map_congr_left this, List.map_id]
  | succ K ih =>
    intro p h
    have hq := (kBal_el p h).2
    have e1 : kRc (kEl (kW (K + 1) p)) = (kRc (kW K (kEl p))).map pSh := by
      rw [← kRc_snoc]
      obtain ⟨a, b⟩ := kE_all K p h
      by_cases h0 : kLd (K + 1) p = 0
      · rw [← b h0]; rfl
      · rw [a (by omega)]
    rw [(kInv_of _ (kHi_W (K + 1) p h)).eq, e1, ih _ hq, kX_all K p h, (kInv_of p h).eq, List.map_append, List.map_map, List.map_map, List.map_map, List.map_map, List.map_map]
    congr 1
    · refine List.map_congr_left (fun a _ => ?_)
      show ((a.1 + 1, a.2 + min a.1 (K : Int) + 1) : Int × Int) = (a.1 + 1, a.2 + min (a.1 + 1) ((K + 1 : Nat) : Int))
      congr 1
      omega
    · refine List.map_congr_left (fun e _ => ?_)
      show ((1, e + 1) : Int × Int) = (1, e + min 1 ((K + 1 : Nat) : Int))
      congr 1
      omega

/-- how often a carrier takes -/
def kTk (K : Nat) : List Bool → Nat
  | [] => 0
  | b :: p => kTk K p + if b && decide (kLd K p < K) then 1 else 0
theorem kTk_none (K : Nat) (p : List Bool) : kTk K (false :: p) = kTk K p := by show kTk K p + _ = _; simp
theorem kTk_take (K : Nat) (p : List Bool) (h : kLd K p < K) : kTk K (true :: p) = kTk K p + 1 := by show kTk K p + _ = _; simp [h]
theorem kTk_full (K : Nat) (p : List Bool) (h : ¬ kLd K p < K) : kTk K (true :: p) = kTk K p := by show kTk K p + _ = _; simp [h]
theorem kTk_el (K : Nat) (p : List Bool) (h : kHi p) : 2 * kTk (K + 1) p + (kEl p).length = p.length + 2 * kTk K (kEl p) := by
  revert h
  refine kInd (fun p => kHi p → 2 * kTk (K + 1) p + (kEl p).length = p.length + 2 * kTk K (kEl p)) (fun _ => rfl) ?_ ?_ ?_ ?_ p
  · intro p ih h
    have := ih h.1
    rw [kEl_none, kTk_none, kTk_none]
    simp
    omega
  · intro h
    have := h.2
    simp [kBal] at this
  · intro p ih h
    have := ih h.1
    have hu := kLd_el K (true :: p)
    have hp := kLd_pos (K + 1) p (by omega)
    rw [kEl_two]
    by_cases hf : kLd (K + 1) (true :: p) < K + 1
    · rw [kTk_take _ _ hf, kTk_take K _ (by omega)]
      simp at this ⊢
      omega
    · rw [kTk_full _ _ hf, kTk_full K _ (by omega)]
      simp at this ⊢
      omega
  · intro r ih _ h
    have := ih h.1.1
    have hv := kLd_none (K + 1) r
    have hle := kLd_le (K + 1) r
    rw [kEl_pair, kTk_take _ _ (by omega), kTk_none]
    simp
    omega
/-- the energies of a high row are those of its sizes -/
theorem kEnergy (K : Nat) : ∀ p : List Bool, kHi p → ((kRc p).map (fun a => min (K : Int) a.1)).sum = (kTk K p : Int) := by
  induction K with
  | zero =>
    intro p h
    have h1 := room0 (kRc p) 0 (fun a ha => ((kInv_of p h).part a ha).1)
    have h2 : kTk 0 p = 0 := by
      clear h h1
      induction p with
      | nil => rfl
      | cons b p ih => show kTk 0 p + _ = 0; rw [ih]; simp
    unfold pRoom at h1
    rw [h2]
    show ((kRc p).map (fun a => min (0 : Int) a.1)).sum = 0
    omega
  | succ K ih =>
    intro p h
    have hq := (kBal_el p h).2
    have e1 := kTk_el K p h
    have hi := kInv_of p h
    have e2 := hi.len
    have e3 := hi.lens
    have e4 := ih _ hq
    rw [hi.eq]
    have := sum_up (kRc (kEl p)) (kEx p) (K : Int) (by omega) (fun a ha => ((kInv_of _ hq).part a ha).1)
    rw [show (((K + 1 : Nat) : Int)) = (K : Int) + 1 from rfl, this, e4]
    omega
end Go.Proofs.YteibopcneflidaaDoor
