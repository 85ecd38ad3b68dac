/- TEXTS Rig2, Rig3. -/
import Derived.Test.Ytlgceccbjkkeiabwax34
/- A STEP ADDS TO RIGGINGS: a carrier along a high row, its load left behind the row as a run of balls. Pure: nothing of the program is named here. -/
namespace Go.Proofs.Ytlgceccbjkkeiab

/-- the load behind a row, and how the row is left; rows are read from their last sign -/
def kLd (K : Nat) : List Bool → Nat
  | [] => 0
  | b :: p => nx K b (kLd K p)
def kTr (K : Nat) : List Bool → List Bool
  | [] => []
  | b :: p => ot K b (kLd K p) :: kTr K p
/-- the row that is left, with the load behind it -/
def kW (K : Nat) (p : List Bool) : List Bool := List.replicate (kLd K p) true ++ kTr K p
theorem kLd_cons (K : Nat) (b : Bool) (p : List Bool) : kLd K (b :: p) = nx K b (kLd K p) := rfl
theorem kTr_cons (K : Nat) (b : Bool) (p : List Bool) : kTr K (b :: p) = ot K b (kLd K p) :: kTr K p := rfl
theorem kLd_none (K : Nat) (p : List Bool) : kLd K (false :: p) = kLd K p - 1 := by simp [kLd_cons, nx]
theorem kLd_take (K : Nat) (p : List Bool) (h : kLd K p < K) : kLd K (true :: p) = kLd K p + 1 := by simp [kLd_cons, nx, h]
theorem kLd_full (K : Nat) (p : List Bool) (h : ¬ kLd K p < K) : kLd K (true :: p) = kLd K p := by simp [kLd_cons, nx, h]
theorem kTr_none (K : Nat) (p : List Bool) : kTr K (false :: p) = decide (0 < kLd K p) :: kTr K p := by simp [kTr_cons, ot]
theorem kTr_take (K : Nat) (p : List Bool) (h : kLd K p < K) : kTr K (true :: p) = false :: kTr K p := by simp [kTr_cons, ot, h]
theorem kTr_full (K : Nat) (p : List Bool) (h : ¬ kLd K p < K) : kTr K (true :: p) = true :: kTr K p := by simp [kTr_cons, ot, h]
theorem kLd_le (K : Nat) : ∀ p : List Bool, kLd K p ≤ K
  | [] => Nat.zero_le _
  | b :: p => nx_le K b _ (kLd_le K p)
theorem kW_none0 (K : Nat) (p : List Bool) (h : kLd K p = 0) : kW K (false :: p) = false :: kW K p := by
  unfold kW
  rw [kLd_none, kTr_none, h]
  rfl
theorem kW_none (K : Nat) (p : List Bool) (h : 0 < kLd K p) : kW K (false :: p) = kW K p := by
  unfold kW
  rw [kLd_none, kTr_none]
  obtain ⟨v, hv⟩ : ∃ v, kLd K p = v + 1 := ⟨kLd K p - 1, by omega⟩
  rw [hv]
  simp only [Nat.add_sub_cancel, Nat.zero_lt_succ, decide_true]
  rw [List.replicate_succ', List.append_assoc]
  rfl
theorem kW_full (K : Nat) (p : List Bool) (h : ¬ kLd K p < K) : kW K (true :: p) = true :: kW K p := by
  unfold kW
  rw [kLd_full K p h, kTr_full K p h]
  rw [show List.replicate (kLd K p) true ++ true :: kTr K p = (List.replicate (kLd K p) true ++ [true]) ++ kTr K p by simp, ← List.replicate_succ', List.replicate_succ]
  rfl
theorem kW_take (K : Nat) (p : List Bool) (h : kLd K p < K) : kW K (true :: p) = List.replicate (kLd K p + 1) true ++ false :: kTr K p := by
  unfold kW
  rw [kLd_take K p h, kTr_take K p h]
theorem kLd_pos (K : Nat) (p : List Bool) (hK : 0 < K) : 0 < kLd K (true :: p) := by
  by_cases h : kLd K p < K
  · rw [kLd_take K p h]; omega
  · rw [kLd_full K p h]; omega
/-- the load of the lesser carrier along the row without its pairs -/
theorem kLd_el (K : Nat) (p : List Bool) : kLd K (kEl p) = kLd (K + 1) p - 1 := by
  refine kInd (fun p => kLd K (kEl p) = kLd (K + 1) p - 1) rfl ?_ ?_ ?_ ?_ p
  · intro p ih
    rw [kEl_none, kLd_none, kLd_none, ih]
  · rw [kLd_take _ _ (by show (0 : Nat) < K + 1; omega)]; rfl
  · intro p ih
    have hp := kLd_pos (K + 1) p (by omega)
    rw [kEl_two]
    by_cases h : kLd (K + 1) (true :: p) < K + 1
    · rw [kLd_take (K + 1) _ h, kLd_take K _ (by rw [ih]; omega), ih]
      omega
    · rw [kLd_full (K + 1) _ h, kLd_full K _ (by rw [ih]; have := kLd_le (K + 1) (true :: p); omega), ih]
  · intro p ih _
    rw [kEl_pair, ih]
    have h0 := kLd_none (K + 1) p
    have hle := kLd_le (K + 1) p
    rw [kLd_take _ _ (by omega), h0]
    omega
/-- runs of balls behind a row -/
theorem kEl_run (v : Nat) (t : List Bool) : kEl (List.replicate v true ++ true :: t) = List.replicate v true ++ kEl (true :: t) := by
  induction v with
  | zero => rfl
  | succ v ih =>
    rw [List.replicate_succ, List.cons_append, List.cons_append, ← ih]
    cases v with
    | zero => rfl
    | succ v => rfl
theorem kEx_run (v : Nat) (t : List Bool) (h : (kEl (true :: t)).head? ≠ some false) : kEx (List.replicate v true ++ true :: t) = kEx (true :: t) := by
  induction v with
  | zero => rfl
  | succ v ih =>
    rw [List.replicate_succ, List.cons_append, ← ih]
    cases v with
    | zero => show kEx (true :: true :: t) = _; rw [kEx_two, if_neg h]; rfl
    | succ v =>
      show kEx (true :: true :: (List.replicate v true ++ true :: t)) = _
      rw [kEx_two, if_neg]
      · rfl
      · intro hc
        apply h
        have e : kEl (true :: (List.replicate v true ++ true :: t)) = true :: _ := kEl_run (v + 1) t
        rw [e] at hc
        simp at hc
theorem kEx_run2 (v : Nat) (t : List Bool) : kEx (List.replicate (v + 1) true ++ true :: t) = kEx (true :: true :: t) := by
  have : List.replicate (v + 1) true ++ true :: t = List.replicate v true ++ true :: true :: t := by
    rw [List.replicate_succ', List.append_assoc]; rfl
  rw [this]
  exact kEx_run v (true :: t) (by rw [kEl_two]; simp)
theorem kW_length (K : Nat) (p : List Bool) : (kW K p).length = kLd K p + p.length := by
  have : (kTr K p).length = p.length := by
    induction p with
    | nil => rfl
    | cons b p ih => rw [kTr_cons]; simp [ih]
  unfold kW
  simp [this]
theorem kW_pos (K : Nat) (p : List Bool) (h : 0 < kLd K p) : kW K p = List.replicate (kLd K p - 1) true ++ true :: kTr K p := by
  unfold kW
  obtain ⟨v, hv⟩ : ∃ v, kLd K p = v + 1 := ⟨kLd K p - 1, by omega⟩
  rw [hv, List.replicate_succ', List.append_assoc]
  rfl
theorem rep_snoc (v : Nat) (t : List Bool) : List.replicate (v + 1) true ++ t = List.replicate v true ++ true :: t := by
  rw [List.replicate_succ', List.append_assoc]
  rfl
/-- a carrier that is not full behind a ball has taken it -/
theorem kTook (L : Nat) (p : List Bool) (h : kLd L (true :: p) < L) : kTr L (true :: p) = false :: kTr L p := by
  by_cases hf : kLd L p < L
  · exact kTr_take L p hf
  · rw [kLd_full L p hf] at h; exact absurd h hf
def kE (K : Nat) (p : List Bool) : Prop :=
  (0 < kLd (K + 1) p → kEl (kW (K + 1) p) = kW K (kEl p) ++ [false]) ∧ (kLd (K + 1) p = 0 → false :: kEl (kW (K + 1) p) = kW K (kEl p) ++ [false])
theorem kE_low {K : Nat} {p : List Bool} (h : kE K (true :: p)) (hf : kLd (K + 1) (true :: p) < K + 1) : kEl (kTr (K + 1) p) = kTr K (kEl (true :: p)) ++ [false] := by
  have hp := kLd_pos (K + 1) p (by omega)
  have e := h.1 hp
  unfold kW at e
  rw [kLd_el, kTook _ _ hf] at e
  obtain ⟨v, hv⟩ : ∃ v, kLd (K + 1) (true :: p) = v + 1 := ⟨kLd (K + 1) (true :: p) - 1, by omega⟩
  rw [hv, rep_snoc, kEl_run, kEl_pair] at e
  rw [List.append_assoc] at e
  exact List.append_cancel_left e
theorem kE_all (K : Nat) (p : List Bool) (h : kHi p) : kE K p := by
  revert h
  refine kInd (fun p => kHi p → kE K p) (fun _ => ⟨fun h => by simp [kLd] at h, fun _ => rfl⟩) ?_ ?_ ?_ ?_ p
  · intro p ih h
    obtain ⟨i1, i2⟩ := ih h.1
    have hu := kLd_el K p
    have hv := kLd_none (K + 1) p
    by_cases h0 : kLd (K + 1) p = 0
    · refine ⟨fun hc => by omega, fun _ => ?_⟩
      rw [kW_none0 _ _ h0, kEl_none, kEl_none, i2 h0, kW_none0 _ _ (by omega)]
      rfl
    · have e := i1 (by omega)
      refine ⟨fun hc => ?_, fun hc => ?_⟩
      · rw [kW_none _ _ (by omega), e, kEl_none, kW_none _ _ (by omega)]
      · rw [kW_none _ _ (by omega), e, kEl_none, kW_none0 _ _ (by omega)]
        rfl
  · intro h
    have := h.2
    simp [kBal] at this
  · intro p ih h
    have i := ih h.1
    have hp := kLd_pos (K + 1) p (by omega)
    have hu := kLd_el K (true :: p)
    have hle := kLd_le (K + 1) (true :: p)
    by_cases hf : kLd (K + 1) (true :: p) < K + 1
    · refine ⟨fun _ => ?_, fun hc => by rw [kLd_take _ _ hf] at hc; omega⟩
      rw [kW_take _ _ hf, rep_snoc, kEl_run, kEl_pair, kTook _ _ hf, kEl_none, kE_low i hf, kEl_two, kW_take _ _ (by omega), hu, Nat.sub_add_cancel (by omega), List.append_assoc]
      rfl
    · refine ⟨fun _ => ?_, fun hc => by rw [kLd_full _ _ hf] at hc; omega⟩
      have e := i.1 hp
      rw [kW_full _ _ hf, kEl_two, kW_full K (kEl (true :: p)) (by omega)]
      rw [kW_pos _ _ hp] at e ⊢
      rw [show true :: (List.replicate (kLd (K + 1) (true :: p) - 1) true ++ true :: kTr (K + 1) (true :: p)) = List.replicate (kLd (K + 1) (true :: p) - 1 + 1) true ++ true :: kTr (K + 1) (true :: p) from rfl, kEl_run]
      rw [kEl_run] at e
      rw [List.replicate_succ, List.cons_append, e]
      rfl
  · intro r ih _ h
    obtain ⟨i1, i2⟩ := ih h.1.1
    have hv := kLd_none (K + 1) r
    have hle := kLd_le (K + 1) r
    have hf : kLd (K + 1) (false :: r) < K + 1 := by omega
    refine ⟨fun _ => ?_, fun hc => by rw [kLd_take _ _ hf] at hc; omega⟩
    rw [kW_take _ _ hf, rep_snoc, kEl_run, kEl_pair, kEl_pair, kTr_none, hv]
    by_cases h0 : kLd (K + 1) r = 0
    · have e := i2 h0
      rw [← e, h0]
      unfold kW
      rw [h0]
      simp [kEl_none]
    · have e := i1 (by omega)
      rw [kW_pos _ _ (by omega), kEl_run] at e
      rw [← e, decide_eq_true (by omega)]
theorem kW_zero (p : List Bool) : kW 0 p = p := by
  have h0 : ∀ p, kLd 0 p = 0 := fun p => Nat.le_zero.1 (kLd_le 0 p)
  have : kTr 0 p = p := by
    induction p with
    | nil => rfl
    | cons b p ih => rw [kTr_cons, ih]; cases b <;> simp [ot, h0]
  unfold kW
  rw [h0, this]
  rfl
theorem kEl_ne (p : List Bool) (h : kHi (true :: p)) : kEl p ≠ [] := by
  intro hc
  have e := (kBal_el p h.1).1
  rw [hc] at e
  have := h.2
  simp [kBal] at this e
  omega
theorem kX_all (K : Nat) (p : List Bool) (h : kHi p) : kEx (kW (K + 1) p) = (kEx p).map (· + 1) := by
  revert h
  refine kInd (fun p => kHi p → kEx (kW (K + 1) p) = (kEx p).map (· + 1)) (fun _ => rfl) ?_ ?_ ?_ ?_ p
  · intro p ih h
    by_cases h0 : kLd (K + 1) p = 0
    · rw [kW_none0 _ _ h0, kEx_none, kEx_none, ih h.1]
    · rw [kW_none _ _ (by omega), kEx_none, ih h.1]
  · intro h
    have := h.2
    simp [kBal] at this
  · intro p ih h
    have i := ih h.1
    have e := kE_all K _ h.1
    have hp := kLd_pos (K + 1) p (by omega)
    have hu := kLd_el K (true :: p)
    have hle := kLd_le (K + 1) (true :: p)
    have hne := kEl_ne _ h
    by_cases hf : kLd (K + 1) (true :: p) < K + 1
    · have hlow := kE_low e hf
      obtain ⟨v, hv⟩ : ∃ v, kLd (K + 1) (true :: p) = v + 1 := ⟨kLd (K + 1) (true :: p) - 1, by omega⟩
      have g1 : kEx (kW (K + 1) (true :: true :: p)) = kEx (kTr (K + 1) p) := by
        rw [kW_take _ _ hf, rep_snoc, hv, kEx_run2, kTook _ _ hf, kEx_two, kEl_pair, kEl_none, List.head?_cons, if_pos rfl, kEx_pair, List.tail_cons, kEx_none]
      have g2 : kEx (List.replicate v true ++ true :: false :: kTr (K + 1) p) = (kEx (true :: p)).map (· + 1) := by
        rw [← i]
        unfold kW
        rw [kTook _ _ hf, hv, rep_snoc]
      rw [g1, kEx_two]
      rw [hv, Nat.add_sub_cancel] at hu
      cases hq : kEl (true :: p) with
      | nil => exact absurd hq hne
      | cons b z =>
        rw [hq] at hu hlow
        cases v with
        | zero =>
          have hb : b = false := by
            cases b
            · rfl
            · have := kLd_pos K z (by omega)
              omega
          subst hb
          rw [show List.replicate 0 true ++ true :: false :: kTr (K + 1) p = true :: false :: kTr (K + 1) p from rfl, kEx_pair] at g2
          rw [List.head?_cons, if_pos rfl, List.map_tail, ← g2, List.tail_cons]
        | succ w =>
          rw [kEx_run2, kEx_two, kEl_pair, hlow, kEx_pair, List.tail_cons] at g2
          cases b
          · rw [kLd_none] at hu
            rw [kTr_none, decide_eq_true (by omega), List.cons_append, List.head?_cons, if_neg (by simp)] at g2
            rw [List.head?_cons, if_pos rfl, List.map_tail, ← g2, List.tail_cons]
          · rw [kTook K z (by omega), List.cons_append, List.head?_cons, if_pos rfl] at g2
            rw [List.head?_cons, if_neg (by simp), ← g2]
    · have e1 := e.1 hp
      have g1 : kEx (kW (K + 1) (true :: true :: p)) = if (kW K (kEl (true :: p)) ++ [false]).head? = some false then (kEx (kW (K + 1) (true :: p))).tail else kEx (kW (K + 1) (true :: p)) := by
        rw [kW_full _ _ hf, ← e1]
        obtain ⟨x, hx⟩ : ∃ x, kW (K + 1) (true :: p) = true :: x := by
          unfold kW
          obtain ⟨v, hv⟩ : ∃ v, kLd (K + 1) (true :: p) = v + 1 := ⟨kLd (K + 1) (true :: p) - 1, by omega⟩
          rw [hv]
          exact ⟨_, rfl⟩
        rw [hx, kEx_two]
      have g2 : ((kW K (kEl (true :: p)) ++ [false]).head? = some false) ↔ ((kEl (true :: p)).head? = some false) := by
        cases hq : kEl (true :: p) with
        | nil => exact absurd hq hne
        | cons b z =>
          rw [hq] at hu
          cases K with
          | zero => rw [kW_zero]; rfl
          | succ K =>
            have hb : b = true := by
              cases b
              · rw [kLd_none] at hu
                have := kLd_le (K + 1) z
                omega
              · rfl
            subst hb
            unfold kW
            obtain ⟨v, hv⟩ : ∃ v, kLd (K + 1) (true :: z) = v + 1 := ⟨kLd (K + 1) (true :: z) - 1, by omega⟩
            rw [hv]
            simp [List.replicate_succ]
      rw [g1, i, kEx_two]
      by_cases hc : (kEl (true :: p)).head? = some false
      · rw [if_pos (g2.2 hc), if_pos hc, List.map_tail]
      · rw [if_neg (fun x => hc (g2.1 x)), if_neg hc]
  · intro r ih _ h
    have i := ih h.1.1
    obtain ⟨e1, e2⟩ := kE_all K r h.1.1
    have hv := kLd_none (K + 1) r
    have hu := kLd_el K r
    have hle := kLd_le (K + 1) r
    have hf : kLd (K + 1) (false :: r) < K + 1 := by omega
    rw [kW_take _ _ hf, rep_snoc, kTr_none, hv, kEx_pair]
    by_cases h0 : kLd (K + 1) r = 0
    · have el := congrArg List.length (e2 h0)
      rw [List.length_append, kW_length, hu, h0] at el
      simp at el
      have ek : kW (K + 1) r = kTr (K + 1) r := by unfold kW; rw [h0]; rfl
      rw [ek] at el i
      rw [h0, show List.replicate (0 - 1) true ++ true :: false :: decide (0 < 0) :: kTr (K + 1) r = true :: false :: false :: kTr (K + 1) r from rfl, kEx_pair, kEx_none, kEl_none, i]
      simp
      omega
    · have el := congrArg List.length (e1 (by omega))
      rw [List.length_append, kW_length, hu] at el
      rw [kW_pos _ _ (by omega)] at el i
      rw [kEl_run] at el
      simp at el
      rw [decide_eq_true (by omega)]
      have hlen : ((kEl (true :: kTr (K + 1) r)).length : Int) = ((kEl r).length : Int) + 1 := by omega
      obtain ⟨v, hvv⟩ : ∃ v, v = kLd (K + 1) r - 1 := ⟨_, rfl⟩
      rw [← hvv] at i ⊢
      cases v with
      | zero =>
        rw [show List.replicate 0 true ++ true :: false :: true :: kTr (K + 1) r = true :: false :: true :: kTr (K + 1) r from rfl, kEx_pair, hlen]
        rw [show List.replicate 0 true ++ true :: kTr (K + 1) r = true :: kTr (K + 1) r from rfl] at i
        rw [i]
        rfl
      | succ w =>
        rw [kEx_run2, kEx_two] at i
        rw [kEx_run2, kEx_two, kEl_pair, kEx_pair, List.tail_cons]
        by_cases hc : (kEl (true :: kTr (K + 1) r)).head? = some false
        · obtain ⟨es, hes⟩ := kEx_head hc
          rw [if_pos hc, hes, List.tail_cons] at i
          rw [if_pos hc, hes, i, hlen]
          rfl
        · rw [if_neg hc] at i
          rw [if_neg hc, i, hlen]
          rfl
end Go.Proofs.Ytlgceccbjkkeiab

/- A STEP ADDS TO RIGGINGS; the energies of a high row are those of its sizes. Pure: nothing of the program is named here. -/
namespace Go.Proofs.Ytlgceccbjkkeiab

def pSh (a : Int × Int) : Int × Int := (a.1, a.2 + 1)
def fl4 (K : Nat) (a : Int × Int) : Int × Int := (a.1, a.2 + min a.1 (K : Int))
theorem put_sh (l : List (Int × Int)) (a : Int × Int) : pPut (l.map pSh) (pSh a) = (pPut l a).map pSh := by
  induction l with
  | nil => rfl
  | cons x l ih =>
    have e : pLess (pSh x) (pSh a) = pLess x a := by unfold pLess pSh; simp
    rw [List.map_cons, pPut_cons, pPut_cons, e, ih]
    split <;> rfl
theorem room_sh (l : List (Int × Int)) (n j : Int) : pRoom (l.map pSh) n j = pRoom l n j := by
  unfold pRoom
  rw [List.map_map]
  rfl
theorem new_sh (l : List (Int × Int)) (n s : Int) : pNew (l.map pSh) (n + 1) s = (pNew l n s).map pSh := by
  unfold pNew
  rw [← put_sh, room_sh, room_add]
  congr 1
  show (s, _) = (s, _)
  congr 1
  omega
theorem erase_sh (l : List (Int × Int)) (a : Int × Int) : (l.map pSh).erase (pSh a) = (l.erase a).map pSh := by
  induction l with
  | nil => rfl
  | cons x l ih =>
    by_cases hx : x = a
    · subst hx; simp
    · have hu : pSh x ≠ pSh a := fun e => hx (by
        have e1 : (pSh x).1 = (pSh a).1 := by rw [e]
        have e2 : (pSh x).2 = (pSh a).2 := by rw [e]
        have e3 : x.2 + 1 = a.2 + 1 := e2
        exact Prod.ext e1 (by omega))
      rw [List.map_cons, List.erase_cons_tail (by simpa using hu), List.erase_cons_tail (by simpa using hx), ih]
      rfl
theorem step_sh (l : List (Int × Int)) (n : Int) : pStep (l.map pSh) (n + 1) = (pStep l n).map pSh := by
  have e : (l.map pSh).find? (pFull (l.map pSh) (n + 1)) = (l.find? (pFull l n)).map pSh := by
    rw [List.find?_map]
    congr 1
    refine find_congr (fun a _ => ?_)
    show decide (a.2 + 1 = pRoom (l.map pSh) (n + 1) a.1) = decide (a.2 = pRoom l n a.1)
    rw [room_sh, room_add]
    exact decide_eq_decide.2 ⟨fun h => by omega, fun h => by omega⟩
  cases hf : l.find? (pFull l n) with
  | none => rw [hf] at e; rw [pStep_none hf, pStep_none e, new_sh]
  | some a => rw [hf] at e; rw [pStep_some hf, pStep_some (a := pSh a) e, erase_sh]; exact new_sh _ _ _
theorem kRc_snoc (q : List Bool) : kRc (q ++ [false]) = (kRc q).map pSh := by
  induction q with
  | nil => rfl
  | cons b q ih =>
    cases b
    · exact ih
    · rw [List.cons_append, kRc_true, kRc_true, ih, show ((q ++ [false]).length : Int) = (q.length : Int) + 1 by simp]
      exact step_sh _ _
theorem kBal_cons (b : Bool) (p : List Bool) : kBal (b :: p) = kBal p + if b then -1 else 1 := rfl
theorem kBal_tr (K : Nat) (p : List Bool) : kBal (kTr K p) = kBal p + 2 * (kLd K p : Int) := by
  induction p with
  | nil => rfl
  | cons b p ih =>
    rw [kTr_cons, kLd_cons]
    unfold kBal
    rw [ih]
    unfold ot nx
    cases b
    · by_cases h : 0 < kLd K p <;> simp [h] <;> omega
    · by_cases h : kLd K p < K <;> simp [h] <;> omega
theorem kHi_bal {p : List Bool} (h : kHi p) : 0 ≤ kBal p := by
  cases p with
  | nil => exact Int.le_refl _
  | cons b p => exact h.2
theorem kHi_tr (K : Nat) (p : List Bool) (h : kHi p) : kHi (kTr K p) := by
  induction p with
  | nil => trivial
  | cons b p ih =>
    have := kBal_tr K (b :: p)
    have h2 := kHi_bal h
    exact ⟨ih h.1, by rw [← kTr_cons]; omega⟩
theorem kHi_run (v : Nat) (t : List Bool) (h : kHi t) (hb : (v : Int) ≤ kBal t) : kHi (List.replicate v true ++ t) ∧ kBal (List.replicate v true ++ t) = kBal t - v := by
  induction v with
  | zero => exact ⟨h, by simp⟩
  | succ v ih =>
    obtain ⟨i1, i2⟩ := ih (by omega)
    have e : kBal (true :: (List.replicate v true ++ t)) = kBal t - ((v + 1 : Nat) : Int) := by
      rw [kBal_cons, i2]
      simp
      omega
    exact ⟨⟨i1, by show 0 ≤ kBal (true :: (List.replicate v true ++ t)); omega⟩, e⟩
theorem kHi_W (K : Nat) (p : List Bool) (h : kHi p) : kHi (kW K p) := by
  have := kBal_tr K p
  have h2 := kHi_bal h
  exact (kHi_run _ _ (kHi_tr K p h) (by omega)).1
/-- a step adds the lesser one of size and room to each rigging -/
theorem kFlow (K : Nat) : ∀ p : List Bool, kHi p → kRc (kW K p) = (kRc p).map (fl4 K) := by
  induction K with
  | zero =>
    intro p h
    rw [kW_zero]
    have : ∀ a ∈ kRc p, fl4 0 a = id a := fun a ha => by
      have := ((kInv_of p h).part a ha).1
      unfold fl4
      exact Prod.ext rfl (by show a.2 + min a.1 ((0 : Nat) : Int) = a.2; omega)
    rw [List.map_congr_left this, List.map_id]
  | succ K ih =>
    intro p h
    have hq := (kBal_el p h).2
    have e1 : kRc (kEl (kW (K + 1) p)) = (kRc (kW K (kEl p))).map pSh := by
      rw [← kRc_snoc]
      obtain ⟨a, b⟩ := kE_all K p h
      by_cases h0 : kLd (K + 1) p = 0
      · rw [← b h0]; rfl
      · rw [a (by omega)]
    rw [(kInv_of _ (kHi_W (K + 1) p h)).eq, e1, ih _ hq, kX_all K p h, (kInv_of p h).eq, List.map_append, List.map_map, List.map_map, List.map_map, List.map_map, List.map_map]
    congr 1
    · refine List.map_congr_left (fun a _ => ?_)
      show ((a.1 + 1, a.2 + min a.1 (K : Int) + 1) : Int × Int) = (a.1 + 1, a.2 + min (a.1 + 1) ((K + 1 : Nat) : Int))
      congr 1
      omega
    · refine List.map_congr_left (fun e _ => ?_)
      show ((1, e + 1) : Int × Int) = (1, e + min 1 ((K + 1 : Nat) : Int))
      congr 1
      omega

/-- how often a carrier takes -/
def kTk (K : Nat) : List Bool → Nat
  | [] => 0
  | b :: p => kTk K p + if b && decide (kLd K p < K) then 1 else 0
theorem kTk_none (K : Nat) (p : List Bool) : kTk K (false :: p) = kTk K p := by show kTk K p + _ = _; simp
theorem kTk_take (K : Nat) (p : List Bool) (h : kLd K p < K) : kTk K (true :: p) = kTk K p + 1 := by show kTk K p + _ = _; simp [h]
theorem kTk_full (K : Nat) (p : List Bool) (h : ¬ kLd K p < K) : kTk K (true :: p) = kTk K p := by show kTk K p + _ = _; simp [h]
theorem kTk_el (K : Nat) (p : List Bool) (h : kHi p) : 2 * kTk (K + 1) p + (kEl p).length = p.length + 2 * kTk K (kEl p) := by
  revert h
  refine kInd (fun p => kHi p → 2 * kTk (K + 1) p + (kEl p).length = p.length + 2 * kTk K (kEl p)) (fun _ => rfl) ?_ ?_ ?_ ?_ p
  · intro p ih h
    have := ih h.1
    rw [kEl_none, kTk_none, kTk_none]
    simp
    omega
  · intro h
    have := h.2
    simp [kBal] at this
  · intro p ih h
    have := ih h.1
    have hu := kLd_el K (true :: p)
    have hp := kLd_pos (K + 1) p (by omega)
    rw [kEl_two]
    by_cases hf : kLd (K + 1) (true :: p) < K + 1
    · rw [kTk_take _ _ hf, kTk_take K _ (by omega)]
      simp at this ⊢
      omega
    · rw [kTk_full _ _ hf, kTk_full K _ (by omega)]
      simp at this ⊢
      omega
  · intro r ih _ h
    have := ih h.1.1
    have hv := kLd_none (K + 1) r
    have hle := kLd_le (K + 1) r
    rw [kEl_pair, kTk_take _ _ (by omega), kTk_none]
    simp
    omega
/-- the energies of a high row are those of its sizes -/
theorem kEnergy (K : Nat) : ∀ p : List Bool, kHi p → ((kRc p).map (fun a => min (K : Int) a.1)).sum = (kTk K p : Int) := by
  induction K with
  | zero =>
    intro p h
    have h1 := room0 (kRc p) 0 (fun a ha => ((kInv_of p h).part a ha).1)
    have h2 : kTk 0 p = 0 := by
      clear h h1
      induction p with
      | nil => rfl
      | cons b p ih => show kTk 0 p + _ = 0; rw [ih]; simp
    unfold pRoom at h1
    rw [h2]
    show ((kRc p).map (fun a => min (0 : Int) a.1)).sum = 0
    omega
  | succ K ih =>
    intro p h
    have hq := (kBal_el p h).2
    have e1 := kTk_el K p h
    have hi := kInv_of p h
    have e2 := hi.len
    have e3 := hi.lens
    have e4 := ih _ hq
    rw [hi.eq]
    have := sum_up (kRc (kEl p)) (kEx p) (K : Int) (by omega) (fun a ha => ((kInv_of _ hq).part a ha).1)
    rw [show (((K + 1 : Nat) : Int)) = (K : Int) + 1 from rfl, this, e4]
    omega
end Go.Proofs.Ytlgceccbjkkeiab
