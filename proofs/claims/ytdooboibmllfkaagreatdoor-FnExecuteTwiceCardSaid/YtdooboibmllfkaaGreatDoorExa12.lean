/- TEXTS Rig1, Rig2, Rig3, Rig4, Rig5, RigA, Rig7, Cir1, Cir2. -/
import Derived.Test.YtdooboibmllfkaaGreatDoorExa01
import Derived.Test.YtdooboibmllfkaaGreatDoorExa11
namespace Go.Proofs.YtdooboibmllfkaaGreatDoor
set_option maxRecDepth 100000

def kEl : List Bool → List Bool
  | [] => []
  | false :: p => false :: kEl p
  | [true] => []
  | true :: true :: p => true :: kEl (true :: p)
  | true :: false :: p => kEl p
def kEx : List Bool → List Int
  | [] => []
  | false :: p => kEx p
  | [true] => []
  | true :: false :: p => ((kEl p).length : Int) :: kEx p
  | true :: true :: p => if (kEl (true :: p)).head? = some false then (kEx (true :: p)).tail else kEx (true :: p)
def kBal : List Bool → Int
  | [] => 0
  | b :: p => kBal p + if b then -1 else 1
def kHi : List Bool → Prop
  | [] => True
  | b :: p => kHi p ∧ 0 ≤ kBal (b :: p)
theorem kInd (P : List Bool → Prop) (h0 : P []) (hf : ∀ p, P p → P (false :: p)) (h1 : P [true]) (ht : ∀ p, P (true :: p) → P (true :: true :: p)) (hp : ∀ p, P p → P (false :: p) → P (true :: false :: p)) : ∀ p, P p := by
  have : ∀ p, P p ∧ ∀ b, P (b :: p) := by
    intro p
    induction p with
    | nil => exact ⟨h0, fun b => by cases b; exact hf _ h0; exact h1⟩
    | cons a p ih =>
      refine ⟨ih.2 a, fun b => ?_⟩
      cases b
      · exact hf _ (ih.2 a)
      · cases a
        · exact hp _ ih.1 (ih.2 false)
        · exact ht _ (ih.2 true)
  exact fun p => (this p).1
theorem kEl_two (p : List Bool) : kEl (true :: true :: p) = true :: kEl (true :: p) := rfl
theorem kEl_pair (p : List Bool) : kEl (true :: false :: p) = kEl p := rfl
theorem kEl_none (p : List Bool) : kEl (false :: p) = false :: kEl p := by cases p <;> rfl
theorem kEx_none (p : List Bool) : kEx (false :: p) = kEx p := by cases p <;> rfl
theorem kEx_pair (p : List Bool) : kEx (true :: false :: p) = ((kEl p).length : Int) :: kEx p := rfl
theorem kEx_two (p : List Bool) : kEx (true :: true :: p) = if (kEl (true :: p)).head? = some false then (kEx (true :: p)).tail else kEx (true :: p) := rfl
theorem kBal_el (p : List Bool) (h : kHi p) : kBal (kEl p) = kBal p ∧ kHi (kEl p) := by
  revert h
  refine kInd (fun p => kHi p → kBal (kEl p) = kBal p ∧ kHi (kEl p)) (fun _ => ⟨rfl, trivial⟩) ?_ ?_ ?_ ?_ p
  · intro p ih h
    obtain ⟨e, hh⟩ := ih h.1
    rw [kEl_none]
    have hb := h.2
    exact ⟨by unfold kBal; rw [e], hh, by unfold kBal at hb ⊢; rw [e]; exact hb⟩
  · intro h
    have := h.2
    simp [kBal] at this
  · intro p ih h
    obtain ⟨e, hh⟩ := ih h.1
    rw [kEl_two]
    have hb := h.2
    exact ⟨by unfold kBal; rw [e], hh, by unfold kBal at hb ⊢; rw [e]; exact hb⟩
  · intro p ih _ h
    obtain ⟨e, hh⟩ := ih h.1.1
    rw [kEl_pair]
    refine ⟨?_, hh⟩
    rw [e]
    simp [kBal]
    omega
theorem kEl_le (p : List Bool) : (kEl p).length ≤ p.length := by
  refine kInd (fun p => (kEl p).length ≤ p.length) (Nat.le_refl _) ?_ ?_ ?_ ?_ p
  · intro p ih; rw [kEl_none]; simpa using ih
  · decide
  · intro p ih; rw [kEl_two]; simpa using ih
  · intro p ih _; rw [kEl_pair]; simp; omega
theorem kEl_true_lt (p : List Bool) (h : kHi (true :: p)) : (kEl (true :: p)).length + 2 ≤ p.length + 1 := by
  revert h
  refine kInd (fun p => kHi (true :: p) → (kEl (true :: p)).length + 2 ≤ p.length + 1) ?_ ?_ ?_ ?_ ?_ p
  · intro h; have := h.2; simp [kBal] at this
  · intro p _ h
    rw [kEl_pair]
    have := kEl_le p
    simp
    omega
  · intro h
    have h2 := h.1.2
    simp [kBal] at h2
  · intro p ih h
    rw [kEl_two]
    have := ih h.1
    simp at this ⊢
    omega
  · intro p _ ih h
    rw [kEl_two]
    have := ih
    have e := kEl_le p
    rw [kEl_pair]
    simp
    omega

def pRoom (l : List (Int × Int)) (n j : Int) : Int := n - 2 * (l.map (fun a => min j a.1)).sum
def pLess (a b : Int × Int) : Bool := decide (a.1 < b.1) || (decide (a.1 = b.1) && decide (a.2 < b.2))
def pPut : List (Int × Int) → Int × Int → List (Int × Int)
  | [], a => [a]
  | x :: l, a => if pLess x a then a :: x :: l else x :: pPut l a
def pFull (l : List (Int × Int)) (n : Int) (a : Int × Int) : Bool := decide (a.2 = pRoom l n a.1)
def pNew (l : List (Int × Int)) (n s : Int) : List (Int × Int) := pPut l (s, pRoom l (n + 1) s - 2 * s)
def pStep (l : List (Int × Int)) (n : Int) : List (Int × Int) :=
  match l.find? (pFull l n) with
  | none => pNew l n 1
  | some a => pNew (l.erase a) n (a.1 + 1)
def kRc : List Bool → List (Int × Int)
  | [] => []
  | false :: p => kRc p
  | true :: p => pStep (kRc p) p.length
def pUp (a : Int × Int) : Int × Int := (a.1 + 1, a.2)
def pOne (e : Int) : Int × Int := (1, e)
theorem pLess_up (a b : Int × Int) : pLess (pUp a) (pUp b) = pLess a b := by
  unfold pLess pUp
  simp
theorem pPut_cons (x : Int × Int) (l : List (Int × Int)) (a : Int × Int) : pPut (x :: l) a = if pLess x a then a :: x :: l else x :: pPut l a := rfl
theorem pPut_length (l : List (Int × Int)) (a : Int × Int) : (pPut l a).length = l.length + 1 := by
  induction l with
  | nil => rfl
  | cons x l ih => unfold pPut; split <;> simp [ih]
theorem pPut_mem (l : List (Int × Int)) (a x : Int × Int) : x ∈ pPut l a ↔ x = a ∨ x ∈ l := by
  induction l with
  | nil => simp [pPut]
  | cons y l ih =>
    unfold pPut
    split
    · simp
    · simp [ih]; constructor <;> (intro h; rcases h with h | h | h <;> simp [h])
theorem up_ones (l : List (Int × Int)) (es : List Int) (a : Int × Int) (ha : 1 ≤ a.1) : pPut (l.map pUp ++ es.map pOne) (pUp a) = (pPut l a).map pUp ++ es.map pOne := by
  induction l with
  | nil =>
    cases es with
    | nil => rfl
    | cons e es =>
      show (if pLess (pOne e) (pUp a) then _ else _) = _
      rw [if_pos (by unfold pLess pOne pUp; simp; omega)]
      rfl
  | cons x l ih =>
    rw [List.map_cons, List.cons_append, pPut_cons, pPut_cons, pLess_up, ih]
    split <;> rfl
theorem put_ones (es : List Int) (e : Int) (h : ∀ x ∈ es, x ≤ e) : pPut (es.map pOne) (pOne e) = (e :: es).map pOne := by
  induction es with
  | nil => rfl
  | cons x es ih =>
    have hx := h x (List.mem_cons_self ..)
    show (if pLess (pOne x) (pOne e) then _ else _) = _
    split
    · rfl
    · next hn =>
      have : x = e := by unfold pLess pOne at hn; simp at hn; omega
      subst this
      rw [ih (fun y hy => h y (List.mem_cons_of_mem _ hy))]
      rfl
theorem put_low (l : List (Int × Int)) (m : List (Int × Int)) (a : Int × Int) (h : ∀ x ∈ l, pLess x a = false) : pPut (l ++ m) a = l ++ pPut m a := by
  induction l with
  | nil => rfl
  | cons x l ih =>
    rw [List.cons_append, pPut_cons, h x (List.mem_cons_self ..), ih (fun y hy => h y (List.mem_cons_of_mem _ hy))]
    rfl
theorem sum_up (l : List (Int × Int)) (es : List Int) (j : Int) (hj : 0 ≤ j) (h : ∀ a ∈ l, 1 ≤ a.1) :
    ((l.map pUp ++ es.map pOne).map (fun a => min (j + 1) a.1)).sum = (l.map (fun a => min j a.1)).sum + l.length + es.length := by
  have e2 : ((es.map pOne).map (fun a => min (j + 1) a.1)).sum = es.length := by
    induction es with
    | nil => rfl
    | cons e es ih => simp only [List.map_cons, List.sum_cons, List.length_cons]; rw [ih]; show min (j + 1) 1 + _ = _; omega
  rw [List.map_append, List.sum_append, e2]
  clear e2
  induction l with
  | nil => rfl
  | cons x l ih =>
    have := ih (fun a ha => h a (List.mem_cons_of_mem _ ha))
    simp only [List.map_cons, List.sum_cons, List.length_cons] at this ⊢
    show min (j + 1) (x.1 + 1) + _ + _ = _
    omega
theorem sum_ge1 (l : List (Int × Int)) (h : ∀ a ∈ l, 1 ≤ a.1) : (l.map (fun a => min 1 a.1)).sum = l.length := by
  induction l with
  | nil => rfl
  | cons x l ih =>
    have := ih (fun a ha => h a (List.mem_cons_of_mem _ ha))
    have hx := h x (List.mem_cons_self ..)
    simp only [List.map_cons, List.sum_cons, List.length_cons] at this ⊢
    omega
theorem room_up (l : List (Int × Int)) (es : List Int) (n m j : Int) (hj : 0 ≤ j) (h : ∀ a ∈ l, 1 ≤ a.1) (hn : n = m + 2 * ((l.length : Int) + es.length)) : pRoom (l.map pUp ++ es.map pOne) n (j + 1) = pRoom l m j := by
  unfold pRoom
  rw [sum_up l es j hj h]
  omega
theorem new_up (l : List (Int × Int)) (es : List Int) (n m s : Int) (hs : 1 ≤ s) (h : ∀ a ∈ l, 1 ≤ a.1) (hn : n = m + 2 * ((l.length : Int) + es.length + 1)) : pNew (l.map pUp ++ es.map pOne) n (s + 1) = (pNew l m s).map pUp ++ es.map pOne := by
  unfold pNew
  rw [← up_ones l es _ (by exact hs)]
  congr 1
  show (s + 1, _) = (s + 1, _)
  congr 1
  rw [room_up l es (n + 1) (m + 3) s (by omega) h (by omega)]
  unfold pRoom
  omega

theorem room0 (l : List (Int × Int)) (n : Int) (h : ∀ a ∈ l, 1 ≤ a.1) : pRoom l n 0 = n := by
  have : (l.map (fun a => min 0 a.1)).sum = 0 := by
    induction l with
    | nil => rfl
    | cons x l ih =>
      have := ih (fun a ha => h a (List.mem_cons_of_mem _ ha))
      have hx := h x (List.mem_cons_self ..)
      simp only [List.map_cons, List.sum_cons] at this ⊢
      omega
  unfold pRoom
  omega
theorem full_up {l : List (Int × Int)} {es : List Int} {n m : Int} (h : ∀ a ∈ l, 1 ≤ a.1) (hn : n = m + 2 * ((l.length : Int) + es.length)) (b : Int × Int) (hb : 1 ≤ b.1) : pFull (l.map pUp ++ es.map pOne) n (pUp b) = pFull l m b := by
  unfold pFull
  rw [show (pUp b).1 = b.1 + 1 from rfl, show (pUp b).2 = b.2 from rfl, room_up l es n m b.1 (by omega) h hn]
theorem full_one {l : List (Int × Int)} {es : List Int} {n m : Int} (h : ∀ a ∈ l, 1 ≤ a.1) (hn : n = m + 2 * ((l.length : Int) + es.length)) (e : Int) : pFull (l.map pUp ++ es.map pOne) n (pOne e) = decide (e = m) := by
  unfold pFull
  rw [show (pOne e).1 = 0 + 1 from rfl, show (pOne e).2 = e from rfl, room_up l es n m 0 (by omega) h hn, room0 l m h]
theorem find_congr {α : Type} {f g : α → Bool} : ∀ {l : List α}, (∀ a ∈ l, f a = g a) → l.find? f = l.find? g
  | [], _ => rfl
  | x :: l, h => by rw [List.find?_cons, List.find?_cons, h x (List.mem_cons_self ..), find_congr (fun a ha => h a (List.mem_cons_of_mem _ ha))]
theorem find_L {l : List (Int × Int)} {es : List Int} {n m : Int} (h : ∀ a ∈ l, 1 ≤ a.1) (hn : n = m + 2 * ((l.length : Int) + es.length)) :
    (l.map pUp ++ es.map pOne).find? (pFull (l.map pUp ++ es.map pOne) n) = ((l.find? (pFull l m)).map pUp).or ((es.find? (fun e => decide (e = m))).map pOne) := by
  rw [List.find?_append, List.find?_map, List.find?_map]
  congr 2
  · exact find_congr (fun a ha => full_up h hn a (h a ha))
  · exact find_congr (fun e _ => full_one h hn e)
theorem erase_up : ∀ (l m : List (Int × Int)) (a : Int × Int), a ∈ l → (l.map pUp ++ m).erase (pUp a) = (l.erase a).map pUp ++ m
  | x :: l, m, a, h => by
    by_cases hx : x = a
    · subst hx
      simp
    · have hu : pUp x ≠ pUp a := fun e => hx (by
        have e1 : x.1 + 1 = a.1 + 1 := congrArg Prod.fst e
        have e2 : (pUp x).2 = (pUp a).2 := by rw [e]
        exact Prod.ext (by omega) e2)
      rw [List.map_cons, List.cons_append, List.erase_cons_tail (by simpa using hu), List.erase_cons_tail (by simpa using hx), erase_up l m a (by simpa [Ne.symm hx] using h)]
      rfl
theorem erase_one (l : List (Int × Int)) (e : Int) (es : List Int) (h : ∀ a ∈ l, 1 ≤ a.1) : (l.map pUp ++ (e :: es).map pOne).erase (pOne e) = l.map pUp ++ es.map pOne := by
  rw [List.erase_append_right _ (by
    intro hm
    obtain ⟨b, hb, e⟩ := List.mem_map.1 hm
    have := h b hb
    have e1 : b.1 + 1 = 1 := congrArg Prod.fst e
    omega)]
  simp

structure kInv (p : List Bool) : Prop where
  eq : kRc p = (kRc (kEl p)).map pUp ++ (kEx p).map pOne
  part : ∀ a ∈ kRc p, 1 ≤ a.1 ∧ 0 ≤ a.2 ∧ a.2 ≤ pRoom (kRc p) p.length a.1
  exb : ∀ e ∈ kEx p, 0 ≤ e ∧ e ≤ (kEl p).length
  len : p.length = (kEl p).length + 2 * (kRc p).length
  low : p.head? ≠ some true → (kRc p).find? (pFull (kRc p) p.length) = none
  top : p.head? = some true → (kRc p).find? (pFull (kRc p) p.length) ≠ none
  exlow : p.head? ≠ some true → ∀ e ∈ kEx p, e < (kEl p).length
theorem kInv.nil : kInv [] := ⟨rfl, (fun a h => by cases h), (fun a h => by cases h), rfl, fun _ => rfl, (fun h => by cases h), (fun _ e h => by cases h)⟩
theorem kInv.lens {p : List Bool} (h : kInv p) : (p.length : Int) = ((kEl p).length : Int) + 2 * (((kRc (kEl p)).length : Int) + ((kEx p).length : Int)) := by
  have h1 := h.len
  have h2 := congrArg List.length h.eq
  simp at h2
  omega
theorem kInv.of {p : List Bool} (hq : kInv (kEl p)) (heq : kRc p = (kRc (kEl p)).map pUp ++ (kEx p).map pOne) (hexb : ∀ e ∈ kEx p, 0 ≤ e ∧ e ≤ (kEl p).length)
    (hlen : p.length = (kEl p).length + 2 * (kRc p).length) (hlow : p.head? ≠ some true → (kEl p).head? ≠ some true ∧ ∀ e ∈ kEx p, e < (kEl p).length)
    (htop : p.head? = some true → (kEl p).head? = some true ∨ ((kEl p).length : Int) ∈ kEx p) : kInv p := by
  have hl : ∀ a ∈ kRc (kEl p), 1 ≤ a.1 := fun a ha => (hq.part a ha).1
  have hn : (p.length : Int) = ((kEl p).length : Int) + 2 * (((kRc (kEl p)).length : Int) + ((kEx p).length : Int)) := by
    have h2 := congrArg List.length heq
    simp at h2
    omega
  refine ⟨heq, ?_, hexb, hlen, ?_, ?_, fun h => (hlow h).2⟩
  · intro a ha
    rw [heq] at ha ⊢
    rcases List.mem_append.1 ha with h | h
    · obtain ⟨b, hb, rfl⟩ := List.mem_map.1 h
      obtain ⟨b1, b2, b3⟩ := hq.part b hb
      refine ⟨by show 1 ≤ b.1 + 1; omega, b2, ?_⟩
      show b.2 ≤ pRoom _ _ (b.1 + 1)
      rw [room_up _ _ _ _ b.1 (by omega) hl hn]
      exact b3
    · obtain ⟨e, he, rfl⟩ := List.mem_map.1 h
      obtain ⟨e1, e2⟩ := hexb e he
      refine ⟨Int.le_refl _, e1, ?_⟩
      show e ≤ pRoom _ _ (0 + 1)
      rw [room_up _ _ _ _ 0 (by omega) hl hn, room0 _ _ hl]
      exact e2
  · intro h
    obtain ⟨h1, h2⟩ := hlow h
    rw [heq, find_L hl hn, hq.low h1, List.find?_eq_none.2 (fun e he => by have := h2 e he; simp; omega)]
    rfl
  · intro h
    rw [heq, find_L hl hn]
    rcases htop h with h1 | h1
    · have := hq.top h1
      cases hf : (kRc (kEl p)).find? (pFull (kRc (kEl p)) (kEl p).length) with
      | none => exact absurd hf this
      | some a => simp
    · cases hf : (kEx p).find? (fun e => decide (e = ((kEl p).length : Int))) with
      | none => exact absurd h1 (fun hm => by have := List.find?_eq_none.1 hf _ hm; simp at this)
      | some e => cases (kRc (kEl p)).find? (pFull (kRc (kEl p)) (kEl p).length) <;> simp
theorem kEx_head {r : List Bool} (h : (kEl (true :: r)).head? = some false) : ∃ t, kEx (true :: r) = ((kEl (true :: r)).length : Int) :: t := by
  match r, h with
  | false :: r, _ => exact ⟨_, rfl⟩
theorem room_add (l : List (Int × Int)) (n j k : Int) : pRoom l (n + k) j = pRoom l n j + k := by unfold pRoom; omega
theorem kInv.none {r : List Bool} (h : kInv r) : kInv (false :: r) := by
  have e0 : kRc (false :: r) = kRc r := rfl
  have e1 : ((false :: r).length : Int) = (r.length : Int) + 1 := by simp
  have e2 : ((false :: kEl r).length : Int) = ((kEl r).length : Int) + 1 := by simp
  refine ⟨?_, ?_, ?_, ?_, fun _ => ?_, fun h => by simp at h, fun _ e he => ?_⟩
  · rw [kEl_none, kEx_none]; exact h.eq
  · intro a ha
    obtain ⟨a1, a2, a3⟩ := h.part a ha
    refine ⟨a1, a2, ?_⟩
    rw [e0, e1, room_add]
    omega
  · intro e he
    rw [kEx_none] at he
    rw [kEl_none, e2]
    have := h.exb e he
    omega
  · rw [kEl_none, e0]
    have := h.len
    simp
    omega
  · rw [e0, e1]
    refine List.find?_eq_none.2 (fun a ha => ?_)
    have := (h.part a ha).2.2
    unfold pFull
    rw [room_add]
    simp
    omega
  · rw [kEx_none] at he
    rw [kEl_none, e2]
    have := h.exb e he
    omega
theorem kRc_true (p : List Bool) : kRc (true :: p) = pStep (kRc p) (p.length : Int) := rfl
theorem pStep_none {l : List (Int × Int)} {n : Int} (h : l.find? (pFull l n) = none) : pStep l n = pNew l n 1 := by unfold pStep; rw [h]
theorem pStep_some {l : List (Int × Int)} {n : Int} {a : Int × Int} (h : l.find? (pFull l n) = some a) : pStep l n = pNew (l.erase a) n (a.1 + 1) := by unfold pStep; rw [h]
theorem kInv_all : ∀ (n : Nat) (p : List Bool), p.length ≤ n → kHi p → kInv p := by
  intro n
  induction n with
  | zero => intro p hp _; rw [List.length_eq_zero_iff.1 (Nat.le_zero.1 hp)]; exact kInv.nil
  | succ n ih =>
    intro p hp hh
    match p, hp, hh with
    | [], _, _ => exact kInv.nil
    | false :: r, hp, hh => exact (ih r (by simpa using hp) hh.1).none
    | [true], _, hh => have := hh.2; simp [kBal] at this
    | true :: false :: r, hp, hh =>
      have hr : kInv r := ih r (by simp at hp; omega) hh.1.1
      have hq : kInv (kEl r) := ih _ (by have := kEl_le r; simp at hp; omega) (kBal_el r hh.1.1).2
      have hl : ∀ a ∈ kRc r, 1 ≤ a.1 := fun a ha => (hr.part a ha).1
      have e0 : kRc (true :: false :: r) = pPut (kRc r) (1, ((kEl r).length : Int)) := by
        rw [kRc_true, pStep_none (hr.none.low (by simp))]
        unfold pNew
        show pPut (kRc r) (1, pRoom (kRc r) _ 1 - _) = _
        congr 2
        unfold pRoom
        rw [sum_ge1 _ hl]
        have := hr.len
        simp
        omega
      have heq : kRc (true :: false :: r) = (kRc (kEl r)).map pUp ++ (((kEl r).length : Int) :: kEx r).map pOne := by
        rw [e0, hr.eq, put_low _ _ _ (by
          intro x hx
          obtain ⟨b, hb, rfl⟩ := List.mem_map.1 hx
          have := (hq.part b hb).1
          unfold pLess pUp
          simp
          omega)]
        rw [show ((1 : Int), ((kEl r).length : Int)) = pOne ((kEl r).length : Int) from rfl, put_ones _ _ (fun x hx => (hr.exb x hx).2)]
      refine kInv.of (p := true :: false :: r) hq heq ?_ ?_ (fun h => absurd rfl h) (fun _ => .inr (List.mem_cons_self ..))
      · intro e he
        rw [kEx_pair] at he
        rw [kEl_pair]
        rcases List.mem_cons.1 he with rfl | h
        · exact ⟨by omega, Int.le_refl _⟩
        · exact hr.exb e h
      · rw [e0, pPut_length, kEl_pair]
        have := hr.len
        simp
        omega
    | true :: true :: r, hp, hh =>
      have hP : kInv (true :: r) := ih _ (by simpa using hp) hh.1
      have hlt := kEl_true_lt r hh.1
      have hb := kBal_el (true :: r) hh.1
      have hb2 := hh.2
      have hq : kInv (kEl (true :: r)) := ih _ (by simp at hp; omega) hb.2
      have hall := (kBal_el (true :: true :: r) hh).2
      rw [kEl_two] at hall
      have ht : kInv (true :: kEl (true :: r)) := ih _ (by simp at hp ⊢; omega) hall
      have hl : ∀ a ∈ kRc (kEl (true :: r)), 1 ≤ a.1 := fun a ha => (hq.part a ha).1
      have hn := hP.lens
      have hfl := find_L (es := kEx (true :: r)) hl hn
      have key : kRc (true :: true :: r) = (kRc (true :: kEl (true :: r))).map pUp ++ (kEx (true :: true :: r)).map pOne ∧ (kRc (true :: true :: r)).length = (kRc (true :: r)).length := by
        cases hf : (kRc (kEl (true :: r))).find? (pFull (kRc (kEl (true :: r))) (kEl (true :: r)).length) with
        | some a =>
          have ha := List.mem_of_find?_eq_some hf
          rw [hf] at hfl
          have hhd : (kEl (true :: r)).head? = some true := Classical.byContradiction (fun hc => by rw [hq.low hc] at hf; simp at hf)
          have hpos := List.length_pos_of_mem ha
          have hel := List.length_erase_of_mem ha
          have e1 : kRc (true :: true :: r) = (kRc (true :: kEl (true :: r))).map pUp ++ (kEx (true :: true :: r)).map pOne := by
            rw [kRc_true, hP.eq, pStep_some (a := pUp a) (by rw [hfl]; rfl), erase_up _ _ _ ha, kRc_true, pStep_some hf, kEx_two, hhd, if_neg (by simp)]
            exact new_up _ _ _ _ _ (by have := hl a ha; show 1 ≤ a.1 + 1; omega) (fun b hb => hl b (List.mem_of_mem_erase hb)) (by rw [hn]; omega)
          refine ⟨e1, ?_⟩
          rw [kRc_true, hP.eq, pStep_some (a := pUp a) (by rw [hfl]; rfl), erase_up _ _ _ ha]
          unfold pNew
          rw [pPut_length]
          simp
          omega
        | none =>
          have hhd : (kEl (true :: r)).head? = some false := by
            have h1 : (kEl (true :: r)).head? ≠ some true := fun hc => hq.top hc hf
            cases hk : kEl (true :: r) with
            | nil =>
              rw [hk] at hb
              have := hb.1
              simp [kBal] at this hb2
              omega
            | cons b q =>
              rw [hk] at h1
              cases b
              · rfl
              · exact absurd rfl h1
          obtain ⟨es, hes⟩ := kEx_head hhd
          rw [hf, hes] at hfl
          rw [List.find?_cons] at hfl
          simp only [decide_true] at hfl
          have hlen := congrArg List.length hes
          simp at hlen
          have hst : kRc (true :: true :: r) = pNew ((kRc (kEl (true :: r))).map pUp ++ es.map pOne) (true :: r).length 2 := by
            rw [kRc_true, hP.eq, hes, pStep_some (a := pOne _) (by rw [hfl]; rfl), erase_one _ _ _ hl]
            rfl
          refine ⟨?_, ?_⟩
          · rw [hst, kRc_true, pStep_none hf, kEx_two, hhd, if_pos rfl, hes, List.tail_cons]
            exact new_up _ _ _ _ 1 (by omega) hl (by rw [hn, hlen]; simp; omega)
          · rw [hst, hP.eq]
            unfold pNew
            rw [pPut_length]
            simp
            omega
      refine kInv.of (p := true :: true :: r) ht key.1 ?_ ?_ (fun h => absurd rfl h) (fun _ => .inl rfl)
      · intro e he
        have hm : e ∈ kEx (true :: r) := by
          rw [kEx_two] at he
          split at he
          · exact List.mem_of_mem_tail he
          · exact he
        have := hP.exb e hm
        rw [kEl_two]
        simp
        omega
      · rw [key.2, kEl_two]
        have := hP.len
        simp at this ⊢
        omega
theorem kInv_of (p : List Bool) (h : kHi p) : kInv p := kInv_all _ p (Nat.le_refl _) h
end Go.Proofs.YtdooboibmllfkaaGreatDoor

namespace Go.Proofs.YtdooboibmllfkaaGreatDoor
set_option maxRecDepth 100000

end Go.Proofs.YtdooboibmllfkaaGreatDoor

namespace Go.Proofs.YtdooboibmllfkaaGreatDoor
set_option maxRecDepth 100000

theorem kBal_cons (b : Bool) (p : List Bool) : kBal (b :: p) = kBal p + if b then -1 else 1 := rfl
theorem kHi_bal {p : List Bool} (h : kHi p) : 0 ≤ kBal p := by
  cases p with
  | nil => exact Int.le_refl _
  | cons b p => exact h.2
end Go.Proofs.YtdooboibmllfkaaGreatDoor

namespace Go.Proofs.YtdooboibmllfkaaGreatDoor
set_option maxRecDepth 100000

def pSorted (l : List (Int × Int)) : Prop := l.Pairwise (fun x y => pLess x y = false)
theorem pLess_iff (a b : Int × Int) : pLess a b = true ↔ a.1 < b.1 ∨ (a.1 = b.1 ∧ a.2 < b.2) := by unfold pLess; simp
theorem pLess_false (a b : Int × Int) : pLess a b = false ↔ ¬ (a.1 < b.1 ∨ (a.1 = b.1 ∧ a.2 < b.2)) := by rw [← pLess_iff]; simp
theorem pPut_sorted (l : List (Int × Int)) (a : Int × Int) (h : pSorted l) : pSorted (pPut l a) := by
  induction l with
  | nil => exact List.pairwise_singleton _ _
  | cons x l ih =>
    obtain ⟨h1, h2⟩ := List.pairwise_cons.1 h
    rw [pPut_cons]
    split
    · next hc =>
      refine List.pairwise_cons.2 ⟨fun y hy => ?_, h⟩
      rcases List.mem_cons.1 hy with rfl | hy
      · have := (pLess_iff _ _).1 hc
        rw [pLess_false]
        omega
      · have e1 := (pLess_iff _ _).1 hc
        have e2 := (pLess_false _ _).1 (h1 y hy)
        rw [pLess_false]
        omega
    · next hc =>
      refine List.pairwise_cons.2 ⟨fun y hy => ?_, ih h2⟩
      rcases (pPut_mem _ _ _).1 hy with rfl | hy
      · simpa using hc
      · exact h1 y hy
theorem pPut_perm (l : List (Int × Int)) (a : Int × Int) : (pPut l a).Perm (a :: l) := by
  induction l with
  | nil => exact List.Perm.refl _
  | cons x l ih =>
    rw [pPut_cons]
    split
    · exact List.Perm.refl _
    · exact (List.Perm.cons x ih).trans (List.Perm.swap a x l)
theorem pSorted_eq : ∀ (l m : List (Int × Int)), pSorted l → pSorted m → l.Perm m → l = m
  | [], m, _, _, hp => (List.nil_perm.1 hp).symm
  | x :: l, [], _, _, hp => by have := hp.length_eq; simp at this
  | x :: l, y :: m, hl, hm, hp => by
    obtain ⟨l1, l2⟩ := List.pairwise_cons.1 hl
    obtain ⟨m1, m2⟩ := List.pairwise_cons.1 hm
    have e : x = y := by
      have hx : x ∈ y :: m := hp.mem_iff.1 (List.mem_cons_self ..)
      have hy : y ∈ x :: l := hp.mem_iff.2 (List.mem_cons_self ..)
      rcases List.mem_cons.1 hx with h | h
      · exact h
      rcases List.mem_cons.1 hy with h' | h'
      · exact h'.symm
      have a1 := (pLess_false _ _).1 (m1 x h)
      have a2 := (pLess_false _ _).1 (l1 y h')
      exact Prod.ext (by omega) (by omega)
    subst e
    rw [pSorted_eq l m l2 m2 (List.perm_cons x |>.1 hp)]
theorem sum_perm {l m : List (Int × Int)} (h : l.Perm m) (f : Int × Int → Int) : (l.map f).sum = (m.map f).sum := by
  induction h with
  | nil => rfl
  | cons x _ ih => simp only [List.map_cons, List.sum_cons]; rw [ih]
  | swap x y l => simp only [List.map_cons, List.sum_cons]; omega
  | trans _ _ a b => rw [a, b]
theorem room_cons (a : Int × Int) (l : List (Int × Int)) (n j : Int) : pRoom (a :: l) n j = pRoom l n j - 2 * min j a.1 := by unfold pRoom; simp only [List.map_cons, List.sum_cons]; omega
end Go.Proofs.YtdooboibmllfkaaGreatDoor

namespace Go.Proofs.YtdooboibmllfkaaGreatDoor
set_option maxRecDepth 100000

theorem erase_sorted {l : List (Int × Int)} (a : Int × Int) (h : pSorted l) : pSorted (l.erase a) := List.Pairwise.sublist (List.erase_sublist ..) h
theorem pStep_sorted {l : List (Int × Int)} (n : Int) (h : pSorted l) : pSorted (pStep l n) := by
  cases hf : l.find? (pFull l n) with
  | none => rw [pStep_none hf]; exact pPut_sorted _ _ h
  | some a => rw [pStep_some hf]; exact pPut_sorted _ _ (erase_sorted a h)
theorem kRc_sorted : ∀ p : List Bool, pSorted (kRc p)
  | [] => List.Pairwise.nil
  | false :: p => kRc_sorted p
  | true :: p => pStep_sorted _ (kRc_sorted p)
theorem room_mono (l : List (Int × Int)) (n j k : Int) (h : j ≤ k) : pRoom l n k ≤ pRoom l n j := by
  have : (l.map (fun a => min j a.1)).sum ≤ (l.map (fun a => min k a.1)).sum := by
    induction l with
    | nil => exact Int.le_refl _
    | cons x l ih => simp only [List.map_cons, List.sum_cons]; omega
  unfold pRoom
  omega
def pSizes (l : List (Int × Int)) : Int := (l.map (fun a => a.1)).sum
theorem sizes_put (l : List (Int × Int)) (a : Int × Int) : pSizes (pPut l a) = pSizes l + a.1 := by
  unfold pSizes
  rw [sum_perm (pPut_perm l a)]
  simp only [List.map_cons, List.sum_cons]
  omega
theorem sizes_erase {l : List (Int × Int)} {a : Int × Int} (h : a ∈ l) : pSizes (l.erase a) = pSizes l - a.1 := by
  unfold pSizes
  have := sum_perm (List.perm_cons_erase h) (fun a => a.1)
  simp only [List.map_cons, List.sum_cons] at this
  omega
theorem sizes_step (l : List (Int × Int)) (n : Int) : pSizes (pStep l n) = pSizes l + 1 := by
  cases hf : l.find? (pFull l n) with
  | none => rw [pStep_none hf]; exact sizes_put _ _
  | some a =>
    rw [pStep_some hf]
    unfold pNew
    rw [sizes_put, sizes_erase (List.mem_of_find?_eq_some hf)]
    omega
theorem kBal_rc : ∀ p : List Bool, kBal p = (p.length : Int) - 2 * pSizes (kRc p)
  | [] => rfl
  | false :: p => by
    have := kBal_rc p
    rw [kBal_cons, this]
    show _ = _ - 2 * pSizes (kRc p)
    simp
    omega
  | true :: p => by
    have := kBal_rc p
    rw [kBal_cons, this, kRc_true, sizes_step]
    simp
    omega
theorem room_le (l : List (Int × Int)) (n j : Int) (hj : 0 ≤ j) (h : ∀ a ∈ l, 1 ≤ a.1) : pRoom l n j ≤ n := by
  have := room_mono l n 0 j hj
  rw [room0 l n h] at this
  exact this
end Go.Proofs.YtdooboibmllfkaaGreatDoor

namespace Go.Proofs.YtdooboibmllfkaaGreatDoor
set_option maxRecDepth 100000
open Go.RowKit

def rgSorted : List (Int × Int) → Bool
  | [] => true
  | [_] => true
  | x :: y :: l => !pLess x y && rgSorted (y :: l)
def rgPart (a : Int × Int) : Bool := decide (1 ≤ a.1) && decide (a.1 ≤ 60) && (decide (0 ≤ a.2) && decide (a.2 ≤ 1000))
def rgIn (l : List (Int × Int)) : Bool := l.all rgPart && rgSorted l && decide (l.length ≤ 60)
def rgBox (n : Int) : Bool := decide (0 ≤ n) && decide (n ≤ 120)
def rgFits (l : List (Int × Int)) (n : Int) : Bool := rgIn l && rgBox n && l.all (fun a => decide (a.2 ≤ pRoom l n a.1))
theorem rgSorted_iff : ∀ l : List (Int × Int), rgSorted l = true ↔ pSorted l
  | [] => ⟨fun _ => List.Pairwise.nil, fun _ => rfl⟩
  | [x] => ⟨fun _ => List.pairwise_singleton _ _, fun _ => rfl⟩
  | x :: y :: l => by
    have ih := rgSorted_iff (y :: l)
    constructor
    · intro h
      have h' : (!pLess x y && rgSorted (y :: l)) = true := h
      rw [Bool.and_eq_true] at h'
      have hs := ih.1 h'.2
      have h1 : pLess x y = false := by simpa using h'.1
      refine List.pairwise_cons.2 ⟨fun z hz => ?_, hs⟩
      rcases List.mem_cons.1 hz with rfl | hz
      · exact h1
      · have a1 := (pLess_false _ _).1 h1
        have a2 := (pLess_false _ _).1 ((List.pairwise_cons.1 hs).1 z hz)
        rw [pLess_false]
        omega
    · intro h
      obtain ⟨h1, h2⟩ := List.pairwise_cons.1 h
      show (!pLess x y && rgSorted (y :: l)) = true
      rw [h1 y (List.mem_cons_self ..), ih.2 h2]
      rfl
theorem rgPart_iff (a : Int × Int) : rgPart a = true ↔ 1 ≤ a.1 ∧ a.1 ≤ 60 ∧ 0 ≤ a.2 ∧ a.2 ≤ 1000 := by unfold rgPart; simp; omega
theorem rgIn_iff (l : List (Int × Int)) : rgIn l = true ↔ (∀ a ∈ l, 1 ≤ a.1 ∧ a.1 ≤ 60 ∧ 0 ≤ a.2 ∧ a.2 ≤ 1000) ∧ pSorted l ∧ l.length ≤ 60 := by
  unfold rgIn
  rw [Bool.and_eq_true, Bool.and_eq_true, List.all_eq_true, rgSorted_iff, decide_eq_true_iff, and_assoc]
  exact and_congr (forall_congr' fun a => forall_congr' fun _ => rgPart_iff a) Iff.rfl
theorem rgBox_iff (n : Int) : rgBox n = true ↔ 0 ≤ n ∧ n ≤ 120 := by unfold rgBox; simp
theorem rgFits_iff (l : List (Int × Int)) (n : Int) : rgFits l n = true ↔ rgIn l = true ∧ (0 ≤ n ∧ n ≤ 120) ∧ ∀ a ∈ l, a.2 ≤ pRoom l n a.1 := by
  unfold rgFits
  rw [Bool.and_eq_true, Bool.and_eq_true, rgBox_iff, List.all_eq_true, and_assoc]
  exact and_congr Iff.rfl (and_congr Iff.rfl (forall_congr' fun a => forall_congr' fun _ => decide_eq_true_iff))
theorem put_last {l : List (Int × Int)} {a : Int × Int} (h : pSorted (l ++ [a])) : pPut l a = l ++ [a] := by
  have : ∀ x ∈ l, pLess x a = false := fun x hx => (List.pairwise_append.1 h).2.2 x hx a (List.mem_singleton.2 rfl)
  have e := put_low l [] a this
  rw [List.append_nil] at e
  exact e
end Go.Proofs.YtdooboibmllfkaaGreatDoor

namespace Go.Proofs.YtdooboibmllfkaaGreatDoor
set_option maxRecDepth 100000
open Go.RowKit

def rvB (s : ByteArray) : List Bool := (bits s).reverse
def rgOf (s : ByteArray) : List (Int × Int) := if highB s then kRc (rvB s) else []
theorem kBal_levAt (l : List Bool) : ∀ k, k ≤ l.length → kBal (l.take k).reverse = levAt l k
  | 0, _ => by rw [levAt_zero]; rfl
  | k + 1, h => by
    have ih := kBal_levAt l k (by omega)
    have hk : k < l.length := by omega
    rw [List.take_succ_eq_append_getElem hk, List.reverse_append, levAt_succ l k l[k] (List.getElem?_eq_getElem hk), ← ih]
    rfl
theorem kHi_lev (l : List Bool) : ∀ k, k ≤ l.length → (kHi (l.take k).reverse ↔ ∀ j, j ≤ k → 0 ≤ levAt l j)
  | 0, _ => ⟨fun _ j hj => by rw [Nat.le_zero.1 hj, levAt_zero]; exact Int.le_refl _, fun _ => trivial⟩
  | k + 1, h => by
    have ih := kHi_lev l k (by omega)
    have hb := kBal_levAt l (k + 1) h
    have hk : k < l.length := by omega
    rw [List.take_succ_eq_append_getElem hk, List.reverse_append] at hb ⊢
    have e : kHi ([l[k]].reverse ++ (l.take k).reverse) ↔ (kHi (l.take k).reverse ∧ 0 ≤ kBal ([l[k]].reverse ++ (l.take k).reverse)) := Iff.rfl
    rw [e, ih, hb]
    exact ⟨fun g j hj => by
      by_cases hjk : j ≤ k
      · exact g.1 j hjk
      · rw [show j = k + 1 by omega]; exact g.2, fun g => ⟨fun j hj => g j (by omega), g _ (Nat.le_refl _)⟩⟩
theorem kHi_all (l : List Bool) : kHi l.reverse ↔ (lev l).all nn = true := by
  have h := kHi_lev l l.length (Nat.le_refl _)
  rw [List.take_length] at h
  rw [h, List.all_eq_true]
  unfold lev
  constructor
  · intro g x hx
    obtain ⟨j, hj, rfl⟩ := List.mem_map.1 hx
    have := g j (by have := List.mem_range.1 hj; omega)
    unfold nn
    simpa using this
  · intro g j hj
    have := g _ (List.mem_map.2 ⟨j, List.mem_range.2 (by omega), rfl⟩)
    unfold nn at this
    simpa using this
theorem highB_iff (s : ByteArray) : highB s = true ↔ levOk s = true ∧ kHi (rvB s) := by
  unfold highB rvB
  rw [Bool.and_eq_true, kHi_all]
  refine ⟨fun h => ⟨h.1, by have := h.2; unfold levR at this; rw [h.1] at this; exact this⟩, fun h => ⟨h.1, by unfold levR; rw [h.1]; exact h.2⟩⟩
end Go.Proofs.YtdooboibmllfkaaGreatDoor

namespace Go.Proofs.YtdooboibmllfkaaGreatDoor
set_option maxRecDepth 100000

def lstp (c : Nat) (x : Bool) : Nat := if x then c + 1 else c - 1
def lend (c : Nat) : List Bool → Nat
  | [] => c
  | x :: l => lend (lstp c x) l
def tn (c : Nat) : List Bool → List Bool
  | [] => []
  | x :: l => (!x && decide (0 < c)) :: tn (lstp c x) l
def drf : List Bool → Int
  | [] => 0
  | x :: l => (if x then 1 else -1) + drf l
def cturn (l : List Bool) : List Bool := tn (lend 0 l) l

theorem lend_max : ∀ (l : List Bool) (c : Nat), ((lend c l : Nat) : Int) = max ((c : Int) + drf l) (lend 0 l : Nat)
  | [], c => by simp only [lend, drf]; omega
  | x :: l, c => by
    have h1 := lend_max l (lstp c x)
    have h2 := lend_max l (lstp 0 x)
    have h0 := lend_max l 0
    simp only [lend, drf]
    rw [h1, h2]
    cases x
    · simp only [lstp]; simp at *; omega
    · simp only [lstp]; simp at *; omega
theorem drf_app (a b : List Bool) : drf (a ++ b) = drf a + drf b := by
  induction a with
  | nil => simp [drf]
  | cons x a ih => simp only [List.cons_append, drf, ih]; omega
theorem tn_length (c : Nat) (l : List Bool) : (tn c l).length = l.length := by
  induction l generalizing c with
  | nil => rfl
  | cons x l ih => simp only [tn, List.length_cons, ih]
theorem lend_stays {l : List Bool} (h : drf l < 0) : lend (lend 0 l) l = lend 0 l := by
  have := lend_max l (lend 0 l)
  omega
theorem lend_one {l : List Bool} (h : drf l < 0) {c : Nat} (hc : lend c l = c) : c = lend 0 l := by
  have := lend_max l c
  omega
theorem tn_drf (c : Nat) (l : List Bool) : (c : Int) * 2 + drf l = (lend c l : Nat) * 2 + drf (tn c l) := by
  induction l generalizing c with
  | nil => simp only [lend, tn, drf]
  | cons x l ih =>
    have h := ih (lstp c x)
    simp only [lend, tn, drf]
    cases x
    · cases c with
      | zero => simp only [lstp] at h ⊢; simp at h ⊢; omega
      | succ k =>
        have e : lstp (k + 1) false = k := by simp [lstp]
        rw [e] at h ⊢
        have e2 : (!false && decide (0 < k + 1)) = true := by simp
        rw [e2]
        simp only [if_true, Bool.false_eq_true, if_false]
        omega
    · have e : lstp c true = c + 1 := by simp [lstp]
      rw [e] at h ⊢
      have e2 : (!true && decide (0 < c)) = false := by simp
      rw [e2]
      simp only [if_true, Bool.false_eq_true, if_false]
      omega
theorem cturn_drf {l : List Bool} (h : drf l < 0) : drf (cturn l) = drf l := by
  have := tn_drf (lend 0 l) l
  rw [lend_stays h] at this
  unfold cturn
  omega
theorem cturn_length (l : List Bool) : (cturn l).length = l.length := tn_length _ _
end Go.Proofs.YtdooboibmllfkaaGreatDoor

namespace Go.Proofs.YtdooboibmllfkaaGreatDoor
set_option maxRecDepth 100000

def hd (l : List Bool) (q : Bool) : Bool := l.head?.getD q
def ls (p : Bool) : List Bool → Bool
  | [] => p
  | x :: l => ls x l
def k10 (p : Bool) : List Bool → Bool → List Bool
  | [], _ => []
  | x :: l, q => if (if x then hd l q else !p) then x :: k10 x l q else k10 x l q
def k01 (p : Bool) : List Bool → Bool → List Bool
  | [], _ => []
  | x :: l, q => if (if x then p else !(hd l q)) then x :: k01 x l q else k01 x l q
def aj (p : Bool) : List Bool → List Bool
  | [] => []
  | x :: l => if p = x then x :: aj x l else aj x l
def one (b : Bool) (x : Bool) : List Bool := if b then [x] else []

theorem k10_aj : ∀ (l : List Bool) (p q : Bool), one (p && hd l q) true ++ k10 p l q = aj p l ++ one (ls p l && q) true
  | [], p, q => by simp [hd, k10, aj, ls]
  | x :: l, p, q => by
    have ih := k10_aj l x q
    have e : hd (x :: l) q = x := rfl
    rw [e]
    simp only [k10, aj, ls]
    obtain ⟨h, hh⟩ : ∃ h, h = hd l q := ⟨_, rfl⟩
    rw [← hh] at ih ⊢
    cases x <;> cases p <;> cases h <;> simp [one] at ih ⊢ <;> simpa using ih
def c10 (l : List Bool) : List Bool := k10 (ls false l) l (hd l false)
def c01 (l : List Bool) : List Bool := k01 (ls false l) l (hd l false)
def caj (l : List Bool) : List Bool := aj (ls false l) l
def Rot (l l' : List Bool) : Prop := ∃ a b, l = a ++ b ∧ l' = b ++ a
theorem Rot.refl (l : List Bool) : Rot l l := ⟨l, [], by simp, by simp⟩
theorem Rot.length {l l' : List Bool} (h : Rot l l') : l.length = l'.length := by
  obtain ⟨a, b, rfl, rfl⟩ := h
  simp; omega
theorem ls_cons (p p' : Bool) {l : List Bool} (h : l ≠ []) : ls p l = ls p' l := by
  cases l with
  | nil => exact absurd rfl h
  | cons x l => rfl
theorem rot_of {x : Bool} {k a : List Bool} (h : x :: k = a ++ [x]) : Rot k a := by
  cases a with
  | nil => cases k with
    | nil => exact Rot.refl _
    | cons y k => simp at h
  | cons y a =>
    simp at h
    obtain ⟨rfl, rfl⟩ := h
    exact ⟨a, [x], rfl, rfl⟩
theorem c10_rot (l : List Bool) : Rot (c10 l) (caj l) := by
  have h := k10_aj l (ls false l) (hd l false)
  have e : ls (ls false l) l = ls false l := by cases l <;> rfl
  rw [e] at h
  have e2 : hd l (hd l false) = hd l false := by cases l <;> rfl
  rw [e2] at h
  unfold c10 caj
  cases hb : (ls false l && hd l false)
  · rw [hb] at h
    simp [one] at h
    rw [h]
    exact Rot.refl _
  · rw [hb] at h
    simp only [one, if_true, List.cons_append, List.nil_append] at h
    exact rot_of h
def cnt10 : Nat → List Bool → List Nat
  | 0, _ => []
  | f + 1, l => if (c10 l).length = l.length then [] else (l.length - (c10 l).length) / 2 :: cnt10 f (c10 l)
end Go.Proofs.YtdooboibmllfkaaGreatDoor
