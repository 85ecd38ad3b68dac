/- TEXTS Wav2, Shape3. -/
import Derived.Test.Ytlgceccbjkkeiabwax17
import Derived.Test.Ytlgceccbjkkeiabwax20
import Derived.Test.Ytlgceccbjkkeiabwax21
import Derived.Test.Ytlgceccbjkkeiabwax04
/- WHAT IS TRUE OF WAVES, in numbers and texts: the facts behind the promises of chapter 7. Pure: no walk. -/
namespace Go.Proofs.Ytlgceccbjkkeiab
open Go.RowKit

def nn (l : List Int) : List Nat := l.map Int.toNat
theorem nn_length (l : List Int) : (nn l).length = l.length := by simp [nn]
theorem nn_ni (l : List Nat) : nn (ni l) = l := by
  unfold nn ni
  rw [List.map_map]
  have : l.map (Int.toNat ∘ fun n : Nat => (n : Int)) = l.map id := List.map_congr_left (fun x _ => by simp)
  rw [this, List.map_id]
theorem ni_nn {l : List Int} (h : ∀ x ∈ l, 0 ≤ x) : ni (nn l) = l := by
  unfold nn ni
  rw [List.map_map]
  have : l.map ((fun n : Nat => (n : Int)) ∘ Int.toNat) = l.map id := List.map_congr_left (fun x hx => by have := h x hx; simp; omega)
  rw [this, List.map_id]
theorem ni_sumW (l : List Nat) : (ni l).sum = (l.sum : Int) := by
  unfold ni
  induction l with
  | nil => rfl
  | cons x l ih => rw [List.map_cons, List.sum_cons, List.sum_cons, ih]; omega
/-- WaveIn -/
def w120 (x : Int) : Bool := decide (1 ≤ x) && decide (x ≤ 120)
def wIn (st : Int) (R G : List Int) : Bool := decide (0 ≤ st) && decide (st ≤ 120) && decide (1 ≤ R.length) && decide (R.length ≤ 60) && decide (R.length = G.length + 1) && R.all w120 && G.all w120
theorem w120_iff (x : Int) : w120 x = true ↔ 1 ≤ x ∧ x ≤ 120 := by unfold w120; simp
theorem wIn_iff (st : Int) (R G : List Int) : wIn st R G = true ↔ 0 ≤ st ∧ st ≤ 120 ∧ 1 ≤ R.length ∧ R.length ≤ 60 ∧ R.length = G.length + 1 ∧ (∀ x ∈ R, 1 ≤ x ∧ x ≤ 120) ∧ (∀ x ∈ G, 1 ≤ x ∧ x ≤ 120) := by
  unfold wIn
  simp only [Bool.and_eq_true, decide_eq_true_iff, List.all_eq_true, w120_iff]
  constructor
  · rintro ⟨⟨⟨⟨⟨⟨a, b⟩, c⟩, d⟩, e⟩, f⟩, g⟩; exact ⟨a, b, c, d, e, f, g⟩
  · rintro ⟨a, b, c, d, e, f, g⟩; exact ⟨⟨⟨⟨⟨⟨a, b⟩, c⟩, d⟩, e⟩, f⟩, g⟩
/-- what is known of a wave -/
theorem wIn_nat {st : Int} {R G : List Int} (h : wIn st R G = true) : (nn R).length = (nn G).length + 1 ∧ (∀ x ∈ nn R, 1 ≤ x) ∧ (∀ x ∈ nn G, 1 ≤ x) ∧ ni (nn R) = R ∧ ni (nn G) = G ∧ ((st.toNat : Nat) : Int) = st := by
  obtain ⟨a, b, c, d, e, f, g⟩ := (wIn_iff st R G).1 h
  refine ⟨by rw [nn_length, nn_length]; exact e, ?_, ?_, ni_nn (fun x hx => by have := f x hx; omega), ni_nn (fun x hx => by have := g x hx; omega), by omega⟩
  · intro x hx
    obtain ⟨y, hy, rfl⟩ := List.mem_map.1 hx
    have := f y hy; omega
  · intro x hx
    obtain ⟨y, hy, rfl⟩ := List.mem_map.1 hx
    have := g y hy; omega
/-- WaveRow -/
def wrB (st : Int) (R G : List Int) : List Bool := wvB st.toNat (nn R) (nn G)
def wrOk (st : Int) (R G : List Int) : Bool := wIn st R G && decide (st + R.sum + G.sum ≤ 120)
def wrS (st : Int) (R G : List Int) : ByteArray := if wrOk st R G then ofB (wrB st R G) else ByteArray.empty
theorem wb_length : ∀ ps : List (Nat × Nat), (wb ps).length = (ps.map (·.1)).sum + (ps.map (·.2)).sum
  | [] => rfl
  | p :: ps => by
    show (List.replicate p.1 true ++ (List.replicate p.2 false ++ wb ps)).length = _
    rw [List.length_append, List.length_append, List.length_replicate, List.length_replicate, wb_length ps, List.map_cons, List.map_cons, List.sum_cons, List.sum_cons]
    omega
theorem wvB_length {st : Nat} {R G : List Nat} (h : R.length = G.length + 1) : (wvB st R G).length = st + R.sum + G.sum := by
  unfold wvB
  rw [List.length_append, List.length_replicate, wb_length, zp_fst, zp_snd R G h, List.sum_append]
  simp
  omega
theorem wb_balls : ∀ ps : List (Nat × Nat), nballs (wb ps) = (ps.map (·.1)).sum
  | [] => rfl
  | p :: ps => by
    have ih := wb_balls ps
    unfold nballs at ih ⊢
    show (List.replicate p.1 true ++ (List.replicate p.2 false ++ wb ps)).count true = _
    rw [List.count_append, List.count_append, List.count_replicate, List.count_replicate, ih, List.map_cons, List.sum_cons]
    simp
theorem wvB_balls (st : Nat) (R G : List Nat) : nballs (wvB st R G) = R.sum := by
  unfold wvB
  have h := wb_balls (zp R G)
  rw [zp_fst] at h
  unfold nballs at h ⊢
  rw [List.count_append, List.count_replicate, h]
  simp
theorem wrOk_facts {st : Int} {R G : List Int} (h : wrOk st R G = true) : wIn st R G = true ∧ (wrB st R G).length ≤ 120 ∧ bits (wrS st R G) = wrB st R G ∧ vld (wrS st R G) = true ∧ ((wrB st R G).length : Int) = st + R.sum + G.sum := by
  have h' := h
  unfold wrOk at h'
  rw [Bool.and_eq_true, decide_eq_true_iff] at h'
  obtain ⟨h1, h2⟩ := h'
  obtain ⟨k1, k2, k3, k4, k5, k6⟩ := wIn_nat h1
  have hl : ((wrB st R G).length : Int) = st + R.sum + G.sum := by
    unfold wrB
    rw [wvB_length k1]
    have e1 := ni_sumW (nn R)
    have e2 := ni_sumW (nn G)
    rw [k4] at e1
    rw [k5] at e2
    omega
  have hl2 : (wrB st R G).length ≤ 120 := by omega
  have e : wrS st R G = ofB (wrB st R G) := by unfold wrS; rw [if_pos h]
  exact ⟨h1, hl2, by rw [e, bits_ofB], by rw [e]; exact vld_ofB hl2, hl⟩
/-- WaveOf -/
def woOk (s : ByteArray) : Bool := vld s && !(decide (nballs (bits s) = 0))
def woN (s : ByteArray) : Int := if woOk s then (lz (bits s) : Int) else 0
def woR (s : ByteArray) : List Int := if woOk s then ni (rr (bits s)).1 else []
def woG (s : ByteArray) : List Int := if woOk s then ni (rr (bits s)).2 else []
theorem woOk_iff (s : ByteArray) : woOk s = true ↔ vld s = true ∧ nballs (bits s) ≠ 0 := by unfold woOk; simp
/-- P52 -/
theorem wave_row {st : Int} {R G : List Int} (h : wrOk st R G = true) : woOk (wrS st R G) = true ∧ woN (wrS st R G) = st ∧ woR (wrS st R G) = R ∧ woG (wrS st R G) = G := by
  obtain ⟨h1, h2, h3, h4, _⟩ := wrOk_facts h
  obtain ⟨k1, k2, k3, k4, k5, k6⟩ := wIn_nat h1
  have hb : nballs (wrB st R G) ≠ 0 := by
    unfold wrB
    rw [wvB_balls]
    cases hR : nn R with
    | nil => rw [hR] at k1; simp at k1
    | cons r rs =>
      have := k2 r (by rw [hR]; exact List.mem_cons_self ..)
      rw [List.sum_cons]
      omega
  have ho : woOk (wrS st R G) = true := (woOk_iff _).2 ⟨h4, by rw [h3]; exact hb⟩
  refine ⟨ho, ?_, ?_, ?_⟩
  · unfold woN
    rw [if_pos ho, h3]
    unfold wrB
    rw [lz_wv k1 k2, k6]
  · unfold woR
    rw [if_pos ho, h3]
    unfold wrB
    rw [rr_wv k1 k2 k3, k4]
  · unfold woG
    rw [if_pos ho, h3]
    unfold wrB
    rw [rr_wv k1 k2 k3, k5]
theorem ofBits_ofB (l : List Bool) : ofBits l = ofB l := rfl
theorem le_sumN {l : List Nat} {x : Nat} (h : x ∈ l) : x ≤ l.sum := by
  induction l with
  | nil => cases h
  | cons y l ih =>
    rw [List.sum_cons]
    rcases List.mem_cons.1 h with rfl | h
    · omega
    · have := ih h; omega
theorem len_sum {l : List Nat} (h : ∀ x ∈ l, 1 ≤ x) : l.length ≤ l.sum := by
  induction l with
  | nil => exact Nat.le_refl _
  | cons y l ih =>
    have h1 := h y (List.mem_cons_self ..)
    have h2 := ih (fun x hx => h x (List.mem_cons_of_mem _ hx))
    rw [List.length_cons, List.sum_cons]
    omega
/-- P51 -/
theorem wave_of {s : ByteArray} (h : woOk s = true) : wrOk (woN s) (woR s) (woG s) = true ∧ wrS (woN s) (woR s) (woG s) = tidyS s := by
  obtain ⟨hv, hb⟩ := (woOk_iff s).1 h
  obtain ⟨k1, k2, k3, k4⟩ := wv_of hb
  have h120 := vld_le s hv
  have e1 : woN s = (lz (bits s) : Int) := by unfold woN; rw [if_pos h]
  have e2 : woR s = ni (rr (bits s)).1 := by unfold woR; rw [if_pos h]
  have e3 : woG s = ni (rr (bits s)).2 := by unfold woG; rw [if_pos h]
  have hlen := wvB_length (st := lz (bits s)) k1
  rw [← k4] at hlen
  have hcl : (cut (bits s)).length ≤ 120 := by
    have := tl_le (bits s)
    rw [cut_length]
    rw [length_bits] at this
    omega
  have l1 := len_sum k2
  have l2 := len_sum k3
  have hin : wIn (woN s) (woR s) (woG s) = true := by
    rw [e1, e2, e3, wIn_iff, ni_length, ni_length]
    refine ⟨by omega, by omega, by omega, by omega, k1, ?_, ?_⟩
    · intro x hx
      obtain ⟨y, hy, rfl⟩ := List.mem_map.1 hx
      have := k2 y hy
      have := le_sumN hy
      omega
    · intro x hx
      obtain ⟨y, hy, rfl⟩ := List.mem_map.1 hx
      have := k3 y hy
      have := le_sumN hy
      omega
  have hB : wrB (woN s) (woR s) (woG s) = cut (bits s) := by
    unfold wrB
    rw [e1, e2, e3, nn_ni, nn_ni, k4]
    rfl
  have hok : wrOk (woN s) (woR s) (woG s) = true := by
    unfold wrOk
    rw [hin, e1, e2, e3, ni_sumW, ni_sumW]
    simp
    omega
  refine ⟨hok, ?_⟩
  unfold wrS
  rw [if_pos hok, hB, ← tidyS_eq s (vld_sgn s hv), ofBits_ofB]
/-- WaveNext -/
def wnR (R G : List Int) : List Int := ni (nxR 0 (nn R) (nn G))
def wnG (R G : List Int) : List Int := ni (nxG 0 (nn R) (nn G))
def wnN (st : Int) (R : List Int) : Int := st + R.headD 0
def wnOk (st : Int) (R G : List Int) : Bool := wIn st R G && wIn (wnN st R) (wnR R G) (wnG R G)
/-- P53: as many runs, the same sum -/
theorem wn_facts {st : Int} {R G : List Int} (h : wnOk st R G = true) : wIn st R G = true ∧ wIn (wnN st R) (wnR R G) (wnG R G) = true ∧ (wnR R G).length = R.length ∧ (wnG R G).length = G.length ∧ (wnR R G).sum = R.sum := by
  unfold wnOk at h
  rw [Bool.and_eq_true] at h
  obtain ⟨h1, h2⟩ := h
  obtain ⟨k1, k2, k3, k4, k5, k6⟩ := wIn_nat h1
  obtain ⟨n1, n2⟩ := nx_length (nn R) (nn G) 0 k1
  have n3 := nx_sum (nn R) (nn G) 0 k1
  refine ⟨h1, h2, ?_, ?_, ?_⟩
  · unfold wnR; rw [ni_length, n1, nn_length]
  · unfold wnG; rw [ni_length, n2, nn_length]
  · unfold wnR
    rw [ni_sumW, n3, Nat.zero_add]
    have := ni_sumW (nn R)
    rw [k4] at this
    exact this.symm
theorem cut_step (b : List Bool) (hb : b.length ≤ 120) (m : Nat) (hm : b.length ≤ m) : cut (tn 0 (b ++ List.replicate m false)) = cut (stp 200 b) := by
  have h := cturn_long (b := b) hb (b.length + m) (by omega)
  have hr := range_bx b (b.length + m) (by omega)
  obtain ⟨h1, _⟩ := tn_own (bx b) (b.length + m) (fun i _ => ld_small hb i)
  rw [show b.length + m - b.length = m by omega] at hr
  rw [← hr, h1]
  exact h.2
/-- P53: the wave of the step -/
theorem wn_step {st : Int} {R G : List Int} (hw : wrOk st R G = true) (hs : stOk (wrS st R G) 200 = true) :
    woOk (stS (wrS st R G) 200) = true ∧ woN (stS (wrS st R G) 200) = wnN st R ∧ woR (stS (wrS st R G) 200) = wnR R G ∧ woG (stS (wrS st R G) 200) = wnG R G := by
  obtain ⟨h1, h2, h3, h4, _⟩ := wrOk_facts hw
  obtain ⟨k1, k2, k3, k4, k5, k6⟩ := wIn_nat h1
  have hbs := bits_stS hs
  have hcs := cut_step (wrB st R G) h2 (wrB st R G).length (Nat.le_refl _)
  have hsum : (nn R).sum ≤ (wrB st R G).length := by unfold wrB; rw [wvB_length k1]; omega
  have htw := tn_wave (st := st.toNat) k1 k2 k3 (wrB st R G).length hsum
  have hB : bits (stS (wrS st R G) 200) = wvB (st.toNat + (nn R).headD 0) (nxR 0 (nn R) (nn G)) (nxG 0 (nn R) (nn G)) := by
    rw [hbs, h3]
    have e : stp (Int.toNat 200) (wrB st R G) = stp 200 (wrB st R G) := rfl
    rw [e, ← hcs]
    exact htw
  obtain ⟨n1, n2⟩ := nx_length (nn R) (nn G) 0 k1
  have n4 : (nxR 0 (nn R) (nn G)).length = (nxG 0 (nn R) (nn G)).length + 1 := by rw [n1, n2, k1]
  obtain ⟨p1, p2⟩ := nx_pos (nn R) (nn G) 0 k1 k2 k3
  have hvt : vld (stS (wrS st R G) 200) = true := vld_stS hs
  have hb : nballs (bits (stS (wrS st R G) 200)) ≠ 0 := by
    rw [hB, wvB_balls]
    have := len_sum p1
    omega
  have ho : woOk (stS (wrS st R G) 200) = true := (woOk_iff _).2 ⟨hvt, hb⟩
  refine ⟨ho, ?_, ?_, ?_⟩
  · unfold woN
    rw [if_pos ho, hB, lz_wv n4 p1]
    unfold wnN
    have e : ((nn R).headD 0 : Int) = R.headD 0 := by
      cases R with
      | nil => rfl
      | cons r rs =>
        have := ((wIn_iff st (r :: rs) G).1 h1).2.2.2.2.2.1 r (List.mem_cons_self ..)
        show ((Int.toNat r : Nat) : Int) = r
        omega
    omega
  · unfold woR
    rw [if_pos ho, hB, rr_wv n4 p1 p2]
    rfl
  · unfold woG
    rw [if_pos ho, hB, rr_wv n4 p1 p2]
    rfl
/-- P50, P55 -/
theorem ws_facts {st : Int} {R G : List Int} (h : wIn st R G = true) : (R.length : Int) ≤ R.sum ∧ (wrOk st R G = true → (nballs (bits (wrS st R G)) : Int) = R.sum) ∧ (∀ k, 0 ≤ (R.take k).sum ∧ (R.take k).sum ≤ 7200) := by
  obtain ⟨k1, k2, k3, k4, k5, k6⟩ := wIn_nat h
  obtain ⟨_, _, _, hl, _, hR, _⟩ := (wIn_iff st R G).1 h
  have e := ni_sumW (nn R)
  rw [k4] at e
  have l1 := len_sum k2
  rw [nn_length] at l1
  refine ⟨by omega, ?_, ?_⟩
  · intro hw
    rw [(wrOk_facts hw).2.2.1]
    unfold wrB
    rw [wvB_balls, e]
  · intro k
    have hb : ∀ l : List Int, (∀ x ∈ l, 1 ≤ x ∧ x ≤ 120) → 0 ≤ l.sum ∧ l.sum ≤ 120 * (l.length : Int) := by
      intro l
      induction l with
      | nil => intro _; simp
      | cons x l ih =>
        intro hx
        have h1 := hx x (List.mem_cons_self ..)
        have h2 := ih (fun y hy => hx y (List.mem_cons_of_mem _ hy))
        rw [List.sum_cons, List.length_cons]
        omega
    have h1 := hb (R.take k) (fun x hx => hR x (List.mem_of_mem_take hx))
    rw [List.length_take] at h1
    omega
end Go.Proofs.Ytlgceccbjkkeiab

/- THE WALK of the model's ShapeEnergy. -/
namespace Go.Proofs.Ytlgceccbjkkeiab
open Go.RowKit

/-- a size in its range -/
def szOk (x : Int) : Bool := decide (1 ≤ x) && decide (x ≤ 200)
/-- what ShapeEnergy answers -/
def enOk (l : List Int) (room : Int) : Bool := roomOk room && decide (l.length ≤ 100) && l.all szOk
def enSum (l : List Int) (room : Int) : Int := (l.map fun x => min x room).sum
def enN (l : List Int) (room : Int) : Int := if enOk l room then enSum l room else 0

theorem enSum_take (l : List Int) (room x : Int) (k : Nat) (h : l[k]? = some x) : enSum (l.take (k + 1)) room = enSum (l.take k) room + min x room := by
  obtain ⟨hk, e⟩ := List.getElem?_eq_some_iff.1 h
  unfold enSum
  rw [List.take_succ_eq_append_getElem hk, List.map_append, List.sum_append, e]; simp
theorem enSum_bd (l : List Int) (room : Int) (hr : roomOk room = true) (hl : l.all szOk = true) : 0 ≤ enSum l room ∧ enSum l room ≤ 200 * (l.length : Int) := by
  unfold roomOk at hr
  simp at hr
  induction l with
  | nil => exact ⟨Int.le_refl _, by simp [enSum]⟩
  | cons x t ih =>
    rw [List.all_cons, Bool.and_eq_true] at hl
    obtain ⟨i1, i2⟩ := ih hl.2
    have h1 := hl.1
    unfold szOk at h1
    simp at h1
    have e : enSum (x :: t) room = min x room + enSum t room := by unfold enSum; simp
    rw [e, List.length_cons]
    omega
theorem all_take_succ (l : List Int) (p : Int → Bool) (k : Nat) (x : Int) (h : l[k]? = some x) : (l.take (k + 1)).all p = ((l.take k).all p && p x) := by
  obtain ⟨hk, e⟩ := List.getElem?_eq_some_iff.1 h
  rw [List.take_succ_eq_append_getElem hk, List.all_append, e]; simp

end Go.Proofs.Ytlgceccbjkkeiab

/- THE WALK of the model's ShapeTime. -/
namespace Go.Proofs.Ytlgceccbjkkeiab
open Go.RowKit

/-- from a text on, with n steps behind: how many steps until it is apart -/
def tmF : Nat → ByteArray → Nat → Int × Bool
  | 0, _, _ => (0, false)
  | f + 1, s, n => if apOk s then ((n : Int), true) else if stOk s 200 then tmF f (stS s 200) (n + 1) else (0, false)
/-- what ShapeTime answers -/
def tmR (s : ByteArray) : Int × Bool := if vld s then tmF 61 s 0 else (0, false)

end Go.Proofs.Ytlgceccbjkkeiab
