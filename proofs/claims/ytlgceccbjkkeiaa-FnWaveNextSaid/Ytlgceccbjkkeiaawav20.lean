/- TEXTS Shape1, Wav2. -/
import Derived.Test.Ytlgceccbjkkeiaawav15
import Derived.Maps.AppendAt
import Derived.Test.Ytlgceccbjkkeiaawav16
import Derived.Test.Ytlgceccbjkkeiaawav18
import Derived.Test.Ytlgceccbjkkeiaawav19
import Derived.Test.Ytlgceccbjkkeiaawav04
/- THE WALKS of the model's l3Runs, ShapeRuns, ShapeApart. -/
namespace Go.Proofs.Ytlgceccbjkkeiaa
open Go.RowKit

/-- numbers as ints -/
def ni (l : List Nat) : List Int := l.map fun (x : Nat) => (x : Int)
theorem ni_length (l : List Nat) : (ni l).length = l.length := by simp [ni]
theorem ni_snoc (l : List Nat) (x : Nat) : ni (l ++ [x]) = ni l ++ [(x : Int)] := by simp [ni]
theorem ni_getElem (l : List Nat) (k : Nat) : (ni l)[k]? = l[k]?.map fun (x : Nat) => (x : Int) := by simp [ni]
theorem bits_drop (s : ByteArray) (k : Nat) (h : k < s.size) : (bits s).drop k = (s[k] == 49) :: (bits s).drop (k + 1) := by
  have hb : k < (bits s).length := by rw [length_bits]; exact h
  have e := bits_getElem s k h
  rw [List.getElem?_eq_getElem hb] at e
  simp only [Option.some.injEq] at e
  rw [List.drop_eq_getElem_cons hb, e]

/-- the loop of l3Runs, between two signs -/
def RunRel (s : ByteArray) (B : Nat) (w : World) (u v c d i : Value) (wr : World) : Prop :=
  ∃ (k n g : Nat) (R G : List Nat), k ≤ s.size ∧ i = .int .i64 (k : Int) ∧ c = .int .i64 (n : Int) ∧ d = .int .i64 (g : Int) ∧ n ≤ k ∧ g ≤ k ∧ R.length ≤ k ∧ G.length ≤ k ∧
    Hid (wr.ownsRow B 3 1 u R.length ((ni R).map (.int .i64))) ∧ Hid (wr.ownsRow B 3 1 v G.length ((ni G).map (.int .i64))) ∧ Hid (∀ x, u.ownBlock = some x → v.ownBlock ≠ some x) ∧
    Hid (rr (bits s) = rrF ((bits s).drop k) R G n g) ∧ Hid (Below B w wr) ∧ B ≤ wr.heap.size
theorem apart_ne {u v : Value} (h : ∀ x, u.ownBlock = some x → v.ownBlock ≠ some x) : (u.ownBlock = none ∨ u.ownBlock ≠ v.ownBlock) ∧ (v.ownBlock = none ∨ v.ownBlock ≠ u.ownBlock) := by
  cases hu : u.ownBlock with
  | none => refine ⟨.inl rfl, ?_⟩; cases hv : v.ownBlock with
            | none => exact .inl rfl
            | some y => exact .inr (fun e => by cases e)
  | some x => exact ⟨.inr (fun e => h x hu e.symm), .inr (fun e => h x hu e)⟩
theorem own_slice {w : World} {B e n : Nat} {v : Value} {xs : List Value} (h : w.ownsRow B e 1 v n xs) : ∃ a c, v = .slice a n c := by
  rcases h.2 with ⟨rfl, rfl⟩ | ⟨g, cap, cur, rfl, _⟩
  · exact ⟨_, _, rfl⟩
  · exact ⟨_, _, rfl⟩
/-- one number put behind the first row: the other one is kept -/
theorem rows_next {B e m : Nat} {u v u' : Value} {ys : List Value} {wr w1 : World} {o : Obj} (hv : wr.ownsRow B e 1 v m ys) (ha : ∀ x, u.ownBlock = some x → v.ownBlock ≠ some x)
    (hg : (wr.alloc o).grownBy w1 u.ownBlock) (hat : u'.ownBlock = u.ownBlock ∨ u'.ownBlock = some (wr.alloc o).heap.size) : w1.ownsRow B e 1 v m ys ∧ ∀ x, u'.ownBlock = some x → v.ownBlock ≠ some x := by
  refine ⟨(hv.alloc o).kept hg (apart_ne ha).2, ?_⟩
  intro x hx hvx
  rcases hat with h | h
  · exact ha x (h ▸ hx) hvx
  · rw [h] at hx
    injection hx with hx
    have := (hv.lt x hvx).2
    rw [World.size_alloc] at hx
    omega

set_option maxHeartbeats 2000000 in
theorem l3Runs_any (s : ByteArray) (w : World) (hs : s.size ≤ 120) :
    Calls Try.prog 39 #[.string s] w fun e w' => ∃ u v, e = .returned (.tuple #[u, v]) ∧ IntsV w.heap.size w' u (ni (rr (bits s)).1) ∧ IntsV w.heap.size w' v (ni (rr (bits s)).2) ∧ Below w.heap.size w w' := by
  obtain ⟨i0, hi, hz0, hz1, hz2⟩ := info_parts infoI
  obtain ⟨B, hB⟩ : ∃ B, w.heap.size = B := ⟨_, rfl⟩
  have h0 := World.ownsRow_lit (base := B) (e := 3) (size := 1) w #[] 0 (by omega) (by unfold maxLen; omega) rfl
  have h1 := World.ownsRow_lit (base := B) (e := 3) (size := 1) (w.alloc (.cells #[] 3)) #[] 0 (by simp; omega) (by unfold maxLen; omega) rfl
  have hb0 := ((Below.refl B w).alloc (by omega) (.cells #[] 3)).alloc (by simp; omega) (.cells #[] 3)
  have h0' := h0.alloc (.cells #[] 3)
  rw [hB] at h0' ⊢
  have HB := hide hB
  clear hB
  have H0 := hide h0'
  have H1 := hide h1
  clear h0 h1 h0'
  go_enter Try.func39, Try.ntmps39
  go_wp2
  go_loopw [4, 5, 6, 7, 8] (RunRel s B w) (fun _ _ _ _ i _ => s.size - (Go.RowKit.intOf i).toNat)
  case atStart =>
    refine ⟨0, 0, 0, [], [], Nat.zero_le _, rfl, rfl, rfl, Nat.le_refl _, Nat.le_refl _, Nat.le_refl _, Nat.le_refl _, ?_, ?_, ?_, rfl, hb0, by simp [← HB.out]; omega⟩
    · have := H0.out
      rw [← HB.out] at this ⊢
      exact this
    · have := H1.out
      rw [World.size_alloc] at this
      rw [← HB.out] at this ⊢
      exact this
    · intro x hx hy
      simp [Value.ownBlock] at hx hy
      omega
  case round =>
    obtain ⟨k, n, g, R, G, hk, rfl, rfl, rfl, hn, hg, hR, hG, HU, HV, HA, HR, HBW, hsz⟩ := hrel
    clear H0 H1 hb0
    by_cases hlt : k < s.size
    · have HD := hide (bits_drop s k hlt)
      rw [bit_int] at HD
      cases hb : ((s[k].toNat : Int) == 49)
      · rw [hb] at HD
        by_cases hc : 0 < n
        · have HR2 := hide (show rr (bits s) = rrF ((bits s).drop (k + 1)) (R ++ [n]) G 0 (g + 1) by rw [HR.out, HD.out, rrF_false, if_neg (by omega)])
          clear HD HR
          go_wp2_with (at_builtin; refine wpList_append_own_at _ rfl _ _ 23 rfl B 3 i0 (.int .i64 0) 1 8 Try.underlying23 hi hz0 hz1 hz2 rfl (by decide) _ _ _ rfl (HU.out.alloc _) ⟨wr.heap.size, 0, none⟩ 1 1 [.int .i64 (n : Int)] rfl rfl (cell_one_new _ _ _) (one_of_int _) (by unfold maxLen; omega) (by omega) (by simp; omega) ?_; intro v' w1 hown' hgrow _ hat)
          go_roundw
          case rel =>
            obtain ⟨r1, r2⟩ := rows_next HV.out HA.out hgrow hat
            have hsg := hgrow.size
            rw [World.size_alloc] at hsg
            refine ⟨k + 1, 0, g + 1, R ++ [n], G, by omega, by go_num, rfl, by go_num, by omega, by omega, by simp; omega, by omega, ?_, r1, r2, HR2, (HBW.out.alloc hsz _).grown hgrow (by simp; omega) (fun b e => (HU.out.lt b e).1), by omega⟩
            rw [List.length_append, ni_snoc, List.map_append]; exact hown'
          case measure => simp [Go.RowKit.intOf]; omega
        · obtain rfl : n = 0 := by omega
          have HR2 := hide (show rr (bits s) = rrF ((bits s).drop (k + 1)) R G 0 (g + 1) by rw [HR.out, HD.out, rrF_false, if_pos rfl])
          clear HD HR
          go_wp2
          go_roundw
          case rel => exact ⟨k + 1, 0, g + 1, R, G, by omega, by go_num, rfl, by go_num, by omega, by omega, by omega, by omega, HU, HV, HA, HR2, HBW, hsz⟩
          case measure => simp [Go.RowKit.intOf]; omega
      · rw [hb] at HD
        obtain ⟨a4, c4, rfl⟩ := own_slice HU.out
        by_cases hc : n = 0 ∧ 0 < R.length
        · obtain ⟨rfl, hR0⟩ := hc
          have HR2 := hide (show rr (bits s) = rrF ((bits s).drop (k + 1)) R (G ++ [g]) 1 0 by rw [HR.out, HD.out, rrF_true, if_pos ⟨rfl, fun e => by rw [e] at hR0; simp at hR0⟩])
          have hRi : (0 : Int) < (R.length : Int) := by omega
          clear HD HR
          go_wp2_with (at_builtin; refine wpList_append_own_at _ rfl _ _ 23 rfl B 3 i0 (.int .i64 0) 1 8 Try.underlying23 hi hz0 hz1 hz2 rfl (by decide) _ _ _ rfl (HV.out.alloc _) ⟨wr.heap.size, 0, none⟩ 1 1 [.int .i64 (g : Int)] rfl rfl (cell_one_new _ _ _) (one_of_int _) (by unfold maxLen; omega) (by omega) (by simp; omega) ?_; intro v' w1 hown' hgrow _ hat)
          go_roundw
          case rel =>
            obtain ⟨r1, r2⟩ := rows_next HU.out (fun x hx hy => HA.out x hy hx) hgrow hat
            have hsg := hgrow.size
            rw [World.size_alloc] at hsg
            refine ⟨k + 1, 1, 0, R, G ++ [g], by omega, by go_num, rfl, rfl, by omega, by omega, by omega, by simp; omega, r1, ?_, fun x hx hy => r2 x hy hx, HR2, (HBW.out.alloc hsz _).grown hgrow (by simp; omega) (fun b e => (HV.out.lt b e).1), by omega⟩
            rw [List.length_append, ni_snoc, List.map_append]; exact hown'
          case measure => simp [Go.RowKit.intOf]; omega
        · have HR2 := hide (show rr (bits s) = rrF ((bits s).drop (k + 1)) R G (n + 1) 0 by rw [HR.out, HD.out, rrF_true, if_neg (fun h => hc ⟨h.1, List.length_pos_iff.2 h.2⟩)])
          clear HD HR
          by_cases hn0 : n = 0
          · subst hn0
            have hR0 : R.length = 0 := by omega
            have hRi : ¬ (0 : Int) < (R.length : Int) := by omega
            clear hc
            go_wp2
            go_roundw
            case rel => exact ⟨k + 1, 0 + 1, 0, R, G, by omega, by go_num, rfl, rfl, by omega, by omega, by omega, by omega, HU, HV, HA, HR2, HBW, hsz⟩
            case measure => simp [Go.RowKit.intOf]; omega
          · have hni : ((n : Int) == 0) = false := beq_eq_false_iff_ne.2 (by omega)
            clear hc
            go_wp2
            go_roundw
            case rel => exact ⟨k + 1, n + 1, 0, R, G, by omega, by go_num, by go_num, rfl, by omega, by omega, by omega, by omega, HU, HV, HA, HR2, HBW, hsz⟩
            case measure => simp [Go.RowKit.intOf]; omega
    · have hks : k = s.size := by omega
      have HE : Hid (rr (bits s) = (if n = 0 then R else R ++ [n], G)) := by
        show rr (bits s) = _
        rw [HR.out, hks, List.drop_of_length_le (by rw [length_bits]; exact Nat.le_refl _)]; rfl
      clear HR
      by_cases hc : 0 < n
      · have HE2 := hide (HE.out.trans (by rw [if_neg (by omega)] : _ = (R ++ [n], G)))
        clear HE
        go_wp2_with (at_builtin; refine wpList_append_own_at _ rfl _ _ 23 rfl B 3 i0 (.int .i64 0) 1 8 Try.underlying23 hi hz0 hz1 hz2 rfl (by decide) _ _ _ rfl (HU.out.alloc _) ⟨wr.heap.size, 0, none⟩ 1 1 [.int .i64 (n : Int)] rfl rfl (cell_one_new _ _ _) (one_of_int _) (by unfold maxLen; omega) (by omega) (by simp; omega) ?_; intro v' w1 hown' hgrow _ hat)
        go_ret2
        obtain ⟨r1, r2⟩ := rows_next HV.out HA.out hgrow hat
        rw [HE2.out]
        refine ⟨_, _, rfl, IntsV.of_owns (e := 3) (n := R.length + 1) ?_, IntsV.of_owns (e := 3) (n := G.length) r1, (HBW.out.alloc hsz _).grown hgrow (by simp; omega) (fun b e => (HU.out.lt b e).1)⟩
        show w1.ownsRow _ _ _ _ _ ((ni (R ++ [n])).map (.int .i64))
        rw [ni_snoc, List.map_append]; exact hown'
      · obtain rfl : n = 0 := by omega
        have HE2 := hide (HE.out.trans (by rw [if_pos rfl] : _ = (R, G)))
        clear HE
        go_wp2
        go_ret2
        rw [HE2.out]
        exact ⟨_, _, rfl, IntsV.of_owns (e := 3) (n := R.length) HU.out, IntsV.of_owns (e := 3) (n := G.length) HV.out, HBW.out⟩

/-- what ShapeRuns answers -/
def rnR (s : ByteArray) : List Int := if vld s then ni (rr (bits s)).1 else []
/-- what ShapeApart answers -/
def apOk (s : ByteArray) : Bool := vld s && apB (rr (bits s)).1 (rr (bits s)).2
theorem rr_len (l : List Bool) : (rr l).1.length ≤ l.length ∧ ((rr l).2 = [] ∨ (rr l).2.length + 1 = (rr l).1.length) ∧ ∀ x ∈ (rr l).1, x ≤ l.length := by
  obtain ⟨h1, h2, h3⟩ := runs_energy l
  refine ⟨by rw [h1]; exact tk_le _ _ _, ?_, ?_⟩
  · obtain ⟨g, ps, hg, rfl⟩ := blocks l
    rw [rr_blocks hg]
    cases ps with
    | nil => exact .inl rfl
    | cons p ps => exact .inr (by simp)
  · intro x hx
    have := mem_le_sum _ x hx
    rw [h2] at this
    have h4 : nballs l ≤ l.length := by unfold nballs; exact List.count_le_length
    omega

theorem apB_at {R G : List Nat} {k : Nat} (h : k < G.length) (hb : (decide (R.getD k 0 ≤ R.getD (k + 1) 0) && decide (R.getD k 0 ≤ G.getD k 0)) = false) : apB R G = false := by
  unfold apB
  rw [List.all_eq_false]
  exact ⟨k, by simpa using h, by rw [hb]; simp⟩
theorem apB_all {R G : List Nat} (h : ∀ k, k < G.length → (decide (R.getD k 0 ≤ R.getD (k + 1) 0) && decide (R.getD k 0 ≤ G.getD k 0)) = true) : apB R G = true := by
  unfold apB
  rw [List.all_eq_true]
  intro k hk
  exact h k (by simpa using hk)
theorem getD_some {l : List Nat} {k : Nat} (h : k < l.length) : l[k]? = some (l.getD k 0) := by
  rw [List.getD_eq_getElem?_getD, List.getElem?_eq_getElem h]; rfl

end Go.Proofs.Ytlgceccbjkkeiaa

/- WHAT IS TRUE OF WAVES, in numbers and texts: the facts behind the promises of chapter 7. Pure: no walk. -/
namespace Go.Proofs.Ytlgceccbjkkeiaa
open Go.RowKit

def nn (l : List Int) : List Nat := l.map Int.toNat
theorem nn_length (l : List Int) : (nn l).length = l.length := by simp [nn]
theorem nn_ni (l : List Nat) : nn (ni l) = l := by
  unfold nn ni
  rw [List.map_map]
  have : l.map (Int.toNat ∘ fun n : Nat => (n : Int)) = l.map id := List.map_congr_left (fun x _ => by simp)
  rw [this, List.map_id]
theorem ni_nn {l : List Int} (h : ∀ x ∈ l, 0 ≤ x) : ni (nn l) = l := by
  unfold nn ni
  rw [List.map_map]
  have : l.map ((fun n : Nat => (n : Int)) ∘ Int.toNat) = l.map id := List.map_congr_left (fun x hx => by have := h x hx; simp; omega)
  rw [this, List.map_id]
theorem ni_sumW (l : List Nat) : (ni l).sum = (l.sum : Int) := by
  unfold ni
  induction l with
  | nil => rfl
  | cons x l ih => rw [List.map_cons, List.sum_cons, List.sum_cons, ih]; omega
/-- WaveIn -/
def w120 (x : Int) : Bool := decide (1 ≤ x) && decide (x ≤ 120)
def wIn (st : Int) (R G : List Int) : Bool := decide (0 ≤ st) && decide (st ≤ 120) && decide (1 ≤ R.length) && decide (R.length ≤ 60) && decide (R.length = G.length + 1) && R.all w120 && G.all w120
theorem w120_iff (x : Int) : w120 x = true ↔ 1 ≤ x ∧ x ≤ 120 := by unfold w120; simp
theorem wIn_iff (st : Int) (R G : List Int) : wIn st R G = true ↔ 0 ≤ st ∧ st ≤ 120 ∧ 1 ≤ R.length ∧ R.length ≤ 60 ∧ R.length = G.length + 1 ∧ (∀ x ∈ R, 1 ≤ x ∧ x ≤ 120) ∧ (∀ x ∈ G, 1 ≤ x ∧ x ≤ 120) := by
  unfold wIn
  simp only [Bool.and_eq_true, decide_eq_true_iff, List.all_eq_true, w120_iff]
  constructor
  · rintro ⟨⟨⟨⟨⟨⟨a, b⟩, c⟩, d⟩, e⟩, f⟩, g⟩; exact ⟨a, b, c, d, e, f, g⟩
  · rintro ⟨a, b, c, d, e, f, g⟩; exact ⟨⟨⟨⟨⟨⟨a, b⟩, c⟩, d⟩, e⟩, f⟩, g⟩
/-- what is known of a wave -/
theorem wIn_nat {st : Int} {R G : List Int} (h : wIn st R G = true) : (nn R).length = (nn G).length + 1 ∧ (∀ x ∈ nn R, 1 ≤ x) ∧ (∀ x ∈ nn G, 1 ≤ x) ∧ ni (nn R) = R ∧ ni (nn G) = G ∧ ((st.toNat : Nat) : Int) = st := by
  obtain ⟨a, b, c, d, e, f, g⟩ := (wIn_iff st R G).1 h
  refine ⟨by rw [nn_length, nn_length]; exact e, ?_, ?_, ni_nn (fun x hx => by have := f x hx; omega), ni_nn (fun x hx => by have := g x hx; omega), by omega⟩
  · intro x hx
    obtain ⟨y, hy, rfl⟩ := List.mem_map.1 hx
    have := f y hy; omega
  · intro x hx
    obtain ⟨y, hy, rfl⟩ := List.mem_map.1 hx
    have := g y hy; omega
/-- WaveRow -/
def wrB (st : Int) (R G : List Int) : List Bool := wvB st.toNat (nn R) (nn G)
def wrOk (st : Int) (R G : List Int) : Bool := wIn st R G && decide (st + R.sum + G.sum ≤ 120)
def wrS (st : Int) (R G : List Int) : ByteArray := if wrOk st R G then ofB (wrB st R G) else ByteArray.empty
theorem wb_length : ∀ ps : List (Nat × Nat), (wb ps).length = (ps.map (·.1)).sum + (ps.map (·.2)).sum
  | [] => rfl
  | p :: ps => by
    show (List.replicate p.1 true ++ (List.replicate p.2 false ++ wb ps)).length = _
    rw [List.length_append, List.length_append, List.length_replicate, List.length_replicate, wb_length ps, List.map_cons, List.map_cons, List.sum_cons, List.sum_cons]
    omega
theorem wvB_length {st : Nat} {R G : List Nat} (h : R.length = G.length + 1) : (wvB st R G).length = st + R.sum + G.sum := by
  unfold wvB
  rw [List.length_append, List.length_replicate, wb_length, zp_fst, zp_snd R G h, List.sum_append]
  simp
  omega
theorem wb_balls : ∀ ps : List (Nat × Nat), nballs (wb ps) = (ps.map (·.1)).sum
  | [] => rfl
  | p :: ps => by
    have ih := wb_balls ps
    unfold nballs at ih ⊢
    show (List.replicate p.1 true ++ (List.replicate p.2 false ++ wb ps)).count true = _
    rw [List.count_append, List.count_append, List.count_replicate, List.count_replicate, ih, List.map_cons, List.sum_cons]
    simp
theorem wvB_balls (st : Nat) (R G : List Nat) : nballs (wvB st R G) = R.sum := by
  unfold wvB
  have h := wb_balls (zp R G)
  rw [zp_fst] at h
  unfold nballs at h ⊢
  rw [List.count_append, List.count_replicate, h]
  simp
theorem wrOk_facts {st : Int} {R G : List Int} (h : wrOk st R G = true) : wIn st R G = true ∧ (wrB st R G).length ≤ 120 ∧ bits (wrS st R G) = wrB st R G ∧ vld (wrS st R G) = true ∧ ((wrB st R G).length : Int) = st + R.sum + G.sum := by
  have h' := h
  unfold wrOk at h'
  rw [Bool.and_eq_true, decide_eq_true_iff] at h'
  obtain ⟨h1, h2⟩ := h'
  obtain ⟨k1, k2, k3, k4, k5, k6⟩ := wIn_nat h1
  have hl : ((wrB st R G).length : Int) = st + R.sum + G.sum := by
    unfold wrB
    rw [wvB_length k1]
    have e1 := ni_sumW (nn R)
    have e2 := ni_sumW (nn G)
    rw [k4] at e1
    rw [k5] at e2
    omega
  have hl2 : (wrB st R G).length ≤ 120 := by omega
  have e : wrS st R G = ofB (wrB st R G) := by unfold wrS; rw [if_pos h]
  exact ⟨h1, hl2, by rw [e, bits_ofB], by rw [e]; exact vld_ofB hl2, hl⟩
/-- WaveOf -/
def woOk (s : ByteArray) : Bool := vld s && !(decide (nballs (bits s) = 0))
def woN (s : ByteArray) : Int := if woOk s then (lz (bits s) : Int) else 0
def woR (s : ByteArray) : List Int := if woOk s then ni (rr (bits s)).1 else []
def woG (s : ByteArray) : List Int := if woOk s then ni (rr (bits s)).2 else []
theorem woOk_iff (s : ByteArray) : woOk s = true ↔ vld s = true ∧ nballs (bits s) ≠ 0 := by unfold woOk; simp
/-- P52 -/
theorem wave_row {st : Int} {R G : List Int} (h : wrOk st R G = true) : woOk (wrS st R G) = true ∧ woN (wrS st R G) = st ∧ woR (wrS st R G) = R ∧ woG (wrS st R G) = G := by
  obtain ⟨h1, h2, h3, h4, _⟩ := wrOk_facts h
  obtain ⟨k1, k2, k3, k4, k5, k6⟩ := wIn_nat h1
  have hb : nballs (wrB st R G) ≠ 0 := by
    unfold wrB
    rw [wvB_balls]
    cases hR : nn R with
    | nil => rw [hR] at k1; simp at k1
    | cons r rs =>
      have := k2 r (by rw [hR]; exact List.mem_cons_self ..)
      rw [List.sum_cons]
      omega
  have ho : woOk (wrS st R G) = true := (woOk_iff _).2 ⟨h4, by rw [h3]; exact hb⟩
  refine ⟨ho, ?_, ?_, ?_⟩
  · unfold woN
    rw [if_pos ho, h3]
    unfold wrB
    rw [lz_wv k1 k2, k6]
  · unfold woR
    rw [if_pos ho, h3]
    unfold wrB
    rw [rr_wv k1 k2 k3, k4]
  · unfold woG
    rw [if_pos ho, h3]
    unfold wrB
    rw [rr_wv k1 k2 k3, k5]
theorem ofBits_ofB (l : List Bool) : ofBits l = ofB l := rfl
theorem le_sumN {l : List Nat} {x : Nat} (h : x ∈ l) : x ≤ l.sum := by
  induction l with
  | nil => cases h
  | cons y l ih =>
    rw [List.sum_cons]
    rcases List.mem_cons.1 h with rfl | h
    · omega
    · have := ih h; omega
theorem len_sum {l : List Nat} (h : ∀ x ∈ l, 1 ≤ x) : l.length ≤ l.sum := by
  induction l with
  | nil => exact Nat.le_refl _
  | cons y l ih =>
    have h1 := h y (List.mem_cons_self ..)
    have h2 := ih (fun x hx => h x (List.mem_cons_of_mem _ hx))
    rw [List.length_cons, List.sum_cons]
    omega
/-- P51 -/
theorem wave_of {s : ByteArray} (h : woOk s = true) : wrOk (woN s) (woR s) (woG s) = true ∧ wrS (woN s) (woR s) (woG s) = tidyS s := by
  obtain ⟨hv, hb⟩ := (woOk_iff s).1 h
  obtain ⟨k1, k2, k3, k4⟩ := wv_of hb
  have h120 := vld_le s hv
  have e1 : woN s = (lz (bits s) : Int) := by unfold woN; rw [if_pos h]
  have e2 : woR s = ni (rr (bits s)).1 := by unfold woR; rw [if_pos h]
  have e3 : woG s = ni (rr (bits s)).2 := by unfold woG; rw [if_pos h]
  have hlen := wvB_length (st := lz (bits s)) k1
  rw [← k4] at hlen
  have hcl : (cut (bits s)).length ≤ 120 := by
    have := tl_le (bits s)
    rw [cut_length]
    rw [length_bits] at this
    omega
  have l1 := len_sum k2
  have l2 := len_sum k3
  have hin : wIn (woN s) (woR s) (woG s) = true := by
    rw [e1, e2, e3, wIn_iff, ni_length, ni_length]
    refine ⟨by omega, by omega, by omega, by omega, k1, ?_, ?_⟩
    · intro x hx
      obtain ⟨y, hy, rfl⟩ := List.mem_map.1 hx
      have := k2 y hy
      have := le_sumN hy
      omega
    · intro x hx
      obtain ⟨y, hy, rfl⟩ := List.mem_map.1 hx
      have := k3 y hy
      have := le_sumN hy
      omega
  have hB : wrB (woN s) (woR s) (woG s) = cut (bits s) := by
    unfold wrB
    rw [e1, e2, e3, nn_ni, nn_ni, k4]
    rfl
  have hok : wrOk (woN s) (woR s) (woG s) = true := by
    unfold wrOk
    rw [hin, e1, e2, e3, ni_sumW, ni_sumW]
    simp
    omega
  refine ⟨hok, ?_⟩
  unfold wrS
  rw [if_pos hok, hB, ← tidyS_eq s (vld_sgn s hv), ofBits_ofB]
/-- WaveNext -/
def wnR (R G : List Int) : List Int := ni (nxR 0 (nn R) (nn G))
def wnG (R G : List Int) : List Int := ni (nxG 0 (nn R) (nn G))
def wnN (st : Int) (R : List Int) : Int := st + R.headD 0
def wnOk (st : Int) (R G : List Int) : Bool := wIn st R G && wIn (wnN st R) (wnR R G) (wnG R G)
/-- P53: as many runs, the same sum -/
theorem wn_facts {st : Int} {R G : List Int} (h : wnOk st R G = true) : wIn st R G = true ∧ wIn (wnN st R) (wnR R G) (wnG R G) = true ∧ (wnR R G).length = R.length ∧ (wnG R G).length = G.length ∧ (wnR R G).sum = R.sum := by
  unfold wnOk at h
  rw [Bool.and_eq_true] at h
  obtain ⟨h1, h2⟩ := h
  obtain ⟨k1, k2, k3, k4, k5, k6⟩ := wIn_nat h1
  obtain ⟨n1, n2⟩ := nx_length (nn R) (nn G) 0 k1
  have n3 := nx_sum (nn R) (nn G) 0 k1
  refine ⟨h1, h2, ?_, ?_, ?_⟩
  · unfold wnR; rw [ni_length, n1, nn_length]
  · unfold wnG; rw [ni_length, n2, nn_length]
  · unfold wnR
    rw [ni_sumW, n3, Nat.zero_add]
    have := ni_sumW (nn R)
    rw [k4] at this
    exact this.symm
theorem cut_step (b : List Bool) (hb : b.length ≤ 120) (m : Nat) (hm : b.length ≤ m) : cut (tn 0 (b ++ List.replicate m false)) = cut (stp 200 b) := by
  have h := cturn_long (b := b) hb (b.length + m) (by omega)
  have hr := range_bx b (b.length + m) (by omega)
  obtain ⟨h1, _⟩ := tn_own (bx b) (b.length + m) (fun i _ => ld_small hb i)
  rw [show b.length + m - b.length = m by omega] at hr
  rw [← hr, h1]
  exact h.2
/-- P53: the wave of the step -/
theorem wn_step {st : Int} {R G : List Int} (hw : wrOk st R G = true) (hs : stOk (wrS st R G) 200 = true) :
    woOk (stS (wrS st R G) 200) = true ∧ woN (stS (wrS st R G) 200) = wnN st R ∧ woR (stS (wrS st R G) 200) = wnR R G ∧ woG (stS (wrS st R G) 200) = wnG R G := by
  obtain ⟨h1, h2, h3, h4, _⟩ := wrOk_facts hw
  obtain ⟨k1, k2, k3, k4, k5, k6⟩ := wIn_nat h1
  have hbs := bits_stS hs
  have hcs := cut_step (wrB st R G) h2 (wrB st R G).length (Nat.le_refl _)
  have hsum : (nn R).sum ≤ (wrB st R G).length := by unfold wrB; rw [wvB_length k1]; omega
  have htw := tn_wave (st := st.toNat) k1 k2 k3 (wrB st R G).length hsum
  have hB : bits (stS (wrS st R G) 200) = wvB (st.toNat + (nn R).headD 0) (nxR 0 (nn R) (nn G)) (nxG 0 (nn R) (nn G)) := by
    rw [hbs, h3]
    have e : stp (Int.toNat 200) (wrB st R G) = stp 200 (wrB st R G) := rfl
    rw [e, ← hcs]
    exact htw
  obtain ⟨n1, n2⟩ := nx_length (nn R) (nn G) 0 k1
  have n4 : (nxR 0 (nn R) (nn G)).length = (nxG 0 (nn R) (nn G)).length + 1 := by rw [n1, n2, k1]
  obtain ⟨p1, p2⟩ := nx_pos (nn R) (nn G) 0 k1 k2 k3
  have hvt : vld (stS (wrS st R G) 200) = true := vld_stS hs
  have hb : nballs (bits (stS (wrS st R G) 200)) ≠ 0 := by
    rw [hB, wvB_balls]
    have := len_sum p1
    omega
  have ho : woOk (stS (wrS st R G) 200) = true := (woOk_iff _).2 ⟨hvt, hb⟩
  refine ⟨ho, ?_, ?_, ?_⟩
  · unfold woN
    rw [if_pos ho, hB, lz_wv n4 p1]
    unfold wnN
    have e : ((nn R).headD 0 : Int) = R.headD 0 := by
      cases R with
      | nil => rfl
      | cons r rs =>
        have := ((wIn_iff st (r :: rs) G).1 h1).2.2.2.2.2.1 r (List.mem_cons_self ..)
        show ((Int.toNat r : Nat) : Int) = r
        omega
    omega
  · unfold woR
    rw [if_pos ho, hB, rr_wv n4 p1 p2]
    rfl
  · unfold woG
    rw [if_pos ho, hB, rr_wv n4 p1 p2]
    rfl
/-- P50, P55 -/
theorem ws_facts {st : Int} {R G : List Int} (h : wIn st R G = true) : (R.length : Int) ≤ R.sum ∧ (wrOk st R G = true → (nballs (bits (wrS st R G)) : Int) = R.sum) ∧ (∀ k, 0 ≤ (R.take k).sum ∧ (R.take k).sum ≤ 7200) := by
  obtain ⟨k1, k2, k3, k4, k5, k6⟩ := wIn_nat h
  obtain ⟨_, _, _, hl, _, hR, _⟩ := (wIn_iff st R G).1 h
  have e := ni_sumW (nn R)
  rw [k4] at e
  have l1 := len_sum k2
  rw [nn_length] at l1
  refine ⟨by omega, ?_, ?_⟩
  · intro hw
    rw [(wrOk_facts hw).2.2.1]
    unfold wrB
    rw [wvB_balls, e]
  · intro k
    have hb : ∀ l : List Int, (∀ x ∈ l, 1 ≤ x ∧ x ≤ 120) → 0 ≤ l.sum ∧ l.sum ≤ 120 * (l.length : Int) := by
      intro l
      induction l with
      | nil => intro _; simp
      | cons x l ih =>
        intro hx
        have h1 := hx x (List.mem_cons_self ..)
        have h2 := ih (fun y hy => hx y (List.mem_cons_of_mem _ hy))
        rw [List.sum_cons, List.length_cons]
        omega
    have h1 := hb (R.take k) (fun x hx => hR x (List.mem_of_mem_take hx))
    rw [List.length_take] at h1
    omega
end Go.Proofs.Ytlgceccbjkkeiaa
