/- TEXTS SWav, CmpA, CmpI. -/
import Derived.Test.Ytlgceccbjkkeiabwax22
import Derived.Test.Ytlgceccbjkkeiabwax06
import Derived.Test.YtlgceccbjkkeiabChecked
import Derived.Test.Ytlgceccbjkkeiabwax01
/- THE WALKS of the model's WaveIn, WaveSum. -/
namespace Go.Proofs.Ytlgceccbjkkeiab
open Go.RowKit

/-- a slice of ints, taken apart -/
theorem ints_form {lo : Nat} {w : World} {v : Value} {l : List Int} (h : IntsV lo w v l) : ∃ a c, v = .slice a l.length c ∧ (0 < l.length → ∃ g, a = some ⟨g, 0, none⟩ ∧ CellsAt w g (l.map (.int .i64))) := by
  rcases h with ⟨a, c, rfl, rfl⟩ | ⟨g, c, rfl, _, _, _, hc⟩
  · exact ⟨a, c, rfl, fun h => by simp at h⟩
  · exact ⟨_, c, rfl, fun _ => ⟨g, rfl, hc⟩⟩
/-- two slices that share no cell -/
def ApV (u v : Value) : Prop := ∀ g n c g' n' c', u = .slice (some ⟨g, 0, none⟩) n c → v = .slice (some ⟨g', 0, none⟩) n' c' → 0 < n → 0 < n' → g ≠ g'
theorem ApV.of_own {u v : Value} (h : ∀ x, u.ownBlock = some x → v.ownBlock ≠ some x) : ApV u v := by
  rintro g n c g' n' c' rfl rfl _ _ rfl
  exact h g rfl rfl
theorem ApV.swap {u v : Value} (h : ApV u v) : ApV v u := fun g n c g' n' c' h1 h2 h3 h4 e => h g' n' c' g n c h2 h1 h4 h3 e.symm
theorem ApV.later {w w' : World} {u v : Value} {lo lo' : Nat} {l l' : List Int} (hu : IntsV lo w u l) (hv : IntsV lo' w' v l') (h : w.heap.size ≤ lo') : ApV u v := by
  rintro g n c g' n' c' rfl rfl h3 h4 rfl
  rcases hu with ⟨a, cap, e, _⟩ | ⟨g1, cap, e, _, _, h2, _⟩
  · injection e with _ e
    omega
  · injection e with e
    injection e with e
    injection e with e
    rcases hv with ⟨a, cap, e', _⟩ | ⟨g2, cap, e', _, h5, _, _⟩
    · injection e' with _ e'
      omega
    · injection e' with e'
      injection e' with e'
      injection e' with e'
      omega
theorem ApV.nil {u : Value} {a : Option Addr} {c : Nat} : ApV u (.slice a 0 c) := by
  intro g n c g' n' c' _ h2 _ h4
  injection h2 with _ h2
  omega
theorem ApV.new {w : World} {u v : Value} {lo : Nat} {l : List Int} (hu : IntsV lo w u l) (hv : ∀ x, v.ownBlock = some x → w.heap.size ≤ x) : ApV u v := by
  rintro g n c g' n' c' rfl rfl h3 _ rfl
  have h1 := hv g rfl
  rcases hu with ⟨a, cap, e, _⟩ | ⟨g', cap, e, _, _, h2, _⟩
  · injection e with _ e
    omega
  · injection e with e
    injection e with e
    injection e with e
    omega
theorem wIn_head {st : Int} {R G : List Int} (h : (decide (0 ≤ st) && decide (st ≤ 120)) = false ∨ (decide (1 ≤ (R.length : Int)) && decide ((R.length : Int) ≤ 60)) = false ∨ (G.length : Int) ≠ R.length - 1) : wIn st R G = false := by
  rw [← Bool.not_eq_true, wIn_iff]
  rintro ⟨a, b, c, d, e, _⟩
  simp at h
  omega
theorem wIn_tail {st : Int} {R G : List Int} (h : (∃ x, x ∈ R ∧ w120 x = false) ∨ (∃ x, x ∈ G ∧ w120 x = false)) : wIn st R G = false := by
  unfold wIn
  rcases h with ⟨x, hx, h⟩ | ⟨x, hx, h⟩
  · have : R.all w120 = false := by rw [List.all_eq_false]; exact ⟨x, hx, by simp [h]⟩
    rw [this]; simp
  · have : G.all w120 = false := by rw [List.all_eq_false]; exact ⟨x, hx, by simp [h]⟩
    rw [this]; simp
theorem wIn_ok {st : Int} {R G : List Int} (h1 : (decide (0 ≤ st) && decide (st ≤ 120)) = true) (h2 : (decide (1 ≤ (R.length : Int)) && decide ((R.length : Int) ≤ 60)) = true) (h3 : (G.length : Int) = R.length - 1) (h4 : R.all w120 = true) (h5 : G.all w120 = true) : wIn st R G = true := by
  unfold wIn
  simp at h1 h2
  rw [h4, h5]
  simp
  omega

set_option maxHeartbeats 4000000 in
theorem specWaveIn_any (st : Int) (u v : Value) (R G : List Int) (w : World) {lo lo' : Nat} (hRl : R.length ≤ 1048576) (_ : G.length ≤ 1048576) (hu : IntsV lo w u R) (hv : IntsV lo' w v G) :
    Calls Try.prog 8 #[.int .i64 st, u, v] w fun e w' => e = .returned (.bool (wIn st R G)) ∧ w = w' := by
  obtain ⟨a, c, rfl, hf⟩ := ints_form hu
  obtain ⟨a', c', rfl, hf'⟩ := ints_form hv
  have C1 := hide (fun w => l6In_any st 0 120 _ w rfl)
  cases h1 : (decide (0 ≤ st) && decide (st ≤ 120))
  · rw [h1] at C1
    rw [wIn_head (.inl h1)]
    clear hf hf' hu hv h1
    go_enter Try.func8, Try.ntmps8
    go_wp2_with (go_at_call 22; refine (C1.out _).mono ?_; rintro e w' ⟨rfl, rfl⟩)
    go_ret
    exact ⟨rfl, rfl⟩
  rw [h1] at C1
  have C2 := hide (fun w => l6In_any (R.length : Int) 1 60 _ w rfl)
  cases h2 : (decide (1 ≤ (R.length : Int)) && decide ((R.length : Int) ≤ 60))
  · rw [h2] at C2
    rw [wIn_head (.inr (.inl h2))]
    clear hf hf' hu hv h2
    go_enter Try.func8, Try.ntmps8
    go_wp2_with (go_at_call 22; (first | (with_reducible refine (C1.out _).mono ?_) | (with_reducible refine (C2.out _).mono ?_)); rintro e w' ⟨rfl, rfl⟩)
    go_ret
    exact ⟨rfl, rfl⟩
  rw [h2] at C2
  by_cases h3 : (G.length : Int) = R.length - 1
  case neg =>
    rw [wIn_head (.inr (.inr h3))]
    have h3b : ((G.length : Int) != (R.length : Int) - 1) = true := by simp; omega
    clear hf hf' hu hv h3
    go_enter Try.func8, Try.ntmps8
    go_wp2_with (go_at_call 22; (first | (with_reducible refine (C1.out _).mono ?_) | (with_reducible refine (C2.out _).mono ?_)); rintro e w' ⟨rfl, rfl⟩)
    go_ret
    exact ⟨rfl, rfl⟩
  have h3b : ((G.length : Int) != (R.length : Int) - 1) = false := by simp; omega
  have H0 := hide (wIn_ok (R := R) (G := G) h1 h2 h3)
  have HR : ∀ x, x ∈ R → w120 x = false → wIn st R G = false := fun x hx h => wIn_tail (.inl ⟨x, hx, h⟩)
  have HG : ∀ x, x ∈ G → w120 x = false → wIn st R G = false := fun x hx h => wIn_tail (.inr ⟨x, hx, h⟩)
  have HR := hide HR
  have HG := hide HG
  obtain ⟨n, hn⟩ : ∃ n, n = R.length := ⟨_, rfl⟩
  obtain ⟨m, hm⟩ : ∃ m, m = G.length := ⟨_, rfl⟩
  simp at h2
  rw [← hn] at h2 hRl hf C2 h3 h3b
  rw [← hm] at hf' h3 h3b
  obtain ⟨n1, n2⟩ := h2
  have HN := hide hn
  have HM := hide hm
  have HF := hide hf
  have HF' := hide hf'
  rw [← hn, ← hm]
  clear hn hm hf hf' hu hv h1
  go_enter Try.func8, Try.ntmps8
  go_wp2_with (go_at_call 22; (first | (with_reducible refine (C1.out _).mono ?_) | (with_reducible refine (C2.out _).mono ?_)); rintro e w' ⟨rfl, rfl⟩)
  go_loop [7] (fun i => ∃ k : Nat, k ≤ n ∧ i = .int .i64 (k : Int) ∧ Hid ((R.take k).all w120 = true) ∧ Hid ((G.take k).all w120 = true)) (fun i => n - (Go.RowKit.intOf i).toNat)
  case atStart => exact ⟨0, Nat.zero_le _, rfl, rfl, rfl⟩
  case round =>
    obtain ⟨k, hk, rfl, HA, HB⟩ := hrel
    clear C1 C2 h3b
    by_cases hlt : k < n
    · obtain ⟨g, rfl, hc⟩ := HF.out (by omega)
      obtain ⟨x, hx⟩ : ∃ x, R[k]? = some x := ⟨_, List.getElem?_eq_getElem (by rw [← HN.out]; exact hlt)⟩
      have hcell := (hc k (.int .i64 x) (by rw [List.getElem?_map, hx]; rfl)).1
      have HAL := hide (all_take_succ R w120 k x hx)
      have HMEM := hide (List.mem_of_getElem? hx)
      have CI := hide (fun w => l6In_any x 1 120 (w120 x) w rfl)
      clear hc hx
      have i0 : (0 : Int) ≤ (k : Int) := by omega
      have i1 : (k : Int) < (n : Int) := by omega
      cases hsz : w120 x
      · have E1 := hide (HR.out x HMEM.out hsz)
        rw [hsz] at CI
        go_wp2_with (go_at_call 22; refine (CI.out _).mono ?_; rintro e w' ⟨rfl, rfl⟩)
        go_ret
        exact ⟨by rw [E1.out]; rfl, rfl⟩
      · rw [hsz] at CI HAL
        have HAL2 := hide (HAL.out.trans (by rw [HA.out]))
        clear HAL hsz
        by_cases hlg : k < m
        · obtain ⟨g', rfl, hc'⟩ := HF'.out (by omega)
          obtain ⟨y, hy⟩ : ∃ y, G[k]? = some y := ⟨_, List.getElem?_eq_getElem (by rw [← HM.out]; exact hlg)⟩
          have hcell' := (hc' k (.int .i64 y) (by rw [List.getElem?_map, hy]; rfl)).1
          have HBL := hide (all_take_succ G w120 k y hy)
          have HMEM' := hide (List.mem_of_getElem? hy)
          have CJ := hide (fun w => l6In_any y 1 120 (w120 y) w rfl)
          clear hc' hy
          have i2 : (k : Int) < (m : Int) := by omega
          cases hsy : w120 y
          · have E1 := hide (HG.out y HMEM'.out hsy)
            rw [hsy] at CJ
            clear hsy
            go_wp2_with (go_at_call 22; (first | (with_reducible refine (CI.out _).mono ?_) | (with_reducible refine (CJ.out _).mono ?_)); rintro e w' ⟨rfl, rfl⟩)
            go_ret
            exact ⟨by rw [E1.out]; rfl, rfl⟩
          · rw [hsy] at CJ HBL
            have HBL2 := hide (HBL.out.trans (by rw [HB.out]))
            clear HBL hsy
            go_wp2_with (go_at_call 22; (first | (with_reducible refine (CI.out _).mono ?_) | (with_reducible refine (CJ.out _).mono ?_)); rintro e w' ⟨rfl, rfl⟩)
            go_round
            case rel => exact ⟨k + 1, by omega, by go_num, HAL2, HBL2⟩
            case measure => simp [Go.RowKit.intOf]; omega
        · have HBL2 : Hid ((G.take (k + 1)).all w120 = true) := hide (by
            have := HB.out
            rw [List.take_of_length_le (by rw [← HM.out]; omega)] at this ⊢
            exact this)
          have i2 : ¬ (k : Int) < (m : Int) := by omega
          go_wp2_with (go_at_call 22; refine (CI.out _).mono ?_; rintro e w' ⟨rfl, rfl⟩)
          go_round
          case rel => exact ⟨k + 1, by omega, by go_num, HAL2, HBL2⟩
          case measure => simp [Go.RowKit.intOf]; omega
    · have hkn : k = n := by omega
      have E1 : Hid (wIn st R G = true) := hide (H0.out (by
        have := HA.out
        rwa [List.take_of_length_le (by rw [← HN.out]; omega)] at this) (by
        have := HB.out
        rwa [List.take_of_length_le (by rw [← HM.out]; omega)] at this))
      go_wp2
      go_ret
      exact ⟨by rw [E1.out]; rfl, rfl⟩
/-- WaveSum -/
def wsN (st : Int) (R G : List Int) : Int := if wIn st R G then R.sum else 0
theorem sum_take (R : List Int) (k : Nat) (x : Int) (h : R[k]? = some x) : (R.take (k + 1)).sum = (R.take k).sum + x := by
  obtain ⟨hk, e⟩ := List.getElem?_eq_some_iff.1 h
  rw [List.take_succ_eq_append_getElem hk, List.sum_append, e]; simp
set_option maxHeartbeats 1000000 in
theorem specWaveSum_any (st : Int) (u v : Value) (R G : List Int) (w : World) {lo lo' : Nat} (hRl : R.length ≤ 1048576) (hGl : G.length ≤ 1048576) (hu : IntsV lo w u R) (hv : IntsV lo' w v G) :
    Calls Try.prog 20 #[.int .i64 st, u, v] w fun e w' => e = .returned (.tuple #[.int .i64 (wsN st R G), .bool (wIn st R G)]) ∧ w = w' := by
  have C := hide (specWaveIn_any st u v R G w hRl hGl hu hv)
  obtain ⟨a, c, rfl, hf⟩ := ints_form hu
  clear hu hv hGl
  unfold wsN
  cases h1 : wIn st R G
  · rw [h1] at C
    clear hf h1
    go_enter Try.func20, Try.ntmps20
    go_wp2_with (go_at_call 8; refine C.out.mono ?_; rintro e w' ⟨rfl, rfl⟩)
    go_ret2
    exact ⟨rfl, rfl⟩
  rw [h1] at C
  have HS := hide (ws_facts h1).2.2
  have HX := hide (fun x (hx : x ∈ R) => (((wIn_iff st R G).1 h1).2.2.2.2.2.1 x hx))
  obtain ⟨n, hn⟩ : ∃ n, n = R.length := ⟨_, rfl⟩
  rw [← hn] at hRl hf C ⊢
  have HN := hide hn
  have HF := hide hf
  clear hn hf h1
  go_enter Try.func20, Try.ntmps20
  go_wp2_with (go_at_call 8; refine C.out.mono ?_; rintro e w' ⟨rfl, rfl⟩)
  go_loop [8, 9] (fun t i => ∃ k : Nat, k ≤ n ∧ i = .int .i64 (k : Int) ∧ t = .int .i64 (R.take k).sum) (fun _ i => n - (Go.RowKit.intOf i).toNat)
  case atStart => exact ⟨0, Nat.zero_le _, rfl, rfl⟩
  case round =>
    obtain ⟨k, hk, rfl, rfl⟩ := hrel
    clear C
    obtain ⟨s0, s1⟩ := HS.out k
    by_cases hlt : k < n
    · obtain ⟨g, rfl, hc⟩ := HF.out (by omega)
      obtain ⟨x, hx⟩ : ∃ x, R[k]? = some x := ⟨_, List.getElem?_eq_getElem (by rw [← HN.out]; exact hlt)⟩
      have hcell := (hc k (.int .i64 x) (by rw [List.getElem?_map, hx]; rfl)).1
      have HT := hide (sum_take R k x hx)
      obtain ⟨x0, x1⟩ := HX.out x (List.mem_of_getElem? hx)
      obtain ⟨t, ht⟩ : ∃ t, t = (R.take k).sum := ⟨_, rfl⟩
      rw [← ht] at s0 s1 HT ⊢
      have i0 : (0 : Int) ≤ (k : Int) := by omega
      have i1 : (k : Int) < (n : Int) := by omega
      clear ht hc hx
      go_wp2
      go_round
      case rel => exact ⟨k + 1, by omega, by go_num, by rw [HT.out]⟩
      case measure => simp [Go.RowKit.intOf]; omega
    · have E : Hid ((R.take k).sum = R.sum) := hide (by rw [List.take_of_length_le (by rw [← HN.out]; omega)])
      go_wp2
      go_ret2
      exact ⟨by rw [E.out]; rfl, rfl⟩
end Go.Proofs.Ytlgceccbjkkeiab

/- THE WALKS of cmp.Compare at ints, falling. -/
namespace Go.Proofs.Ytlgceccbjkkeiab
open Go.RowKit

def cmpI (a b : Int) : Int := if a < b then -1 else if b < a then 1 else 0

end Go.Proofs.Ytlgceccbjkkeiab

/- THE WALKS of allWithin, and the program's ShapeEnergy. -/
namespace Go.Proofs.Ytlgceccbjkkeiab
open Go.RowKit

/-- from 1 to a greatest one -/
def inR (g x : Int) : Bool := decide (1 ≤ x) && decide (x ≤ g)

set_option maxRecDepth 100000 in
theorem within1_any (b : Nat) (g x : Int) (w : World) (hc : w.cell? ⟨b, 0, none⟩ = some (.int .i64 g)) :
    Calls Try.prog 45 #[.int .i64 x, .pointer (some ⟨b, 0, none⟩)] w fun e w' => e = .returned (.bool (!inR g x)) ∧ w = w' := by
  unfold inR
  by_cases h1 : x < 1
  · have e1 : decide (1 ≤ x) = false := by simp; omega
    rw [e1]
    clear e1
    go_enter Try.func45, Try.ntmps45
    go_wp2
    go_ret
    exact ⟨rfl, rfl⟩
  · have e1 : decide (1 ≤ x) = true := by simp; omega
    rw [e1]
    clear e1
    by_cases h2 : g < x
    · have e2 : decide (x ≤ g) = false := by simp; omega
      rw [e2]
      clear e2
      go_enter Try.func45, Try.ntmps45
      go_wp2
      go_ret
      exact ⟨rfl, rfl⟩
    · have e2 : decide (x ≤ g) = true := by simp; omega
      rw [e2]
      clear e2
      go_enter Try.func45, Try.ntmps45
      go_wp2
      go_ret
      exact ⟨rfl, rfl⟩

/-- which index IndexFunc gives: not less than 0 just if some number is out of the range -/
def outI (g : Int) (l : List Int) (r : Int) : Prop := decide (0 ≤ r) = !(l.all (inR g))

set_option maxRecDepth 100000 in
set_option maxHeartbeats 1000000 in
theorem indexFunc_any (v : Value) (l : List Int) (b : Nat) (g : Int) (w : World) {lo : Nat} (hll : l.length ≤ 1048576) (h : IntsV lo w v l) (hc : w.cell? ⟨b, 0, none⟩ = some (.int .i64 g)) :
    Calls Try.prog 49 #[v, .func (.func 45) #[] #[.pointer (some ⟨b, 0, none⟩)]] w fun e w' => ∃ r, e = .returned (.int .i64 r) ∧ outI g l r ∧ w = w' := by
  obtain ⟨a, c, rfl, hf⟩ : ∃ a c, v = .slice a l.length c ∧ (0 < l.length → ∃ g, a = some ⟨g, 0, none⟩ ∧ CellsAt w g (l.map (.int .i64))) := by
    rcases h with ⟨a, c, rfl, rfl⟩ | ⟨g, c, rfl, _, _, _, hc⟩
    · exact ⟨a, c, rfl, fun h => by simp at h⟩
    · exact ⟨_, c, rfl, fun _ => ⟨g, rfl, hc⟩⟩
  obtain ⟨n, hn⟩ : ∃ n, n = l.length := ⟨_, rfl⟩
  have HN := hide hn
  have HF := hide hf
  rw [← hn] at hll HF ⊢
  have HC := hide hc
  clear hn hf h hc
  go_enter Try.func49, Try.ntmps49
  go_wp2
  go_loop [8] (fun i => ∃ k : Nat, k ≤ n ∧ i = .int .i64 (k : Int) ∧ Hid ((l.take k).all (inR g) = true)) (fun i => n - (Go.RowKit.intOf i).toNat)
  case atStart => exact ⟨0, Nat.zero_le _, rfl, rfl⟩
  case round =>
    obtain ⟨k, hk, rfl, HA⟩ := hrel
    by_cases hlt : k < n
    · obtain ⟨q, rfl, hc⟩ := HF.out (by omega)
      obtain ⟨x, hx⟩ : ∃ x, l[k]? = some x := ⟨_, List.getElem?_eq_getElem (by rw [← HN.out]; exact hlt)⟩
      have hcell := (hc k (.int .i64 x) (by rw [List.getElem?_map, hx]; rfl)).1
      have HAL := hide (all_take_succ l (inR g) k x hx)
      have HMEM := hide (List.mem_of_getElem? hx)
      have CW := hide (within1_any b g x w HC.out)
      clear hc hx
      have i0 : (0 : Int) ≤ (k : Int) := by omega
      have i1 : (k : Int) < (n : Int) := by omega
      cases hsz : inR g x
      · have e1 : outI g l (k : Int) := by
          unfold outI
          have : l.all (inR g) = false := by rw [List.all_eq_false]; exact ⟨x, HMEM.out, by simp [hsz]⟩
          rw [this]; simp
        have E1 := hide e1
        rw [hsz] at CW
        clear e1
        go_wp2_with fail
        refine CW.out.mono ?_
        rintro e w' ⟨rfl, rfl⟩
        go_wp2_with fail
        go_ret
        exact ⟨_, rfl, E1.out, rfl⟩
      · rw [hsz] at CW HAL
        have HAL2 := hide (HAL.out.trans (by rw [HA.out]))
        clear HAL
        go_wp2_with fail
        refine CW.out.mono ?_
        rintro e w' ⟨rfl, rfl⟩
        go_wp2_with fail
        go_round
        case rel => exact ⟨k + 1, by omega, by go_num, HAL2⟩
        case measure => simp [Go.RowKit.intOf]; omega
    · have hkn : k = n := by omega
      have hl2 : l.take k = l := List.take_of_length_le (by rw [← HN.out]; omega)
      rw [hl2] at HA
      have E1 : Hid (outI g l (-1)) := by show decide (0 ≤ (-1 : Int)) = _; rw [HA.out]; rfl
      go_wp2
      go_ret
      exact ⟨_, rfl, E1.out, rfl⟩

set_option maxRecDepth 100000 in
set_option maxHeartbeats 400000 in
theorem containsFunc_any (v : Value) (l : List Int) (b : Nat) (g : Int) (w : World) {lo : Nat} (hll : l.length ≤ 1048576) (h : IntsV lo w v l) (hc : w.cell? ⟨b, 0, none⟩ = some (.int .i64 g)) :
    Calls Try.prog 44 #[v, .func (.func 45) #[] #[.pointer (some ⟨b, 0, none⟩)]] w fun e w' => e = .returned (.bool (!(l.all (inR g)))) ∧ w = w' := by
  have C := hide (indexFunc_any v l b g w hll h hc)
  clear h hc
  unfold outI at C
  obtain ⟨b0, hb0⟩ : ∃ b0, b0 = !(l.all (inR g)) := ⟨_, rfl⟩
  rw [← hb0] at C ⊢
  clear hb0
  go_enter Try.func44, Try.ntmps44
  go_wp2_with fail
  refine C.out.mono ?_
  rintro e w' ⟨r, rfl, hr, rfl⟩
  clear C
  cases b0
  all_goals
    go_wp2_with fail
    go_ret
    exact ⟨rfl, rfl⟩

set_option maxRecDepth 100000 in
set_option maxHeartbeats 400000 in
theorem allWithin_any (v : Value) (l : List Int) (g : Int) (w : World) {lo : Nat} (hll : l.length ≤ 1048576) (h : IntsV lo w v l) :
    Calls Try.prog 36 #[v, .int .i64 g] w fun e w' => e = .returned (.bool (l.all (inR g))) ∧ Below w.heap.size w w' := by
  have hb : Below w.heap.size w (w.alloc (.cells #[.int .i64 g] 3)) := (Below.refl _ _).alloc (Nat.le_refl _) _
  have C := hide (containsFunc_any v l w.heap.size g (w.alloc (.cells #[.int .i64 g] 3)) hll (h.below hb (Nat.le_refl _)) (by simp))
  obtain ⟨b, hbb⟩ : ∃ b, b = l.all (inR g) := ⟨_, rfl⟩
  rw [← hbb] at C ⊢
  clear hbb h
  have HB := hide hb
  clear hb
  go_enter Try.func36, Try.ntmps36
  go_wp2_with fail
  refine C.out.mono ?_
  rintro e w' ⟨rfl, rfl⟩
  cases b
  all_goals
    go_wp2_with fail
    go_ret
    exact ⟨rfl, HB.out⟩

theorem inR_sz : ∀ l : List Int, l.all (inR 200) = l.all szOk := fun _ => rfl

end Go.Proofs.Ytlgceccbjkkeiab
