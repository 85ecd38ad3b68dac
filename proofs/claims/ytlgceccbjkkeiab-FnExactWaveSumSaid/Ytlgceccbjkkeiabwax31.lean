/- TEXTS SWav2, IWav2. -/
import Derived.Test.Ytlgceccbjkkeiabwax23
import Derived.Test.Ytlgceccbjkkeiabwax05
import Derived.Test.Ytlgceccbjkkeiabwax30
import Derived.Test.Ytlgceccbjkkeiabwax27
/- THE WALK of the model's WaveRow. -/
namespace Go.Proofs.Ytlgceccbjkkeiab
open Go.RowKit

theorem sum_bd : ∀ l : List Int, (∀ x ∈ l, 1 ≤ x ∧ x ≤ 120) → 0 ≤ l.sum ∧ l.sum ≤ 120 * (l.length : Int)
  | [], _ => by simp
  | x :: l, h => by
    have h1 := h x (List.mem_cons_self ..)
    have h2 := sum_bd l (fun y hy => h y (List.mem_cons_of_mem _ hy))
    rw [List.sum_cons, List.length_cons]
    omega
theorem sum_part {l : List Int} (h : ∀ x ∈ l, 1 ≤ x ∧ x ≤ 120) (hl : l.length ≤ 60) (k : Nat) : 0 ≤ (l.take k).sum ∧ (l.take k).sum ≤ 7200 := by
  have h1 := sum_bd (l.take k) (fun x hx => h x (List.mem_of_mem_take hx))
  rw [List.length_take] at h1
  omega
theorem zp_get : ∀ (R G : List Nat) (k r : Nat), R[k]? = some r → (zp R G)[k]? = some (r, G.getD k 0)
  | [], _, _, _, h => by simp at h
  | a :: R, G, 0, r, h => by
    have : a = r := by simpa using h
    subst this
    show some (a, G.headD 0) = _
    cases G <;> rfl
  | a :: R, G, k + 1, r, h => by
    have e := zp_get R G.tail k r (by simpa using h)
    show (zp R G.tail)[k]? = _
    rw [e]
    cases G <;> simp
/-- the text of a wave up to a run -/
def wvT (st : Int) (R G : List Int) (k : Nat) : List Bool := List.replicate st.toNat false ++ wb ((zp (nn R) (nn G)).take k)
theorem wvT_le {st : Int} {R G : List Int} (k : Nat) : (wvT st R G k).length ≤ (wrB st R G).length := by
  have e : wb (zp (nn R) (nn G)) = wb ((zp (nn R) (nn G)).take k) ++ wb ((zp (nn R) (nn G)).drop k) := by rw [← wb_app, List.take_append_drop]
  unfold wvT wrB wvB
  rw [e]
  simp only [List.length_append]
  omega
theorem wvT_next {st : Int} {R G : List Int} {k : Nat} {x : Int} (hx : R[k]? = some x) : wvT st R G (k + 1) = wvT st R G k ++ List.replicate x.toNat true ++ List.replicate (G.getD k 0).toNat false := by
  have h1 : (nn R)[k]? = some x.toNat := by unfold nn; rw [List.getElem?_map, hx]; rfl
  have h2 := zp_get (nn R) (nn G) k _ h1
  obtain ⟨hk, e⟩ := List.getElem?_eq_some_iff.1 h2
  have h3 : (nn G).getD k 0 = (G.getD k 0).toNat := by
    unfold nn
    rw [List.getD_eq_getElem?_getD, List.getD_eq_getElem?_getD, List.getElem?_map]
    cases G[k]? <;> rfl
  unfold wvT
  rw [List.take_succ_eq_append_getElem hk, e, wb_app, h3]
  simp only [List.append_assoc]
  show _ ++ (_ ++ (List.replicate x.toNat true ++ (List.replicate (G.getD k 0).toNat false ++ []))) = _
  rw [List.append_nil]
theorem wvT_end {st : Int} {R G : List Int} {n : Nat} (h : n = R.length) : wvT st R G n = wrB st R G := by
  unfold wvT wrB wvB
  rw [List.take_of_length_le]
  have := congrArg List.length (zp_fst (nn R) (nn G))
  rw [List.length_map, nn_length] at this
  omega
theorem wv_text {so : ByteArray} {st : Int} {R G : List Int} {k : Nat} {x : Int} (hx : R[k]? = some x) (h : so.data.toList = chars (wvT st R G k)) :
    (so ++ many 49 x.toNat).data.toList = chars (wvT st R G k ++ List.replicate x.toNat true) ∧ (G[k]? = none → (so ++ many 49 x.toNat).data.toList = chars (wvT st R G (k + 1))) ∧
      (∀ y, G[k]? = some y → (so ++ many 49 x.toNat ++ many 48 y.toNat).data.toList = chars (wvT st R G (k + 1))) := by
  have e1 : (so ++ many 49 x.toNat).data.toList = chars (wvT st R G k ++ List.replicate x.toNat true) := by
    rw [ByteArray.data_append, Array.toList_append, h, chars_app, (chars_many _).1]
    rfl
  refine ⟨e1, ?_, ?_⟩
  · intro hn
    rw [e1, wvT_next hx, List.getD_eq_getElem?_getD, hn]
    simp
  · intro y hy
    rw [ByteArray.data_append, Array.toList_append, e1, wvT_next hx, List.getD_eq_getElem?_getD, hy, chars_app _ (List.replicate (Option.getD (some y) 0).toNat false), (chars_many _).2]
    rfl
theorem text_eq {so : ByteArray} {l : List Bool} (h : so.data.toList = chars l) : so = ofB l := by
  apply ByteArray.ext
  apply Array.toList_inj.1
  rw [h]
  rfl
theorem text_size {so : ByteArray} {l : List Bool} (h : so.data.toList = chars l) : so.size = l.length := by
  have e := congrArg List.length h
  rw [chars_length] at e
  exact e
theorem many_size (c : UInt8) (n : Nat) : (many c n).size = n := by
  show (many c n).data.size = n
  simp [many]

set_option maxRecDepth 100000 in
set_option maxHeartbeats 800000 in
theorem specWaveRow_any (st : Int) (u v : Value) (R G : List Int) (w : World) {lo lo' : Nat} (hRl : R.length ≤ 1048576) (hGl : G.length ≤ 1048576) (hu : IntsV lo w u R) (hv : IntsV lo' w v G) :
    Calls Try.prog 16 #[.int .i64 st, u, v] w fun e w' => e = .returned (.tuple #[.string (wrS st R G), .bool (wrOk st R G)]) ∧ Quiet w w' := by
  have C := hide (specWaveIn_any st u v R G w hRl hGl hu hv)
  obtain ⟨a, c, rfl, hf⟩ := ints_form hu
  obtain ⟨a', c', rfl, hf'⟩ := ints_form hv
  clear hu hv hGl
  cases h1 : wIn st R G
  · have e1 : wrOk st R G = false := by unfold wrOk; rw [h1, Bool.false_and]
    have e2 : wrS st R G = ByteArray.empty := by unfold wrS; rw [e1]; rfl
    rw [h1] at C
    rw [e1, e2]
    clear hf hf' h1 e1 e2
    go_enter Try.func16, Try.ntmps16
    go_wp2_with (go_at_call 8; refine C.out.mono ?_; rintro e w' ⟨rfl, rfl⟩)
    go_ret2
    exact ⟨rfl, Quiet.refl _⟩
  rw [h1] at C
  obtain ⟨st0, st1, n1, n2, n3, hRx, hGx⟩ := (wIn_iff st R G).1 h1
  have HS := hide (fun k => sum_part hRx n2 k)
  have HT := hide (fun k => sum_part hGx (by omega) k)
  have HX := hide hRx
  have HY := hide hGx
  have HOK : Hid (wrOk st R G = decide (st + R.sum + G.sum ≤ 120)) := hide (by unfold wrOk; rw [h1, Bool.true_and])
  obtain ⟨n, hn⟩ : ∃ n, n = R.length := ⟨_, rfl⟩
  obtain ⟨m, hm⟩ : ∃ m, m = G.length := ⟨_, rfl⟩
  rw [← hn] at hRl hf C n1 n2 n3 ⊢
  rw [← hm] at hf' n3 C ⊢
  have HN := hide hn
  have HM := hide hm
  have HF := hide hf
  have HF' := hide hf'
  have HW := hide h1
  obtain ⟨S, hS⟩ : ∃ S, S = wrS st R G := ⟨_, rfl⟩
  obtain ⟨O, hO⟩ : ∃ O, O = wrOk st R G := ⟨_, rfl⟩
  rw [← hS, ← hO]
  have HSS := hide hS
  have n4 : n ≤ m + 1 := by omega
  have n5 : m + 1 ≤ n := by omega
  have HOO := hide hO
  clear hn hm hf hf' h1 hRx hGx hS hO n3
  go_enter Try.func16, Try.ntmps16
  go_wp2_with (go_at_call 8; refine C.out.mono ?_; rintro e w' ⟨rfl, rfl⟩)
  clear C
  go_loopw [8, 9] (fun t i wr => ∃ k : Nat, k ≤ n ∧ i = .int .i64 (k : Int) ∧ t = .int .i64 (st + (R.take k).sum + (G.take k).sum) ∧ Hid (Quiet w wr)) (fun _ i _ => n - (Go.RowKit.intOf i).toNat)
  case atStart => exact ⟨0, Nat.zero_le _, rfl, by simp, Quiet.refl _⟩
  case round =>
    obtain ⟨k, hk, rfl, rfl, HQ⟩ := hrel
    obtain ⟨s0, s1⟩ := HS.out k
    obtain ⟨t0, t1⟩ := HT.out k
    by_cases hlt : k < n
    · obtain ⟨g, rfl, hc⟩ := HF.out (by omega)
      obtain ⟨x, hx⟩ : ∃ x, R[k]? = some x := ⟨_, List.getElem?_eq_getElem (by rw [← HN.out]; exact hlt)⟩
      have hcell := ((HQ.out.cells hc) k (.int .i64 x) (by rw [List.getElem?_map, hx]; rfl)).1
      have HSX := hide (sum_take R k x hx)
      obtain ⟨x0, x1⟩ := HX.out x (List.mem_of_getElem? hx)
      obtain ⟨s, hs⟩ : ∃ s, s = (R.take k).sum := ⟨_, rfl⟩
      obtain ⟨t, ht⟩ : ∃ t, t = (G.take k).sum := ⟨_, rfl⟩
      have HTT := hide ht
      rw [← hs] at s0 s1 HSX ⊢
      rw [← ht] at t0 t1 ⊢
      have i0 : (0 : Int) ≤ (k : Int) := by omega
      have i1 : (k : Int) < (n : Int) := by omega
      clear hs ht hc hx
      by_cases hlg : k < m
      · obtain ⟨g', rfl, hc'⟩ := HF'.out (by omega)
        obtain ⟨y, hy⟩ : ∃ y, G[k]? = some y := ⟨_, List.getElem?_eq_getElem (by rw [← HM.out]; exact hlg)⟩
        have hcell' := ((HQ.out.cells hc') k (.int .i64 y) (by rw [List.getElem?_map, hy]; rfl)).1
        have HSY := hide (sum_take G k y hy)
        obtain ⟨y0, y1⟩ := HY.out y (List.mem_of_getElem? hy)
        have i2 : (k : Int) < (m : Int) := by omega
        rw [← HTT.out] at HSY
        clear hc' hy
        go_wp2
        go_roundw
        case rel => exact ⟨k + 1, by omega, by go_num, by rw [HSX.out, HSY.out]; go_num, HQ⟩
        case measure => simp [Go.RowKit.intOf]; omega
      · have HSY : Hid ((G.take (k + 1)).sum = t) := hide (by
          rw [HTT.out, List.take_of_length_le (by rw [← HM.out]; omega), List.take_of_length_le (by rw [← HM.out]; omega)])
        have i2 : ¬ (k : Int) < (m : Int) := by omega
        go_wp2
        go_roundw
        case rel => exact ⟨k + 1, by omega, by go_num, by rw [HSX.out, HSY.out]; go_num, HQ⟩
        case measure => simp [Go.RowKit.intOf]; omega
    · have ER : Hid ((R.take k).sum = R.sum) := hide (by rw [List.take_of_length_le (by rw [← HN.out]; omega)])
      have EG : Hid ((G.take k).sum = G.sum) := hide (by rw [List.take_of_length_le (by rw [← HM.out]; omega)])
      rw [ER.out] at s0 s1 ⊢
      rw [EG.out] at t0 t1 ⊢
      obtain ⟨N, hN⟩ : ∃ N, N = st + R.sum + G.sum := ⟨_, rfl⟩
      rw [← hN] at HOK ⊢
      by_cases hbig : N ≤ 120
      case neg =>
        have e1 : wrOk st R G = false := by rw [HOK.out]; simp; omega
        have e2 : wrS st R G = ByteArray.empty := by unfold wrS; rw [e1]; rfl
        have E1 := hide (HOO.out.trans e1)
        have E2 := hide (HSS.out.trans e2)
        clear e1 e2 hN HOK
        go_wp2
        go_ret2
        exact ⟨by rw [E1.out, E2.out]; rfl, HQ.out⟩
      have e1 : wrOk st R G = true := by rw [HOK.out]; simp; omega
      have E1 := hide (HOO.out.trans e1)
      have E2 : Hid (S = ofB (wrB st R G)) := hide (HSS.out.trans (by unfold wrS; rw [if_pos e1]))
      have HLB := hide (wrOk_facts e1).2.1
      obtain ⟨sn, rfl⟩ := Int.eq_ofNat_of_zero_le st0
      have CZ := hide (fun w => l6Many_one 48 sn w (by omega))
      clear e1 hN HOK s0 s1 t0 t1 ER EG
      go_wp2_with (go_at_call 30; refine (CZ.out _).mono ?_; rintro e w' ⟨rfl, rfl⟩)
      go_loopw [10, 11] (fun o i wr' => ∃ (q : Nat) (so : ByteArray), q ≤ n ∧ i = .int .i64 (q : Int) ∧ o = .string so ∧ Hid (so.data.toList = chars (wvT (sn : Int) R G q)) ∧ Hid (Quiet w wr')) (fun _ i _ => n - (Go.RowKit.intOf i).toNat)
      case atStart =>
        refine ⟨0, _, Nat.zero_le _, rfl, rfl, ?_, HQ⟩
        refine hide ?_
        show (many 48 sn).data.toList = _
        unfold wvT
        rw [chars_app, Int.toNat_natCast, (chars_many sn).2]
        simp [many, wb, chars]
      case round =>
        obtain ⟨q, so, hq, rfl, rfl, HO, HQ2⟩ := hrel
        have hso : so.size ≤ 120 := by
          have := text_size HO.out
          have := wvT_le (st := (sn : Int)) (R := R) (G := G) q
          have := HLB.out
          omega
        by_cases hlt2 : q < n
        · obtain ⟨g, rfl, hc⟩ := HF.out (by omega)
          obtain ⟨x, hx⟩ : ∃ x, R[q]? = some x := ⟨_, List.getElem?_eq_getElem (by rw [← HN.out]; exact hlt2)⟩
          have hcell := ((HQ2.out.cells hc) q (.int .i64 x) (by rw [List.getElem?_map, hx]; rfl)).1
          obtain ⟨x0, x1⟩ := HX.out x (List.mem_of_getElem? hx)
          obtain ⟨xn, rfl⟩ := Int.eq_ofNat_of_zero_le (show 0 ≤ x by omega)
          have HTX := hide (wv_text hx HO.out)
          have CX := hide (fun w => l6Many_one 49 xn w (by omega))
          have i0 : (0 : Int) ≤ (q : Int) := by omega
          have i1 : (q : Int) < (n : Int) := by omega
          have z1 := many_size 49 xn
          have z1' : (so ++ many 49 xn).size ≤ 240 := by rw [ByteArray.size_append]; omega
          rw [Int.toNat_natCast] at HTX
          clear hc hx
          by_cases hlg : q < m
          · obtain ⟨g', rfl, hc'⟩ := HF'.out (by omega)
            obtain ⟨y, hy⟩ : ∃ y, G[q]? = some y := ⟨_, List.getElem?_eq_getElem (by rw [← HM.out]; exact hlg)⟩
            have hcell' := ((HQ2.out.cells hc') q (.int .i64 y) (by rw [List.getElem?_map, hy]; rfl)).1
            obtain ⟨y0, y1⟩ := HY.out y (List.mem_of_getElem? hy)
            obtain ⟨yn, rfl⟩ := Int.eq_ofNat_of_zero_le (show 0 ≤ y by omega)
            have HTY := hide (HTX.out.2.2 _ hy)
            have CY := hide (fun w => l6Many_one 48 yn w (by omega))
            have i2 : (q : Int) < (m : Int) := by omega
            have z2 := many_size 48 yn
            rw [Int.toNat_natCast] at HTY
            clear hc' hy HTX
            go_wp2_with (go_at_call 30; (first | (with_reducible refine (CX.out _).mono ?_) | (with_reducible refine (CY.out _).mono ?_)); rintro e w' ⟨rfl, rfl⟩)
            go_roundw
            case rel => exact ⟨q + 1, _, by omega, by go_num, rfl, HTY, HQ2⟩
            case measure => simp [Go.RowKit.intOf]; omega
          · have HTY := hide (HTX.out.2.1 (List.getElem?_eq_none (by rw [← HM.out]; omega)))
            have i2 : ¬ (q : Int) < (m : Int) := by omega
            clear HTX
            go_wp2_with (go_at_call 30; (with_reducible refine (CX.out _).mono ?_); rintro e w' ⟨rfl, rfl⟩)
            go_roundw
            case rel => exact ⟨q + 1, _, by omega, by go_num, rfl, HTY, HQ2⟩
            case measure => simp [Go.RowKit.intOf]; omega
        · have ES : Hid (so = ofB (wrB (sn : Int) R G)) := hide (text_eq (by rw [HO.out, show q = n by omega, wvT_end HN.out]))
          go_wp2
          go_ret2
          exact ⟨by rw [E1.out, E2.out, ES.out]; rfl, HQ2.out⟩
end Go.Proofs.Ytlgceccbjkkeiab

/- THE WALKS of the program's WaveIn, sum, WaveSum: they answer as the model. -/
namespace Go.Proofs.Ytlgceccbjkkeiab
open Go.RowKit Go.Sort

theorem implWaveIn_any (st : Int) (u v : Value) (R G : List Int) (w : World) {lo lo' : Nat} (hRl : R.length ≤ 1048576) (hGl : G.length ≤ 1048576) (hu : IntsV lo w u R) (hv : IntsV lo' w v G) :
    Calls Try.prog 10 #[.int .i64 st, u, v] w fun e w' => e = .returned (.bool (wIn st R G)) ∧ Below w.heap.size w w' := by
  have C := hide (known_any st u v R G w hRl hGl hu hv)
  obtain ⟨a, c, rfl, _⟩ := ints_form hu
  obtain ⟨a', c', rfl, _⟩ := ints_form hv
  obtain ⟨z, hz⟩ : ∃ z, z = wIn st R G := ⟨_, rfl⟩
  rw [← hz] at C ⊢
  clear hu hv hz
  go_enter Try.func10, Try.ntmps10
  go_wp2_with fail
  refine C.out.mono ?_
  rintro e w1 ⟨rfl, hb⟩
  have HB := hide hb
  clear hb
  go_wp2
  go_ret
  exact ⟨rfl, HB.out⟩

set_option maxHeartbeats 1000000 in
theorem runsSum_any (u : Value) (R : List Int) (w : World) {lo : Nat} (hn60 : R.length ≤ 60) (hx120 : ∀ x ∈ R, 1 ≤ x ∧ x ≤ 120) (hu : IntsV lo w u R) :
    Calls Try.prog 34 #[u] w fun e w' => e = .returned (.int .i64 R.sum) ∧ w = w' := by
  obtain ⟨a, c, rfl, hf⟩ := ints_form hu
  have HS := hide (fun k => sum_part hx120 hn60 k)
  have HX := hide hx120
  obtain ⟨n, hn⟩ : ∃ n, n = R.length := ⟨_, rfl⟩
  rw [← hn] at hn60 hf ⊢
  have HN := hide hn
  have HF := hide hf
  clear hn hf hu hx120
  go_enter Try.func34, Try.ntmps34
  go_wp2
  go_loop [3, 5, 8] (fun t _ i => ∃ k : Nat, k ≤ n ∧ i = .int .i64 (k : Int) ∧ t = .int .i64 (R.take k).sum) (fun _ _ i => n - (Go.RowKit.intOf i).toNat)
  case atStart => exact ⟨0, Nat.zero_le _, rfl, rfl⟩
  case round =>
    obtain ⟨k, hk, rfl, rfl⟩ := hrel
    obtain ⟨s0, s1⟩ := HS.out k
    by_cases hlt : k < n
    · obtain ⟨g, rfl, hc⟩ := HF.out (by omega)
      obtain ⟨x, hx⟩ : ∃ x, R[k]? = some x := ⟨_, List.getElem?_eq_getElem (by rw [← HN.out]; exact hlt)⟩
      have hcell := (hc k (.int .i64 x) (by rw [List.getElem?_map, hx]; rfl)).1
      have HT := hide (sum_take R k x hx)
      obtain ⟨x0, x1⟩ := HX.out x (List.mem_of_getElem? hx)
      obtain ⟨t, ht⟩ : ∃ t, t = (R.take k).sum := ⟨_, rfl⟩
      rw [← ht] at s0 s1 HT ⊢
      have i0 : (0 : Int) ≤ (k : Int) := by omega
      have i1 : (k : Int) < (n : Int) := by omega
      clear ht hc hx
      go_wp2
      go_round
      case rel => exact ⟨k + 1, by omega, by go_num, by rw [HT.out]⟩
      case measure => simp [Go.RowKit.intOf]; omega
    · have E : Hid ((R.take k).sum = R.sum) := hide (by rw [List.take_of_length_le (by rw [← HN.out]; omega)])
      go_wp2
      go_ret
      exact ⟨by rw [E.out]; rfl, rfl⟩

set_option maxRecDepth 100000 in
set_option maxHeartbeats 2000000 in
theorem implWaveSum_any (st : Int) (u v : Value) (R G : List Int) (w : World) {lo lo' : Nat} (hRl : R.length ≤ 1048576) (hGl : G.length ≤ 1048576) (hu : IntsV lo w u R) (hv : IntsV lo' w v G) :
    Calls Try.prog 21 #[.int .i64 st, u, v] w fun e w' => e = .returned (.tuple #[.int .i64 (wsN st R G), .bool (wIn st R G)]) ∧ Below w.heap.size w w' := by
  have HU := hide hu
  have HV := hide hv
  obtain ⟨a, c, rfl, _⟩ := ints_form hu
  obtain ⟨a', c', rfl, _⟩ := ints_form hv
  unfold wsN
  have K := hide (fun (W : World) (hb : Below w.heap.size w W) => known_any st _ _ R G W hRl hGl (HU.out.below hb (Nat.le_refl _)) (HV.out.below hb (Nat.le_refl _)))
  have S := hide (fun (W : World) (h : wIn st R G = true) (hb : Below w.heap.size w W) => runsSum_any _ R W (((wIn_iff st R G).1 h).2.2.2.1) (((wIn_iff st R G).1 h).2.2.2.2.2.1) (HU.out.below hb (Nat.le_refl _)))
  obtain ⟨z, hz⟩ : ∃ z, z = wIn st R G := ⟨_, rfl⟩
  rw [← hz] at K S ⊢
  obtain ⟨n, hn⟩ : ∃ n, n = R.length := ⟨_, rfl⟩
  obtain ⟨m, hm⟩ : ∃ m, m = G.length := ⟨_, rfl⟩
  rw [← hn] at hRl K S
  rw [← hm] at hGl K
  rw [← hn, ← hm]
  clear hu hv hz hn hm
  go_enter Try.func21, Try.ntmps21
  go_wp2_with fail
  have HB0 : Hid (Below w.heap.size w (w.alloc (.cells #[.int .i64 st, .slice a n c, .slice a' m c'] 38))) := (Below.refl _ _).alloc (Nat.le_refl _) _
  refine (K.out _ HB0.out).mono ?_
  rintro e w2 ⟨rfl, hb⟩
  have HB2 := hide (HB0.out.trans (hb.mono (by simp)))
  have c1 : w2.cell? ⟨w.heap.size, 1, none⟩ = some (.slice a n c) := by
    rw [World.cell?_of_block (hb.block w.heap.size (by simp)), World.cell?_alloc_at _ _ _ _ rfl]; rfl
  clear hb K HB0
  cases z
  · clear S c1
    go_wp2
    go_ret2
    exact ⟨rfl, HB2.out⟩
  · have S2 := hide (S.out w2 rfl HB2.out)
    clear S
    go_wp2_with fail
    refine S2.out.mono ?_
    rintro e w3 ⟨rfl, rfl⟩
    go_wp2
    go_ret2
    exact ⟨rfl, HB2.out⟩
end Go.Proofs.Ytlgceccbjkkeiab
