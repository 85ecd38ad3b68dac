/- TEXTS SWav3, SWav4. -/
import Derived.Test.Ytlgceccbjkkeiabwax31
import Derived.Test.Ytlgceccbjkkeiabwax37
/- THE WALK of the model's WaveOf. -/
namespace Go.Proofs.Ytlgceccbjkkeiab
open Go.RowKit

theorem lz_count : ∀ (l : List Bool), l.count true ≠ 0 → lz l < l.length ∧ (∀ k < lz l, l[k]? = some false) ∧ l[lz l]? = some true
  | [], h => by simp at h
  | true :: l, _ => ⟨by simp [lz], fun k hk => by simp [lz] at hk, by simp [lz]⟩
  | false :: l, h => by
    obtain ⟨h1, h2, h3⟩ := lz_count l (by simpa using h)
    have e : lz (false :: l) = lz l + 1 := by simp [lz]
    refine ⟨by rw [e, List.length_cons]; omega, ?_, by rw [e]; simpa using h3⟩
    intro k hk
    cases k with
    | zero => rfl
    | succ k => rw [List.getElem?_cons_succ]; exact h2 k (by omega)

theorem res4 {fn : Func} {t u v x : Tmp} (h : fn.results = #[.tmp t, .tmp u, .tmp v, .tmp x]) (a : Array Value) (P : Program) (w : World) :
    (results fn a).run P w = .ok (.tuple #[a.getD t undef, a.getD u undef, a.getD v undef, a.getD x undef]) w := by simp [results, h]

theorem woR_len (s : ByteArray) : (woR s).length ≤ 200 ∧ (woG s).length ≤ 200 := by
  unfold woR woG
  cases h : woOk s
  · simp
  · have h120 := vld_le s ((woOk_iff s).1 h).1
    obtain ⟨h1, h2, _⟩ := rr_len (bits s)
    rw [length_bits] at h1
    rw [if_pos rfl, if_pos rfl, ni_length, ni_length]
    rcases h2 with h2 | h2
    · rw [h2]; simp; omega
    · omega

set_option maxRecDepth 100000 in
set_option maxHeartbeats 1000000 in
theorem specWaveOf_any (s : ByteArray) (w : World) (hs : s.size ≤ maxLen) :
    Calls Try.prog 12 #[.string s] w fun e w' => ∃ u v, e = .returned (.tuple #[.int .i64 (woN s), u, v, .bool (woOk s)]) ∧ IntsV w.heap.size w' u (woR s) ∧ IntsV w.heap.size w' v (woG s) ∧ ApV u v ∧ Below w.heap.size w w' := by
  have CV := hide (fun w => specRowValid_any s w hs)
  have CB := hide (fun w => l1Balls_any s w hs)
  obtain ⟨i0, hi, hz0, hz1, hz2⟩ := info_parts infoI
  cases hv : vld s
  · have e1 : woOk s = false := by unfold woOk; rw [hv, Bool.false_and]
    have e2 : woN s = 0 ∧ woR s = [] ∧ woG s = [] := by unfold woN woR woG; rw [e1]; exact ⟨rfl, rfl, rfl⟩
    rw [hv] at CV
    rw [e1, e2.1, e2.2.1, e2.2.2]
    clear e1 e2 hs hv CB
    go_enter Try.func12, Try.ntmps12
    go_wp2_with (go_at_call 24; refine (CV.out _).mono ?_; rintro e w' ⟨rfl, rfl⟩)
    (try simp only [Exit.inBlock, Exit.then]); refine bodyPost_ret (res4 rfl _ _ _) rfl ?_
    exact ⟨_, _, rfl, .inl ⟨_, _, rfl, rfl⟩, .inl ⟨_, _, rfl, rfl⟩, .nil, ((Below.refl _ _).alloc (Nat.le_refl _) _).alloc (by simp) _⟩
  rw [hv] at CV
  cases hn : decide (nballs (bits s) = 0)
  case true =>
    have e1 : woOk s = false := by unfold woOk; rw [hv, hn]; rfl
    have e2 : woN s = 0 ∧ woR s = [] ∧ woG s = [] := by unfold woN woR woG; rw [e1]; exact ⟨rfl, rfl, rfl⟩
    rw [of_decide_eq_true hn] at CB
    rw [e1, e2.1, e2.2.1, e2.2.2]
    clear e1 e2 hs hv hn
    go_enter Try.func12, Try.ntmps12
    go_wp2_with (first | (go_at_call 24; refine (CV.out _).mono ?_; rintro e w' ⟨rfl, rfl⟩) | (go_at_call 25; refine (CB.out _).mono ?_; rintro e w' ⟨rfl, rfl⟩))
    (try simp only [Exit.inBlock, Exit.then]); refine bodyPost_ret (res4 rfl _ _ _) rfl ?_
    exact ⟨_, _, rfl, .inl ⟨_, _, rfl, rfl⟩, .inl ⟨_, _, rfl, rfl⟩, .nil, ((Below.refl _ _).alloc (Nat.le_refl _) _).alloc (by simp) _⟩
  have h120 := vld_le s hv
  have hne := of_decide_eq_false hn
  have e1 : woOk s = true := by unfold woOk; rw [hv, hn]; rfl
  have e2 : woN s = (lz (bits s) : Int) ∧ woR s = ni (rr (bits s)).1 ∧ woG s = ni (rr (bits s)).2 := by unfold woN woR woG; rw [e1]; exact ⟨rfl, rfl, rfl⟩
  rw [e1, e2.1, e2.2.1, e2.2.2]
  obtain ⟨l1, l2, l3⟩ := lz_count (bits s) (by unfold nballs at hne; exact hne)
  rw [length_bits] at l1
  have HZ : Hid (∀ k (h : k < s.size), k < lz (bits s) → ((s[k].toNat : Int) == 48) = true) := hide (fun k h hk => by
    rw [sgn_bit s k h (vld_sgn s hv)]
    have := (bits_getElem s k h).symm.trans (l2 k hk)
    simp only [Option.some.injEq] at this
    rw [this]; rfl)
  have HZ2 : Hid (((s[lz (bits s)].toNat : Int) == 48) = false) := hide (by
    rw [sgn_bit s _ l1 (vld_sgn s hv)]
    have := (bits_getElem s _ l1).symm.trans l3
    simp only [Option.some.injEq] at this
    rw [this]; rfl)
  have CR := hide (fun w => l3Runs_any s w h120)
  have HGL := hide (rr_len (bits s))
  obtain ⟨c, hc⟩ : ∃ c, c = nballs (bits s) := ⟨_, rfl⟩
  have hc0 : ((c : Int) == 0) = false := beq_eq_false_iff_ne.2 (by omega)
  rw [← hc] at CB
  obtain ⟨z, hz⟩ : ∃ z, z = lz (bits s) := ⟨_, rfl⟩
  have HZ3 : Hid (∀ h : z < s.size, ((s[z].toNat : Int) == 48) = false) := hide (by subst hz; exact fun _ => HZ2.out)
  rw [← hz] at l1 HZ ⊢
  have hbl : (bits s).length ≤ 120 := by rw [length_bits]; exact h120
  have HBL := hide hbl
  clear e1 e2 hs hv hn hne hc hz l2 l3 HZ2 hbl
  go_enter Try.func12, Try.ntmps12
  go_wp2_with (first | (go_at_call 24; refine (CV.out _).mono ?_; rintro e w' ⟨rfl, rfl⟩) | (go_at_call 25; refine (CB.out _).mono ?_; rintro e w' ⟨rfl, rfl⟩))
  clear CV CB hc0
  go_loop [6] (fun i => ∃ k : Nat, k ≤ z ∧ i = .int .i64 (k : Int)) (fun i => z - (Go.RowKit.intOf i).toNat)
  case atStart => exact ⟨0, Nat.zero_le _, rfl⟩
  case round =>
    obtain ⟨k, hk, rfl⟩ := hrel
    have hlt : k < s.size := by omega
    by_cases hkz : k < z
    · have hb := HZ.out k hlt hkz
      go_wp2
      go_round
      case rel => exact ⟨k + 1, by omega, by go_num⟩
      case measure => simp [Go.RowKit.intOf]; omega
    · obtain rfl : k = z := by omega
      have hb := HZ3.out l1
      clear HZ HZ3
      go_wp2_with fail
      refine (CR.out _).mono ?_
      rintro e w1 ⟨u, v, rfl, hu, hv, hbw⟩
      have HU := hide hu
      have HV := hide hv
      have HBW := hide hbw
      clear hu hv hbw
      have hsz := HBW.out.size
      have O0 := hide (World.ownsRow_lit (base := w.heap.size) (e := 3) (size := 1) w1 #[] 0 hsz (by unfold maxLen; omega) rfl)
      have HB2 := hide (HBW.out.alloc hsz (.cells #[] 3))
      have HU2 := hide (HU.out.below ((Below.refl w1.heap.size w1).alloc (Nat.le_refl _) (.cells #[] 3)) (Nat.le_refl _))
      have hgl : (ni (rr (bits s)).2).length ≤ 120 := by
        obtain ⟨q1, q2, _⟩ := HGL.out
        have := HBL.out
        rw [ni_length]
        rcases q2 with h2 | h2
        · rw [h2]; simp
        · omega
      have APN : Hid (∀ v' : Value, (v'.ownBlock = (Value.slice (some ⟨w1.heap.size, 0, none⟩) 0 0).ownBlock ∨ v'.ownBlock = some (w1.alloc (.cells #[] 3)).heap.size) → ApV u v') := hide (fun v' h => ApV.new HU.out (fun x hx => by
        rcases h with h | h
        · rw [hx] at h; simp [Value.ownBlock] at h; omega
        · rw [hx, World.size_alloc] at h; injection h with h; omega))
      have NEXT : Hid (∀ v' (w2 : World), (w1.alloc (.cells #[] 3)).grownBy w2 (Value.slice (some ⟨w1.heap.size, 0, none⟩) 0 0).ownBlock → Below w1.heap.size w1 w2 ∧ IntsV w.heap.size w2 u (ni (rr (bits s)).1) ∧ (w2.ownsRow w.heap.size 3 1 v' (ni (rr (bits s)).2).length ((ni (rr (bits s)).2).map (.int .i64)) → IntsV w.heap.size w2 v' (ni (rr (bits s)).2)) ∧ Below w.heap.size w w2) := hide (by
        intro v' w2 hg
        have hb := ((Below.refl w1.heap.size w1).alloc (Nat.le_refl _) (.cells #[] 3)).grown hg (by simp) (fun b e => by simp [Value.ownBlock] at e; omega)
        exact ⟨hb, HU.out.below hb (Nat.le_refl _), fun h => IntsV.of_owns h, (HBW.out.alloc hsz (.cells #[] 3)).grown hg (by simp; omega) (fun b e => by simp [Value.ownBlock] at e; omega)⟩)
      rcases HV.out with ⟨a, cap, rfl, h0⟩ | ⟨g, cap, rfl, hcap, hg1, hg2, hcells⟩
      · have H0 := hide h0
        clear HV HU h0
        cases a with
        | none =>
          go_wp2_with fail
          (try simp only [Exit.inBlock, Exit.then]); refine bodyPost_ret (res4 rfl _ _ _) rfl ?_
          exact ⟨_, _, rfl, HU2.out, .inl ⟨_, _, rfl, H0.out⟩, .nil, HB2.out⟩
        | some ad =>
          have SRC : Hid (∀ w0 : World, ∀ j u, ([] : List Value)[j]? = some u → w0.cell? (ad.add j) = some u) := hide (fun w0 j u hu => by simp at hu)
          go_wp2_with (at_builtin; refine wpList_append_own_at _ rfl _ _ 22 rfl w.heap.size 3 i0 (.int .i64 0) 1 8 Try.underlying22 hi hz0 hz1 hz2 rfl (by decide) _ _ _ rfl O0.out ad 0 cap [] rfl rfl (SRC.out _) (by simp) (by unfold maxLen; omega) (by omega) (by simp; omega) ?_; intro v' w2 hown' hgrow _ hat)
          (try simp only [Exit.inBlock, Exit.then]); refine bodyPost_ret (res4 rfl _ _ _) rfl ?_
          obtain ⟨_, n2, n3, n4⟩ := NEXT.out v' w2 hgrow
          exact ⟨_, _, rfl, n2, n3 (by rw [H0.out]; exact hown'), APN.out _ hat, n4⟩
      · have SRC := hide ((hcells.alloc (.cells #[] 3)).src)
        have HN := NEXT
        obtain ⟨L, hL⟩ : ∃ L, L = ni (rr (bits s)).2 := ⟨_, rfl⟩
        rw [← hL] at hgl SRC HN hcap ⊢
        have HLN : Hid ((L.map (Value.int .i64)).length = L.length * 1) := hide (by simp)
        have HLE := hide hL
        clear HV HU hcells hL NEXT
        go_wp2_with (at_builtin; refine wpList_append_own_at _ rfl _ _ 22 rfl w.heap.size 3 i0 (.int .i64 0) 1 8 Try.underlying22 hi hz0 hz1 hz2 rfl (by decide) _ _ _ rfl O0.out ⟨g, 0, none⟩ L.length cap (L.map (.int .i64)) rfl HLN.out SRC.out ints_of (by unfold maxLen; omega) (by omega) (by simp; omega) ?_; intro v' w2 hown' hgrow _ hat)
        (try simp only [Exit.inBlock, Exit.then]); refine bodyPost_ret (res4 rfl _ _ _) rfl ?_
        obtain ⟨_, n2, n3, n4⟩ := HN.out v' w2 hgrow
        rw [Nat.zero_add] at hown'
        have n5 := n3 hown'
        rw [HLE.out] at n5
        exact ⟨_, _, rfl, n2, n5, APN.out _ hat, n4⟩
end Go.Proofs.Ytlgceccbjkkeiab

/- THE WALK of the model's WaveNext. -/
namespace Go.Proofs.Ytlgceccbjkkeiab
open Go.RowKit

theorem nx_step {R G : List Nat} {k q : Nat} (hl : R.length = G.length + 1) (hk : k < G.length) : ∃ r r2 g, R[k]? = some r ∧ R[k + 1]? = some r2 ∧ G[k]? = some g ∧ r ≤ R.sum ∧ r2 ≤ R.sum ∧
    nxR q (R.drop k) (G.drop k) = min g (q + r) :: nxR (q + r - min g (q + r)) (R.drop (k + 1)) (G.drop (k + 1)) ∧
    nxG q (R.drop k) (G.drop k) = (r2 + g - min g (q + r)) :: nxG (q + r - min g (q + r)) (R.drop (k + 1)) (G.drop (k + 1)) := by
  have h1 : k < R.length := by omega
  have h2 : k + 1 < R.length := by omega
  refine ⟨R[k], R[k + 1], G[k], List.getElem?_eq_getElem h1, List.getElem?_eq_getElem h2, List.getElem?_eq_getElem hk, le_sumN (List.getElem_mem h1), le_sumN (List.getElem_mem h2), ?_, ?_⟩
  · rw [List.drop_eq_getElem_cons h1, List.drop_eq_getElem_cons hk]
    rfl
  · rw [List.drop_eq_getElem_cons h1, List.drop_eq_getElem_cons hk, List.drop_eq_getElem_cons h2]
    rfl
theorem nx_last {R G : List Nat} {k q : Nat} (hl : R.length = G.length + 1) (hk : k = G.length) : ∃ r, R[k]? = some r ∧ r ≤ R.sum ∧ nxR q (R.drop k) (G.drop k) = [q + r] ∧ nxG q (R.drop k) (G.drop k) = [] := by
  have h1 : k < R.length := by omega
  refine ⟨R[k], List.getElem?_eq_getElem h1, le_sumN (List.getElem_mem h1), ?_, ?_⟩
  · rw [List.drop_eq_getElem_cons h1, List.drop_of_length_le (l := G) (by omega), List.drop_of_length_le (l := R) (by omega)]
    rfl
  · rw [List.drop_eq_getElem_cons h1, List.drop_of_length_le (l := G) (by omega), List.drop_of_length_le (l := R) (by omega)]
    rfl
theorem nxG_nil (q : Nat) (G : List Nat) : nxG q [] G = [] := by cases G <;> rfl
theorem nxR_nil (q : Nat) (G : List Nat) : nxR q [] G = [] := rfl

/-- the loop of WaveNext, between two runs -/
def NxRel (R G : List Nat) (n B : Nat) (w : World) (u v c i : Value) (wr : World) : Prop :=
  ∃ (k q nb : Nat) (X Y : List Nat), k ≤ n ∧ i = .int .i64 (k : Int) ∧ c = .int .i64 (q : Int) ∧ q ≤ 120 * k ∧ nb ≤ k ∧
    Hid (wr.ownsRow B 3 1 u k ((ni X).map (.int .i64))) ∧ Hid (wr.ownsRow B 3 1 v nb ((ni Y).map (.int .i64))) ∧ Hid (∀ x, u.ownBlock = some x → v.ownBlock ≠ some x) ∧
    Hid (nxR 0 R G = X ++ nxR q (R.drop k) (G.drop k)) ∧ Hid (nxG 0 R G = Y ++ nxG q (R.drop k) (G.drop k)) ∧ Hid (Below B w wr) ∧ B ≤ wr.heap.size

set_option maxRecDepth 100000 in
set_option maxHeartbeats 2000000 in
theorem specWaveNext_any (st : Int) (u v : Value) (R G : List Int) (w : World) {lo lo' : Nat} (hRl : R.length ≤ 1048576) (hGl : G.length ≤ 1048576) (hu : IntsV lo w u R) (hv : IntsV lo' w v G) :
    Calls Try.prog 18 #[.int .i64 st, u, v] w fun e w' => ∃ x y, e = .returned (.tuple #[.int .i64 (if wnOk st R G then wnN st R else 0), x, y, .bool (wnOk st R G)]) ∧
      IntsV w.heap.size w' x (if wnOk st R G then wnR R G else []) ∧ IntsV w.heap.size w' y (if wnOk st R G then wnG R G else []) ∧ ApV x y ∧ Below w.heap.size w w' := by
  have C := hide (specWaveIn_any st u v R G w hRl hGl hu hv)
  obtain ⟨i0, hi, hz0, hz1, hz2⟩ := info_parts infoI
  obtain ⟨a, c, rfl, hf⟩ := ints_form hu
  obtain ⟨a', c', rfl, hf'⟩ := ints_form hv
  clear hu hv
  cases h1 : wIn st R G
  · have e1 : wnOk st R G = false := by unfold wnOk; rw [h1, Bool.false_and]
    rw [h1] at C
    rw [e1]
    clear hf hf' h1 e1 hGl
    go_enter Try.func18, Try.ntmps18
    go_wp2_with (go_at_call 8; refine C.out.mono ?_; rintro e w' ⟨rfl, rfl⟩)
    (try simp only [Exit.inBlock, Exit.then]); refine bodyPost_ret (res4 rfl _ _ _) rfl ?_
    exact ⟨_, _, rfl, .inl ⟨_, _, rfl, rfl⟩, .inl ⟨_, _, rfl, rfl⟩, .nil, ((Below.refl _ _).alloc (Nat.le_refl _) _).alloc (by simp) _⟩
  rw [h1] at C
  obtain ⟨k1, k2, k3, k4, k5, k6⟩ := wIn_nat h1
  obtain ⟨st0, st1, n1, n2, n3, hRx, hGx⟩ := (wIn_iff st R G).1 h1
  have e1 : wnOk st R G = wIn (wnN st R) (wnR R G) (wnG R G) := by unfold wnOk; rw [h1, Bool.true_and]
  have HE1 := hide e1
  have HX : Hid (∀ (k r : Nat), (nn R)[k]? = some r → R[k]? = some (r : Int) ∧ r ≤ 120) := hide (fun k r h => by
    have e : R[k]? = some (r : Int) := by rw [← k4, ni_getElem, h]; rfl
    refine ⟨e, ?_⟩
    have := hRx _ (List.mem_of_getElem? e)
    omega)
  have HY : Hid (∀ (k r : Nat), (nn G)[k]? = some r → G[k]? = some (r : Int) ∧ r ≤ 120) := hide (fun k r h => by
    have e : G[k]? = some (r : Int) := by rw [← k5, ni_getElem, h]; rfl
    refine ⟨e, ?_⟩
    have := hGx _ (List.mem_of_getElem? e)
    omega)
  have HR0 : Hid (R[0]? = some (R.headD 0)) := hide (by
    cases R with
    | nil => simp at n1
    | cons r rs => rfl)
  have HWR : Hid (wnR R G = ni (nxR 0 (nn R) (nn G)) ∧ wnG R G = ni (nxG 0 (nn R) (nn G)) ∧ wnN st R = st + R.headD 0) := hide ⟨rfl, rfl, rfl⟩
  have HL2 := hide k1
  have HLR := hide (nn_length R)
  have HLG := hide (nn_length G)
  obtain ⟨B, hB⟩ : ∃ B, w.heap.size = B := ⟨_, rfl⟩
  have h0 := World.ownsRow_lit (base := B) (e := 3) (size := 1) w #[] 0 (by omega) (by unfold maxLen; omega) rfl
  have h2 := World.ownsRow_lit (base := B) (e := 3) (size := 1) (w.alloc (.cells #[] 3)) #[] 0 (by simp; omega) (by unfold maxLen; omega) rfl
  have hb0 := ((Below.refl B w).alloc (by omega) (.cells #[] 3)).alloc (by simp; omega) (.cells #[] 3)
  have h0' := h0.alloc (.cells #[] 3)
  rw [hB] at h0' ⊢
  have HB := hide hB
  have H0 := hide h0'
  have H1 := hide h2
  have HB0 := hide hb0
  obtain ⟨n, hn⟩ : ∃ n, n = R.length := ⟨_, rfl⟩
  obtain ⟨m, hm⟩ : ∃ m, m = G.length := ⟨_, rfl⟩
  rw [← hn] at hf C n1 n2 n3 HLR
  rw [← hm] at hf' n3 C HLG
  have n4 : n ≤ m + 1 := by omega
  have n5 : m + 1 ≤ n := by omega
  obtain ⟨OK, hOK⟩ : ∃ b, b = wnOk st R G := ⟨_, rfl⟩
  rw [← hOK] at HE1 ⊢
  have HOK := hide hOK
  have HF := hide hf
  have HF' := hide hf'
  have HN := hide hn
  have HM := hide hm
  obtain ⟨RN, hRN⟩ : ∃ RN, RN = nn R := ⟨_, rfl⟩
  obtain ⟨GN, hGN⟩ : ∃ GN, GN = nn G := ⟨_, rfl⟩
  rw [← hRN] at HX HWR HL2 HLR
  rw [← hGN] at HY HWR HL2 HLG
  rw [← hn, ← hm]
  clear h0 h2 hb0 h0' hB hn hm n3 hOK hf hf' hRN hGN k1 k2 k3 k4 k5 k6 h1 hRx hGx e1
  go_enter Try.func18, Try.ntmps18
  go_wp2_with (go_at_call 8; refine C.out.mono ?_; rintro e w' ⟨rfl, rfl⟩)
  clear C
  go_loopw [10, 11, 12, 13] (NxRel RN GN n B w) (fun _ _ _ i _ => n - (Go.RowKit.intOf i).toNat)
  case atStart =>
    refine ⟨0, 0, 0, [], [], Nat.zero_le _, rfl, rfl, Nat.zero_le _, Nat.le_refl _, ?_, ?_, ?_, rfl, rfl, HB0, by simp [← HB.out]; omega⟩
    · have := H0.out
      rw [← HB.out] at this ⊢
      exact this
    · have := H1.out
      rw [World.size_alloc] at this
      rw [← HB.out] at this ⊢
      exact this
    · intro x hx hy
      simp [Value.ownBlock] at hx hy
      omega
  case round =>
    obtain ⟨k, q, nb, X, Y, hk, rfl, rfl, hq, hnb, HU, HV, HA, HNR, HNG, HBW, hsz⟩ := hrel
    clear H0 H1 HB0
    by_cases hlt : k < n
    · obtain ⟨g, rfl, hc⟩ := HF.out (by omega)
      by_cases hlg : k < m
      · obtain ⟨g', rfl, hc'⟩ := HF'.out (by omega)
        have hst := nx_step (q := q) HL2.out (show k < GN.length by rw [HLG.out]; exact hlg)
        obtain ⟨r, r2, y, e1, e2, e3, _, _, e4, e5⟩ := hst
        obtain ⟨f1, b1⟩ := HX.out _ _ e1
        obtain ⟨f2, b2⟩ := HX.out _ _ e2
        obtain ⟨f3, b3⟩ := HY.out _ _ e3
        have c1 := (hc k (.int .i64 (r : Int)) (by rw [List.getElem?_map, f1]; rfl)).1
        have c2 := (hc (k + 1) (.int .i64 (r2 : Int)) (by rw [List.getElem?_map, f2]; rfl)).1
        have c3 := (hc' k (.int .i64 (y : Int)) (by rw [List.getElem?_map, f3]; rfl)).1
        have hgB : g < B := by have := World.block_lt_of_cell? w _ c1; rw [HB.out] at this; exact this
        have hgB' : g' < B := by have := World.block_lt_of_cell? w _ c3; rw [HB.out] at this; exact this
        have c1 := (HBW.out.cell (p := ⟨g, k, none⟩) hgB).trans c1
        have c2 := (HBW.out.cell (p := ⟨g, k + 1, none⟩) hgB).trans c2
        have c3 := (HBW.out.cell (p := ⟨g', k, none⟩) hgB').trans c3
        have HE4 := hide e4
        have HE5 := hide e5
        have i0' : (0 : Int) ≤ (k : Int) := by omega
        have i1 : (k : Int) < (n : Int) := by omega
        have i2 : (k : Int) < (m : Int) := by omega
        have i3 : (k : Int) + 1 < (n : Int) := by omega
        have i4 : (0 : Int) ≤ (k : Int) + 1 := by omega
        have i5 : q + r ≤ 20000 := by omega
        clear e1 e2 e3 e4 e5 f1 f2 f3 hc hc'
        go_wp2_with fail
        obtain ⟨t, ht⟩ : ∃ t : Int, min (y : Int) ((q : Int) + (r : Int)) = t := ⟨_, rfl⟩
        have t0 : 0 ≤ t := by rw [← ht]; omega
        have t1 : t ≤ (y : Int) := by rw [← ht]; omega
        have t2 : t ≤ (q : Int) + (r : Int) := by rw [← ht]; omega
        have HT := hide ht
        rw [ht]
        clear ht
        have wk : IntKind.i64.wrap ((k : Int) + 1) = (k : Int) + 1 := by rw [IntKind.wrap_i64]; omega
        have tk : ((k : Int) + 1).toNat = k + 1 := by omega
        have w1' : IntKind.i64.wrap ((r2 : Int) + (y : Int)) = (r2 : Int) + (y : Int) := by rw [IntKind.wrap_i64]; omega
        have w2' : IntKind.i64.wrap ((r2 : Int) + (y : Int) - t) = (r2 : Int) + (y : Int) - t := by rw [IntKind.wrap_i64]; omega
        go_region_held3 (fun w' => w'.cell? ⟨g, k + 1, none⟩ = some (.int .i64 (r2 : Int)) ∧ w'.cell? ⟨g', k, none⟩ = some (.int .i64 (y : Int)))
          (first | exact ⟨c2, c3⟩ | exact ⟨d2, d3⟩ | go_keep | fail)
          (first | ((refine step_app (by rfl) (.tmp 47) (.tmp 60) 22 (by rfl) B 3 i0 (.int .i64 0) 1 8 Try.underlying22 hi hz0 hz1 hz2 rfl (by decide) _ _ _ (by rfl) (HV.out.drew.alloc _) ⟨wr.heap.size, 0, none⟩ 1 1 [.int .i64 ((r2 : Int) + (y : Int) - t)] (by rfl) rfl (cell_one_new _ _ _) (one_of_int _) (by unfold maxLen; omega) (by omega) (by show B ≤ (wr.drew.alloc _).heap.size; rw [World.size_alloc]; show B ≤ wr.heap.size + 1; omega) ?_; intro v1 w1 hown1 hgrow1 hat1; have bg := ((Below.refl B wr).drew.alloc hsz (.cells #[.int .i64 ((r2 : Int) + (y : Int) - t)] 3)).grown hgrow1 (by rw [World.size_alloc]; show B ≤ wr.heap.size + 1; omega) (fun b e => (HV.out.lt b e).1); have d2 := (bg.cell (p := ⟨g, k + 1, none⟩) hgB).trans c2; have d3 := (bg.cell (p := ⟨g', k, none⟩) hgB').trans c3; have BG := hide bg; have OWN1 := hide hown1; have RN1 := hide (rows_next HU.out.drew (fun x hx hy => HA.out x hy hx) hgrow1 hat1); have sz1 : B ≤ w1.heap.size := Nat.le_trans hsz bg.size; clear bg hown1 hgrow1 hat1)) | fail)
        obtain ⟨tn, rfl⟩ := Int.eq_ofNat_of_zero_le t0
        have htn : min y (q + r) = tn := by have := HT.out; omega
        have EX : Hid (nxR 0 RN GN = (X ++ [tn]) ++ nxR (q + r - tn) (RN.drop (k + 1)) (GN.drop (k + 1))) := hide (by rw [HNR.out, HE4.out, htn, List.append_assoc]; rfl)
        have EY : Hid (nxG 0 RN GN = (Y ++ [r2 + y - tn]) ++ nxG (q + r - tn) (RN.drop (k + 1)) (GN.drop (k + 1))) := hide (by rw [HNG.out, HE5.out, htn, List.append_assoc]; rfl)
        have OWY : Hid (w1.ownsRow B 3 1 v1 (nb + 1) ((ni (Y ++ [r2 + y - tn])).map (.int .i64))) := hide (by
          have h := OWN1.out
          rw [show ((r2 : Int) + (y : Int) - (tn : Int)) = ((r2 + y - tn : Nat) : Int) by omega] at h
          rw [ni_snoc, List.map_append]
          exact h)
        clear HT w2' wk tk w1' HE4 HE5 HNR HNG OWN1 htn HU HV HA c1 c2 c3 d2 d3
        go_wp2_with (at_builtin; refine wpList_append_own_at _ rfl _ _ 22 rfl B 3 i0 (.int .i64 0) 1 8 Try.underlying22 hi hz0 hz1 hz2 rfl (by decide) _ _ _ rfl (RN1.out.1.alloc _) ⟨w1.heap.size, 0, none⟩ 1 1 [.int .i64 (tn : Int)] rfl rfl (cell_one_new _ _ _) (one_of_int _) (by unfold maxLen; omega) (by omega) (by simp; omega) ?_; intro v2 w2 hown2 hgrow2 _ hat2)
        go_roundw
        case rel =>
          obtain ⟨p1, p2⟩ := rows_next OWY.out (fun x hx hy => RN1.out.2 x hy hx) hgrow2 hat2
          have hsg := hgrow2.size
          rw [World.size_alloc] at hsg
          refine ⟨k + 1, q + r - tn, nb + 1, X ++ [tn], Y ++ [r2 + y - tn], by omega, by go_num, by go_num, by omega, by omega, ?_, hide p1, hide p2, EX, EY, hide (HBW.out.trans ((BG.out.alloc sz1 _).grown hgrow2 (by simp; omega) (fun b e => (RN1.out.1.lt b e).1))), by omega⟩
          rw [ni_snoc, List.map_append]; exact hown2
        case measure => simp [Go.RowKit.intOf]; omega
      · have hkm : k = m := by omega
        have hst := nx_last (q := q) HL2.out (show k = GN.length by rw [HLG.out]; exact hkm)
        obtain ⟨r, e1, _, e4, e5⟩ := hst
        obtain ⟨f1, b1⟩ := HX.out _ _ e1
        have c1 := (hc k (.int .i64 (r : Int)) (by rw [List.getElem?_map, f1]; rfl)).1
        have hgB : g < B := by have := World.block_lt_of_cell? w _ c1; rw [HB.out] at this; exact this
        have c1 := (HBW.out.cell (p := ⟨g, k, none⟩) hgB).trans c1
        have i0' : (0 : Int) ≤ (k : Int) := by omega
        have i1 : (k : Int) < (n : Int) := by omega
        have i2 : ¬ (k : Int) < (m : Int) := by omega
        have i5 : q + r ≤ 20000 := by omega
        have EX : Hid (nxR 0 RN GN = (X ++ [q + r]) ++ nxR 0 (RN.drop (k + 1)) (GN.drop (k + 1))) := hide (by
          rw [HNR.out, e4, List.drop_of_length_le (l := RN) (by rw [HLR.out]; omega), nxR_nil]; simp)
        have EY : Hid (nxG 0 RN GN = Y ++ nxG 0 (RN.drop (k + 1)) (GN.drop (k + 1))) := hide (by
          rw [HNG.out, e5, List.drop_of_length_le (l := RN) (by rw [HLR.out]; omega), nxG_nil])
        clear e1 e4 e5 f1 hc hkm HNR HNG
        go_wp2_with (at_builtin; refine wpList_append_own_at _ rfl _ _ 22 rfl B 3 i0 (.int .i64 0) 1 8 Try.underlying22 hi hz0 hz1 hz2 rfl (by decide) _ _ _ rfl (HU.out.alloc _) ⟨wr.heap.size, 0, none⟩ 1 1 [.int .i64 ((q : Int) + (r : Int))] rfl rfl (cell_one_new _ _ _) (one_of_int _) (by unfold maxLen; omega) (by omega) (by simp; omega) ?_; intro v2 w2 hown2 hgrow2 _ hat2)
        go_roundw
        case rel =>
          obtain ⟨p1, p2⟩ := rows_next HV.out HA.out hgrow2 hat2
          have hsg := hgrow2.size
          rw [World.size_alloc] at hsg
          refine ⟨k + 1, 0, nb, X ++ [q + r], Y, by omega, by go_num, by go_num, by omega, by omega, ?_, hide p1, hide p2, EX, EY, hide ((HBW.out.alloc hsz _).grown hgrow2 (by simp; omega) (fun b e => (HU.out.lt b e).1)), by omega⟩
          rw [ni_snoc, List.map_append, show ((q + r : Nat) : Int) = (q : Int) + (r : Int) by omega]; exact hown2
        case measure => simp [Go.RowKit.intOf]; omega
    · have hkn : k = n := by omega
      obtain ⟨g, rfl, hc⟩ := HF.out (by omega)
      have c1 := (hc 0 (.int .i64 (R.headD 0)) (by rw [List.getElem?_map, HR0.out]; rfl)).1
      have hgB : g < B := by have := World.block_lt_of_cell? w _ c1; rw [HB.out] at this; exact this
      have c1 := (HBW.out.cell (p := ⟨g, 0, none⟩) hgB).trans c1
      have hX : nxR 0 RN GN = X := by rw [HNR.out, List.drop_of_length_le (l := RN) (by rw [HLR.out]; omega), nxR_nil, List.append_nil]
      have hY : nxG 0 RN GN = Y := by rw [HNG.out, List.drop_of_length_le (l := RN) (by rw [HLR.out]; omega), nxG_nil, List.append_nil]
      have HE : Hid (OK = wIn (st + R.headD 0) (ni X) (ni Y)) := hide (by rw [HE1.out, HWR.out.1, HWR.out.2.1, HWR.out.2.2, hX, hY])
      have HXX : Hid (wnR R G = ni X ∧ wnG R G = ni Y ∧ wnN st R = st + R.headD 0) := hide (by rw [HWR.out.1, HWR.out.2.1, HWR.out.2.2, hX, hY]; exact ⟨rfl, rfl, rfl⟩)
      obtain ⟨r0, hr0⟩ : ∃ r0, r0 = R.headD 0 := ⟨_, rfl⟩
      rw [← hr0] at c1 HE HXX
      have hr1 : 0 ≤ r0 ∧ r0 ≤ 120 := by
        have h := HR0.out
        rw [← hr0] at h
        obtain ⟨y, hy, hy2⟩ : ∃ y : Nat, RN[0]? = some y ∧ r0 = (y : Int) := by
          obtain ⟨y, hy⟩ : ∃ y, RN[0]? = some y := ⟨_, List.getElem?_eq_getElem (by rw [HLR.out]; omega)⟩
          have h2 := (HX.out _ _ hy).1
          rw [h] at h2
          injection h2 with h2
          exact ⟨y, hy, h2⟩
        have h3 := (HX.out _ _ hy).2
        omega
      obtain ⟨r1, r2⟩ := hr1
      have lX : X.length = k := by have := HU.out.1; rw [List.length_map, ni_length] at this; omega
      have lY : Y.length = nb := by have := HV.out.1; rw [List.length_map, ni_length] at this; omega
      have CW := hide (specWaveIn_any (st + r0) _ _ (ni X) (ni Y) wr (by rw [ni_length]; omega) (by rw [ni_length]; omega) (IntsV.of_owns HU.out) (IntsV.of_owns HV.out))
      have wk : IntKind.i64.wrap (st + r0) = st + r0 := by rw [IntKind.wrap_i64]; omega
      have i1 : (0 : Int) < (n : Int) := by omega
      clear hX hY hr0 hc HNR HNG HE1 HWR HR0 lX lY
      rw [← HE.out] at CW
      cases OK
      · go_wp2_with fail
        refine CW.out.mono ?_
        rintro e w' ⟨rfl, rfl⟩
        go_wp2_with fail
        (try simp only [Exit.inBlock, Exit.then]); refine bodyPost_ret (res4 rfl _ _ _) rfl ?_
        exact ⟨_, _, rfl, .inl ⟨_, _, rfl, rfl⟩, .inl ⟨_, _, rfl, rfl⟩, .nil, (HBW.out.alloc hsz _).alloc (by simp; omega) _⟩
      · go_wp2_with fail
        refine CW.out.mono ?_
        rintro e w' ⟨rfl, rfl⟩
        go_wp2_with fail
        (try simp only [Exit.inBlock, Exit.then]); refine bodyPost_ret (res4 rfl _ _ _) rfl ?_
        rw [HXX.out.1, HXX.out.2.1, HXX.out.2.2]
        exact ⟨_, _, rfl, IntsV.of_owns HU.out, IntsV.of_owns HV.out, .of_own HA.out, HBW.out⟩
end Go.Proofs.Ytlgceccbjkkeiab
