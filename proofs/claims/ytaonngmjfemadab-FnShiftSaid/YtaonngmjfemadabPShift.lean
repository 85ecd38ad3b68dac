/- THE WALK of the law FnShift: shifted rows have shifted balls. -/
import Derived.Test.YtaonngmjfemadabPBalls
namespace Go.Proofs.Ytaonngmjfemadab
open Go.RowKit

theorem pos_pre (n : Nat) (m : List Bool) : pos (List.replicate n false ++ m) = (pos m).map (n + ·) := by
  unfold pos posU
  rw [List.length_append, List.length_replicate, List.range_add, List.filter_append]
  have h1 : (List.range n).filter (fun j => (List.replicate n false ++ m)[j]?.getD false) = [] := by
    rw [List.filter_eq_nil_iff]
    intro a ha
    have : a < n := by simpa using ha
    rw [List.getElem?_append_left (by simpa using this), List.getElem?_replicate]; simp [this]
  rw [h1, List.nil_append, List.filter_map]
  congr 1
  apply List.filter_congr
  intro j hj
  show (List.replicate n false ++ m)[n + j]?.getD false = _
  rw [List.getElem?_append_right (by simp), List.length_replicate, Nat.add_sub_cancel_left]
theorem posI_shB (n : Nat) (l : List Bool) : posI (shB n l) = (posI l).map fun x => x + (n : Int) := by
  unfold posI shB
  rw [pos_pre, pos_cut, List.map_map, List.map_map]
  apply List.map_congr_left
  intro j _
  show ((n + j : Nat) : Int) = (j : Int) + (n : Int)
  omega
theorem atR_shS (s : ByteArray) (n : Int) (h : shOk s n = true) : atR (shS s n) = (atR s).map fun x => x + n := by
  have hv : vld s = true := by unfold shOk at h; simp at h; exact h.1.1
  have hn : 0 ≤ n := by unfold shOk at h; simp at h; exact h.1.2
  obtain ⟨h1, h2⟩ := shS_facts s n h
  unfold atR
  rw [h1, hv, if_pos rfl, if_pos rfl, h2]
  by_cases h0 : tl (bits s) = 0
  · rw [if_pos h0]
    have e : posI (bits s) = [] := by
      unfold posI; rw [← pos_cut]
      have : cut (bits s) = [] := by unfold cut; rw [h0]; rfl
      rw [this]; rfl
    rw [e]; rfl
  · rw [if_neg h0, posI_shB]
    apply List.map_congr_left
    intro x _
    omega

/-- what the drawing of a row and a number leaves -/
def DrawnRowN (w : World) (e : Ending) (w' : World) : Prop := ∃ (s : ByteArray) (n : Int), e = .returned (.tuple #[.string s, .int .i64 n]) ∧ s.size ≤ 300 ∧ -1000 ≤ n ∧ n ≤ 1000 ∧ Below w.heap.size w w'
theorem tdiv15 (v : Int) (h1 : -16 < v) (h2 : v < 16) : -1 ≤ v.tdiv 15 ∧ v.tdiv 15 ≤ 1 := by
  rcases Int.lt_or_le v 0 with h | h
  · have e : v = -(-v) := by omega
    have h3 : (-v).tdiv 15 = (-v) / 15 := Int.tdiv_eq_ediv_of_nonneg (by omega)
    rw [e, Int.neg_tdiv, h3]; omega
  · rw [Int.tdiv_eq_ediv_of_nonneg h]; omega

set_option maxHeartbeats 1000000 in
theorem DrawRowShift_any (a : Option Addr) (len cap : Nat) (z : List Int) (w : World) (hlen : len ≤ 1048576) (hcap : len ≤ cap) (hb : Bytes w a len z) :
    Calls Try.prog 22 #[.slice a len cap] w (DrawnRowN w) := by
  go_enter Try.func22, Try.ntmps22
  go_wp2_with fail
  refine (l6Open_any a len cap z w hlen hcap hb).mono ?_
  rintro e w1 ⟨rfl, hr, hb1, hz1⟩
  go_wp2_with fail
  refine (l91Row_any w1 w.heap.size a _ cap z 0 hr (by omega)).mono ?_
  rintro e w2 ⟨s, q, rfl, hs, hq, hr2, hb2, hz2⟩
  go_wp2_with fail
  refine (pick_any w2 w.heap.size a _ cap z q 9 hr2 (by omega) (by omega) (by omega)).mono ?_
  rintro e w3 ⟨v1, rfl, a1, a2, hr3, hb3, hz3⟩
  go_wp2_with fail
  refine (pick_any w3 w.heap.size a _ cap z (q + 1) 16 hr3 (by omega) (by omega) (by omega)).mono ?_
  rintro e w4 ⟨v2, rfl, a3, a4, hr4, hb4, hz4⟩
  obtain ⟨t1, t2⟩ := tdiv15 v2 a3 a4
  go_wp2_with fail
  refine (pick_any w4 w.heap.size a _ cap z (q + 1 + 1) 16 hr4 (by omega) (by omega) (by omega)).mono ?_
  rintro e w5 ⟨v3, rfl, a5, a6, hr5, hb5, hz5⟩
  obtain ⟨t3, t4⟩ := tdiv15 v3 a5 a6
  go_wp2_with fail
  go_ret2
  exact ⟨s, _, rfl, hs, by omega, by omega, (((hb1.trans hb2).trans hb3).trans hb4).trans hb5⟩

/-- a value that is a slice of these numbers: its length; and its cells, where there are any -/
theorem IntsV.form {lo : Nat} {w : World} {v : Value} {l : List Int} (h : IntsV lo w v l) : ∃ a c, v = .slice a l.length c ∧ (0 < l.length → ∃ g, a = some ⟨g, 0, none⟩ ∧ CellsAt w g (l.map (.int .i64))) := by
  rcases h with ⟨a, c, rfl, rfl⟩ | ⟨g, c, rfl, _, _, _, hc⟩
  · exact ⟨a, c, rfl, fun h => by simp at h⟩
  · exact ⟨_, _, rfl, fun _ => ⟨g, rfl, hc⟩⟩

set_option maxRecDepth 100000 in
set_option maxHeartbeats 2000000 in
theorem walkFnShift {w : World} (a : Option Addr) (len cap : Nat) (z : List Int) (hr : IsRow .u8 w a len cap z) :
    Calls Try.prog 8 #[.slice a len cap] w fun e w' => e = .returned (.bool true) ∧ Below w.heap.size w w' := by
  have hcap := hr.le
  have hmax := hr.max
  unfold maxLen at hmax
  by_cases hbig : 1048576 < len
  · go_enter Try.func8, Try.ntmps8
    go_wp2
    go_ret
    exact ⟨rfl, Below.refl _ _⟩
  · have D := hide (DrawRowShift_any a len cap z w (by omega) hcap hr.bytes)
    clear hr
    go_enter Try.func8, Try.ntmps8
    go_wp2_with fail
    refine D.out.mono ?_
    rintro e w1 ⟨s, m, rfl, hs, hm1, hm2, hb1⟩
    have hs' : s.size ≤ maxLen := by unfold maxLen; omega
    have hwf : (Lit.int .i64 m).wf = true := WalkArith.wf_i64 (by omega)
    have C1 := hide (fun w => implRowShift_any s m w hs' hwf)
    have C0 := hide (fun w => specRowShift_any s m w hs' hwf)
    cases hk : shOk s m
    · rw [hk] at C0 C1
      obtain ⟨x, hx⟩ : ∃ x, x = shS s m := ⟨_, rfl⟩
      rw [← hx] at C0 C1
      clear hk hx
      go_wp2_with fail
      refine (C1.out _).mono ?_
      rintro e w2 ⟨rfl, hb2⟩
      go_wp2_with fail
      refine (C0.out _).mono ?_
      rintro e w3 ⟨rfl, rfl⟩
      go_wp2_with fail
      go_ret
      exact ⟨rfl, hb1.trans (hb2.mono hb1.size)⟩
    · have hv : vld s = true := by unfold shOk at hk; simp at hk; exact hk.1.1
      have hm0 : 0 ≤ m := by unfold shOk at hk; simp at hk; exact hk.1.2
      have A := hide (fun w => implRowAt_any s w hs')
      have A2 := hide (fun w => implRowAt_any (shS s m) w (by have := shS_le s m; unfold maxLen; omega))
      have hal := atR_len s
      have hbd : ∀ (k : Nat) (x : Int), (atR s)[k]? = some x → 0 ≤ x ∧ x ≤ 1000 := by
        intro k x hx
        unfold atR at hx
        rw [hv, if_pos rfl] at hx
        unfold posI at hx
        rw [List.getElem?_map] at hx
        obtain ⟨j, hj, rfl⟩ := Option.map_eq_some_iff.1 hx
        have h1 := List.mem_of_getElem? hj
        unfold pos posU at h1
        have h2 := (List.mem_filter.1 h1).1
        rw [List.mem_range, length_bits] at h2
        have := vld_le s hv
        omega
      have HBD := hide hbd
      clear hbd
      rw [hk] at C0 C1
      rw [hv] at A
      rw [(shS_facts s m hk).1, atR_shS s m hk] at A2
      obtain ⟨x, hx⟩ : ∃ x, x = shS s m := ⟨_, rfl⟩
      obtain ⟨l, hl⟩ : ∃ l, l = atR s := ⟨_, rfl⟩
      rw [← hx] at C0 C1 A2
      rw [← hl] at A A2 hal HBD
      clear hk hx hv hl hwf
      go_wp2_with fail
      refine (C1.out _).mono ?_
      rintro e w2 ⟨rfl, hb2⟩
      have b2 := hb1.trans (hb2.mono hb1.size)
      go_wp2_with fail
      refine (C0.out _).mono ?_
      rintro e w3 ⟨rfl, rfl⟩
      go_wp2_with fail
      refine (A.out _).mono ?_
      rintro e w3 ⟨v3, rfl, hi3, hb3⟩
      have b3 := b2.trans (hb3.mono b2.size)
      go_wp2_with fail
      refine (A2.out _).mono ?_
      rintro e w4 ⟨v4, rfl, hi4, hb4⟩
      have b4 := b3.trans (hb4.mono b3.size)
      obtain ⟨a3, c3, rfl, h3⟩ := (hi3.below hb4 (Nat.le_refl _)).form
      obtain ⟨a4, c4, rfl, h4⟩ := hi4.form
      rw [List.length_map] at h4 ⊢
      have H3 := hide h3
      have H4 := hide h4
      obtain ⟨n, hn⟩ : ∃ n, n = l.length := ⟨_, rfl⟩
      rw [← hn] at H3 H4 hal ⊢
      have HN := hide hn
      clear hi3 hi4 h3 h4 hn hb3 hb4 hb2 hb1
      by_cases hn0 : n = 0
      · subst hn0
        go_wp2_with fail
        go_loopw [13] (fun i wr => i = .int .i64 0 ∧ Hid (w4 = wr)) (fun _ _ => 0)
        case atStart => exact ⟨rfl, rfl⟩
        case round =>
          obtain ⟨rfl, HQ⟩ := hrel
          have hw := HQ.out
          subst hw
          go_wp2_with fail
          go_ret
          exact ⟨rfl, b4⟩
      · obtain ⟨g3, rfl, hc3⟩ := H3.out (by omega)
        obtain ⟨g4, rfl, hc4⟩ := H4.out (by omega)
        have HC3 := hide hc3
        have HC4 := hide hc4
        clear hc3 hc4 H3 H4
        go_wp2_with fail
        go_loopw [13] (fun i wr => ∃ k : Nat, k ≤ n ∧ i = .int .i64 (k : Int) ∧ Hid (Quiet w4 wr)) (fun i _ => n - (intOf i).toNat)
        case atStart => exact ⟨0, Nat.zero_le _, rfl, Quiet.refl _⟩
        case round =>
          obtain ⟨k, hkn, rfl, HQ⟩ := hrel
          by_cases hltk : k < n
          · obtain ⟨y, hy⟩ : ∃ y, l[k]? = some y := ⟨_, List.getElem?_eq_getElem (by rw [← HN.out]; omega)⟩
            have q1 := ((HQ.out.cells HC3.out) k (.int .i64 y) (by simp [hy])).1
            have q2 := ((HQ.out.cells HC4.out) k (.int .i64 (y + m)) (by simp [hy])).1
            obtain ⟨y0, y1⟩ := HBD.out k y hy
            have i0 : (0 : Int) ≤ (k : Int) := by omega
            have i1 : (k : Int) < (n : Int) := by omega
            have wr1 : IntKind.i64.wrap (y + m) = y + m := IntWalk.i64_in _ (by omega)
            have hne : (y + m != y + m) = false := by simp
            clear hy
            go_wp2
            go_quiet (fail)
            go_wp2
            go_roundw
            case rel => exact ⟨k + 1, by omega, by go_num, HQ.out.trans (Quiet.drewN _)⟩
            case measure => simp [intOf]; omega
          · obtain rfl : k = n := by omega
            go_wp2_with fail
            go_ret
            exact ⟨rfl, b4.trans (HQ.out.2 _)⟩
end Go.Proofs.Ytaonngmjfemadab
