/- THE WALK of the law FnTurned: turned rows are as often turned as one likes. -/
import Derived.Test.YtaonngmjfemadabPBalls
import Derived.Test.YtaonngmjfemadabRowTurned
namespace Go.Proofs.Ytaonngmjfemadab
open Go.RowKit

theorem cut_rep (n : Nat) : cut (List.replicate n false) = [] := by unfold cut; rw [tl_rep]; rfl
theorem cut_rev_turn (l : List Bool) : cut (turnB l).reverse = (turnB l).reverse := by
  obtain ⟨k, hk⟩ := cut_eq (cut l).reverse
  have hm : cut (cut l).reverse = turnB l := rfl
  rw [hm] at hk
  have hr : cut l = List.replicate k false ++ (turnB l).reverse := by
    have := congrArg List.reverse hk
    rwa [List.reverse_reverse, List.reverse_append, List.reverse_replicate] at this
  have hc : cut (turnB l) = turnB l := cut_cut _
  by_cases h0 : tl (turnB l).reverse = 0
  · have he : cut (turnB l).reverse = [] := by unfold cut; rw [h0]; rfl
    obtain ⟨n, hn⟩ := cut_eq (turnB l).reverse
    rw [he, List.nil_append] at hn
    have h2 : turnB l = List.replicate n false := by
      have := congrArg List.reverse hn
      rwa [List.reverse_reverse, List.reverse_replicate] at this
    have h3 : turnB l = [] := by rw [← hc, h2, cut_rep]
    rw [h3]; rfl
  · have h1 := cut_pre k (turnB l).reverse h0
    rw [← hr, cut_cut] at h1
    unfold shB at h1
    rw [hr] at h1
    exact (List.append_cancel_left h1).symm
theorem turn_turn (l : List Bool) : turnB (turnB (turnB l)) = turnB l := by
  have hc : cut (turnB l) = turnB l := cut_cut _
  have h1 : turnB (turnB l) = (turnB l).reverse := by
    have : turnB (turnB l) = cut (cut (turnB l)).reverse := rfl
    rw [this, hc, cut_rev_turn]
  rw [h1]
  have : turnB (turnB l).reverse = cut (cut (turnB l).reverse).reverse := rfl
  rw [this, cut_rev_turn, List.reverse_reverse, hc]
theorem nballs_turn (l : List Bool) : nballs (turnB l) = nballs l := by
  unfold turnB
  rw [nballs_cut]
  have : nballs (cut l).reverse = nballs (cut l) := by unfold nballs; rw [List.count_reverse]
  rw [this, nballs_cut]
theorem turnB_le (l : List Bool) : (turnB l).length ≤ l.length := by
  unfold turnB
  have h1 := tl_le (cut l).reverse
  have h2 := tl_le l
  rw [cut_length]
  rw [List.length_reverse, cut_length] at h1
  omega

set_option maxHeartbeats 1000000 in
theorem walkFnTurned {w : World} (a : Option Addr) (len cap : Nat) (z : List Int) (hr : IsRow .u8 w a len cap z) :
    Calls Try.prog 7 #[.slice a len cap] w fun e w' => e = .returned (.bool true) ∧ Below w.heap.size w w' := by
  have hcap := hr.le
  have hmax := hr.max
  unfold maxLen at hmax
  by_cases hbig : 1048576 < len
  · go_enter Try.func7, Try.ntmps7
    go_wp2
    go_ret
    exact ⟨rfl, Below.refl _ _⟩
  · have D := hide (DrawRowTurned_any a len cap z w (by omega) hcap hr.bytes)
    clear hr
    go_enter Try.func7, Try.ntmps7
    go_wp2_with fail
    refine D.out.mono ?_
    rintro e w1 ⟨s, rfl, hs, hb1⟩
    have hs' : s.size ≤ maxLen := by unfold maxLen; omega
    have C1 := hide (fun w => implRowTurned_any s w hs')
    have C0 := hide (fun w => specRowTurned_any s w hs')
    cases hv : vld s
    · rw [hv] at C0 C1
      clear hv
      go_wp2_with (first | (go_at_call 16; refine (C1.out _).mono ?_; rintro e w2 ⟨rfl, hb2⟩) | (go_at_call 15; refine (C0.out _).mono ?_; rintro e w' ⟨rfl, rfl⟩))
      go_ret
      exact ⟨rfl, hb1.trans (hb2.mono hb1.size)⟩
    · have h120 := vld_le s hv
      have hl1 : (turnB (bits s)).length ≤ 120 := by have := turnB_le (bits s); rw [length_bits] at this; omega
      have hl2 : (turnB (turnB (bits s))).length ≤ 120 := by have := turnB_le (turnB (bits s)); omega
      have e0 : turnS s = ofBits (turnB (bits s)) := by unfold turnS; rw [hv]; rfl
      have v1 := vld_ofBits _ hl1
      have v2 := vld_ofBits _ hl2
      have e1 : turnS (ofBits (turnB (bits s))) = ofBits (turnB (turnB (bits s))) := by unfold turnS; rw [v1, bits_ofBits]; rfl
      have e2 : turnS (ofBits (turnB (turnB (bits s)))) = ofBits (turnB (bits s)) := by unfold turnS; rw [v2, bits_ofBits, turn_turn]; rfl
      have z1 : (ofBits (turnB (bits s))).size ≤ maxLen := by have := vld_le _ v1; unfold maxLen; omega
      have z2 : (ofBits (turnB (turnB (bits s)))).size ≤ maxLen := by have := vld_le _ v2; unfold maxLen; omega
      have X := hide (fun w => implRowTurned_any (ofBits (turnB (bits s))) w z1)
      have Y := hide (fun w => implRowTurned_any (ofBits (turnB (turnB (bits s)))) w z2)
      have B := hide (fun w => implRowBalls_any s w hs')
      have B2 := hide (fun w => implRowBalls_any (ofBits (turnB (bits s))) w z1)
      rw [hv, e0] at C0 C1
      rw [v1, e1] at X
      rw [v2, e2] at Y
      rw [hv] at B
      rw [v1, bits_ofBits, nballs_turn] at B2
      simp only [if_true] at B B2
      obtain ⟨x, hx⟩ : ∃ x, x = ofBits (turnB (bits s)) := ⟨_, rfl⟩
      obtain ⟨y, hy⟩ : ∃ y, y = ofBits (turnB (turnB (bits s))) := ⟨_, rfl⟩
      obtain ⟨m, hm⟩ : ∃ m, m = nballs (bits s) := ⟨_, rfl⟩
      rw [← hx] at C0 C1 X Y B2
      rw [← hy] at X Y
      rw [← hm] at B B2
      clear hx hy hm e0 e1 e2 v1 v2 z1 z2 hl1 hl2 hv
      go_wp2_with fail
      refine (C1.out _).mono ?_
      rintro e w2 ⟨rfl, hb2⟩
      have b2 := hb1.trans (hb2.mono hb1.size)
      go_wp2_with fail
      refine (C0.out _).mono ?_
      rintro e w3 ⟨rfl, rfl⟩
      go_wp2_with fail
      refine (X.out _).mono ?_
      rintro e w4 ⟨rfl, hb4⟩
      have b4 := b2.trans (hb4.mono b2.size)
      go_wp2_with fail
      refine (Y.out _).mono ?_
      rintro e w5 ⟨rfl, hb5⟩
      have b5 := b4.trans (hb5.mono b4.size)
      go_wp2_with fail
      refine (B2.out _).mono ?_
      rintro e w6 ⟨rfl, hb6⟩
      have b6 := b5.trans (hb6.mono b5.size)
      go_wp2_with fail
      refine (B.out _).mono ?_
      rintro e w7 ⟨rfl, hb7⟩
      go_wp2_with fail
      go_ret
      exact ⟨rfl, b6.trans (hb7.mono b6.size)⟩
end Go.Proofs.Ytaonngmjfemadab
