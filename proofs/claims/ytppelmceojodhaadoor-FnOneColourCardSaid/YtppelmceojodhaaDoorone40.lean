/- TEXTS Draw5, Col4, PCol3. -/
import Derived.Test.YtppelmceojodhaaDoorone03
import Derived.Test.YtppelmceojodhaaDoorone04
import Derived.Test.YtppelmceojodhaaDoorone35
import Derived.Maps.AppendAt
import Derived.Test.YtppelmceojodhaaDoorone07
import Derived.Test.YtppelmceojodhaaDoorone36
import Derived.Test.YtppelmceojodhaaDoorone28
import Derived.Test.YtppelmceojodhaaDoorone39
/- THE WALKS of the drawing of a row and a room. -/
namespace Go.Proofs.YtppelmceojodhaaDoor
open Go.RowKit

theorem ints_room {R : Nat} {w w' : World} {v : Value} {l : List Int} (h : IntsV (R + 1) w v l) (hg : w.grownBy w' (some R)) : IntsV (R + 1) w' v l := by
  rcases h with h | ⟨g, cap, rfl, h1, h2, h3, h4⟩
  · exact .inl h
  · exact .inr ⟨g, cap, rfl, h1, h2, Nat.lt_of_lt_of_le h3 hg.size, h4.grown hg (by omega)⟩
/-- what the drawing of a row and a room leaves -/
def DrawnGiven (w : World) (e : Ending) (w' : World) : Prop := ∃ (s : ByteArray) (n : Int), e = .returned (.tuple #[.string s, .int .i64 n]) ∧ s.size ≤ 300 ∧ -1 ≤ n ∧ n ≤ 201 ∧ Below w.heap.size w w'

set_option maxHeartbeats 400000 in
theorem DrawStepGreat_any (a : Option Addr) (len cap : Nat) (z : List Int) (w : World) (hlen : len ≤ 1048576) (hcap : len ≤ cap) (hb : Bytes w a len z) :
    Calls Tryd.prog 16 #[.slice a len cap] w (DrawnRow w) := by
  go_enter Tryd.func16, Tryd.ntmps16
  go_wp2_with fail
  refine (l6Open_any a len cap z w hlen hcap hb).mono ?_
  rintro e w1 ⟨rfl, hr, hb1, hz1⟩
  go_wp2_with fail
  refine (l91Row_any w1 w.heap.size a _ cap z 0 hr (by omega)).mono ?_
  rintro e w2 ⟨s, q, rfl, hs, hq, hr2, hb2, hz2⟩
  go_wp2_with fail
  go_ret
  exact ⟨s, rfl, hs, hb1.trans hb2⟩

/-- what the drawing of a row, a room and a number leaves -/
def DrawnMany (w : World) (e : Ending) (w' : World) : Prop := ∃ (s : ByteArray) (n m : Int), e = .returned (.tuple #[.string s, .int .i64 n, .int .i64 m]) ∧ s.size ≤ 300 ∧ -1 ≤ n ∧ n ≤ 201 ∧ -100 ≤ m ∧ m ≤ 100 ∧ Below w.heap.size w w'
theorem tdiv23 (v : Int) (h1 : 0 ≤ v) (h2 : v < 24) : 0 ≤ v.tdiv 23 ∧ v.tdiv 23 ≤ 1 := by
  rw [Int.tdiv_eq_ediv_of_nonneg h1]; omega

end Go.Proofs.YtppelmceojodhaaDoor

/- MOVES OF ONE COLOUR ALONE ARE THE STEP OF CHAPTER 2. Pure: no walk. -/
namespace Go.Proofs.YtppelmceojodhaaDoor
open Go.RowKit

/-- its own carrier is that of chapter 2, with room enough -/
theorem cMv_own {c : UInt8} (hc : c ≠ 48) (f : Nat → Bool) : ∀ n : Nat, n ≤ 300 → (∀ i, i ≤ n → ld 200 f i < 200) → cMv c (chC c ((List.range n).map f)) 0 = chC c (stpU 200 f n) ∧ cLd c (chC c ((List.range n).map f)) 0 = ld 200 f n
  | 0, _, _ => ⟨rfl, rfl⟩
  | n + 1, hn, h => by
    obtain ⟨h1, h2⟩ := cMv_own hc f n (by omega) (fun i hi => h i (by omega))
    have hl := h n (by omega)
    have e : chC c ((List.range (n + 1)).map f) = chC c ((List.range n).map f) ++ [if f n then c else 48] := by
      unfold chC
      rw [List.range_succ, List.map_append, List.map_append]
      rfl
    rw [e, cMv_append, cLd_append, h1, h2, stpU_succ, ld_succ]
    have eg : cg c (if f n then c else 48) (ld 200 f n) = (if tr 200 f n then c else 48, nx 200 (f n) (ld 200 f n)) := by
      unfold cg tr ot nx
      have h0 : ¬ (48 : UInt8) = c := fun h => hc h.symm
      cases f n
      · by_cases hu : 0 < ld 200 f n
        · simp [h0, hu]
        · have : ld 200 f n = 0 := by omega
          simp [h0, this]
      · simp [hl]
    refine ⟨?_, ?_⟩
    · show chC c (stpU 200 f n) ++ [(cg c _ _).1] = _
      rw [eg]
      unfold chC
      rw [List.map_append]
      rfl
    · show (cg c _ _).2 = _
      rw [eg]
theorem range_bx (b : List Bool) (m : Nat) (hm : b.length ≤ m) : (List.range m).map (bx b) = b ++ List.replicate (m - b.length) false := by
  refine List.ext_getElem? fun j => ?_
  rw [List.getElem?_map]
  by_cases hj : j < m
  · rw [List.getElem?_range hj]
    by_cases hb : j < b.length
    · rw [List.getElem?_append_left hb]
      show some (bx b j) = _
      unfold bx
      rw [List.getElem?_eq_getElem hb]
      rfl
    · rw [List.getElem?_append_right (by omega), List.getElem?_replicate, if_pos (by omega)]
      show some (bx b j) = _
      rw [bx_out b j (by omega)]
  · rw [List.getElem?_eq_none_iff.2 (by rw [List.length_range]; omega), List.getElem?_eq_none_iff.2 (by rw [List.length_append, List.length_replicate]; omega)]
    rfl
theorem padN_chC (c : UInt8) (b : List Bool) : padN (chC c b) = chC c ((List.range (2 * b.length + 1)).map (bx b)) := by
  rw [range_bx b _ (by omega)]
  unfold padN chC
  rw [List.map_append, List.map_replicate, List.length_map, show 2 * b.length + 1 - b.length = b.length + 1 by omega]
  simp
theorem ld_small {b : List Bool} (h : b.length ≤ 120) (i : Nat) : ld 200 (bx b) i < 200 := by
  have h1 := ld_le_cn 200 (bx b) i
  have h2 : cn (bx b) i ≤ b.length := by
    by_cases hi : i ≤ b.length
    · exact Nat.le_trans (cn_le (bx b) i) hi
    · obtain ⟨j, rfl⟩ : ∃ j, i = b.length + j := ⟨i - b.length, by omega⟩
      rw [cn_tail (fun k hk => bx_out b k hk)]
      exact cn_le (bx b) b.length
  omega
theorem mv_own {c : UInt8} (hc : c ≠ 48) (b : List Bool) (h : b.length ≤ 120) : mv1 c (chC c b) = chC c (cut (stp 200 b)) := by
  unfold mv1
  rw [padN_chC, (cMv_own hc (bx b) (2 * b.length + 1) (by omega) (fun i _ => ld_small h i)).1, cz_chC hc]
  congr 1
  apply cut_ext
  intro i
  have hf := fin_le 200 b
  rw [bx_stp]
  by_cases hi : i < 2 * b.length + 1
  · exact bx_some _ i _ (by unfold stpU; rw [List.getElem?_map, List.getElem?_range hi]; rfl)
  · rw [bx_out _ i (by rw [stpU_length]; omega)]
    have := tr_end (K := 200) (f := bx b) (n := b.length) (fun k hk => bx_out b k hk) i (by omega)
    exact this.symm
/-- P40: one colour alone -/
theorem one_colour {c : UInt8} (hc : c = 49 ∨ c = 51) {b : List Bool} (h : b.length ≤ 120) (hl : tl (stp 200 b) ≤ 120) : stepL (chC c b) = some (chC c (cut (stp 200 b))) := by
  obtain ⟨r, hr⟩ : ∃ r, r = cut (stp 200 b) := ⟨_, rfl⟩
  have hrl : (chC c r).length ≤ 120 := by rw [chC_length, hr, cut_length]; exact hl
  have hcr : cut r = r := by rw [hr, cut_cut]
  rw [← hr]
  rcases hc with rfl | rfl
  · have e1 : mv1 49 (chC 49 b) = chC 49 r := by rw [mv_own n49 b h, hr]
    have e2 : mv1 50 (chC 49 r) = chC 49 r := by rw [mv_by (by decide) n50, cz_chC n49, hcr]
    have e3 : mv1 51 (chC 49 r) = chC 49 r := by rw [mv_by (by decide) n51, cz_chC n49, hcr]
    exact (bind_of (mvO_ok e1 hrl)).trans ((bind_of (mvO_ok e2 hrl)).trans (mvO_ok e3 hrl))
  · have hb : (cut b).length ≤ 120 := by rw [cut_length]; exact Nat.le_trans (tl_le b) h
    have hbl : (chC 51 (cut b)).length ≤ 120 := by rw [chC_length]; exact hb
    have hst : cut (stp 200 (cut b)) = cut (stp 200 b) := cut_ext (fun i => by rw [bx_stp, bx_stp, bx_fun_cut])
    have e1 : mv1 49 (chC 51 b) = chC 51 (cut b) := by rw [mv_by (by decide) n49, cz_chC n51]
    have e2 : mv1 50 (chC 51 (cut b)) = chC 51 (cut b) := by rw [mv_by (by decide) n50, cz_chC n51, cut_cut]
    have e3 : mv1 51 (chC 51 (cut b)) = chC 51 r := by rw [mv_own n51 _ hb, hst, hr]
    exact (bind_of (mvO_ok e1 hbl)).trans ((bind_of (mvO_ok e2 hbl)).trans (mvO_ok e3 hrl))
end Go.Proofs.YtppelmceojodhaaDoor

/- THE WALK of the law FnOneColour. -/
namespace Go.Proofs.YtppelmceojodhaaDoor
open Go.RowKit

theorem lst_vld {s : ByteArray} (h : vld s = true) : lst s = chC 49 (bits s) := by
  have h1 := vld_sgn s h
  unfold allSgn at h1
  rw [List.all_eq_true] at h1
  unfold lst bits chC
  rw [List.map_map]
  have e : s.data.toList.map ((fun b => if b = true then (49 : UInt8) else 48) ∘ fun x => x == 49) = s.data.toList.map id := by
    refine List.map_congr_left (fun x hx => ?_)
    have hs := h1 x hx
    unfold sgn at hs
    rw [Bool.or_eq_true, beq_iff_eq, beq_iff_eq] at hs
    rcases hs with rfl | rfl <;> rfl
  rw [e, List.map_id]
theorem bits_length' (s : ByteArray) : (bits s).length = s.size := length_bits s
theorem chC_push (c : UInt8) (l : List Bool) (k : Nat) (b : Bool) (h : l[k]? = some b) : chC c (l.take (k + 1)) = chC c (l.take k) ++ [if b then c else 48] := by
  obtain ⟨hk, he⟩ := List.getElem?_eq_some_iff.1 h
  rw [List.take_succ_eq_append_getElem hk, he]; simp [chC]

set_option maxHeartbeats 1000000 in
theorem threes_any (t : ByteArray) (w : World) (ht : t.size ≤ 1000) :
    Calls Tryd.prog 19 #[.string t] w fun e w' => e = .returned (.string (ofL (chC 51 (bits t)))) ∧ w = w' := by
  go_enter Tryd.func19, Tryd.ntmps19
  go_wp2
  go_loop [3, 4] (fun u i => ∃ (x : ByteArray) (k : Nat), k ≤ t.size ∧ u = .string x ∧ i = .int .i64 (k : Int) ∧ x.size ≤ k ∧ Hid (lst x = chC 51 ((bits t).take k))) (fun _ i => t.size - (Go.RowKit.intOf i).toNat)
  case atStart => exact ⟨⟨#[]⟩, 0, Nat.zero_le _, rfl, rfl, Nat.zero_le _, rfl⟩
  case round =>
    obtain ⟨x, k, hk, rfl, rfl, hxk, HX⟩ := hrel
    by_cases hlt : k < t.size
    · have HG := hide (chC_push 51 (bits t) k _ (bits_getElem t k hlt))
      have hbi := bit_int t[k]
      cases hb : ((t[k].toNat : Int) == 49)
      · rw [hb] at hbi
        have HP : Hid (lst (x ++ ⟨#[48]⟩) = chC 51 ((bits t).take (k + 1))) := by
          show _ = _
          rw [lst_push, HX.out, HG.out, hbi]
          rfl
        clear hbi
        go_wp2
        go_round
        case rel => exact ⟨_, k + 1, by omega, rfl, by go_num, by rw [ByteArray.size_append]; show x.size + 1 ≤ k + 1; omega, HP⟩
        case measure => simp [Go.RowKit.intOf]; omega
      · rw [hb] at hbi
        have HP : Hid (lst (x ++ ⟨#[51]⟩) = chC 51 ((bits t).take (k + 1))) := by
          show _ = _
          rw [lst_push, HX.out, HG.out, hbi]
          rfl
        clear hbi
        go_wp2
        go_round
        case rel => exact ⟨_, k + 1, by omega, rfl, by go_num, by rw [ByteArray.size_append]; show x.size + 1 ≤ k + 1; omega, HP⟩
        case measure => simp [Go.RowKit.intOf]; omega
    · have hkn : k = t.size := by omega
      have hx2 := HX.out
      rw [List.take_of_length_le (by rw [length_bits]; omega)] at hx2
      have HF : Hid (x = ofL (chC 51 (bits t))) := by show _ = _; rw [← hx2, ofL_lst]
      clear hx2
      go_wp2
      go_ret
      exact ⟨ret_string HF.out, rfl⟩

/-- P40 in texts -/
theorem one_S {s : ByteArray} (h : stOk s 200 = true) : csOk s = true ∧ csS s = stS s 200 ∧
    csOk (ofL (chC 51 (bits s))) = true ∧ csS (ofL (chC 51 (bits s))) = ofL (chC 51 (bits (stS s 200))) := by
  have hv : vld s = true := by unfold stOk at h; simp at h; exact h.1.1
  have h120 := vld_le s hv
  have hb : (bits s).length ≤ 120 := by rw [length_bits]; exact h120
  have hl : tl (stp 200 (bits s)) ≤ 120 := stOk_le h
  have hl1 := lst_vld hv
  have hbs : bits (stS s 200) = cut (stp 200 (bits s)) := bits_stS h
  have o1 := one_colour (.inl rfl) hb hl
  have o2 := one_colour (.inr rfl) hb hl
  have sg1 : ∀ (c : UInt8), sg3 c = true → ∀ x ∈ chC c (bits s), sg3 x = true := by
    intro c hc x hx
    unfold chC at hx
    rw [List.mem_map] at hx
    obtain ⟨b, _, rfl⟩ := hx
    cases b
    · exact (by decide : sg3 48 = true)
    · exact hc
  have i1 : cIn s = true := (cIn_iff s).2 ⟨by rw [hl1]; exact sg1 49 (by decide), h120⟩
  have i2 : cIn (ofL (chC 51 (bits s))) = true := cIn_ofL (sg1 51 (by decide)) (by rw [chC_length]; exact hb)
  rw [← hl1] at o1
  have e1 : csOk s = true := by unfold csOk; rw [i1, o1]; rfl
  have e2 : csOk (ofL (chC 51 (bits s))) = true := by unfold csOk; rw [i2, lst_ofL, o2]; rfl
  refine ⟨e1, ?_, e2, ?_⟩
  · unfold csS
    rw [if_pos e1, o1]
    unfold stS
    rw [if_pos h]
    rfl
  · unfold csS
    rw [if_pos e2, lst_ofL, o2, hbs]
    rfl

set_option maxHeartbeats 2000000 in
theorem walkFnOneColour {w : World} (a : Option Addr) (len cap : Nat) (z : List Int) (hr : IsRow .u8 w a len cap z) :
    Calls Tryd.prog 5 #[.slice a len cap] w fun e w' => e = .returned (.bool true) ∧ Below w.heap.size w w' := by
  have hcap := hr.le
  have hmax := hr.max
  unfold maxLen at hmax
  by_cases hbig : 1048576 < len
  · go_enter Tryd.func5, Tryd.ntmps5
    go_wp2
    go_ret
    exact ⟨rfl, Below.refl _ _⟩
  · have D := hide (DrawStepGreat_any a len cap z w (by omega) hcap hr.bytes)
    clear hr
    go_enter Tryd.func5, Tryd.ntmps5
    go_wp2_with fail
    refine D.out.mono ?_
    rintro e w1 ⟨s, rfl, hs, hb1⟩
    have hs' : s.size ≤ maxLen := by unfold maxLen; omega
    have C1 := hide (fun w => implStepGreat_any s w hs')
    have C0 := hide (fun w => specStepGreat_any s w hs')
    cases hk : stOk s 200
    · rw [hk] at C0 C1
      obtain ⟨x, ex⟩ : ∃ x, x = stS s 200 := ⟨_, rfl⟩
      rw [← ex] at C0 C1
      clear ex hk
      go_wp2_with fail
      refine (C1.out _).mono ?_
      rintro e w2 ⟨rfl, hb2⟩
      go_wp2_with fail
      refine (C0.out _).mono ?_
      rintro e w3 ⟨rfl, hb3⟩
      go_wp2_with fail
      go_ret
      have b2 := hb1.trans (hb2.mono hb1.size)
      exact ⟨rfl, b2.trans (hb3.mono b2.size)⟩
    · obtain ⟨o1, o2, o3, o4⟩ := one_S hk
      have hst := stS_size s 200
      have hlen : (ofL (chC 51 (bits s))).size ≤ maxLen := by rw [ofL_size, chC_length, length_bits]; exact hs'
      have A1 := hide (fun w => implColourStep_any s w hs')
      have A2 := hide (fun w => implColourStep_any (ofL (chC 51 (bits s))) w hlen)
      have T1 := hide (fun w => threes_any s w (by omega))
      have T2 := hide (fun w => threes_any (stS s 200) w (by omega))
      rw [o1, o2] at A1
      rw [o3, o4] at A2
      rw [hk] at C0 C1
      obtain ⟨x, ex⟩ : ∃ x, x = stS s 200 := ⟨_, rfl⟩
      rw [← ex] at C0 C1 A1 A2 T2
      obtain ⟨y, ey⟩ : ∃ y, y = ofL (chC 51 (bits s)) := ⟨_, rfl⟩
      obtain ⟨y2, ey2⟩ : ∃ y, y = ofL (chC 51 (bits x)) := ⟨_, rfl⟩
      rw [← ey] at A2 T1
      rw [← ey2] at A2 T2
      clear ex ey ey2 o1 o2 o3 o4 hst hlen hk
      go_wp2_with fail
      refine (C1.out _).mono ?_
      rintro e w2 ⟨rfl, hb2⟩
      have g2 := hb1.trans (hb2.mono hb1.size)
      go_wp2_with fail
      refine (C0.out _).mono ?_
      rintro e w3 ⟨rfl, hb3⟩
      have g3 := g2.trans (hb3.mono g2.size)
      go_wp2_with fail
      refine (A1.out _).mono ?_
      rintro e w4 ⟨rfl, hb4⟩
      have g4 := g3.trans (hb4.mono g3.size)
      go_wp2_with fail
      refine (T1.out _).mono ?_
      rintro e w5 ⟨rfl, rfl⟩
      go_wp2_with fail
      refine (A2.out _).mono ?_
      rintro e w5 ⟨rfl, hb5⟩
      have g5 := g4.trans (hb5.mono g4.size)
      go_wp2_with fail
      refine (T2.out _).mono ?_
      rintro e w6 ⟨rfl, rfl⟩
      go_wp2_with fail
      go_ret
      exact ⟨rfl, g5⟩
end Go.Proofs.YtppelmceojodhaaDoor
