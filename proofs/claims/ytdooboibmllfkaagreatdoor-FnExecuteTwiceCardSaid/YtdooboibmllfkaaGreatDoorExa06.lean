/- TEXTS RowShift, Step1, Step2. -/
import Derived.Test.YtdooboibmllfkaaGreatDoorExa04
import Derived.Test.YtdooboibmllfkaaGreatDoorExa05
import Derived.Test.YtdooboibmllfkaaGreatDoorExa01
namespace Go.Proofs.YtdooboibmllfkaaGreatDoor
set_option maxRecDepth 100000
open Go.RowKit

theorem tl_rep (n : Nat) : tl (List.replicate n false) = 0 := by
  have := tl_pad [] n; simpa [tl_nil] using this
theorem tl_pre (n : Nat) (l : List Bool) : tl (List.replicate n false ++ l) = if tl l = 0 then 0 else n + tl l := by
  have g : ∀ m : List Bool, tl (List.replicate n false ++ m.reverse) = if tl m.reverse = 0 then 0 else n + tl m.reverse := by
    intro m
    induction m with
    | nil => simp [tl_rep, tl_nil]
    | cons b m ih =>
      rw [List.reverse_cons, ← List.append_assoc, tl_snoc, tl_snoc]
      cases b
      · simpa using ih
      · simp; omega
  have := g l.reverse
  rwa [List.reverse_reverse] at this
def shB (n : Nat) (l : List Bool) : List Bool := List.replicate n false ++ cut l
theorem shB_length (n : Nat) (l : List Bool) : (shB n l).length = n + tl l := by simp [shB, cut_length]
theorem cut_pre (n : Nat) (l : List Bool) (h : tl l ≠ 0) : cut (List.replicate n false ++ l) = shB n l := by
  have e : cut (List.replicate n false ++ l) = (List.replicate n false ++ l).take (tl (List.replicate n false ++ l)) := rfl
  rw [e, tl_pre, if_neg h, List.take_append, List.take_of_length_le (by simp)]
  simp [shB, cut]
theorem cut_shB (n : Nat) (l : List Bool) (h : tl l ≠ 0) : cut (shB n l) = shB n l := by
  have h2 : tl (cut l) ≠ 0 := by rw [tl_cut]; exact h
  have := cut_pre n (cut l) h2
  unfold shB at this ⊢
  rw [this, cut_cut]

def shOk (s : ByteArray) (n : Int) : Bool := vld s && decide (0 ≤ n) && (decide (tl (bits s) = 0) || decide (n + (tl (bits s) : Int) ≤ 120))
def shS (s : ByteArray) (n : Int) : ByteArray := if shOk s n && !decide (tl (bits s) = 0) then ofBits (shB n.toNat (bits s)) else ByteArray.empty

set_option maxHeartbeats 400000 in
theorem l1Done_any (x : ByteArray) (w : World) (hs : x.size ≤ 1000) (hg : allSgn x.data.toList = true) :
    Calls Tryz.prog 90 #[.string x] w fun e w' => e = .returned (.tuple #[.string (if tl (bits x) ≤ 120 then tidyS x else ByteArray.empty), .bool (decide (tl (bits x) ≤ 120))]) ∧ w = w' := by
  have C := hide (fun w => l1Tidy_any x w (by unfold maxLen; omega) hg)
  have hz : (tidyS x).size = tl (bits x) := by
    have := tl_le (bits x)
    rw [length_bits] at this
    unfold tidyS; simp; omega
  rw [← hz]
  obtain ⟨t, ht⟩ : ∃ t, t = tidyS x := ⟨_, rfl⟩
  rw [← ht] at C ⊢
  clear ht hz hg
  by_cases h : t.size ≤ 120
  · go_enter Tryz.func90, Tryz.ntmps90
    go_wp2_with (go_at_call 35; refine (C.out _).mono ?_; rintro e w' ⟨rfl, rfl⟩)
    go_ret2
    exact ⟨by simp, rfl⟩
  · go_enter Tryz.func90, Tryz.ntmps90
    go_wp2_with (go_at_call 35; refine (C.out _).mono ?_; rintro e w' ⟨rfl, rfl⟩)
    go_ret2
    exact ⟨by simp; rfl, rfl⟩

set_option maxHeartbeats 400000 in
theorem specRowShift_any (s : ByteArray) (n : Int) (w : World) (hs : s.size ≤ maxLen) (hn : (Lit.int .i64 n).wf = true) :
    Calls Tryz.prog 55 #[.string s, .int .i64 n] w fun e w' => e = .returned (.tuple #[.string (shS s n), .bool (shOk s n)]) ∧ w = w' := by
  cases hv : vld s
  · have e1 : shOk s n = false := by simp [shOk, hv]
    have e2 : shS s n = ByteArray.empty := by simp [shS, e1]
    rw [e1, e2]
    clear e1 e2
    go_enter Tryz.func55, Tryz.ntmps55
    go_wp2_with (go_at_call 42; refine (specRowValid_any _ _ hs).mono ?_; rintro e w' ⟨rfl, rfl⟩)
    go_ret2
    exact ⟨rfl, rfl⟩
  · have h120 := vld_le s hv
    have hg := hide (vld_sgn s hv)
    by_cases hn0 : n < 0
    · have e1 : shOk s n = false := by simp [shOk]; omega
      have e2 : shS s n = ByteArray.empty := by simp [shS, e1]
      rw [e1, e2]
      clear e1 e2
      go_enter Tryz.func55, Tryz.ntmps55
      go_wp2_with (go_at_call 42; refine (specRowValid_any _ _ hs).mono ?_; rintro e w' ⟨rfl, rfl⟩)
      go_ret2
      exact ⟨rfl, rfl⟩
    · have hz : (tidyS s).size = tl (bits s) := by
        have := tl_le (bits s)
        rw [length_bits] at this
        unfold tidyS; simp; omega
      by_cases hbig : 120 < n
      · have e2 : shS s n = ByteArray.empty := by
          unfold shS
          by_cases h0 : tl (bits s) = 0
          · simp [h0]
          · have : shOk s n = false := by simp [shOk, h0]; omega
            simp [this]
        have e1 : shOk s n = (tidyS s).toList.isEmpty := by
          rw [ByteArray.toList_eq]
          have hl : (tidyS s).data.toList.length = tl (bits s) := hz
          cases hd : (tidyS s).data.toList with
          | nil => rw [hd] at hl; have h0 : tl (bits s) = 0 := by simpa using hl.symm
                   simp [shOk, hv, h0]; omega
          | cons c r => rw [hd] at hl; have h0 : tl (bits s) ≠ 0 := by rw [← hl]; simp
                        simp [shOk, hv, h0]; omega
        rw [e1, e2]
        clear e1 e2 hz
        go_enter Tryz.func55, Tryz.ntmps55
        go_wp2_with (first | (go_at_call 42; refine (specRowValid_any _ _ hs).mono ?_; rintro e w' ⟨rfl, rfl⟩) | (go_at_call 35; refine (l1Tidy_any _ _ hs hg.out).mono ?_; rintro e w' ⟨rfl, rfl⟩))
        go_ret2
        exact ⟨rfl, rfl⟩
      · obtain ⟨k, rfl⟩ : ∃ k : Nat, n = (k : Int) := ⟨n.toNat, by omega⟩
        have hk : k ≤ 120 := by omega
        have HM := hide (fun w => l6Many_any ⟨#[48]⟩ k w (by omega) (by decide))
        have fin : ∀ out : ByteArray, out.data.toList = rep k [48] → out.size + s.size ≤ 1000 ∧ allSgn (out ++ s).data.toList = true ∧ (if tl (bits (out ++ s)) ≤ 120 then tidyS (out ++ s) else ByteArray.empty) = shS s k ∧ decide (tl (bits (out ++ s)) ≤ 120) = shOk s k := by
          intro out ho
          have hlen : out.size = k := by have := congrArg List.length ho; rw [rep_length] at this; simpa using this
          have hr : rep k [(48 : UInt8)] = List.replicate k 48 := by
            unfold rep; induction k with
            | zero => rfl
            | succ k ih => simp [List.replicate_succ] at ih ⊢
          have hd : (out ++ s).data.toList = List.replicate k 48 ++ s.data.toList := by
            rw [ByteArray.data_append, Array.toList_append, ho, hr]
          have hb : bits (out ++ s) = List.replicate k false ++ bits s := by
            unfold bits; rw [hd, List.map_append, List.map_replicate]; rfl
          have ha : allSgn (out ++ s).data.toList = true := by
            have h1 := hg.out
            rw [hd]
            unfold allSgn at h1 ⊢
            rw [List.all_append, h1, List.all_replicate]
            simp [sgn]
          have ht : tl (bits (out ++ s)) = if tl (bits s) = 0 then 0 else k + tl (bits s) := by rw [hb, tl_pre]
          refine ⟨by omega, ha, ?_, ?_⟩
          · by_cases h0 : tl (bits s) = 0
            · rw [if_pos h0] at ht
              rw [ht]
              have : tidyS (out ++ s) = ByteArray.empty := by unfold tidyS; rw [ht]; simp
              rw [this]; simp [shS, h0]
            · rw [if_neg h0] at ht
              rw [ht]
              by_cases h1 : k + tl (bits s) ≤ 120
              · have ok : shOk s k = true := by simp [shOk, hv, h0]; omega
                rw [if_pos h1, ← tidyS_eq _ ha, hb, cut_pre k _ h0]
                simp [shS, ok, h0]
              · have ok : shOk s k = false := by simp [shOk, hv, h0]; omega
                rw [if_neg h1]; simp [shS, ok]
          · by_cases h0 : tl (bits s) = 0
            · rw [if_pos h0] at ht
              rw [ht]; simp [shOk, hv, h0]
            · rw [if_neg h0] at ht
              rw [ht]; simp [shOk, hv, h0]; omega
        have FIN := hide fin
        clear fin hz
        go_enter Tryz.func55, Tryz.ntmps55
        go_wp2_with (first | (go_at_call 42; refine (specRowValid_any _ _ hs).mono ?_; rintro e w' ⟨rfl, rfl⟩) | (go_at_call 14; refine (HM.out _).mono ?_; rintro e w' ⟨⟨out, rfl, ho⟩, rfl⟩; obtain ⟨g1, g2, g3, g4⟩ := FIN.out out ho; have HO := hide ho; have G2 := hide g2; have G3 := hide g3; have G4 := hide g4; clear ho g2 g3 g4))
        refine (l1Done_any (out ++ s) w (by simpa using g1) G2.out).mono ?_
        rintro e w' ⟨rfl, rfl⟩
        rw [G3.out, G4.out]
        go_wp2_with fail
        go_ret2
        exact ⟨rfl, rfl⟩

theorem CellsAt.src {w : World} {g : Nat} {l : List Value} (h : CellsAt w g l) : ∀ j u, l[j]? = some u → w.cell? ((⟨g, 0, none⟩ : Addr).add j) = some u := by
  intro j u hu
  rw [Addr.add_lit, Nat.zero_add]; exact (h j u hu).1
theorem below_none {w w' : World} (h : w.grownBy w' none) : Below w.heap.size w w' := (Below.refl _ _).grown h (Nat.le_refl _) (fun k e => by cases e)
theorem ownsRow_form {w : World} {base e n : Nat} {v : Value} {xs : List Value} (h : w.ownsRow base e 1 v n xs) (hn : 0 < n) : ∃ g cap, v = .slice (some ⟨g, 0, none⟩) n cap ∧ base ≤ g ∧ n ≤ cap ∧ cap ≤ maxLen := by
  rcases h.2 with ⟨_, rfl⟩ | ⟨g, cap, cur, rfl, hb, _, hc, hm, _⟩
  · omega
  · exact ⟨g, cap, rfl, hb, hc, hm⟩

set_option maxHeartbeats 400000 in
theorem implRowShift_any (s : ByteArray) (n : Int) (w : World) (hs : s.size ≤ maxLen) (hn : (Lit.int .i64 n).wf = true) :
    Calls Tryz.prog 104 #[.string s, .int .i64 n] w fun e w' => e = .returned (.tuple #[.string (shS s n), .bool (shOk s n)]) ∧ Below w.heap.size w w' := by
  cases hv : vld s
  · have e1 : shOk s n = false := by simp [shOk, hv]
    have e2 : shS s n = ByteArray.empty := by simp [shS, e1]
    rw [e1, e2]
    clear e1 e2
    go_enter Tryz.func104, Tryz.ntmps104
    go_wp2_with (go_at_call 132; refine (readRow_no _ _ hs hv).mono ?_; rintro e w' ⟨rfl, rfl⟩)
    go_ret2
    exact ⟨rfl, Below.refl _ _⟩
  · have h120 := vld_le s hv
    have hle := tl_le (bits s)
    rw [length_bits] at hle
    have C1 := hide (fun w => readRow_yes s w hv)
    by_cases hn0 : n < 0
    · have e1 : shOk s n = false := by simp [shOk]; omega
      have e2 : shS s n = ByteArray.empty := by simp [shS, e1]
      rw [e1, e2]
      clear e1 e2
      go_enter Tryz.func104, Tryz.ntmps104
      go_wp2_with (go_at_call 132; refine (C1.out _).mono ?_; rintro e w1 ⟨rfl, hb1, hc1, hz1⟩)
      go_ret2
      exact ⟨rfl, hb1⟩
    · have hnb : n ≤ 9223372036854775807 := by
        have m2 : IntKind.i64.max = 9223372036854775807 := rfl
        simp [Lit.wf] at hn; omega
      have e1 : shOk s n = (decide (tl (bits s) = 0) || decide (n + (tl (bits s) : Int) ≤ 120)) := by
        have : decide (0 ≤ n) = true := by simp; omega
        simp [shOk, hv, this]
      have e2 : shS s n = if shOk s n && !decide (tl (bits s) = 0) then ofBits (shB n.toNat (bits s)) else ByteArray.empty := rfl
      have HC := hide (cut_length (bits s))
      have HM := hide (cut_map (bits s))
      have HK := hide (fun h => cut_shB n.toNat (bits s) h)
      have HL := hide (shB_length n.toNat (bits s))
      rw [e2, e1]
      clear e1 e2 hn
      obtain ⟨t, ht⟩ : ∃ t, t = tl (bits s) := ⟨_, rfl⟩
      rw [← ht] at hle C1 HC HM HK HL ⊢
      clear ht
      by_cases ht0 : t = 0
      · subst ht0
        go_enter Tryz.func104, Tryz.ntmps104
        go_wp2_with (go_at_call 132; refine (C1.out _).mono ?_; rintro e w1 ⟨rfl, hb1, hc1, hz1⟩)
        go_ret2
        exact ⟨by simp; rfl, hb1⟩
      · have z0 : ((t : Int) == 0) = false := beq_eq_false_iff_ne.2 (by omega)
        by_cases hbig : 120 - (t : Int) < n
        · have f1 : (decide (t = 0) || decide (n + (t : Int) ≤ 120)) = false := by simp; omega
          rw [f1]
          clear f1
          go_enter Tryz.func104, Tryz.ntmps104
          go_wp2_with (go_at_call 132; refine (C1.out _).mono ?_; rintro e w1 ⟨rfl, hb1, hc1, hz1⟩)
          go_ret2
          exact ⟨rfl, hb1⟩
        · have f1 : (decide (t = 0) || decide (n + (t : Int) ≤ 120)) = true := by simp; omega
          have f2 : (true && !decide (t = 0)) = true := by simp [ht0]
          rw [f1, f2, if_pos rfl]
          have HK2 := hide (HK.out ht0)
          clear f1 f2 HK
          obtain ⟨k, rfl⟩ : ∃ k : Nat, n = (k : Int) := ⟨n.toNat, by omega⟩
          rw [Int.toNat_natCast] at HK2 HL ⊢
          obtain ⟨i0, hi, hz0, hz1, hz2⟩ := info_parts infoB
          have hone : ∀ u ∈ (cut (bits s)).map Value.bool, u.oneCell' = true := by intro u hu; obtain ⟨b, _, rfl⟩ := List.mem_map.1 hu; rfl
          have H1 := hide hone
          clear hone
          go_enter Tryz.func104, Tryz.ntmps104
          go_wp2_with fail
          refine (C1.out _).mono ?_
          rintro e w1 ⟨rfl, hb1, hc1, hzz1⟩
          have HCC := hide (show CellsAt w1 w.heap.size ((cut (bits s)).map .bool) by rw [HM.out]; exact hc1.take t)
          have HNL := hide (show ((cut (bits s)).map Value.bool).length = t * 1 by rw [List.length_map, HC.out, Nat.mul_one])
          clear hc1
          go_wp2_with (first | (at_make; refine wpList_make_full _ rfl _ _ 116 rfl w1.heap.size 4 i0 (.bool false) 1 Tryz.underlying116 hi hz0 hz1 _ _ _ _ k rfl rfl rfl rfl ?b2 ?b3 ?b4 ?_; rotate_right; intro w2 hown hgrow; have hb2 := below_none hgrow; have HSRC := hide (HCC.out.below hb2 hzz1).src; have hs12 := hb2.size; have HOWN := hide hown; clear hown hgrow) | (at_builtin; refine wpList_append_own _ rfl _ _ 116 rfl w1.heap.size 4 i0 (.bool false) 1 1 Tryz.underlying116 hi hz0 hz1 hz2 rfl (by decide) _ _ _ rfl HOWN.out ⟨w.heap.size, 0, none⟩ t s.size ((cut (bits s)).map .bool) rfl HNL.out HSRC.out H1.out ?b5 ?b6 hs12 ?_; rotate_right; intro v' w3 hown3 hgrow3 _))
          case b2 => rw [hz2]; omega
          case b3 => unfold maxLen; omega
          case b4 => exact Nat.le_refl _
          case b5 => unfold maxLen; omega
          case b6 => omega
          rw [madeB, ← List.map_append] at hown3
          have hb3 := (Below.refl w1.heap.size w2).grown hgrow3 hs12 (fun b e => (HOWN.out.lt b e).1)
          obtain ⟨g, cap, rfl, hg1, hg2, hg3⟩ := ownsRow_form hown3 (by omega)
          have hc3 := CellsAt.of_owns hown3
          clear hown3 hgrow3
          refine (text_any g (k + t) cap (shB k (bits s)) w3 HL.out hc3 hg2 hg3 (by omega)).mono ?_
          rintro e w4 ⟨rfl, hb4⟩
          rw [HK2.out]
          go_wp2_with fail
          go_ret2
          have hb13 := hb1.trans ((hb2.trans hb3).mono hb1.size)
          exact ⟨rfl, hb13.trans (hb4.mono hb13.size)⟩

end Go.Proofs.YtdooboibmllfkaaGreatDoor

namespace Go.Proofs.YtdooboibmllfkaaGreatDoor
set_option maxRecDepth 100000
open Go.RowKit

def bx (l : List Bool) (i : Nat) : Bool := l[i]?.getD false
def fin (K : Nat) (l : List Bool) : Nat := l.length + ld K (bx l) l.length
def stpU (K : Nat) (f : Nat → Bool) (k : Nat) : List Bool := (List.range k).map (tr K f)
def ldsU (K : Nat) (f : Nat → Bool) (k : Nat) : List Int := (List.range k).map fun i => (ld K f i : Int)
def stp (K : Nat) (l : List Bool) : List Bool := stpU K (bx l) (fin K l)
def lds (K : Nat) (l : List Bool) : List Int := ldsU K (bx l) (fin K l + 1)

theorem bx_out (l : List Bool) (i : Nat) (h : l.length ≤ i) : bx l i = false := by unfold bx; rw [List.getElem?_eq_none_iff.2 h]; rfl
theorem bx_some (l : List Bool) (i : Nat) (b : Bool) (h : l[i]? = some b) : bx l i = b := by unfold bx; rw [h]; rfl
theorem stpU_length (K : Nat) (f : Nat → Bool) (k : Nat) : (stpU K f k).length = k := by simp [stpU]
theorem ldsU_length (K : Nat) (f : Nat → Bool) (k : Nat) : (ldsU K f k).length = k := by simp [ldsU]
theorem stpU_succ (K : Nat) (f : Nat → Bool) (k : Nat) : stpU K f (k + 1) = stpU K f k ++ [tr K f k] := by simp [stpU, List.range_succ]
theorem ldsU_succ (K : Nat) (f : Nat → Bool) (k : Nat) : ldsU K f (k + 1) = ldsU K f k ++ [(ld K f k : Int)] := by simp [ldsU, List.range_succ]
theorem ldsU_getElem (K : Nat) (f : Nat → Bool) (k i : Nat) (h : i < k) : (ldsU K f k)[i]? = some (ld K f i : Int) := by simp [ldsU, h]
theorem stpU_chars (K : Nat) (f : Nat → Bool) (k : Nat) : chars (stpU K f (k + 1)) = chars (stpU K f k) ++ [if tr K f k then 49 else 48] := by rw [stpU_succ]; simp [chars]
theorem bx_stp (K : Nat) (l : List Bool) (i : Nat) : bx (stp K l) i = tr K (bx l) i := by
  by_cases h : i < fin K l
  · simp [bx, stp, stpU, h]
  · rw [bx_out _ _ (by rw [stp, stpU_length]; omega)]
    have h1 := ld_tail (K := K) (f := bx l) (n := l.length) (fun j hj => bx_out l j hj) (i - l.length)
    unfold fin at h
    rw [show l.length + (i - l.length) = i by omega] at h1
    unfold tr
    rw [h1, bx_out l i (by omega), show ld K (bx l) l.length - (i - l.length) = 0 by omega]; rfl
theorem ld_fin (K : Nat) (l : List Bool) : ld K (bx l) (fin K l) = 0 := by
  unfold fin; rw [ld_tail (fun j hj => bx_out l j hj)]; omega
theorem fin_lt (K : Nat) (l : List Bool) (k : Nat) (hk : k ≤ fin K l) : k < fin K l ↔ (k < l.length ∨ 0 < ld K (bx l) k) := by
  by_cases h : k < l.length
  · unfold fin; omega
  · have h1 := ld_tail (K := K) (f := bx l) (n := l.length) (fun j hj => bx_out l j hj) (k - l.length)
    rw [show l.length + (k - l.length) = k by omega] at h1
    unfold fin at *; omega
theorem fin_le (K : Nat) (l : List Bool) : fin K l ≤ 2 * l.length := by have := ld_le_i K (bx l) l.length; unfold fin; omega
theorem tk_fin (K : Nat) (l : List Bool) : tk K (bx l) (fin K l) = tk K (bx l) l.length := by unfold fin; exact tk_tail (fun j hj => bx_out l j hj) _
theorem stp_length (K : Nat) (l : List Bool) : (stp K l).length = fin K l := stpU_length _ _ _
theorem lds_length (K : Nat) (l : List Bool) : (lds K l).length = fin K l + 1 := ldsU_length _ _ _

theorem box_take {K : Nat} {f : Nat → Bool} {k : Nat} (hf : f k = true) (hu : ld K f k < K) : tr K f k = false ∧ ld K f (k + 1) = ld K f k + 1 ∧ tk K f (k + 1) = tk K f k + 1 := by
  refine ⟨?_, ?_, ?_⟩
  · unfold tr ot; simp [hf, hu]
  · rw [ld_succ]; unfold nx; simp [hf, hu]
  · show tk K f k + _ = _; simp [hf, hu]
theorem box_full {K : Nat} {f : Nat → Bool} {k : Nat} (hf : f k = true) (hu : ¬ ld K f k < K) : tr K f k = true ∧ ld K f (k + 1) = ld K f k ∧ tk K f (k + 1) = tk K f k := by
  refine ⟨?_, ?_, ?_⟩
  · unfold tr ot; simp [hf]; omega
  · rw [ld_succ]; unfold nx; simp [hf, hu]
  · show tk K f k + _ = _; simp [hu]
theorem box_put {K : Nat} {f : Nat → Bool} {k : Nat} (hf : f k = false) (hu : 0 < ld K f k) : tr K f k = true ∧ ld K f (k + 1) = ld K f k - 1 ∧ tk K f (k + 1) = tk K f k := by
  refine ⟨?_, ?_, ?_⟩
  · unfold tr ot; simp [hf, hu]
  · rw [ld_succ]; unfold nx; simp [hf]
  · show tk K f k + _ = _; simp [hf]
theorem box_none {K : Nat} {f : Nat → Bool} {k : Nat} (hf : f k = false) (hu : ¬ 0 < ld K f k) : tr K f k = false ∧ ld K f (k + 1) = ld K f k ∧ tk K f (k + 1) = tk K f k := by
  refine ⟨?_, ?_, ?_⟩
  · unfold tr ot; simp [hf]; omega
  · rw [ld_succ]; unfold nx; simp [hf]; omega
  · show tk K f k + _ = _; simp [hf]

def roomOk (room : Int) : Bool := decide (1 ≤ room) && decide (room ≤ 200)
theorem l2Room_any (room : Int) (w : World) :
    Calls Tryz.prog 92 #[.int .i64 room] w fun e w' => e = .returned (.bool (roomOk room)) ∧ w = w' := by
  go_enter Tryz.func92, Tryz.ntmps92
  go_wp2_with (go_at_call 91; refine (l6In_any _ _ _ (roomOk room) _ rfl).mono ?_; rintro e w' ⟨rfl, rfl⟩)
  go_ret
  exact ⟨rfl, rfl⟩

def StepRel (s : ByteArray) (K B : Nat) (w : World) (o u v t i : Value) (wr : World) : Prop :=
  ∃ (x : ByteArray) (k : Nat), k ≤ fin K (bits s) ∧ i = .int .i64 (k : Int) ∧ o = .string x ∧ x.size = k ∧ u = .int .i64 (ld K (bx (bits s)) k : Int) ∧ t = .int .i64 (tk K (bx (bits s)) k : Int) ∧
    Hid (x.data.toList = chars (stpU K (bx (bits s)) k)) ∧ Hid (wr.ownsRow B 3 1 v k ((ldsU K (bx (bits s)) k).map (.int .i64))) ∧ Hid (Below B w wr) ∧ B ≤ wr.heap.size

theorem StepRel.next {s : ByteArray} {K B : Nat} {w w1 : World} {x : ByteArray} {k : Nat} {v' : Value} (hk : k < fin K (bits s)) (hx : x.size = k) (HX : Hid (x.data.toList = chars (stpU K (bx (bits s)) k)))
    (own : w1.ownsRow B 3 1 v' (k + 1) ((ldsU K (bx (bits s)) k).map (.int .i64) ++ [.int .i64 (ld K (bx (bits s)) k : Int)])) (hb : Below B w w1) (hsz : B ≤ w1.heap.size) (c : UInt8) (u t : Int)
    (hc : (if tr K (bx (bits s)) k then 49 else 48) = c) (hu : (ld K (bx (bits s)) (k + 1) : Int) = u) (ht : (tk K (bx (bits s)) (k + 1) : Int) = t) :
    StepRel s K B w (.string (x ++ ⟨#[c]⟩)) (.int .i64 u) v' (.int .i64 t) (.int .i64 ((k : Int) + 1)) w1 := by
  refine ⟨_, k + 1, by omega, by rw [show ((k : Int) + 1) = ((k + 1 : Nat) : Int) by omega], rfl, ?_, by rw [hu], by rw [ht], ?_, ?_, hb, hsz⟩
  · rw [ByteArray.size_append]; show x.size + 1 = _; omega
  · show (x ++ _).data.toList = _
    rw [ByteArray.data_append, Array.toList_append, HX.out, stpU_chars, hc]
  · rw [ldsU_succ, List.map_append]; exact own

theorem one_of_int (x : Int) : ∀ u ∈ [Value.int .i64 x], u.oneCell' = true := by intro u hu; simp at hu; subst hu; rfl

set_option maxHeartbeats 2000000 in
theorem l2Step_any (s : ByteArray) (K : Nat) (w : World) (hs : s.size ≤ 120) (hK : 1 ≤ K ∧ K ≤ 200) :
    Calls Tryz.prog 93 #[.string s, .int .i64 (K : Int)] w fun e w' => ∃ (x : ByteArray) (v : Value), e = .returned (.tuple #[.string x, v, .int .i64 (tk K (bx (bits s)) s.size : Int)]) ∧
      x.data.toList = chars (stp K (bits s)) ∧ IntsV w.heap.size w' v (lds K (bits s)) ∧ Below w.heap.size w w' := by
  obtain ⟨i0, hi, hz0, hz1, hz2⟩ := info_parts infoI
  obtain ⟨B, hB⟩ : ∃ B, w.heap.size = B := ⟨_, rfl⟩
  have h0 := World.ownsRow_lit (base := B) (e := 3) (size := 1) w #[] 0 (by omega) (by unfold maxLen; omega) rfl
  have hb0 := (Below.refl B w).alloc (by omega) (.cells #[] 3)
  have hfin := fin_le K (bits s)
  rw [length_bits] at hfin
  rw [hB] at h0 ⊢
  have HB := hide hB
  clear hB
  have H0 := hide h0
  clear h0
  go_enter Tryz.func93, Tryz.ntmps93
  go_wp2
  go_loopw [7, 8, 9, 10, 11] (StepRel s K B w) (fun _ _ _ _ i _ => fin K (bits s) - (Go.RowKit.intOf i).toNat)
  case atStart =>
    refine ⟨⟨#[]⟩, 0, Nat.zero_le _, rfl, rfl, rfl, rfl, rfl, rfl, ?_, hb0, by simp [← HB.out]⟩
    have := H0.out
    rw [← HB.out] at this ⊢
    exact this
  case round =>
    obtain ⟨x, k, hk, rfl, rfl, hx, rfl, rfl, HX, HO, HBW, hsz⟩ := hrel
    have hf := fin_lt K (bits s) k hk
    rw [length_bits] at hf
    have hul := ld_le K (bx (bits s)) k
    have htl : tk K (bx (bits s)) k ≤ k := by
      have : ∀ i, tk K (bx (bits s)) i ≤ i := by
        intro i
        induction i with
        | zero => exact Nat.le_refl _
        | succ i ih => show tk K _ i + _ ≤ _; split <;> omega
      exact this k
    have HN := hide (fun (v' : Value) (w1 : World) (hk : k < fin K (bits s)) => StepRel.next (B := B) (w := w) (w1 := w1) (v' := v') hk hx HX)
    by_cases hlt : k < fin K (bits s)
    · by_cases hks : k < s.size
      · have hbk := bx_some _ _ _ (bits_getElem s k hks)
        rw [bit_int] at hbk
        cases hb : ((s[k].toNat : Int) == 49)
        · rw [hb] at hbk
          by_cases hu : 0 < ld K (bx (bits s)) k
          · obtain ⟨e1, e2, e3⟩ := box_put hbk hu
            have E1 := hide e1
            have E2 := hide e2
            have E3 := hide e3
            clear e1 e2 e3 hbk hf
            obtain ⟨u, hu0⟩ : ∃ u, u = ld K (bx (bits s)) k := ⟨_, rfl⟩
            have HU := hide hu0
            rw [← hu0] at hu hul ⊢
            obtain ⟨t, ht0⟩ : ∃ t, t = tk K (bx (bits s)) k := ⟨_, rfl⟩
            have HT := hide ht0
            rw [← ht0] at htl ⊢
            clear hu0 ht0
            go_wp2_with (at_builtin; refine wpList_append_own _ rfl _ _ 79 rfl B 3 i0 (.int .i64 0) 1 8 Tryz.underlying79 hi hz0 hz1 hz2 rfl (by decide) _ _ _ rfl (HO.out.alloc _) ⟨wr.heap.size, 0, none⟩ 1 1 [.int .i64 (u : Int)] rfl rfl (cell_one_new _ _ _) (one_of_int _) (by unfold maxLen; omega) (by omega) (by simp; omega) ?_; intro v' w1 hown' hgrow _)
            go_roundw
            case rel =>
              refine HN.out v' w1 hlt (by rw [← HU.out]; exact hown') ((HBW.out.alloc hsz _).grown hgrow (by simp; omega) (fun b e => (HO.out.lt b e).1)) (by have := hgrow.size; simp at this; omega) _ _ _ (by rw [E1.out]; rfl) (by rw [E2.out, ← HU.out]; omega) (by rw [E3.out, ← HT.out])
            case measure => simp [Go.RowKit.intOf]; omega
          · obtain ⟨e1, e2, e3⟩ := box_none hbk hu
            have E1 := hide e1
            have E2 := hide e2
            have E3 := hide e3
            clear e1 e2 e3 hbk hf
            obtain ⟨u, hu0⟩ : ∃ u, u = ld K (bx (bits s)) k := ⟨_, rfl⟩
            have HU := hide hu0
            rw [← hu0] at hu hul ⊢
            obtain ⟨t, ht0⟩ : ∃ t, t = tk K (bx (bits s)) k := ⟨_, rfl⟩
            have HT := hide ht0
            rw [← ht0] at htl ⊢
            clear hu0 ht0
            go_wp2_with (at_builtin; refine wpList_append_own _ rfl _ _ 79 rfl B 3 i0 (.int .i64 0) 1 8 Tryz.underlying79 hi hz0 hz1 hz2 rfl (by decide) _ _ _ rfl (HO.out.alloc _) ⟨wr.heap.size, 0, none⟩ 1 1 [.int .i64 (u : Int)] rfl rfl (cell_one_new _ _ _) (one_of_int _) (by unfold maxLen; omega) (by omega) (by simp; omega) ?_; intro v' w1 hown' hgrow _)
            go_roundw
            case rel =>
              refine HN.out v' w1 hlt (by rw [← HU.out]; exact hown') ((HBW.out.alloc hsz _).grown hgrow (by simp; omega) (fun b e => (HO.out.lt b e).1)) (by have := hgrow.size; simp at this; omega) _ _ _ (by rw [E1.out]; rfl) (by rw [E2.out, ← HU.out]) (by rw [E3.out, ← HT.out])
            case measure => simp [Go.RowKit.intOf]; omega
        · rw [hb] at hbk
          by_cases hu : ld K (bx (bits s)) k < K
          · obtain ⟨e1, e2, e3⟩ := box_take hbk hu
            have E1 := hide e1
            have E2 := hide e2
            have E3 := hide e3
            clear e1 e2 e3 hbk hf
            obtain ⟨u, hu0⟩ : ∃ u, u = ld K (bx (bits s)) k := ⟨_, rfl⟩
            have HU := hide hu0
            rw [← hu0] at hu hul ⊢
            obtain ⟨t, ht0⟩ : ∃ t, t = tk K (bx (bits s)) k := ⟨_, rfl⟩
            have HT := hide ht0
            rw [← ht0] at htl ⊢
            clear hu0 ht0
            go_wp2_with (at_builtin; refine wpList_append_own _ rfl _ _ 79 rfl B 3 i0 (.int .i64 0) 1 8 Tryz.underlying79 hi hz0 hz1 hz2 rfl (by decide) _ _ _ rfl (HO.out.alloc _) ⟨wr.heap.size, 0, none⟩ 1 1 [.int .i64 (u : Int)] rfl rfl (cell_one_new _ _ _) (one_of_int _) (by unfold maxLen; omega) (by omega) (by simp; omega) ?_; intro v' w1 hown' hgrow _)
            go_roundw
            case rel =>
              refine HN.out v' w1 hlt (by rw [← HU.out]; exact hown') ((HBW.out.alloc hsz _).grown hgrow (by simp; omega) (fun b e => (HO.out.lt b e).1)) (by have := hgrow.size; simp at this; omega) _ _ _ (by rw [E1.out]; rfl) (by rw [E2.out, ← HU.out]; omega) (by rw [E3.out, ← HT.out]; omega)
            case measure => simp [Go.RowKit.intOf]; omega
          · obtain ⟨e1, e2, e3⟩ := box_full hbk hu
            have E1 := hide e1
            have E2 := hide e2
            have E3 := hide e3
            clear e1 e2 e3 hbk hf
            obtain ⟨u, hu0⟩ : ∃ u, u = ld K (bx (bits s)) k := ⟨_, rfl⟩
            have HU := hide hu0
            rw [← hu0] at hu hul ⊢
            obtain ⟨t, ht0⟩ : ∃ t, t = tk K (bx (bits s)) k := ⟨_, rfl⟩
            have HT := hide ht0
            rw [← ht0] at htl ⊢
            clear hu0 ht0
            go_wp2_with (at_builtin; refine wpList_append_own _ rfl _ _ 79 rfl B 3 i0 (.int .i64 0) 1 8 Tryz.underlying79 hi hz0 hz1 hz2 rfl (by decide) _ _ _ rfl (HO.out.alloc _) ⟨wr.heap.size, 0, none⟩ 1 1 [.int .i64 (u : Int)] rfl rfl (cell_one_new _ _ _) (one_of_int _) (by unfold maxLen; omega) (by omega) (by simp; omega) ?_; intro v' w1 hown' hgrow _)
            go_roundw
            case rel =>
              refine HN.out v' w1 hlt (by rw [← HU.out]; exact hown') ((HBW.out.alloc hsz _).grown hgrow (by simp; omega) (fun b e => (HO.out.lt b e).1)) (by have := hgrow.size; simp at this; omega) _ _ _ (by rw [E1.out]; rfl) (by rw [E2.out, ← HU.out]) (by rw [E3.out, ← HT.out])
            case measure => simp [Go.RowKit.intOf]; omega
      · have hbk := bx_out (bits s) k (by rw [length_bits]; omega)
        have hu : 0 < ld K (bx (bits s)) k := by omega
        obtain ⟨e1, e2, e3⟩ := box_put hbk hu
        have E1 := hide e1
        have E2 := hide e2
        have E3 := hide e3
        clear e1 e2 e3 hbk hf
        obtain ⟨u, hu0⟩ : ∃ u, u = ld K (bx (bits s)) k := ⟨_, rfl⟩
        have HU := hide hu0
        rw [← hu0] at hu hul ⊢
        obtain ⟨t, ht0⟩ : ∃ t, t = tk K (bx (bits s)) k := ⟨_, rfl⟩
        have HT := hide ht0
        rw [← ht0] at htl ⊢
        clear hu0 ht0
        go_wp2_with (at_builtin; refine wpList_append_own _ rfl _ _ 79 rfl B 3 i0 (.int .i64 0) 1 8 Tryz.underlying79 hi hz0 hz1 hz2 rfl (by decide) _ _ _ rfl (HO.out.alloc _) ⟨wr.heap.size, 0, none⟩ 1 1 [.int .i64 (u : Int)] rfl rfl (cell_one_new _ _ _) (one_of_int _) (by unfold maxLen; omega) (by omega) (by simp; omega) ?_; intro v' w1 hown' hgrow _)
        go_roundw
        case rel =>
          refine HN.out v' w1 hlt (by rw [← HU.out]; exact hown') ((HBW.out.alloc hsz _).grown hgrow (by simp; omega) (fun b e => (HO.out.lt b e).1)) (by have := hgrow.size; simp at this; omega) _ _ _ (by rw [E1.out]; rfl) (by rw [E2.out, ← HU.out]; omega) (by rw [E3.out, ← HT.out])
        case measure => simp [Go.RowKit.intOf]; omega
    · obtain rfl : k = fin K (bits s) := by omega
      have hu0 := ld_fin K (bits s)
      have hks : ¬ fin K (bits s) < s.size := by omega
      have HTK := hide (tk_fin K (bits s))
      rw [length_bits] at HTK
      have HLD := hide (ldsU_succ K (bx (bits s)) (fin K (bits s)))
      rw [hu0] at HLD ⊢
      rw [HTK.out]
      clear hu0 hf hul htl HN
      have hlds : (lds K (bits s)).length = fin K (bits s) + 1 := lds_length _ _
      obtain ⟨k, hk0⟩ : ∃ k, k = fin K (bits s) := ⟨_, rfl⟩
      have HK0 := hide hk0
      rw [← hk0] at hk hks hfin HO HX hlds HLD ⊢
      clear hk0
      go_wp2_with (at_builtin; refine wpList_append_own _ rfl _ _ 79 rfl B 3 i0 (.int .i64 0) 1 8 Tryz.underlying79 hi hz0 hz1 hz2 rfl (by decide) _ _ _ rfl (HO.out.alloc _) ⟨wr.heap.size, 0, none⟩ 1 1 [.int .i64 0] rfl rfl (cell_one_new _ _ _) (one_of_int _) (by unfold maxLen; omega) (by omega) (by simp; omega) ?_; intro v' w1 hown' hgrow _)
      go_ret3
      refine ⟨x, v', rfl, ?_, IntsV.of_owns (e := 3) (n := k + 1) ?_, (HBW.out.alloc hsz _).grown hgrow (by simp; omega) (fun b e => (HO.out.lt b e).1)⟩
      · rw [HX.out, HK0.out]; rfl
      · have e : lds K (bits s) = ldsU K (bx (bits s)) (k + 1) := by rw [HK0.out]; rfl
        rw [e, HLD.out, List.map_append]; exact hown'
end Go.Proofs.YtdooboibmllfkaaGreatDoor

namespace Go.Proofs.YtdooboibmllfkaaGreatDoor
set_option maxRecDepth 100000
open Go.RowKit

def stOk (s : ByteArray) (room : Int) : Bool := vld s && roomOk room && decide (tl (stp room.toNat (bits s)) ≤ 120)
def stS (s : ByteArray) (room : Int) : ByteArray := if stOk s room then ofBits (cut (stp room.toNat (bits s))) else ByteArray.empty
def tkOk (s : ByteArray) (room : Int) : Bool := vld s && roomOk room
def tkN (s : ByteArray) (room : Int) : Int := if tkOk s room then (tk room.toNat (bx (bits s)) s.size : Int) else 0
theorem room_nat {room : Int} (h : roomOk room = true) : ∃ K : Nat, room = (K : Int) ∧ 1 ≤ K ∧ K ≤ 200 ∧ room.toNat = K := by
  unfold roomOk at h; simp at h
  exact ⟨room.toNat, by omega, by omega, by omega, rfl⟩

theorem stp_text {K : Nat} {l : List Bool} {x : ByteArray} (h : x.data.toList = chars (stp K l)) : allSgn x.data.toList = true ∧ bits x = stp K l ∧ tidyS x = ofBits (cut (stp K l)) ∧ x.size = fin K l := by
  have h1 : allSgn x.data.toList = true := by rw [h]; exact chars_sgn _
  have h2 := bits_chars _ x h
  refine ⟨h1, h2, by rw [← tidyS_eq x h1, h2], ?_⟩
  have := congrArg List.length h
  rw [chars_length, stp_length] at this
  exact this

theorem done_stp (s : ByteArray) (K : Nat) (hs : fin K (bits s) ≤ 1000) (x : ByteArray) (h : x.data.toList = chars (stp K (bits s))) (w : World) :
    Calls Tryz.prog 90 #[.string x] w fun e w' => e = .returned (.tuple #[.string (if tl (stp K (bits s)) ≤ 120 then ofBits (cut (stp K (bits s))) else ByteArray.empty), .bool (decide (tl (stp K (bits s)) ≤ 120))]) ∧ w = w' := by
  obtain ⟨t1, t2, t3, t4⟩ := stp_text h
  have := l1Done_any x w (by omega) t1
  rw [t2, t3] at this
  exact this

set_option maxHeartbeats 1000000 in
theorem specStepOf_any (s : ByteArray) (room : Int) (w : World) (hs : s.size ≤ maxLen) :
    Calls Tryz.prog 57 #[.string s, .int .i64 room] w fun e w' => e = .returned (.tuple #[.string (stS s room), .bool (stOk s room)]) ∧ Below w.heap.size w w' := by
  cases hv : vld s
  · have e1 : stOk s room = false := by simp [stOk, hv]
    have e2 : stS s room = ByteArray.empty := by simp [stS, e1]
    rw [e1, e2]
    clear e1 e2
    go_enter Tryz.func57, Tryz.ntmps57
    go_wp2_with (go_at_call 42; refine (specRowValid_any _ _ hs).mono ?_; rintro e w' ⟨rfl, rfl⟩)
    go_ret2
    exact ⟨rfl, Below.refl _ _⟩
  · have h120 := vld_le s hv
    have C0 := hide (fun w => l2Room_any room w)
    cases hr : roomOk room
    · have e1 : stOk s room = false := by simp [stOk, hr]
      have e2 : stS s room = ByteArray.empty := by simp [stS, e1]
      rw [hr] at C0
      rw [e1, e2]
      clear e1 e2
      go_enter Tryz.func57, Tryz.ntmps57
      go_wp2_with (first | (go_at_call 42; refine (specRowValid_any _ _ hs).mono ?_; rintro e w' ⟨rfl, rfl⟩) | (go_at_call 92; refine (C0.out _).mono ?_; rintro e w' ⟨rfl, rfl⟩))
      go_ret2
      exact ⟨rfl, Below.refl _ _⟩
    · have e1 : stOk s room = decide (tl (stp room.toNat (bits s)) ≤ 120) := by simp [stOk, hv, hr]
      have e2 : stS s room = if tl (stp room.toNat (bits s)) ≤ 120 then ofBits (cut (stp room.toNat (bits s))) else ByteArray.empty := by
        unfold stS; rw [e1]; simp
      rw [e1, e2]
      rw [hr] at C0
      obtain ⟨K, rfl, hK1, hK2, hK3⟩ := room_nat hr
      rw [hK3]
      clear e1 e2 hr hK3
      have hfin := fin_le K (bits s)
      rw [length_bits] at hfin
      have C1 := hide (fun w => l2Step_any s K w h120 ⟨hK1, hK2⟩)
      have C2 := hide (done_stp s K (by omega))
      obtain ⟨y, hy⟩ : ∃ y, y = (if tl (stp K (bits s)) ≤ 120 then ofBits (cut (stp K (bits s))) else ByteArray.empty) := ⟨_, rfl⟩
      obtain ⟨b, hb0⟩ : ∃ b, b = decide (tl (stp K (bits s)) ≤ 120) := ⟨_, rfl⟩
      rw [← hy, ← hb0] at C2 ⊢
      clear hy hb0
      go_enter Tryz.func57, Tryz.ntmps57
      go_wp2_with (first | (go_at_call 42; refine (specRowValid_any _ _ hs).mono ?_; rintro e w' ⟨rfl, rfl⟩) | (go_at_call 92; refine (C0.out _).mono ?_; rintro e w' ⟨rfl, rfl⟩))
      refine (C1.out _).mono ?_
      rintro e w1 ⟨x, v, rfl, hx, hi, hb⟩
      have C2x := hide (C2.out x hx)
      clear C2 C1 hx hi
      go_wp2_with (go_at_call 90; refine (C2x.out _).mono ?_; rintro e w' ⟨rfl, rfl⟩)
      go_ret2
      exact ⟨rfl, hb⟩

set_option maxHeartbeats 1000000 in
theorem specStepTaken_any (s : ByteArray) (room : Int) (w : World) (hs : s.size ≤ maxLen) :
    Calls Tryz.prog 59 #[.string s, .int .i64 room] w fun e w' => e = .returned (.tuple #[.int .i64 (tkN s room), .bool (tkOk s room)]) ∧ Below w.heap.size w w' := by
  cases hv : vld s
  · have e1 : tkOk s room = false := by simp [tkOk, hv]
    have e2 : tkN s room = 0 := by simp [tkN, e1]
    rw [e1, e2]
    clear e1 e2
    go_enter Tryz.func59, Tryz.ntmps59
    go_wp2_with (go_at_call 42; refine (specRowValid_any _ _ hs).mono ?_; rintro e w' ⟨rfl, rfl⟩)
    go_ret2
    exact ⟨rfl, Below.refl _ _⟩
  · have h120 := vld_le s hv
    have C0 := hide (fun w => l2Room_any room w)
    cases hr : roomOk room
    · have e1 : tkOk s room = false := by simp [tkOk, hr]
      have e2 : tkN s room = 0 := by simp [tkN, e1]
      rw [hr] at C0
      rw [e1, e2]
      clear e1 e2
      go_enter Tryz.func59, Tryz.ntmps59
      go_wp2_with (first | (go_at_call 42; refine (specRowValid_any _ _ hs).mono ?_; rintro e w' ⟨rfl, rfl⟩) | (go_at_call 92; refine (C0.out _).mono ?_; rintro e w' ⟨rfl, rfl⟩))
      go_ret2
      exact ⟨rfl, Below.refl _ _⟩
    · have e1 : tkOk s room = true := by simp [tkOk, hv, hr]
      have e2 : tkN s room = (tk room.toNat (bx (bits s)) s.size : Int) := by simp [tkN, e1]
      rw [e1, e2]
      rw [hr] at C0
      obtain ⟨K, rfl, hK1, hK2, hK3⟩ := room_nat hr
      rw [hK3]
      clear e1 e2 hr hK3
      have C1 := hide (fun w => l2Step_any s K w h120 ⟨hK1, hK2⟩)
      go_enter Tryz.func59, Tryz.ntmps59
      go_wp2_with (first | (go_at_call 42; refine (specRowValid_any _ _ hs).mono ?_; rintro e w' ⟨rfl, rfl⟩) | (go_at_call 92; refine (C0.out _).mono ?_; rintro e w' ⟨rfl, rfl⟩))
      refine (C1.out _).mono ?_
      rintro e w1 ⟨x, v, rfl, hx, hi, hb⟩
      clear C1 hx hi
      go_wp2
      go_ret2
      exact ⟨rfl, hb⟩

theorem IntsV.some {lo : Nat} {w : World} {v : Value} {l : List Int} (h : IntsV lo w v l) (hl : 0 < l.length) : ∃ g cap, v = .slice (some ⟨g, 0, none⟩) l.length cap ∧ l.length ≤ cap ∧ lo ≤ g ∧ g < w.heap.size ∧ CellsAt w g (l.map (.int .i64)) := by
  rcases h with ⟨a, cap, rfl, rfl⟩ | h
  · simp at hl
  · exact h

end Go.Proofs.YtdooboibmllfkaaGreatDoor
