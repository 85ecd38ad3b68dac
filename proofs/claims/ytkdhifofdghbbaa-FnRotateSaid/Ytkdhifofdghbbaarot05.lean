/- TEXTS Col3, L6In, SCol. -/
import Derived.Test.Ytkdhifofdghbbaarot04
import Derived.Test.YtkdhifofdghbbaaChecked
import Derived.Test.Ytkdhifofdghbbaarot01
import Derived.Lib.Strings
/- WHAT IS TRUE OF COLOURED ROWS: the facts behind the promises of chapter 5. Pure: no walk. -/
namespace Go.Proofs.Ytkdhifofdghbbaa
open Go.RowKit

/-- signs of coloured rows -/
def sg3 (x : UInt8) : Bool := x == 48 || x == 49 || x == 50 || x == 51
theorem sg3_iff (x : UInt8) : sg3 x = true ↔ x = 48 ∨ x = 49 ∨ x = 50 ∨ x = 51 := by
  unfold sg3
  simp [or_assoc]
def lst (s : ByteArray) : List UInt8 := s.data.toList
def ofL (l : List UInt8) : ByteArray := ⟨l.toArray⟩
theorem lst_ofL (l : List UInt8) : lst (ofL l) = l := by simp [lst, ofL]
theorem ofL_lst (s : ByteArray) : ofL (lst s) = s := by simp [lst, ofL]
theorem lst_size (s : ByteArray) : (lst s).length = s.size := by simp [lst]
theorem ofL_size (l : List UInt8) : (ofL l).size = l.length := by
  have := lst_size (ofL l)
  rw [lst_ofL] at this
  exact this.symm
/-- ColourIn -/
def cIn (s : ByteArray) : Bool := (lst s).all sg3 && decide (s.size ≤ 120)
theorem cIn_iff (s : ByteArray) : cIn s = true ↔ (∀ x ∈ lst s, sg3 x = true) ∧ s.size ≤ 120 := by
  unfold cIn
  simp
/-- a move, that of three colours; back -/
def mvO (c : UInt8) (l : List UInt8) : Option (List UInt8) := if (mv1 c l).length ≤ 120 then some (mv1 c l) else none
def bkO (c : UInt8) (l : List UInt8) : Option (List UInt8) := if cbOk c l then some (bk1 c l) else none
def stepL (l : List UInt8) : Option (List UInt8) := (mvO 49 l).bind fun a => (mvO 50 a).bind fun b => mvO 51 b
def backL (l : List UInt8) : Option (List UInt8) := (bkO 51 l).bind fun a => (bkO 50 a).bind fun b => bkO 49 b
theorem mvO_some {c : UInt8} {l r : List UInt8} (h : mvO c l = some r) : r = mv1 c l ∧ r.length ≤ 120 := by
  unfold mvO at h
  split at h
  · injection h with h; rw [← h]; exact ⟨rfl, by assumption⟩
  · cases h
theorem bkO_some {c : UInt8} {l r : List UInt8} (h : bkO c l = some r) : r = bk1 c l ∧ cbOk c l = true := by
  unfold bkO at h
  split at h
  · injection h with h; exact ⟨h.symm, by assumption⟩
  · cases h
theorem bind3 {a b : Option (List UInt8)} {f : List UInt8 → Option (List UInt8)} {r : List UInt8} (h : a.bind f = some r) (_ : b = a) : ∃ x, a = some x ∧ f x = some r := by
  cases a with
  | none => cases h
  | some x => exact ⟨x, rfl, h⟩
theorem stepL_some {l r : List UInt8} (h : stepL l = some r) : r = mv1 51 (mv1 50 (mv1 49 l)) ∧ (mv1 49 l).length ≤ 120 ∧ (mv1 50 (mv1 49 l)).length ≤ 120 ∧ r.length ≤ 120 := by
  obtain ⟨a, ha, h⟩ := bind3 h rfl
  obtain ⟨b, hb, h⟩ := bind3 h rfl
  obtain ⟨a1, a2⟩ := mvO_some ha
  obtain ⟨b1, b2⟩ := mvO_some hb
  obtain ⟨r1, r2⟩ := mvO_some h
  rw [a1] at b1 a2
  rw [b1] at r1 b2
  exact ⟨r1, a2, b2, r2⟩
theorem backL_some {l r : List UInt8} (h : backL l = some r) : r = bk1 49 (bk1 50 (bk1 51 l)) ∧ cbOk 51 l = true ∧ cbOk 50 (bk1 51 l) = true ∧ cbOk 49 (bk1 50 (bk1 51 l)) = true := by
  obtain ⟨a, ha, h⟩ := bind3 h rfl
  obtain ⟨b, hb, h⟩ := bind3 h rfl
  obtain ⟨a1, a2⟩ := bkO_some ha
  obtain ⟨b1, b2⟩ := bkO_some hb
  obtain ⟨r1, r2⟩ := bkO_some h
  rw [a1] at b1 b2
  rw [b1] at r1 r2
  exact ⟨r1, a2, b2, r2⟩
theorem n49 : (49 : UInt8) ≠ 48 := by decide
theorem n50 : (50 : UInt8) ≠ 48 := by decide
theorem n51 : (51 : UInt8) ≠ 48 := by decide
theorem cz_mv (c : UInt8) (l : List UInt8) : cz (mv1 c l) = mv1 c l := cz_cz _
theorem cz_bk (c : UInt8) (l : List UInt8) : cz (bk1 c l) = bk1 c l := cz_cz _
theorem cz_le (l : List UInt8) : (cz l).length ≤ l.length := by unfold cz; rw [List.length_take]; exact Nat.min_le_right ..
theorem bk1_le (c : UInt8) (l : List UInt8) : (bk1 c l).length ≤ l.length := by
  unfold bk1
  have := cz_le (cMv c l.reverse 0).reverse
  rw [List.length_reverse, cMv_length, List.length_reverse] at this
  exact this
theorem bkO_ok {c : UInt8} {l m : List UInt8} (h : cbOk c l = true) (e : bk1 c l = m) : bkO c l = some m := by unfold bkO; rw [if_pos h, e]
theorem mvO_ok {c : UInt8} {l m : List UInt8} (e : mv1 c l = m) (h : m.length ≤ 120) : mvO c l = some m := by unfold mvO; rw [e, if_pos h]
theorem bind_of {a : Option (List UInt8)} {x : List UInt8} {f : List UInt8 → Option (List UInt8)} (h : a = some x) : a.bind f = f x := by rw [h]; rfl
/-- P39 -/
theorem step_done_back {l r : List UInt8} (h : stepL l = some r) : backL r = some (cz l) := by
  obtain ⟨hr, _⟩ := stepL_some h
  have e1 := mv_back n51 (mv1 50 (mv1 49 l))
  have e2 := mv_back n50 (mv1 49 l)
  have e3 := mv_back n49 l
  rw [cz_mv] at e1 e2
  rw [← hr] at e1
  exact (bind_of (bkO_ok e1.1 e1.2)).trans ((bind_of (bkO_ok e2.1 e2.2)).trans (bkO_ok e3.1 e3.2))
theorem step_count {l r : List UInt8} (h : stepL l = some r) {d : UInt8} (hd : d ≠ 48) : r.count d = l.count d := by
  obtain ⟨hr, _⟩ := stepL_some h
  rw [hr, mv_count n51 hd, mv_count n50 hd, mv_count n49 hd]
/-- P41 -/
theorem back_done_step {l r : List UInt8} (h : backL l = some r) (hl : l.length ≤ 120) : stepL r = some (cz l) := by
  obtain ⟨hr, k1, k2, k3⟩ := backL_some h
  have e1 := back_mv n49 _ k3
  have e2 := back_mv n50 _ k2
  have e3 := back_mv n51 _ k1
  rw [cz_bk] at e1 e2
  rw [← hr] at e1
  have l1 := bk1_le 51 l
  have l2 := bk1_le 50 (bk1 51 l)
  have l3 := cz_le l
  exact (bind_of (mvO_ok e1 (Nat.le_trans l2 (Nat.le_trans l1 hl)))).trans ((bind_of (mvO_ok e2 (Nat.le_trans l1 hl))).trans (mvO_ok e3 (Nat.le_trans l3 hl)))
/-- signs stay signs -/
theorem cMv_sg {c : UInt8} (hc : sg3 c = true) : ∀ (l : List UInt8) (u : Nat), (∀ x ∈ l, sg3 x = true) → ∀ x ∈ cMv c l u, sg3 x = true
  | [], _, _, x, hx => by cases hx
  | y :: l, u, h, x, hx => by
    rcases List.mem_cons.1 hx with rfl | hx
    · unfold cg
      split
      · rfl
      · split
        · exact hc
        · exact h y (List.mem_cons_self ..)
    · exact cMv_sg hc l _ (fun z hz => h z (List.mem_cons_of_mem _ hz)) x hx
theorem cz_sg {l : List UInt8} (h : ∀ x ∈ l, sg3 x = true) : ∀ x ∈ cz l, sg3 x = true := fun x hx => h x (List.mem_of_mem_take hx)
theorem mv_sg {c : UInt8} (hc : sg3 c = true) {l : List UInt8} (h : ∀ x ∈ l, sg3 x = true) : ∀ x ∈ mv1 c l, sg3 x = true :=
  cz_sg (cMv_sg hc _ _ (fun x hx => by
    rcases List.mem_append.1 hx with hx | hx
    · exact h x hx
    · rw [(List.mem_replicate.1 hx).2]; rfl))
theorem bk_sg {c : UInt8} (hc : sg3 c = true) {l : List UInt8} (h : ∀ x ∈ l, sg3 x = true) : ∀ x ∈ bk1 c l, sg3 x = true :=
  cz_sg (fun x hx => cMv_sg hc _ _ (fun y hy => h y (List.mem_reverse.1 hy)) x (List.mem_reverse.1 hx))

/-! ### rows of one colour -/
def chC (c : UInt8) (l : List Bool) : List UInt8 := l.map fun b => if b then c else 48
theorem chC_length (c : UInt8) (l : List Bool) : (chC c l).length = l.length := by simp [chC]
theorem nz_chC {c : UInt8} (hc : c ≠ 48) (l : List Bool) : nz (chC c l) = l := by
  unfold nz chC
  rw [List.map_map]
  have : l.map ((fun x => !(x == 48)) ∘ fun b => if b = true then c else 48) = l.map id := List.map_congr_left (fun b _ => by cases b <;> simp [hc])
  rw [this, List.map_id]
theorem cz_chC {c : UInt8} (hc : c ≠ 48) (l : List Bool) : cz (chC c l) = chC c (cut l) := by
  unfold cz cut
  rw [nz_chC hc]
  unfold chC
  rw [List.map_take]
/-- a carrier of another colour goes by -/
theorem cMv_by {c d : UInt8} (hdc : c ≠ d) (hd : d ≠ 48) : ∀ l : List Bool, cMv d (chC c l) 0 = chC c l ∧ cLd d (chC c l) 0 = 0
  | [] => ⟨rfl, rfl⟩
  | b :: l => by
    obtain ⟨h1, h2⟩ := cMv_by hdc hd l
    have e : cg d (if b then c else 48) 0 = (if b then c else 48, 0) := by
      unfold cg
      have : ¬ (48 : UInt8) = d := fun h => hd h.symm
      cases b <;> simp [hdc, this]
    show (cg d (if b then c else 48) 0).1 :: cMv d (chC c l) _ = (if b then c else 48) :: chC c l ∧ cLd d (chC c l) _ = 0
    rw [e]
    exact ⟨by rw [h1], h2⟩
theorem mv_by {c d : UInt8} (hdc : c ≠ d) (hd : d ≠ 48) (l : List Bool) : mv1 d (chC c l) = cz (chC c l) := by
  unfold mv1 padN
  rw [cMv_append, (cMv_by hdc hd l).1, (cMv_by hdc hd l).2, (cMv_rep hd _).1]
  exact cz_pad _ _
end Go.Proofs.Ytkdhifofdghbbaa

/- THE WALK of the model's l6In. -/
namespace Go.Proofs.Ytkdhifofdghbbaa
open Go.RowKit

theorem l6In_any (n low high : Int) (b : Bool) (w : World) (hb : (decide (low ≤ n) && decide (n ≤ high)) = b) :
    Calls Try.prog 39 #[.int .i64 n, .int .i64 low, .int .i64 high] w fun e w' => e = .returned (.bool b) ∧ w = w' := by
  by_cases h1 : low ≤ n
  · by_cases h2 : n ≤ high
    · obtain rfl : true = b := by rw [← hb]; simp [h1, h2]
      clear hb
      go_enter Try.func39, Try.ntmps39
      go_wp2
      go_ret
      exact ⟨rfl, rfl⟩
    · obtain rfl : false = b := by rw [← hb]; simp [h2]
      clear hb
      go_enter Try.func39, Try.ntmps39
      go_wp2
      go_ret
      exact ⟨rfl, rfl⟩
  · obtain rfl : false = b := by rw [← hb]; simp [h1]
    clear hb
    go_enter Try.func39, Try.ntmps39
    go_wp2
    go_ret
    exact ⟨rfl, rfl⟩
end Go.Proofs.Ytkdhifofdghbbaa

/- THE WALKS of the model's ColourIn, l1Tidy and l1Done of whatever text. -/
namespace Go.Proofs.Ytkdhifofdghbbaa
open Go.RowKit

theorem lst_get (s : ByteArray) (k : Nat) (h : k < s.size) : (lst s)[k]? = some s[k] := by
  unfold lst
  rw [List.getElem?_eq_getElem (by simpa using h)]
  simp
  rfl
/-- a text cut behind its last ball, of whatever colour -/
def tidyC (s : ByteArray) : ByteArray := s.extract 0 (tl (nz (lst s)))
theorem tidyC_lst (s : ByteArray) : lst (tidyC s) = cz (lst s) := by
  unfold tidyC cz lst
  rw [Lib.extract_data]
  simp
theorem tidyC_ofL (s : ByteArray) : tidyC s = ofL (cz (lst s)) := by rw [← tidyC_lst, ofL_lst]
theorem tidyC_size (s : ByteArray) : (tidyC s).size = (cz (lst s)).length := by rw [← lst_size, tidyC_lst]

set_option maxHeartbeats 400000 in
theorem l1TidyC_any (s : ByteArray) (w : World) (hs : s.size ≤ maxLen) :
    Calls Try.prog 69 #[.string s] w fun e w' => e = .returned (.string (tidyC s)) ∧ w = w' := by
  unfold maxLen at hs
  go_enter Try.func69, Try.ntmps69
  go_wp2
  go_loop [3] (fun i => ∃ k : Nat, k ≤ s.size ∧ i = .int .i64 k ∧ Hid (tl ((nz (lst s)).take k) = tl (nz (lst s)))) (fun i => (Go.RowKit.intOf i).toNat)
  case atStart => exact ⟨s.size, Nat.le_refl _, rfl, by rw [List.take_of_length_le (by rw [nz_length, lst_size]; exact Nat.le_refl _)]; rfl⟩
  case round =>
    obtain ⟨k, hk, rfl, HT⟩ := hrel
    by_cases hk0 : k = 0
    · subst hk0
      go_wp2
      go_ret
      exact ⟨ret_string (by unfold tidyC; rw [← HT.out, List.take_zero, tl_nil]; simp), rfl⟩
    · obtain ⟨j, rfl⟩ : ∃ j, k = j + 1 := ⟨k - 1, by omega⟩
      have hj : j < s.size := by omega
      have HJ : Hid (j < (nz (lst s)).length) := by show _ < _; rw [nz_length, lst_size]; exact hj
      have HB : Hid ((nz (lst s))[j]? = some (!(s[j] == 48))) := by
        show _ = _
        unfold nz
        rw [List.getElem?_map, lst_get s j hj]
        rfl
      by_cases h48 : (s[j].toNat : Int) = 48
      · have h8 : s[j] = 48 := UInt8.toNat_inj.1 (by show s[j].toNat = 48; omega)
        have HB2 : Hid ((nz (lst s))[j]? = some false) := by show _ = _; rw [HB.out, h8]; rfl
        have hb : ((s[j].toNat : Int) == 48) = true := by simp [h48]
        clear h48 h8
        go_wp2
        go_round
        case rel => exact ⟨j, by omega, rfl, (tl_take_pred (nz (lst s)) j HJ.out HB2.out).symm.trans HT.out⟩
        case measure => simp [Go.RowKit.intOf]
      · have h8 : ¬ s[j] = 48 := fun h => h48 (by rw [h]; rfl)
        have HB2 : Hid ((nz (lst s))[j]? = some true) := by show _ = _; rw [HB.out]; simp [h8]
        have hb : ((s[j].toNat : Int) == 48) = false := by simpa using h48
        clear h48 h8
        go_wp2
        go_ret
        exact ⟨ret_string (by unfold tidyC; rw [← HT.out, tl_take_stop (nz (lst s)) j HJ.out HB2.out]), rfl⟩

set_option maxHeartbeats 400000 in
theorem l1DoneC_any (x : ByteArray) (w : World) (hs : x.size ≤ 1000) :
    Calls Try.prog 56 #[.string x] w fun e w' => e = .returned (.tuple #[.string (if (cz (lst x)).length ≤ 120 then ofL (cz (lst x)) else ByteArray.empty), .bool (decide ((cz (lst x)).length ≤ 120))]) ∧ w = w' := by
  have C := hide (fun w => l1TidyC_any x w (by unfold maxLen; omega))
  have hz := tidyC_size x
  rw [← hz, ← tidyC_ofL]
  obtain ⟨t, ht⟩ : ∃ t, t = tidyC x := ⟨_, rfl⟩
  rw [← ht] at C ⊢
  clear ht hz
  by_cases h : t.size ≤ 120
  · go_enter Try.func56, Try.ntmps56
    go_wp2_with (go_at_call 69; refine (C.out _).mono ?_; rintro e w' ⟨rfl, rfl⟩)
    go_ret2
    exact ⟨by simp, rfl⟩
  · go_enter Try.func56, Try.ntmps56
    go_wp2_with (go_at_call 69; refine (C.out _).mono ?_; rintro e w' ⟨rfl, rfl⟩)
    go_ret2
    exact ⟨by simp; rfl, rfl⟩

/-- a sign of a coloured row, as an int -/
theorem sg3_int (x : UInt8) : sg3 x = true ↔ 48 ≤ (x.toNat : Int) ∧ (x.toNat : Int) ≤ 51 := by
  rw [sg3_iff]
  constructor
  · rintro (h | h | h | h) <;> (rw [h]; decide)
  · rintro ⟨h1, h2⟩
    have h : x.toNat = 48 ∨ x.toNat = 49 ∨ x.toNat = 50 ∨ x.toNat = 51 := by omega
    rcases h with h | h | h | h
    · exact .inl (UInt8.toNat_inj.1 h)
    · exact .inr (.inl (UInt8.toNat_inj.1 h))
    · exact .inr (.inr (.inl (UInt8.toNat_inj.1 h)))
    · exact .inr (.inr (.inr (UInt8.toNat_inj.1 h)))
theorem cIn_bad (s : ByteArray) (k : Nat) (h : k < s.size) (hb : ¬ (48 ≤ (s[k].toNat : Int) ∧ (s[k].toNat : Int) ≤ 51)) : cIn s = false := by
  cases hc : cIn s
  · rfl
  · have := ((cIn_iff s).1 hc).1 s[k] (List.mem_of_getElem? (lst_get s k h))
    exact absurd ((sg3_int _).1 this) hb
theorem cIn_good (s : ByteArray) (h : ∀ k (h : k < s.size), sg3 s[k] = true) : cIn s = decide (s.size ≤ 120) := by
  have : (lst s).all sg3 = true := by
    rw [List.all_eq_true]
    intro x hx
    obtain ⟨k, hk, e⟩ := List.getElem_of_mem hx
    have hk' : k < s.size := by rw [← lst_size]; exact hk
    have e2 := lst_get s k hk'
    rw [List.getElem?_eq_getElem hk] at e2
    injection e2 with e2
    rw [← e, e2]
    exact h k hk'
  unfold cIn
  rw [this]
  rfl

end Go.Proofs.Ytkdhifofdghbbaa
