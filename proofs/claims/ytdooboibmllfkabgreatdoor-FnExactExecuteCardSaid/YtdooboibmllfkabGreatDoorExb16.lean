/- TEXTS Exe2, ExP. -/
import Derived.Test.YtdooboibmllfkabGreatDoorExb15
import Derived.Lib.ItoaNum
import Derived.Lib.Join
import Derived.Lib.ParseIntB
import Derived.Lib.Strings
import Derived.Lib.Bytealg
namespace Go.Proofs.YtdooboibmllfkabGreatDoor
set_option maxRecDepth 100000
open Go.RowKit

theorem lst_inj {x y : ByteArray} (h : lst x = lst y) : x = y := by rw [← ofL_lst x, ← ofL_lst y, h]
theorem lst_extract (x : ByteArray) (a b : Nat) : lst (x.extract a b) = ((lst x).drop a).take (b - a) := Lib.extract_data x a b
theorem vld_signs {s : ByteArray} (h : vld s = true) : ∀ c ∈ lst s, c = 48 ∨ c = 49 := by
  have h1 := vld_sgn s h
  unfold allSgn at h1
  rw [List.all_eq_true] at h1
  intro c hc
  have := h1 c hc
  unfold sgn at this
  simpa using this
theorem vld_no {s : ByteArray} (h : vld s = true) {c : UInt8} (h0 : c ≠ 48) (h1 : c ≠ 49) : c ∉ lst s := fun hc => (vld_signs h c hc).elim h0 h1
theorem vld_empty : vld ByteArray.empty = true := rfl
theorem vld_bkS {s : ByteArray} {n : Int} (h : bkOk s n = true) : vld (bkS s n) = true := (tkOk_iff (stOk_tk (back_eq h).1)).1
theorem vld_turnS {s : ByteArray} (h : vld s = true) : vld (turnS s) = true := by
  unfold turnS
  rw [if_pos h]
  refine vld_ofBits _ ?_
  have h1 := tl_le (cut (bits s)).reverse
  have h2 := vld_le s h
  have h3 := tl_bits s
  unfold turnB
  rw [cut_length]
  rw [List.length_reverse, cut_length] at h1
  omega
def Ends (x : ByteArray) : Prop := ∃ y : List UInt8, lst x = y ++ [10]
theorem Ends.app (x : ByteArray) {y : ByteArray} (h : Ends y) : Ends (x ++ y) := by
  obtain ⟨z, hz⟩ := h
  exact ⟨lst x ++ z, by rw [lst_add, hz, List.append_assoc]⟩
theorem ends_nl : Ends nlT := ⟨[], rfl⟩
theorem ends_ok : Ends okT := ⟨[111, 107], rfl⟩
theorem ends_no : Ends noT := ⟨[110, 111], rfl⟩
theorem ends_what : Ends whatT := ⟨[119, 104, 97, 116], rfl⟩
theorem ends_yes (b : Bool) : Ends (yesS b) := by
  cases b
  · exact ⟨[110, 111, 116], rfl⟩
  · exact ⟨[121, 101, 115], rfl⟩
theorem ends_said (l : List Int) (b : Bool) : Ends (saidS l b) := by
  unfold saidS
  split
  · exact Ends.app _ ends_nl
  · exact ends_no
theorem ends_rig (l : List (Int × Int)) (b : Bool) : Ends (rigS l b) := by
  unfold rigS
  split
  · exact Ends.app _ ends_nl
  · exact ends_no
theorem ends_bare (s word : ByteArray) : Ends (bareS s word) := by
  unfold bareS
  repeat' split
  all_goals first | exact Ends.app _ ends_nl | exact ends_said _ _ | exact ends_yes _ | exact ends_rig _ _ | exact ends_what
theorem ends_ask (s word rest : ByteArray) : Ends (askS s word rest) := by
  unfold askS
  repeat' split
  all_goals first | exact Ends.app _ ends_nl | exact ends_said _ _ | exact ends_no | exact ends_what
theorem szS_vld {rest : ByteArray} (h : (szS rest).2 = true) : vld (szS rest).1 = true := by
  unfold szS at h ⊢
  split
  · rename_i x l e
    rw [e] at h
    exact (swS_facts h).1
  · exact vld_empty
theorem chS_vld {s word rest : ByteArray} (h2 : (chS s word rest).2.2 = true) : vld (chS s word rest).1 = true := by
  unfold chS at h2 ⊢
  by_cases e1 : word = wSet
  · rw [if_pos e1] at h2 ⊢
    have h3 : vld rest = true := h2
    show vld (if vld rest then tidyS rest else ByteArray.empty) = true
    rw [if_pos h3]
    exact vld_tidyS rest h3
  · rw [if_neg e1] at h2 ⊢
    by_cases e2 : word = wSizes
    · rw [if_pos e2] at h2 ⊢
      exact szS_vld h2
    · rw [if_neg e2] at h2 ⊢
      by_cases e3 : word = wShift
      · rw [if_pos e3] at h2 ⊢
        exact (shS_facts s _ h2).1
      · rw [if_neg e3] at h2 ⊢
        by_cases e4 : word = wStep
        · rw [if_pos e4] at h2 ⊢
          exact vld_stS h2
        · rw [if_neg e4] at h2 ⊢
          by_cases e5 : word = wBack
          · rw [if_pos e5] at h2 ⊢
            exact vld_bkS h2
          · rw [if_neg e5] at h2
            cases h2
theorem lineS_ok {s : ByteArray} (line : ByteArray) (h : vld s = true) : vld (lineS s line).1 = true ∧ Ends (lineS s line).2 := by
  unfold lineS
  by_cases e1 : atL (lst line) = line.size
  · rw [if_pos e1]
    by_cases e2 : line = wTurned
    · rw [if_pos e2]; exact ⟨vld_turnS h, ends_ok⟩
    · rw [if_neg e2]; exact ⟨h, ends_bare _ _⟩
  · rw [if_neg e1]
    obtain ⟨wd, hw⟩ : ∃ wd, wd = line.extract 0 (atL (lst line)) := ⟨_, rfl⟩
    obtain ⟨rs, hr⟩ : ∃ rs, rs = line.extract (atL (lst line) + 1) line.size := ⟨_, rfl⟩
    rw [← hw, ← hr]
    by_cases e2 : (chS s wd rs).2.1 = true
    · rw [if_pos e2]
      by_cases e3 : (chS s wd rs).2.2 = true
      · rw [if_pos e3]; exact ⟨chS_vld e3, ends_ok⟩
      · rw [if_neg e3]; exact ⟨h, ends_no⟩
    · rw [if_neg e2]; exact ⟨h, ends_ask _ _ _⟩
theorem tw_all {α : Type} {p : α → Bool} : ∀ {l : List α}, (∀ x ∈ l, p x = true) → l.takeWhile p = l
  | [], _ => rfl
  | x :: l, h => by
    rw [List.takeWhile_cons, if_pos (h x (List.mem_cons_self ..)), tw_all (fun y hy => h y (List.mem_cons_of_mem _ hy))]
theorem atL_all {l : List UInt8} (h : 32 ∉ l) : atL l = l.length := by
  unfold atL
  rw [tw_all]
  intro x hx
  simp
  intro e
  subst e
  exact h hx
theorem atL_word {a : List UInt8} (b : List UInt8) (h : 32 ∉ a) : atL (a ++ 32 :: b) = a.length := by
  unfold atL
  rw [List.takeWhile_append_of_pos (by
    intro x hx
    simp
    intro e
    subst e
    exact h hx)]
  simp
theorem lineS_bare {s line : ByteArray} (h : 32 ∉ lst line) : lineS s line = if line = wTurned then (turnS s, okT) else (s, bareS s line) := by
  unfold lineS
  rw [if_pos (by rw [atL_all h, lst_size])]
theorem lineS_rest {s word rest : ByteArray} (h : 32 ∉ lst word) : lineS s (ofL (lst word ++ 32 :: lst rest)) =
    if (chS s word rest).2.1 then (if (chS s word rest).2.2 then ((chS s word rest).1, okT) else (s, noT)) else (s, askS s word rest) := by
  have hz : (ofL (lst word ++ 32 :: lst rest)).size = word.size + 1 + rest.size := by
    rw [← lst_size, lst_ofL, List.length_append, List.length_cons, lst_size, lst_size]; omega
  have ha : atL (lst (ofL (lst word ++ 32 :: lst rest))) = word.size := by rw [lst_ofL, atL_word _ h, lst_size]
  have e1 : (ofL (lst word ++ 32 :: lst rest)).extract 0 word.size = word := lst_inj (by
    rw [lst_extract, lst_ofL, List.drop_zero, Nat.sub_zero]
    exact List.take_left' (lst_size word))
  have e2 : (ofL (lst word ++ 32 :: lst rest)).extract (word.size + 1) (ofL (lst word ++ 32 :: lst rest)).size = rest := lst_inj (by
    rw [lst_extract, hz, lst_ofL]
    have : (lst word ++ 32 :: lst rest).drop (word.size + 1) = lst rest := by
      rw [← lst_size word, List.drop_append, List.drop_of_length_le (by omega)]
      simp
    rw [this]
    exact List.take_of_length_le (by rw [lst_size]; omega))
  unfold lineS
  rw [ha, if_neg (by rw [hz]; omega), e1, e2]
theorem line_show (s : ByteArray) : lineS s wShow = (s, rowS s ++ nlT) := by
  rw [lineS_bare (by decide), if_neg (by decide)]
  unfold bareS
  rw [if_pos rfl]
theorem rowS_size {s : ByteArray} (h : vld s = true) : 1 ≤ (rowS s).size ∧ (rowS s).size ≤ 120 := by
  unfold rowS
  have := vld_le s h
  split
  · exact ⟨Nat.le_refl _, by decide⟩
  · omega
theorem bx_tidy (s : ByteArray) : bx (bits (tidyS s)) = bx (bits s) := by rw [bits_tidyS, bx_fun_cut]
theorem tk_tidy {s : ByteArray} {n : Int} (h : tkOk s n = true) : tkOk (tidyS s) n = true ∧ tkN (tidyS s) n = tkN s n := by
  obtain ⟨hv, hr⟩ := tkOk_iff h
  have h2 : tkOk (tidyS s) n = true := by unfold tkOk; rw [vld_tidyS s hv, hr]; rfl
  refine ⟨h2, ?_⟩
  rw [tkN_at h (s.size + (tidyS s).size) (by omega), tkN_at h2 (s.size + (tidyS s).size) (by omega), bx_tidy]
theorem st_tidy {s : ByteArray} {n : Int} (h : stOk s n = true) : stOk (tidyS s) n = true ∧ stS (tidyS s) n = stS s n := by
  have he : ∀ i, bx (stp n.toNat (bits (tidyS s))) i = bx (stp n.toNat (bits s)) i := fun i => by rw [bx_stp, bx_stp, bx_tidy]
  obtain ⟨hv, hr⟩ := tkOk_iff (stOk_tk h)
  have h2 : stOk (tidyS s) n = true := by
    unfold stOk
    rw [vld_tidyS s hv, hr, tl_ext he]
    have := stOk_le h
    simp
    exact this
  refine ⟨h2, ?_⟩
  unfold stS
  rw [if_pos h, if_pos h2]
  exact text_ext he
set_option maxRecDepth 100000 in
theorem num_dec : ∀ n : Nat, n ≤ 200 → numI (decS n) = (n : Int) := by decide
set_option maxRecDepth 100000 in
theorem dec_no : ∀ n : Nat, n ≤ 200 → 10 ∉ lst (decS n) ∧ 1 ≤ (decS n).size ∧ (decS n).size ≤ 3 := by decide
theorem room_200 {n : Int} (h : roomOk n = true) : 1 ≤ n ∧ n ≤ 200 := by unfold roomOk at h; simpa using h
def scr59 (s : ByteArray) (n : Int) : ByteArray := ofL ((lst wSet ++ 32 :: lst s) ++ [10] ++ (lst wEnergy ++ 32 :: lst (dcI n)) ++ [10] ++ (lst wStep ++ 32 :: lst (dcI n)) ++ [10] ++ lst wShow ++ [10])
theorem ex59 {s : ByteArray} {n : Int} (h : stOk s n = true) :
    exS (scr59 s n) = okT ++ (dcI (tkN s n) ++ nlT) ++ okT ++ (rowS (stS s n) ++ nlT) ++ rowT ++ rowS (stS s n) ++ nlT := by
  obtain ⟨hv, hr⟩ := tkOk_iff (stOk_tk h)
  obtain ⟨r1, r2⟩ := room_200 hr
  obtain ⟨m, rfl⟩ : ∃ m : Nat, n = (m : Int) := ⟨n.toNat, by omega⟩
  have hm : m ≤ 200 := by omega
  have hd : dcI (m : Int) = decS m := rfl
  obtain ⟨d1, d2, d3⟩ := dec_no m hm
  have hnum := num_dec m hm
  have hsz := vld_le s hv
  obtain ⟨t1, t2⟩ := tk_tidy (stOk_tk h)
  obtain ⟨t3, t4⟩ := st_tidy h
  have l1 : lineS ByteArray.empty (ofL (lst wSet ++ 32 :: lst s)) = (tidyS s, okT) := by
    rw [lineS_rest (by decide)]
    unfold chS
    rw [if_pos rfl, hv]
    rfl
  have l2 : lineS (tidyS s) (ofL (lst wEnergy ++ 32 :: lst (decS m))) = (tidyS s, dcI (tkN s (m : Int)) ++ nlT) := by
    rw [lineS_rest (by decide)]
    have hc : chS (tidyS s) wEnergy (decS m) = (tidyS s, false, false) := by
      unfold chS
      rw [if_neg (by decide), if_neg (by decide), if_neg (by decide), if_neg (by decide), if_neg (by decide)]
    rw [hc, if_neg (show ¬ (false : Bool) = true from by decide)]
    unfold askS
    rw [if_pos rfl, hnum, t1, t2]
    rfl
  have l3 : lineS (tidyS s) (ofL (lst wStep ++ 32 :: lst (decS m))) = (stS s (m : Int), okT) := by
    rw [lineS_rest (by decide)]
    have hc : chS (tidyS s) wStep (decS m) = (stS s (m : Int), true, true) := by
      unfold chS
      rw [if_neg (by decide), if_neg (by decide), if_neg (by decide), if_pos rfl, hnum, t3, t4]
    rw [hc]
    rfl
  have n1 : 10 ∉ lst wSet ++ 32 :: lst s := by
    rw [List.mem_append, List.mem_cons]
    rintro (e | e | e)
    · exact absurd e (by decide)
    · exact absurd e (by decide)
    · exact vld_no hv (by decide) (by decide) e
  have n2 : 10 ∉ lst wEnergy ++ 32 :: lst (decS m) := by
    rw [List.mem_append, List.mem_cons]
    rintro (e | e | e)
    · exact absurd e (by decide)
    · exact absurd e (by decide)
    · exact d1 e
  have n3 : 10 ∉ lst wStep ++ 32 :: lst (decS m) := by
    rw [List.mem_append, List.mem_cons]
    rintro (e | e | e)
    · exact absurd e (by decide)
    · exact absurd e (by decide)
    · exact d1 e
  have n4 : 10 ∉ lst wShow := by decide
  have hz : (scr59 s (m : Int)).size ≤ 600 := by
    have z1 : (lst wSet).length = 3 := rfl
    have z2 : (lst wEnergy).length = 6 := rfl
    have z3 : (lst wStep).length = 4 := rfl
    have z4 : (lst wShow).length = 4 := rfl
    unfold scr59
    rw [← lst_size, lst_ofL, hd]
    simp only [List.length_append, List.length_cons, List.length_nil, z1, z2, z3, z4, lst_size]
    omega
  unfold exS
  rw [if_neg (by omega)]
  unfold scr59
  rw [lst_ofL, hd]
  have e : (lst wSet ++ 32 :: lst s) ++ [10] ++ (lst wEnergy ++ 32 :: lst (decS m)) ++ [10] ++ (lst wStep ++ 32 :: lst (decS m)) ++ [10] ++ lst wShow ++ [10] =
      ((lst wSet ++ 32 :: lst s) ++ [10]) ++ (((lst wEnergy ++ 32 :: lst (decS m)) ++ [10]) ++ (((lst wStep ++ 32 :: lst (decS m)) ++ [10]) ++ (lst wShow ++ [10]))) := by
    simp only [List.append_assoc]
  rw [e, run3_app, run3_line _ _ _ n1, l1, run3_app, run3_line _ _ _ n2, l2, run3_app, run3_line _ _ _ n3, l3, run3_line _ _ _ n4, ofL_lst, line_show]
  unfold endS
  simp only [ByteArray.empty_append]
def scr60 (s : ByteArray) : ByteArray := ofL ((lst wSet ++ 32 :: lst s) ++ [10] ++ lst wHigh ++ [10] ++ lst wBalls ++ [10])
theorem high_tidy {s : ByteArray} (h : highB s = true) : vld s = true ∧ tidyS s = s := by
  have h1 := (highB_iff s).1 h
  have h2 := h1.1
  unfold levOk at h2
  rw [Bool.and_eq_true, decide_eq_true_eq] at h2
  exact ⟨h2.1, tidyS_self s h2.2⟩
theorem ex60 {s : ByteArray} (h : highB s = true) : exS (scr60 s) = okT ++ yesT ++ (dcI (nballs (bits s) : Int) ++ nlT) ++ rowT ++ rowS s ++ nlT := by
  obtain ⟨hv, ht⟩ := high_tidy h
  have hsz := vld_le s hv
  have l1 : lineS ByteArray.empty (ofL (lst wSet ++ 32 :: lst s)) = (s, okT) := by
    rw [lineS_rest (by decide)]
    unfold chS
    rw [if_pos rfl, hv, ht]
    rfl
  have l2 : lineS s wHigh = (s, yesT) := by
    rw [lineS_bare (by decide), if_neg (by decide)]
    unfold bareS
    rw [if_neg (by decide), if_neg (by decide), if_neg (by decide), if_neg (by decide), if_neg (by decide), if_neg (by decide), if_pos rfl, h]
    rfl
  have l3 : lineS s wBalls = (s, dcI (nballs (bits s) : Int) ++ nlT) := by
    rw [lineS_bare (by decide), if_neg (by decide)]
    unfold bareS
    rw [if_neg (by decide), if_pos rfl]
    rfl
  have n1 : 10 ∉ lst wSet ++ 32 :: lst s := by
    rw [List.mem_append, List.mem_cons]
    rintro (e | e | e)
    · exact absurd e (by decide)
    · exact absurd e (by decide)
    · exact vld_no hv (by decide) (by decide) e
  have n2 : 10 ∉ lst wHigh := by decide
  have n3 : 10 ∉ lst wBalls := by decide
  have hz : (scr60 s).size ≤ 600 := by
    have z1 : (lst wSet).length = 3 := rfl
    have z2 : (lst wHigh).length = 4 := rfl
    have z3 : (lst wBalls).length = 5 := rfl
    unfold scr60
    rw [← lst_size, lst_ofL]
    simp only [List.length_append, List.length_cons, List.length_nil, z1, z2, z3, lst_size]
    omega
  unfold exS
  rw [if_neg (by omega)]
  unfold scr60
  rw [lst_ofL]
  have e : (lst wSet ++ 32 :: lst s) ++ [10] ++ lst wHigh ++ [10] ++ lst wBalls ++ [10] = ((lst wSet ++ 32 :: lst s) ++ [10]) ++ ((lst wHigh ++ [10]) ++ (lst wBalls ++ [10])) := by
    simp only [List.append_assoc]
  rw [e, run3_app, run3_line _ _ _ n1, l1, run3_app, run3_line _ _ _ n2, ofL_lst, l2, run3_line _ _ _ n3, ofL_lst, l3]
  unfold endS
  simp only [ByteArray.empty_append]
end Go.Proofs.YtdooboibmllfkabGreatDoor

namespace Go.Proofs.YtdooboibmllfkabGreatDoor
set_option maxRecDepth 100000
open Go.RowKit

theorem dec_lst : ∀ (f n : Nat), n < 10 ^ (f + 1) → Lib.decDigits n = lst (decF f n)
  | 0, n, h => by
    have h' : n < 10 := by simpa using h
    rw [Lib.decDigits_one h']
    rfl
  | f + 1, n, h => by
    by_cases h' : n < 10
    · rw [Lib.decDigits_one h']
      show _ = lst (if n < 10 then dg n else _)
      rw [if_pos h']
      rfl
    · have h2 : n / 10 < 10 ^ (f + 1) := by
        rw [Nat.div_lt_iff_lt_mul (by omega), ← Nat.pow_succ]
        exact h
      rw [Lib.decDigits, dif_neg h', dec_lst f (n / 10) h2]
      show _ = lst (if n < 10 then dg n else decF f (n / 10) ++ dg (n % 10))
      rw [if_neg h', lst_add]
      rfl
theorem itoa_dcI {x : Int} (h0 : 0 ≤ x) (h1 : x < 10000000) : (⟨(Lib.itoa x).toArray⟩ : ByteArray) = dcI x := by
  have e : Lib.itoa x = Lib.decDigits x.toNat := by unfold Lib.itoa; rw [if_neg (by omega)]
  rw [e, dec_lst 6 x.toNat (by omega)]
  exact ofL_lst _
def badU : Lib.NumEnd Nat := Lib.parseUintB 64 []
theorem parse_numL : ∀ (l : List UInt8) (acc : Nat), (acc + 1) * 10 ^ l.length ≤ 1000 → Lib.parseUintM (2 ^ 64 - 1) acc l = match numL l acc with | some n => .ok n | none => badU
  | [], acc, _ => rfl
  | c :: t, acc, h => by
    have hp : 1 ≤ 10 ^ t.length := Nat.one_le_pow _ _ (by omega)
    have h10 : (acc + 1) * 10 ^ (t.length + 1) ≤ 1000 := h
    have hs : (acc + 1) * 10 ^ (t.length + 1) = (acc * 10 + 10) * 10 ^ t.length := by rw [Nat.pow_succ, Nat.mul_comm _ 10, ← Nat.mul_assoc, Nat.add_mul]
    have hb : acc * 10 + 10 ≤ 1000 := by
      rw [hs] at h10
      exact Nat.le_trans (Nat.le_mul_of_pos_right _ hp) h10
    unfold Lib.parseUintM numL
    by_cases hd : 48 ≤ c.toNat ∧ c.toNat ≤ 57
    · rw [if_pos hd, if_pos hd, if_neg (by omega), if_neg (by omega), Nat.mul_comm acc 10]
      refine parse_numL t _ (Nat.le_trans (Nat.mul_le_mul_right _ (show 10 * acc + (c.toNat - 48) + 1 ≤ acc * 10 + 10 by omega)) ?_)
      rw [← hs]
      exact h10
    · rw [if_neg hd, if_neg hd]
      rfl
theorem parse_few {t : ByteArray} (h : t.size ≤ 3) : (∃ u, Lib.parseUintB 64 t.data.toList = .ok u ∧ numI t = (u : Int) ∧ u ≤ 999) ∨ (Lib.parseUintB 64 t.data.toList = badU ∧ numI t = -1) := by
  unfold Lib.parseUintB numI
  by_cases h0 : t.size = 0
  · right
    have e : t.data.toList = [] := List.eq_nil_of_length_eq_zero (by rw [← h0]; exact lst_size t)
    rw [if_pos e, if_neg (by omega)]
    exact ⟨rfl, rfl⟩
  · have e : ¬ t.data.toList = [] := fun e => h0 (by rw [← lst_size]; unfold lst; rw [e]; rfl)
    rw [if_neg e, if_pos (by omega)]
    have hl : (lst t).length ≤ 3 := by rw [lst_size]; exact h
    have hp := parse_numL (lst t) 0 (by
      have : (10 : Nat) ^ (lst t).length ≤ 10 ^ 3 := Nat.pow_le_pow_right (by omega) hl
      omega)
    have hp' : Lib.parseUintM (2 ^ 64 - 1) 0 t.data.toList = match numL (lst t) 0 with | some n => .ok n | none => badU := hp
    cases hn : numL (lst t) 0 with
    | none =>
      right
      rw [hn] at hp'
      exact ⟨hp', rfl⟩
    | some u =>
      left
      rw [hn] at hp'
      refine ⟨u, hp', rfl, ?_⟩
      have : ∀ (l : List UInt8) (acc u : Nat), (acc + 1) * 10 ^ l.length ≤ 1000 → numL l acc = some u → u ≤ 999 := by
        intro l
        induction l with
        | nil =>
          intro acc u h hu
          cases hu
          simp at h
          omega
        | cons c t ih =>
          intro acc u h hu
          unfold numL at hu
          split at hu
          · refine ih _ u (Nat.le_trans (Nat.mul_le_mul_right _ (show 10 * acc + (c.toNat - 48) + 1 ≤ acc * 10 + 10 by omega)) ?_) hu
            have hs : (acc + 1) * 10 ^ (t.length + 1) = (acc * 10 + 10) * 10 ^ t.length := by rw [Nat.pow_succ, Nat.mul_comm _ 10, ← Nat.mul_assoc, Nat.add_mul]
            rw [← hs]
            exact h
          · cases hu
      exact this (lst t) 0 u (by
        have : (10 : Nat) ^ (lst t).length ≤ 10 ^ 3 := Nat.pow_le_pow_right (by omega) hl
        omega) hn
theorem num_long {t : ByteArray} (h : ¬ t.size ≤ 3) : numI t = -1 := by unfold numI; rw [if_neg (by omega)]

theorem join_snoc (l : List (List UInt8)) (x sep : List UInt8) : Lib.join (l ++ [x]) sep = if l = [] then x else Lib.join l sep ++ sep ++ x := by
  cases l with
  | nil => exact Lib.join_one x sep
  | cons y r =>
    rw [if_neg (by simp)]
    show Lib.join (y :: (r ++ [x])) sep = _
    rw [Lib.join_cons, Lib.join_cons]
    unfold Lib.joinTail
    simp
theorem join_jns : ∀ (n : Nat) (l : List ByteArray), l.length = n → Lib.join (l.map (·.data.toList)) [32] = lst (jns l)
  | 0, l, h => by
    obtain rfl := List.eq_nil_of_length_eq_zero h
    rfl
  | n + 1, l, h => by
    rcases List.eq_nil_or_concat l with rfl | ⟨l', x, rfl⟩
    · cases h
    · rw [List.concat_eq_append] at h ⊢
      rw [List.map_append, List.map_cons, List.map_nil, join_snoc, jns_snoc]
      by_cases hl : l' = []
      · subst hl
        rfl
      · rw [if_neg (by simpa using hl), if_neg hl, join_jns n l' (by simpa using h), lst_add, lst_add]
        rfl
theorem join_text (l : List ByteArray) : (⟨(Lib.join (l.map (·.data.toList)) [32]).toArray⟩ : ByteArray) = jns l := by
  rw [join_jns _ l rfl]
  exact ofL_lst _

def lnY : List UInt8 → List UInt8 → List (List UInt8)
  | cur, [] => if cur = [] then [] else [cur]
  | cur, c :: t => if c = 10 then (cur ++ [c]) :: lnY [] t else lnY (cur ++ [c]) t
def linesB (s : ByteArray) : List ByteArray := (lnY [] (lst s)).map ofL
theorem lnY_app : ∀ (p cur t : List UInt8), 10 ∉ p → lnY cur (p ++ t) = lnY (cur ++ p) t
  | [], cur, t, _ => by simp
  | c :: p, cur, t, h => by
    have h1 : ¬ c = 10 := fun e => h (by rw [e]; exact List.mem_cons_self ..)
    show (if c = 10 then _ else lnY (cur ++ [c]) (p ++ t)) = _
    rw [if_neg h1, lnY_app p (cur ++ [c]) t (fun e => h (List.mem_cons_of_mem _ e)), List.append_assoc]
    rfl
theorem lnY_cut {p t : List UInt8} (h : 10 ∉ p) : lnY [] (p ++ 10 :: t) = (p ++ [10]) :: lnY [] t := by
  rw [lnY_app p [] (10 :: t) h]
  rfl
theorem lnY_last {p : List UInt8} (h : 10 ∉ p) (hp : p ≠ []) : lnY [] p = [p] := by
  have := lnY_app p [] [] h
  rw [List.append_nil] at this
  rw [this]
  show (if [] ++ p = [] then _ else _) = _
  rw [if_neg (by simpa using hp)]
  rfl
def wkL (q : ByteArray × ByteArray) (x : List UInt8) : ByteArray × ByteArray :=
  if x.getLast? = some 10 then ((lineS q.1 (ofL x.dropLast)).1, q.2 ++ (lineS q.1 (ofL x.dropLast)).2) else q
theorem wkL_run : ∀ (l cur : List UInt8) (s o : ByteArray), 10 ∉ cur → (lnY cur l).foldl wkL (s, o) = ((run3 s o cur l).1, (run3 s o cur l).2.1)
  | [], cur, s, o, h => by
    show (if cur = [] then [] else [cur]).foldl wkL (s, o) = (s, o)
    split
    · rfl
    · show wkL (s, o) cur = _
      unfold wkL
      rw [if_neg]
      intro e
      exact h (List.mem_of_getLast? e)
  | c :: t, cur, s, o, h => by
    by_cases hc : c = 10
    · show (if c = 10 then (cur ++ [c]) :: lnY [] t else _).foldl wkL (s, o) = _
      rw [if_pos hc]
      show (lnY [] t).foldl wkL (wkL (s, o) (cur ++ [c])) = _
      have e : wkL (s, o) (cur ++ [c]) = ((lineS s (ofL cur)).1, o ++ (lineS s (ofL cur)).2) := by
        unfold wkL
        rw [if_pos (by simp [hc]), List.dropLast_concat]
      rw [e, wkL_run t [] _ _ (by simp)]
      simp only [run3, if_pos hc]
    · show (if c = 10 then _ else lnY (cur ++ [c]) t).foldl wkL (s, o) = _
      rw [if_neg hc, wkL_run t (cur ++ [c]) s o (by
        intro hm
        rcases List.mem_append.1 hm with hm | hm
        · exact h hm
        · exact hc (List.mem_singleton.1 hm).symm)]
      simp only [run3, if_neg hc]
def exK (text : ByteArray) (k : Nat) : ByteArray × ByteArray := ((lnY [] (lst text)).take k).foldl wkL (ByteArray.empty, ByteArray.empty)
theorem exK_end (text : ByteArray) : exK text (linesB text).length = ((run3 ByteArray.empty ByteArray.empty [] (lst text)).1, (run3 ByteArray.empty ByteArray.empty [] (lst text)).2.1) := by
  unfold exK linesB
  rw [List.length_map, List.take_length]
  exact wkL_run _ _ _ _ (by simp)
theorem exK_step {text : ByteArray} {k : Nat} {x : ByteArray} (h : (linesB text)[k]? = some x) : exK text (k + 1) = wkL (exK text k) (lst x) := by
  unfold linesB at h
  rw [List.getElem?_map] at h
  obtain ⟨y, hy, rfl⟩ := Option.map_eq_some_iff.1 h
  unfold exK
  rw [List.take_add_one, hy, lst_ofL, List.foldl_append]
  rfl
theorem lnY_size : ∀ (l cur : List UInt8), ∀ x ∈ lnY cur l, x.length ≤ cur.length + l.length
  | [], cur, x, h => by
    simp only [lnY] at h
    split at h
    · cases h
    · rw [List.mem_singleton.1 h]; simp
  | c :: t, cur, x, h => by
    simp only [lnY] at h
    split at h
    · rcases List.mem_cons.1 h with rfl | h
      · simp
      · have := lnY_size t [] x h
        simp at this ⊢
        omega
    · have := lnY_size t (cur ++ [c]) x h
      simp at this ⊢
      omega
theorem lnY_count : ∀ (l cur : List UInt8), (lnY cur l).length ≤ cur.length + l.length
  | [], cur => by
    simp only [lnY]
    cases cur <;> simp
  | c :: t, cur => by
    simp only [lnY]
    split
    · have := lnY_count t []
      simp at this ⊢
      omega
    · have := lnY_count t (cur ++ [c])
      simp at this ⊢
      omega
theorem linesB_size {s x : ByteArray} (h : x ∈ linesB s) : x.size ≤ s.size := by
  unfold linesB at h
  obtain ⟨y, hy, rfl⟩ := List.mem_map.1 h
  have := lnY_size (lst s) [] y hy
  rw [lst_size] at this
  have e : (ofL y).size = y.length := by rw [← lst_size, lst_ofL]
  simp at this
  omega
theorem linesB_count (s : ByteArray) : (linesB s).length ≤ s.size := by
  unfold linesB
  have := lnY_count (lst s) []
  rw [List.length_map]
  rw [lst_size] at this
  simpa using this
theorem suf_one (l : List UInt8) : Lib.hasSuffix l [10] = decide (l.getLast? = some 10) := by
  unfold Lib.hasSuffix
  rw [Bool.eq_iff_iff, decide_eq_true_iff, List.isSuffixOf_iff_suffix]
  constructor
  · rintro ⟨p, rfl⟩; simp
  · intro h
    obtain ⟨p, rfl⟩ := List.getLast?_eq_some_iff.1 h
    exact ⟨p, rfl⟩
theorem trim_one {l : List UInt8} (h : l.getLast? = some 10) : Lib.trimSuffix l [10] = l.dropLast := by
  unfold Lib.trimSuffix
  rw [suf_one, if_pos (by simpa using h), List.dropLast_eq_take]
  rfl
theorem index_some : ∀ {l : List UInt8} {c : UInt8} {k : Nat}, Lib.indexByte l c = (k : Int) → l = l.take k ++ c :: l.drop (k + 1) ∧ c ∉ l.take k ∧ k < l.length
  | [], c, k, h => by
    have h' : (-1 : Int) = (k : Int) := h
    omega
  | b :: l, c, k, h => by
    unfold Lib.indexByte at h
    by_cases hb : b = c
    · subst hb
      simp at h
      have : k = 0 := by omega
      subst this
      simp
    · rw [if_neg (by simpa using hb)] at h
      split at h
      · omega
      · rename_i hn
        cases k with
        | zero =>
          exfalso
          have := Lib.indexByte_ge l c
          simp at hn
          omega
        | succ k =>
          obtain ⟨h1, h2, h3⟩ := index_some (l := l) (c := c) (k := k) (by omega)
          refine ⟨by simp only [List.take_succ_cons, List.drop_succ_cons, List.cons_append]; rw [← h1], ?_, by simpa using h3⟩
          simp only [List.take_succ_cons, List.mem_cons, not_or]
          exact ⟨fun e => hb e.symm, h2⟩
theorem index_none : ∀ {l : List UInt8} {c : UInt8}, Lib.indexByte l c < 0 → c ∉ l
  | [], c, _ => by simp
  | b :: l, c, h => by
    unfold Lib.indexByte at h
    by_cases hb : b = c
    · subst hb; simp at h
    · rw [if_neg (by simpa using hb)] at h
      have hg := Lib.indexByte_ge l c
      have : Lib.indexByte l c < 0 := by
        split at h
        · rename_i hn; simp at hn; omega
        · omega
      simp only [List.mem_cons, not_or]
      exact ⟨fun e => hb e.symm, index_none this⟩

def okB : ByteArray := ⟨#[111, 107]⟩
def noB : ByteArray := ⟨#[110, 111]⟩
def whatB : ByteArray := ⟨#[119, 104, 97, 116]⟩
def yesB : ByteArray := ⟨#[121, 101, 115]⟩
def notB : ByteArray := ⟨#[110, 111, 116]⟩
def loneS (s w : ByteArray) : Option (ByteArray × ByteArray × Bool) :=
  if w = wTurned then some (turnS s, okB, true) else
  if w = wShow then some (s, rowS s, true) else
  if w = wBalls then some (s, dcI (nballs (bits s) : Int), true) else
  if w = wShape then some (s, jns ((shR s).map dcI), true) else
  if w = wRuns then some (s, jns ((rnR s).map dcI), true) else
  if w = wTime then some (s, dcI (tmR s).1, (tmR s).2) else
  if w = wApart then some (s, if apOk s then yesB else notB, true) else
  if w = wHigh then some (s, if highB s then yesB else notB, true) else
  if w = wRigged then some (s, jns ((rgOf s).map fun p => dcI p.1 ++ colT ++ dcI p.2), highB s) else none
def becS (s x : ByteArray) (b : Bool) : ByteArray × ByteArray × Bool := if b then (x, okB, true) else (s, ByteArray.empty, false)
def restS (s w r : ByteArray) : Option (ByteArray × ByteArray × Bool) :=
  if w = wSet then some (becS s (if vld r then tidyS r else ByteArray.empty) (vld r)) else
  if w = wSizes then some (becS s (szS r).1 (szS r).2) else
  if w = wShift then some (becS s (shS s (numI r)) (shOk s (numI r))) else
  if w = wStep then some (becS s (stS s (numI r)) (stOk s (numI r))) else
  if w = wBack then some (becS s (bkS s (numI r)) (bkOk s (numI r))) else
  if w = wEnergy then some (s, dcI (tkN s (numI r)), tkOk s (numI r)) else
  if w = wPeriod then some (s, dcI (cpN r), ciIn r) else
  if w = wColours then some (s, rowS (csS r), csOk r) else none
def cmdS (s line : ByteArray) : Option (ByteArray × ByteArray × Bool) :=
  if atL (lst line) = line.size then loneS s line else restS s (line.extract 0 (atL (lst line))) (line.extract (atL (lst line) + 1) line.size)
def ansS (s : ByteArray) : Option (ByteArray × ByteArray × Bool) → ByteArray × ByteArray
  | none => (s, whatB)
  | some (s', t, b) => (s', if b then t else noB)
theorem ans_said (l : List Int) (b : Bool) : (if b then jns (l.map dcI) else noB) ++ nlT = saidS l b := by cases b <;> rfl
theorem ans_yes (b : Bool) : (if b then yesB else notB) ++ nlT = yesS b := by cases b <;> rfl
theorem ans_rig (l : List (Int × Int)) (b : Bool) : (if b then jns (l.map fun p => dcI p.1 ++ colT ++ dcI p.2) else noB) ++ nlT = rigS l b := by cases b <;> rfl
theorem lineS_cmd {s : ByteArray} (line : ByteArray) (hv : vld s = true) : lineS s line = ((ansS s (cmdS s line)).1, (ansS s (cmdS s line)).2 ++ nlT) := by
  unfold lineS cmdS
  by_cases hat : atL (lst line) = line.size
  · rw [if_pos hat, if_pos hat]
    unfold loneS
    by_cases c0 : line = wTurned
    · rw [if_pos c0, if_pos c0]; rfl
    rw [if_neg c0, if_neg c0]
    unfold bareS
    by_cases c1 : line = wShow
    · rw [if_pos c1, if_pos c1]; rfl
    rw [if_neg c1, if_neg c1]
    by_cases c2 : line = wBalls
    · rw [if_pos c2, if_pos c2]; rfl
    rw [if_neg c2, if_neg c2]
    by_cases c3 : line = wShape
    · rw [if_pos c3, if_pos c3, hv]; rfl
    rw [if_neg c3, if_neg c3]
    by_cases c4 : line = wRuns
    · rw [if_pos c4, if_pos c4, hv]; rfl
    rw [if_neg c4, if_neg c4]
    by_cases c5 : line = wTime
    · rw [if_pos c5, if_pos c5, ← ans_said]; rfl
    rw [if_neg c5, if_neg c5]
    by_cases c6 : line = wApart
    · rw [if_pos c6, if_pos c6, ← ans_yes]; rfl
    rw [if_neg c6, if_neg c6]
    by_cases c7 : line = wHigh
    · rw [if_pos c7, if_pos c7, ← ans_yes]; rfl
    rw [if_neg c7, if_neg c7]
    by_cases c8 : line = wRigged
    · rw [if_pos c8, if_pos c8, ← ans_rig]; rfl
    rw [if_neg c8, if_neg c8]
    rfl
  · rw [if_neg hat, if_neg hat]
    generalize line.extract 0 (atL (lst line)) = w
    generalize line.extract (atL (lst line) + 1) line.size = r
    unfold restS chS
    have bec : ∀ (x : ByteArray) (b : Bool), (if (x, true, b).2.1 = true then if (x, true, b).2.2 = true then ((x, true, b).1, okT) else (s, noT) else (s, askS s w r)) = ((ansS s (some (becS s x b))).1, (ansS s (some (becS s x b))).2 ++ nlT) := by
      intro x b; cases b <;> rfl
    by_cases c0 : w = wSet
    · rw [if_pos c0, if_pos c0]; exact bec _ _
    rw [if_neg c0, if_neg c0]
    by_cases c1 : w = wSizes
    · rw [if_pos c1, if_pos c1]; exact bec _ _
    rw [if_neg c1, if_neg c1]
    by_cases c2 : w = wShift
    · rw [if_pos c2, if_pos c2]; exact bec _ _
    rw [if_neg c2, if_neg c2]
    by_cases c3 : w = wStep
    · rw [if_pos c3, if_pos c3]; exact bec _ _
    rw [if_neg c3, if_neg c3]
    by_cases c4 : w = wBack
    · rw [if_pos c4, if_pos c4]; exact bec _ _
    rw [if_neg c4, if_neg c4]
    show (s, askS s w r) = _
    unfold askS
    by_cases c5 : w = wEnergy
    · rw [if_pos c5, if_pos c5, ← ans_said]; rfl
    rw [if_neg c5, if_neg c5]
    by_cases c6 : w = wPeriod
    · rw [if_pos c6, if_pos c6, ← ans_said]; rfl
    rw [if_neg c6, if_neg c6]
    by_cases c7 : w = wColours
    · rw [if_pos c7, if_pos c7]
      cases csOk r <;> rfl
    rw [if_neg c7, if_neg c7]
    rfl
end Go.Proofs.YtdooboibmllfkabGreatDoor
