/- TEXTS SExe7, PExe1, PExe2. -/
import Derived.Test.YtdooboibmllfkaaGreatDoorExa43
import Derived.Test.YtdooboibmllfkaaGreatDoorExa18
namespace Go.Proofs.YtdooboibmllfkaaGreatDoor
set_option maxRecDepth 100000
open Go.RowKit

theorem saidS_le {l : List Int} {b : Bool} (h : l.length ≤ 1000) : (saidS l b).size ≤ 20000 := by
  unfold saidS
  split
  · have := jns_dc_le l
    have h2 : nlT.size = 1 := rfl
    rw [ByteArray.size_append]
    omega
  · decide
theorem rigS_le {l : List (Int × Int)} {b : Bool} (h : l.length ≤ 1000) : (rigS l b).size ≤ 20000 := by
  unfold rigS
  split
  · have := jns_le 15 (l.map rgT) (fun x hx => by
      obtain ⟨y, _, rfl⟩ := List.mem_map.1 hx
      exact rgT_size y)
    rw [List.length_map] at this
    have h2 : nlT.size = 1 := rfl
    have h3 : (jns (l.map fun p => dcI p.1 ++ colT ++ dcI p.2)).size ≤ l.length * (15 + 1) := this
    rw [ByteArray.size_append]
    omega
  · decide
theorem yesS_le (b : Bool) : (yesS b).size ≤ 20000 := by cases b <;> decide
theorem bareS_le {s word : ByteArray} (h : vld s = true) : (bareS s word).size ≤ 20000 := by
  unfold bareS
  have h1 := rowS_le h
  have h2 : nlT.size = 1 := rfl
  split
  · rw [ByteArray.size_append]; omega
  split
  · exact saidS_le (show 1 ≤ 1000 by decide)
  split
  · exact saidS_le (shR_bd h).1
  split
  · exact saidS_le (rnR_bd h).1
  split
  · exact saidS_le (show 1 ≤ 1000 by decide)
  split
  · exact yesS_le _
  split
  · exact yesS_le _
  split
  · exact rigS_le (Nat.le_trans (rgOf_bd s).2 (by decide))
  · decide
theorem askS_le (s word rest : ByteArray) : (askS s word rest).size ≤ 20000 := by
  unfold askS
  split
  · exact saidS_le (show 1 ≤ 1000 by decide)
  split
  · exact saidS_le (show 1 ≤ 1000 by decide)
  split
  · split
    · rename_i h
      have h1 := csS_le8 h
      have h2 : nlT.size = 1 := rfl
      have h3 : (rowS (csS rest)).size ≤ 120 := by
        unfold rowS
        split
        · decide
        · exact h1
      rw [ByteArray.size_append]
      omega
    · decide
  · decide
theorem lineS_le {s line : ByteArray} (h : vld s = true) : (lineS s line).2.size ≤ 20000 := by
  unfold lineS
  split
  · split
    · exact (show (3 : Nat) ≤ 20000 by decide)
    · exact bareS_le h
  · split
    · split
      · exact (show (3 : Nat) ≤ 20000 by decide)
      · exact (show (3 : Nat) ≤ 20000 by decide)
    · exact askS_le _ _ _

structure ExAt (text : ByteArray) (s o : ByteArray) (f k : Nat) : Prop where
  v : vld s = true
  r : run3 ByteArray.empty ByteArray.empty [] (lst text) = run3 s o (lst (text.extract f k)) ((lst text).drop k)
  z : o.size ≤ 20000 * k
theorem ExAt.start (text : ByteArray) : ExAt text ByteArray.empty ByteArray.empty 0 0 := ⟨rfl, by rw [List.drop_zero, lst_extract]; simp, Nat.zero_le _⟩
theorem ex_cur {text : ByteArray} {f k : Nat} (hk : k < text.size) (hf : f ≤ k) : lst (text.extract f k) ++ [text[k]] = lst (text.extract f (k + 1)) := by
  rw [lst_extract, lst_extract]
  have hl : k - f < ((lst text).drop f).length := by rw [List.length_drop, lst_size]; omega
  rw [show k + 1 - f = k - f + 1 by omega, List.take_succ_eq_append_getElem hl]
  congr 2
  rw [List.getElem_drop]
  have e := lst_at hk
  have hl2 : k < (lst text).length := by rw [lst_size]; exact hk
  rw [List.getElem?_eq_getElem hl2] at e
  simp only [show f + (k - f) = k by omega]
  exact (Option.some.inj e).symm
theorem ex_drop {text : ByteArray} {k : Nat} (hk : k < text.size) : (lst text).drop k = text[k] :: (lst text).drop (k + 1) := by
  have hl : k < (lst text).length := by rw [lst_size]; exact hk
  have e := lst_at hk
  rw [List.getElem?_eq_getElem hl] at e
  rw [List.drop_eq_getElem_cons hl, Option.some.inj e]
theorem ExAt.sign {text s o : ByteArray} {f k : Nat} (h : ExAt text s o f k) (hk : k < text.size) (hf : f ≤ k) (hc : ¬ text[k] = 10) : ExAt text s o f (k + 1) := by
  refine ⟨h.v, ?_, by have := h.z; omega⟩
  rw [h.r, ex_drop hk, ← ex_cur hk hf]
  simp only [run3, if_neg hc]
theorem ExAt.line {text s o : ByteArray} {f k : Nat} (h : ExAt text s o f k) (hk : k < text.size) (hc : text[k] = 10) : ExAt text (lineS s (text.extract f k)).1 (o ++ (lineS s (text.extract f k)).2) (k + 1) (k + 1) := by
  refine ⟨(lineS_ok _ h.v).1, ?_, by rw [ByteArray.size_append]; have := h.z; have := lineS_le (line := text.extract f k) h.v; omega⟩
  rw [h.r, ex_drop hk]
  simp only [run3, if_pos hc]
  rw [ofL_lst, lst_extract text (k + 1) (k + 1), Nat.sub_self, List.take_zero]
theorem ExAt.done {text s o : ByteArray} {f : Nat} (h : ExAt text s o f text.size) : run3 ByteArray.empty ByteArray.empty [] (lst text) = (s, o, lst (text.extract f text.size)) := by
  rw [h.r, List.drop_of_length_le (by rw [lst_size]; exact Nat.le_refl _)]
  rfl

set_option maxHeartbeats 2000000 in
theorem specExecute_any (text : ByteArray) (w : World) :
    Calls Tryz.prog 8 #[.string text] w fun e w' => e = .returned (.string (exS text)) ∧ Below w.heap.size w w' := by
  by_cases hz : 600 < text.size
  · have e : exS text = longT := if_pos hz
    rw [e]
    have d1 : (600 : Int) < (text.size : Int) := by omega
    go_enter Tryz.func8, Tryz.ntmps8
    go_wp2
    go_ret
    exact ⟨rfl, Below.refl _ _⟩
  · have d1 : ¬ (600 : Int) < (text.size : Int) := by omega
    have hz6 : text.size ≤ 600 := by omega
    have e : exS text = endS (run3 ByteArray.empty ByteArray.empty [] (lst text)).1 (run3 ByteArray.empty ByteArray.empty [] (lst text)).2.1 := if_neg hz
    obtain ⟨r, hr⟩ : ∃ r, r = exS text := ⟨_, rfl⟩
    rw [← hr] at e ⊢
    have HR := hide e
    clear hr hz e
    go_enter Tryz.func8, Tryz.ntmps8
    go_wp2
    go_loopw [3, 4, 5, 6, 7, 8] (fun sv ov fv iv _ _ wr => ∃ (s o : ByteArray) (f k : Nat), f ≤ k ∧ k ≤ text.size ∧ sv = .string s ∧ ov = .string o ∧ fv = .int .i64 (f : Int) ∧ iv = .int .i64 (k : Int) ∧ Hid (ExAt text s o f k) ∧ Hid (Below w.heap.size w wr)) (fun _ _ _ iv _ _ _ => text.size - (Go.RowKit.intOf iv).toNat)
    case atStart => exact ⟨ByteArray.empty, ByteArray.empty, 0, 0, Nat.le_refl _, Nat.zero_le _, rfl, rfl, rfl, rfl, ExAt.start text, Below.refl _ _⟩
    case round =>
      obtain ⟨s, o, f, k, hf, hk, rfl, rfl, rfl, rfl, HE, HB⟩ := hrel
      have hoz := HE.out.z
      have ho2 : o.size ≤ 20000000 := by omega
      clear hoz
      by_cases hlt : k < text.size
      · have i0 : (0 : Int) ≤ (k : Int) := by omega
        have i1 : (k : Int) < (text.size : Int) := by omega
        by_cases c : (text[k].toNat : Int) = 10
        · have hc10 : text[k] = 10 := by
            apply UInt8.toNat_inj.1
            show text[k].toNat = 10
            omega
          have HE2 := hide (HE.out.line hlt hc10)
          have t1 : ((text[k].toNat : Int) == 10) = true := by rw [c]; rfl
          have hv := HE.out.v
          have hle := lineS_le (line := text.extract f k) hv
          have hlz : (text.extract f k).size ≤ 600 := by
            rw [← lst_size, lst_extract]
            have := List.length_take_le (k - f) ((lst text).drop f)
            omega
          have CL := hide (fun w => specLine_any s (text.extract f k) w hv hlz)
          obtain ⟨ln, hln⟩ : ∃ ln, ln = text.extract f k := ⟨_, rfl⟩
          rw [← hln] at CL HE2 hle
          have xl : text.extract f k = ln := hln.symm
          obtain ⟨nx, hnx⟩ : ∃ x, x = (lineS s ln).1 := ⟨_, rfl⟩
          obtain ⟨sd, hsd⟩ : ∃ x, x = (lineS s ln).2 := ⟨_, rfl⟩
          rw [← hnx] at CL HE2
          rw [← hsd] at CL HE2 hle
          have f1 : ¬ 9223372036854775807 < o.size + sd.size := by omega
          have j0 : (0 : Int) ≤ (f : Int) := by omega
          have j1 : (f : Int) ≤ (k : Int) := by omega
          have j2 : (k : Int) ≤ (text.size : Int) := by omega
          clear c hc10 hv hlz hln hnx hsd
          go_wp2_with (go_at_call 21; refine (CL.out _).mono ?_; rintro e w1 ⟨rfl, hb1⟩)
          have HB2 := hide (HB.out.trans (hb1.mono HB.out.size))
          clear hb1
          go_roundw
          case rel => exact ⟨nx, _, k + 1, k + 1, Nat.le_refl _, by omega, rfl, rfl, by go_num, by go_num, HE2, HB2⟩
          case measure => simp [Go.RowKit.intOf]; omega
        · have t1 : ((text[k].toNat : Int) == 10) = false := beq_eq_false_iff_ne.2 c
          have HE2 := hide (HE.out.sign hlt hf (fun e => c (by rw [e]; rfl)))
          clear c
          go_wp2_with fail
          go_roundw
          case rel => exact ⟨s, o, f, k + 1, by omega, by omega, rfl, rfl, rfl, by go_num, HE2, HB⟩
          case measure => simp [Go.RowKit.intOf]; omega
      · have hkn : k = text.size := by omega
        have HD : Hid (r = o ++ rowT ++ rowS s ++ nlT) := by
          have h := HE.out
          rw [hkn] at h
          show _ = _
          rw [HR.out, h.done]
          rfl
        have hrl := rowS_le HE.out.v
        have CR := hide (fun w => specRow_any s w)
        obtain ⟨x, hx⟩ : ∃ x, x = rowS s := ⟨_, rfl⟩
        rw [← hx] at HD hrl CR
        have hrt : rowT.size = 4 := rfl
        unfold rowT nlT at HD
        have f1 : ¬ 9223372036854775807 < o.size + 4 := by omega
        have f2 : ¬ 9223372036854775807 < o.size + 4 + x.size := by omega
        have f3 : ¬ 9223372036854775807 < o.size + 4 + x.size + 1 := by omega
        clear hkn hx hrt
        go_wp2_with (go_at_call 22; refine (CR.out _).mono ?_; rintro e w1 ⟨rfl, rfl⟩)
        go_ret
        exact ⟨by rw [HD.out]; rfl, HB.out⟩
end Go.Proofs.YtdooboibmllfkaaGreatDoor

namespace Go.Proofs.YtdooboibmllfkaaGreatDoor
set_option maxRecDepth 100000
open Go.RowKit

theorem cmpL_at (y b : List UInt8) (h : 10 ∉ b) : cmpL (y ++ [10] ++ b) = y ++ [10] := by
  unfold cmpL
  have e : (y ++ [10] ++ b).reverse = b.reverse ++ (10 :: y.reverse) := by simp
  rw [e]
  have hd : ∀ m : List UInt8, 10 ∉ m → (m ++ (10 :: y.reverse)).dropWhile (· != 10) = 10 :: y.reverse := by
    intro m
    induction m with
    | nil => intro _; rfl
    | cons c m ih =>
      intro hm
      have hc : (c != 10) = true := by
        simp
        intro e
        subst e
        exact hm (List.mem_cons_self ..)
      rw [List.cons_append, List.dropWhile_cons, if_pos hc]
      exact ih (fun hx => hm (List.mem_cons_of_mem _ hx))
  rw [hd b.reverse (fun hx => h (List.mem_reverse.1 hx))]
  simp
theorem cmpL_none (b : List UInt8) (h : 10 ∉ b) : cmpL b = [] := by
  rcases cm_ends b with e | ⟨y, e⟩
  · exact e
  · obtain ⟨c, hc, _⟩ := cm_split b
    exact absurd (by rw [hc, e]; simp) h

end Go.Proofs.YtdooboibmllfkaaGreatDoor

namespace Go.Proofs.YtdooboibmllfkaaGreatDoor
set_option maxRecDepth 100000
open Go.RowKit

theorem ret_txt {x y : ByteArray} (h : x = y) : Ending.returned (.string x) = .returned (.string y) := by rw [h]
theorem toNat_10 {c : UInt8} : (c.toNat : Int) = 10 ↔ c = 10 := by
  constructor
  · intro h
    apply UInt8.toNat_inj.1
    show c.toNat = 10
    omega
  · intro h; rw [h]; rfl
theorem mem_drop_succ {l : List UInt8} {k : Nat} {c : UInt8} (hk : l[k]? = some c) (hc : c ≠ 10) (h : 10 ∉ l.drop (k + 1)) : 10 ∉ l.drop k := by
  obtain ⟨hl, he⟩ := List.getElem?_eq_some_iff.1 hk
  rw [List.drop_eq_getElem_cons hl, List.mem_cons]
  rintro (e | e)
  · exact hc (by rw [← he, ← e])
  · exact h e

set_option maxHeartbeats 1000000 in
theorem complete_any (t : ByteArray) (w : World) (hz : t.size ≤ 1000000) :
    Calls Tryz.prog 9 #[.string t] w fun e w' => e = .returned (.string (cmpS t)) ∧ w = w' := by
  go_enter Tryz.func9, Tryz.ntmps9
  go_wp2
  go_loopw [3] (fun i wr => ∃ k : Nat, k ≤ t.size ∧ i = .int .i64 (k : Int) ∧ Hid (10 ∉ (lst t).drop k) ∧ w = wr) (fun i _ => (Go.RowKit.intOf i).toNat)
  case atStart => exact ⟨t.size, Nat.le_refl _, rfl, by show _ ∉ _; rw [List.drop_of_length_le (by rw [lst_size]; exact Nat.le_refl _)]; simp, rfl⟩
  case round =>
    obtain ⟨k, hk, rfl, HK, rfl⟩ := hrel
    by_cases hk0 : k = 0
    · have HE : Hid ((⟨#[]⟩ : ByteArray) = cmpS t) := by
        show _ = _
        have h := HK.out
        rw [hk0, List.drop_zero] at h
        unfold cmpS
        rw [cmpL_none _ h]
        rfl
      have hk1 : ¬ (0 : Int) < (k : Int) := by omega
      clear hk0
      go_wp2
      go_ret
      exact ⟨ret_txt HE.out, rfl⟩
    · obtain ⟨j, rfl⟩ : ∃ j, k = j + 1 := ⟨k - 1, by omega⟩
      have hj : j < t.size := by omega
      have HL := hide (lst_at hj)
      have ej : ((j + 1 : Nat) : Int) - 1 = (j : Int) := by omega
      have ew : IntKind.i64.wrap (((j + 1 : Nat) : Int) - 1) = (j : Int) := by rw [IntKind.wrap_i64]; omega
      have i0 : (0 : Int) ≤ (j : Int) := by omega
      have i1 : (j : Int) < (t.size : Int) := by omega
      have i2 : (0 : Int) < ((j + 1 : Nat) : Int) := by omega
      have i3 : ((j + 1 : Nat) : Int) ≤ (t.size : Int) := by omega
      by_cases c : (t[j].toNat : Int) = 10
      · have t1 : ((t[j].toNat : Int) == 10) = true := by rw [c]; rfl
        have HE : Hid (t.extract 0 (j + 1) = cmpS t) := by
          show _ = _
          apply lst_inj
          unfold cmpS
          rw [lst_ofL, lst_extract, List.drop_zero, Nat.sub_zero]
          have hl : j < (lst t).length := by rw [lst_size]; exact hj
          have e1 : (lst t).take (j + 1) = (lst t).take j ++ [10] := by
            have h := HL.out
            rw [List.getElem?_eq_getElem hl] at h
            rw [List.take_succ_eq_append_getElem hl, Option.some.inj h, toNat_10.1 c]
          have e2 : lst t = (lst t).take j ++ [10] ++ (lst t).drop (j + 1) := by rw [← e1, List.take_append_drop]
          rw [e1]
          conv => rhs; rw [e2]
          rw [cmpL_at _ _ HK.out]
        clear c
        go_wp2
        go_ret
        exact ⟨ret_txt HE.out, rfl⟩
      · have t1 : ((t[j].toNat : Int) == 10) = false := beq_eq_false_iff_ne.2 c
        have HK2 : Hid (10 ∉ (lst t).drop j) := mem_drop_succ HL.out (fun e => c (toNat_10.2 e)) HK.out
        clear c
        go_wp2
        go_roundw
        case rel => exact ⟨j, by omega, by go_num, HK2, trivial⟩
        case measure => simp [Go.RowKit.intOf] <;> omega

theorem last_bytes {s o : ByteArray} (hv : vld s = true) (j : Nat) (h1 : o.size ≤ j) (h2 : j + 1 < (endS s o).size) : (lst (endS s o))[j]? ≠ some 10 := by
  rw [endS_last, lst_add]
  rw [List.getElem?_append_right (by rw [lst_size]; exact h1), lst_size]
  unfold lastS
  rw [lst_add, lst_add]
  have hz : (endS s o).size = o.size + 4 + (rowS s).size + 1 := by
    unfold endS
    have e1 : rowT.size = 4 := rfl
    have e2 : nlT.size = 1 := rfl
    simp only [ByteArray.size_append, e1, e2]
  have hl : (lst rowT ++ lst (rowS s)).length = 4 + (rowS s).size := by rw [List.length_append, lst_size, lst_size]; rfl
  rw [List.getElem?_append_left (by rw [hl]; omega)]
  intro h
  have hm := List.mem_of_getElem? h
  rw [List.mem_append] at hm
  rcases hm with hm | hm
  · exact absurd hm (by decide)
  · exact rowS_no hv hm
theorem last_size {s o : ByteArray} : (endS s o).size = o.size + (lastS s).size := by rw [endS_last, ByteArray.size_append]
theorem lastS_size {s : ByteArray} (h : vld s = true) : 6 ≤ (lastS s).size ∧ (lastS s).size ≤ 125 := by
  obtain ⟨h1, h2⟩ := rowS_size h
  unfold lastS
  have e1 : rowT.size = 4 := rfl
  have e2 : nlT.size = 1 := rfl
  simp only [ByteArray.size_append, e1, e2]
  omega
theorem last_extract (s o : ByteArray) : (endS s o).extract o.size (endS s o).size = lastS s := lst_inj (by
  rw [lst_extract, last_size, endS_last, lst_add, List.drop_left' (lst_size o), Nat.add_sub_cancel_left]
  exact List.take_of_length_le (by rw [lst_size]; exact Nat.le_refl _))

set_option maxHeartbeats 1000000 in
theorem lastLine_any (s o : ByteArray) (w : World) (hv : vld s = true) (ho : o = ByteArray.empty ∨ Ends o) (hz : o.size ≤ 100000000) :
    Calls Tryz.prog 10 #[.string (endS s o)] w fun e w' => e = .returned (.string (lastS s)) ∧ w = w' := by
  obtain ⟨l1, l2⟩ := lastS_size hv
  have hsz := last_size (s := s) (o := o)
  have HB := hide (last_bytes (s := s) (o := o) hv)
  have HX := hide (last_extract s o)
  have HO : Hid (0 < o.size → (lst (endS s o))[o.size - 1]? = some 10) := by
    intro h0
    rcases ho with e | ⟨y, hy⟩
    · rw [e] at h0; exact absurd h0 (by decide)
    · have hl : o.size = y.length + 1 := by rw [← lst_size, hy, List.length_append]; rfl
      rw [endS_last, lst_add, List.getElem?_append_left (by rw [lst_size]; omega), hy, hl]
      simp
  have HZ : Hid (o.size = 0 → endS s o = lastS s) := by
    intro h0
    rw [endS_last, size_zero h0]
    exact lst_inj (by rw [lst_add]; rfl)
  obtain ⟨x, hx⟩ : ∃ x, x = endS s o := ⟨_, rfl⟩
  obtain ⟨r, hr⟩ : ∃ r, r = lastS s := ⟨_, rfl⟩
  obtain ⟨n, hn⟩ : ∃ n, n = o.size := ⟨_, rfl⟩
  rw [← hx, ← hr, ← hn] at HX HZ
  rw [← hx, ← hn] at HB HO
  rw [← hr] at hsz l1 l2 ⊢
  rw [← hx] at hsz ⊢
  rw [← hn] at hsz hz
  have g1 : n + 6 ≤ x.size := by omega
  have g2 : x.size ≤ n + 125 := by omega
  clear hx hr hn hsz ho hv l1 l2
  go_enter Tryz.func10, Tryz.ntmps10
  go_wp2
  go_loopw [3] (fun i wr => ∃ m : Nat, n ≤ m ∧ m + 1 ≤ x.size ∧ i = .int .i64 ((m : Int) - 1) ∧ w = wr) (fun i _ => (Go.RowKit.intOf i + 1).toNat)
  case atStart => exact ⟨x.size - 1, by omega, by omega, by congr 1; omega, rfl⟩
  case round =>
    obtain ⟨m, hm1, hm2, rfl, rfl⟩ := hrel
    by_cases hm0 : m = 0
    · have HE := hide (HZ.out (by omega))
      have hk1 : ¬ (0 : Int) ≤ (m : Int) - 1 := by omega
      clear hm0
      go_wp2
      go_ret
      exact ⟨ret_txt HE.out, rfl⟩
    · obtain ⟨j, rfl⟩ : ∃ j, m = j + 1 := ⟨m - 1, by omega⟩
      have ej : ((j + 1 : Nat) : Int) - 1 = (j : Int) := by omega
      rw [ej]
      have hj : j < x.size := by omega
      have HL := hide (lst_at hj)
      have i0 : (0 : Int) ≤ (j : Int) := by omega
      have i1 : (j : Int) < (x.size : Int) := by omega
      have i3 : (j : Int) + 1 ≤ (x.size : Int) := by omega
      by_cases c : n ≤ j
      · have hne : (x[j].toNat : Int) ≠ 10 := by
          intro e
          exact HB.out j c (by omega) (by rw [HL.out, toNat_10.1 e])
        have t1 : ((x[j].toNat : Int) == 10) = false := beq_eq_false_iff_ne.2 hne
        clear hne
        go_wp2
        go_roundw
        case rel => exact ⟨j, c, by omega, by go_num, trivial⟩
        case measure => simp [Go.RowKit.intOf] <;> omega
      · have hnj : n = j + 1 := by omega
        have h10 : x[j] = 10 := by
          have h := HO.out (by omega)
          rw [show n - 1 = j by omega, HL.out] at h
          exact Option.some.inj h
        have t1 : ((x[j].toNat : Int) == 10) = true := by rw [h10]; rfl
        have HE : Hid (x.extract (j + 1) x.size = r) := by show _ = _; rw [← hnj]; exact HX.out
        clear hnj h10 c
        go_wp2
        go_ret
        exact ⟨ret_txt HE.out, rfl⟩
end Go.Proofs.YtdooboibmllfkaaGreatDoor
