/- TEXTS SExe1, SExe2, Text8, SExe3. -/
import Derived.Test.YtdooboibmllfkaaGreatDoorExa16
import Derived.Test.YtdooboibmllfkaaGreatDoorExa17
import Derived.Maps.AppendAt
import Derived.Deep.RegionWith
import Derived.Test.YtdooboibmllfkaaGreatDoorExa02
import Derived.Test.YtdooboibmllfkaaGreatDoorExa01
import Derived.Test.YtdooboibmllfkaaGreatDoorExa08
import Derived.Test.YtdooboibmllfkaaGreatDoorExa03
import Derived.Shelf.SlSortCmp.QuietGrown
namespace Go.Proofs.YtdooboibmllfkaaGreatDoor
set_option maxRecDepth 100000
open Go.RowKit

theorem convOne (c : UInt8) (w : World) : (convert 22 9 (.slice (some ⟨w.heap.size, 0, none⟩) 1 1)).run Tryz.prog (w.alloc (.cells #[.int .u8 (c.toNat : Int)] 5)) = .ok (.string ⟨#[c]⟩) (w.alloc (.cells #[.int .u8 (c.toNat : Int)] 5)) :=
  run_convert_bytes_back (P := Tryz.prog) _ 22 9 5 ⟨w.heap.size, 0, none⟩ 1 [c] Tryz.underlying22 Tryz.underlying5 Tryz.underlying9 (fun j hj => by
    have h := cell_one_new w (.int .u8 (c.toNat : Int)) 5 j
    have h0 : j = 0 := by simpa using hj
    subst h0
    exact h _ rfl)
theorem conv_dg (n : Nat) (hn : n < 10) (w : World) : (convert 22 9 (.slice (some ⟨w.heap.size, 0, none⟩) 1 1)).run Tryz.prog (w.alloc (.cells #[.int .u8 (48 + (n : Int))] 5)) = .ok (.string (dg n)) (w.alloc (.cells #[.int .u8 (48 + (n : Int))] 5)) := by
  have h := convOne (UInt8.ofNat (48 + n)) w
  have e : ((UInt8.ofNat (48 + n)).toNat : Int) = 48 + (n : Int) := by
    rw [UInt8.toNat_ofNat']
    have : (48 + n) % 2 ^ 8 = 48 + n := Nat.mod_eq_of_lt (by omega)
    rw [this]
    omega
  rw [e] at h
  exact h

theorem conv_dg_at (n : Nat) (hn : n < 10) (W : World) (g : Nat) (hc : W.cell? ⟨g, 0, none⟩ = some (.int .u8 (48 + (n : Int)))) : (convert 22 9 (.slice (some ⟨g, 0, none⟩) 1 1)).run Tryz.prog W = .ok (.string (dg n)) W := by
  have e : ((UInt8.ofNat (48 + n)).toNat : Int) = 48 + (n : Int) := by
    rw [UInt8.toNat_ofNat']
    have : (48 + n) % 2 ^ 8 = 48 + n := Nat.mod_eq_of_lt (by omega)
    rw [this]
    omega
  exact run_convert_bytes_back (P := Tryz.prog) _ 22 9 5 ⟨g, 0, none⟩ 1 [UInt8.ofNat (48 + n)] Tryz.underlying22 Tryz.underlying5 Tryz.underlying9 (fun j hj => by
    have h0 : j = 0 := by simpa using hj
    subst h0
    rw [Addr.add_lit]
    show W.cell? ⟨g, 0, none⟩ = _
    rw [hc]
    show _ = some (Value.int .u8 ((UInt8.ofNat (48 + n)).toNat : Int))
    rw [e])

theorem newcell {w w1 : World} {x : Value} {t : TypeId} (h : Below (w.alloc (.cells #[x] t)).drew.heap.size (w.alloc (.cells #[x] t)).drew w1) : w1.cell? ⟨w.heap.size, 0, none⟩ = some x :=
  (h.cell (p := ⟨w.heap.size, 0, none⟩) (by show w.heap.size < (w.alloc _).heap.size; rw [World.size_alloc]; omega)).trans (by show (w.alloc (.cells #[x] t)).cell? ⟨w.heap.size, 0, none⟩ = _; rw [World.cell?_alloc_at _ _ _ _ rfl]; rfl)

set_option maxHeartbeats 1500000 in
set_option maxRecDepth 100000 in
theorem l6Dec_grw : ∀ (f n : Nat), n < 10 ^ (f + 1) → n < 10000000 → ∀ w : World, Calls Tryz.prog 81 #[.int .i64 (n : Int)] w fun e w' => e = .returned (.string (decS n)) ∧ Grw w w' := by
  intro f
  induction f with
  | zero =>
    intro n h1 h2 w
    have hn : n < 10 := by simpa using h1
    have hconv := conv_dg n hn w
    rw [decS_small hn]
    have d1 : ¬ (n : Int) < -9223372036854775807 := by omega
    have d2 : ¬ (n : Int) < 0 := by omega
    have d3 : (n : Int) < 10 := by omega
    have w1 : IntKind.i64.wrap (48 + (n : Int)) = 48 + (n : Int) := by rw [IntKind.wrap_i64]; omega
    go_enter Tryz.func81, Tryz.ntmps81
    go_wp2_with fail
    go_ret
    exact ⟨rfl, Grw.alloc _ _⟩
  | succ f ih =>
    intro n h1 h2 w
    by_cases hn : n < 10
    · have hconv := conv_dg n hn w
      rw [decS_small hn]
      have d1 : ¬ (n : Int) < -9223372036854775807 := by omega
      have d2 : ¬ (n : Int) < 0 := by omega
      have d3 : (n : Int) < 10 := by omega
      have w1 : IntKind.i64.wrap (48 + (n : Int)) = 48 + (n : Int) := by rw [IntKind.wrap_i64]; omega
      go_enter Tryz.func81, Tryz.ntmps81
      go_wp2_with fail
      go_ret
      exact ⟨rfl, Grw.alloc _ _⟩
    · rw [decS_great hn h2]
      have hm : n % 10 < 10 := Nat.mod_lt _ (by omega)
      have hq : n / 10 < 10 ^ (f + 1) := by
        rw [Nat.div_lt_iff_lt_mul (by omega), ← Nat.pow_succ]
        exact h1
      have IH := hide (fun w => ih (n / 10) hq (by omega) w)
      have CV := hide (fun w => conv_dg (n % 10) hm w)
      have CG := hide (fun W g hc => conv_dg_at (n % 10) hm W g hc)
      have hz := hide (decF_size 6 (n / 10))
      have e1 : Int.tdiv (n : Int) 10 = ((n / 10 : Nat) : Int) := rfl
      have e2 : Int.tmod (n : Int) 10 = ((n % 10 : Nat) : Int) := rfl
      have hx : (decS (n / 10)).size ≤ 7 := (decF_size 6 (n / 10)).2
      obtain ⟨q, hqq⟩ : ∃ q, q = n / 10 := ⟨_, rfl⟩
      obtain ⟨r, hrr⟩ : ∃ r, r = n % 10 := ⟨_, rfl⟩
      have hq2 : q ≤ n := by rw [hqq]; exact Nat.div_le_self _ _
      rw [← hqq] at IH e1 hx ⊢
      rw [← hrr] at CV CG e2 hm ⊢
      obtain ⟨x, hxx⟩ : ∃ x, x = decS q := ⟨_, rfl⟩
      obtain ⟨y, hyy⟩ : ∃ y, y = dg r := ⟨_, rfl⟩
      have hy : y.size = 1 := by rw [hyy]; rfl
      rw [← hxx] at IH hx ⊢
      rw [← hyy] at CV CG ⊢
      clear hqq hrr hxx hyy hz
      have d1 : ¬ (n : Int) < -9223372036854775807 := by omega
      have d2 : ¬ (n : Int) < 0 := by omega
      have d3 : ¬ (n : Int) < 10 := by omega
      have w1 : IntKind.i64.wrap (48 + (r : Int)) = 48 + (r : Int) := by rw [IntKind.wrap_i64]; omega
      have w2 : IntKind.i64.wrap (q : Int) = (q : Int) := by rw [IntKind.wrap_i64]; omega
      have w3 : IntKind.u8.wrap (48 + (r : Int)) = 48 + (r : Int) := by rw [IntKind.wrap_u8]; omega
      clear ih h1 hq
      go_enter Tryz.func81, Tryz.ntmps81
      go_wp2_with fail
      have cv0 := CG.out (w.alloc (.cells #[.int .u8 (48 + (r : Int))] 5)).drew w.heap.size (by show (w.alloc (.cells #[.int .u8 (48 + (r : Int))] 5)).cell? ⟨w.heap.size, 0, none⟩ = _; rw [World.cell?_alloc_at _ _ _ _ rfl]; rfl)
      go_region_with (first | (go_at_call 81; with_reducible (refine (IH.out _).mono ?_); rintro e w1 ⟨rfl, hb1⟩; have cv1 := CV.out w1; (first | (have cv2 := CG.out w1 w.heap.size (newcell hb1.below)) | skip)) | fail)
      all_goals go_wp2
      all_goals go_ret
      · exact ⟨rfl, ((Grw.drew w).trans hb1).trans (Grw.alloc _ _)⟩
      · exact ⟨rfl, ((Grw.alloc w _).trans (Grw.drew _)).trans hb1⟩
      · exact ⟨rfl, ((Grw.alloc w _).trans (Grw.drew _)).trans hb1⟩

theorem numL_lt : ∀ (l : List UInt8) (n m : Nat), numL l n = some m → m < (n + 1) * 10 ^ l.length
  | [], n, m, h => by simp [numL] at h; subst h; simp
  | c :: l, n, m, h => by
    simp only [numL] at h
    split at h
    · rename_i hc
      have ih := numL_lt l _ m h
      have e : (10 * n + (c.toNat - 48) + 1) * 10 ^ l.length ≤ (n + 1) * 10 ^ (l.length + 1) := by
        rw [Nat.pow_succ, Nat.mul_comm (10 ^ l.length) 10, ← Nat.mul_assoc]
        exact Nat.mul_le_mul_right _ (by omega)
      exact Nat.lt_of_lt_of_le ih e
    · cases h
theorem numI_le (t : ByteArray) : -1 ≤ numI t ∧ numI t ≤ 999 := by
  unfold numI
  split
  · rename_i h
    cases e : numL (lst t) 0 with
    | none => simp
    | some m =>
      have h1 := numL_lt (lst t) 0 m e
      have h2 : (10 : Nat) ^ (lst t).length ≤ 10 ^ 3 := Nat.pow_le_pow_right (by omega) (by rw [lst_size]; exact h.2)
      simp at h1 h2
      simp
      omega
  · omega
end Go.Proofs.YtdooboibmllfkaaGreatDoor

namespace Go.Proofs.YtdooboibmllfkaaGreatDoor
set_option maxRecDepth 100000
open Go.RowKit

def optI (o : Option Nat) : Int := match o with | some n => (n : Int) | none => -1
theorem numL_drop {s : ByteArray} {k : Nat} (hk : k < s.size) (n : Nat) : numL ((lst s).drop k) n = if 48 ≤ s[k].toNat ∧ s[k].toNat ≤ 57 then numL ((lst s).drop (k + 1)) (10 * n + (s[k].toNat - 48)) else none := by
  have hl : k < (lst s).length := by rw [lst_size]; exact hk
  rw [List.drop_eq_getElem_cons hl]
  have e : (lst s)[k] = s[k] := by
    have := lst_get s k hk
    rw [List.getElem?_eq_getElem hl] at this
    exact Option.some.inj this
  rw [e]
  rfl

set_option maxHeartbeats 1000000 in
set_option maxRecDepth 100000 in
theorem specNumber_any (s : ByteArray) (w : World) :
    Calls Tryz.prog 56 #[.string s] w fun e w' => e = .returned (.int .i64 (numI s)) ∧ w = w' := by
  have CL := hide (fun w => l6In_any (s.size : Int) 1 3 _ w rfl)
  cases h1 : (decide ((1 : Int) ≤ (s.size : Int)) && decide ((s.size : Int) ≤ 3))
  · rw [h1] at CL
    have e : numI s = -1 := by
      unfold numI
      rw [if_neg]
      simp at h1
      omega
    rw [e]
    go_enter Tryz.func56, Tryz.ntmps56
    go_wp2_with (go_at_call 91; refine (CL.out _).mono ?_; rintro e w' ⟨rfl, rfl⟩)
    go_ret
    exact ⟨rfl, rfl⟩
  · rw [h1] at CL
    simp at h1
    have e : numI s = optI (numL (lst s) 0) := by
      unfold numI
      rw [if_pos (by omega)]
      cases numL (lst s) 0 <;> rfl
    rw [e]
    obtain ⟨r, hr⟩ : ∃ r, r = numL (lst s) 0 := ⟨_, rfl⟩
    rw [← hr]
    have HR := hide hr
    have hz : s.size ≤ 3 := by omega
    clear e hr h1
    go_enter Tryz.func56, Tryz.ntmps56
    go_wp2_with (go_at_call 91; refine (CL.out _).mono ?_; rintro e w' ⟨rfl, rfl⟩)
    go_loopw [3, 4] (fun nv iv wr => ∃ n k : Nat, k ≤ s.size ∧ iv = .int .i64 (k : Int) ∧ nv = .int .i64 (n : Int) ∧ n < 10 ^ k ∧ Hid (numL ((lst s).drop k) n = r) ∧ w = wr) (fun _ iv _ => s.size - (Go.RowKit.intOf iv).toNat)
    case atStart => exact ⟨0, 0, Nat.zero_le _, rfl, rfl, by decide, HR.out.symm, rfl⟩
    case round =>
      obtain ⟨n, k, hk, rfl, rfl, hn, HN, rfl⟩ := hrel
      by_cases hlt : k < s.size
      · have hd := numL_drop hlt n
        have hn2 : n < 1000 := Nat.lt_of_lt_of_le hn (by have : (10 : Nat) ^ k ≤ 10 ^ 3 := Nat.pow_le_pow_right (by omega) (by omega); omega)
        have i0 : (0 : Int) ≤ (k : Int) := by omega
        have i1 : (k : Int) < (s.size : Int) := by omega
        by_cases c1 : (s[k].toNat : Int) < 48
        · have HF : Hid (r = none) := by show _ = _; rw [← HN.out, hd, if_neg (by omega)]
          have t1 : decide ((s[k].toNat : Int) < 48) = true := decide_eq_true c1
          clear hd
          go_wp2_with fail
          go_ret
          exact ⟨by rw [HF.out]; rfl, rfl⟩
        · have t1 : decide ((s[k].toNat : Int) < 48) = false := decide_eq_false c1
          by_cases c2 : 57 < (s[k].toNat : Int)
          · have HF : Hid (r = none) := by show _ = _; rw [← HN.out, hd, if_neg (by omega)]
            have t2 : decide (57 < (s[k].toNat : Int)) = true := decide_eq_true c2
            clear hd
            go_wp2_with fail
            go_ret
            exact ⟨by rw [HF.out]; rfl, rfl⟩
          · have t2 : decide (57 < (s[k].toNat : Int)) = false := decide_eq_false c2
            obtain ⟨d, hdd⟩ : ∃ d : Nat, (s[k].toNat : Int) = 48 + (d : Int) := ⟨s[k].toNat - 48, by omega⟩
            have hd9 : d ≤ 9 := by omega
            have HF : Hid (numL ((lst s).drop (k + 1)) (10 * n + d) = r) := by
              show _ = _
              rw [← HN.out, hd, if_pos (by omega)]
              congr 1
              omega
            have hpow : 10 * n + d < 10 ^ (k + 1) := by rw [Nat.pow_succ]; omega
            have HP := hide hpow
            clear hd hpow hn
            go_wp2_with fail
            go_roundw
            case rel => exact ⟨10 * n + d, k + 1, by omega, by go_num, by go_num, HP.out, HF, trivial⟩
            case measure => simp [Go.RowKit.intOf]; omega
      · have HF : Hid (r = some n) := by show _ = _; rw [← HN.out, List.drop_of_length_le (by rw [lst_size]; omega)]; rfl
        go_wp2_with fail
        go_ret
        exact ⟨by rw [HF.out]; rfl, rfl⟩
theorem size_zero {x : ByteArray} (h : x.size = 0) : x = ByteArray.empty := lst_inj (List.eq_nil_of_length_eq_zero (by rw [lst_size]; exact h))

set_option maxHeartbeats 1000000 in
theorem specRow_any (s : ByteArray) (w : World) :
    Calls Tryz.prog 22 #[.string s] w fun e w' => e = .returned (.string (rowS s)) ∧ w = w' := by
  by_cases h : s.size = 0
  · have e := size_zero h
    subst e
    go_enter Tryz.func22, Tryz.ntmps22
    go_wp2
    go_ret
    exact ⟨rfl, rfl⟩
  · have e : rowS s = s := if_neg h
    rw [e]
    have hq : s.toList.isEmpty = false := by
      rw [ByteArray.toList_eq]
      cases e : s.data.toList with
      | nil => exact absurd (by rw [← lst_size]; unfold lst; rw [e]; rfl) h
      | cons x l => rfl
    go_enter Tryz.func22, Tryz.ntmps22
    go_wp2
    go_ret
    exact ⟨rfl, rfl⟩

set_option maxHeartbeats 1000000 in
theorem specYes_any (b : Bool) (w : World) :
    Calls Tryz.prog 48 #[.bool b] w fun e w' => e = .returned (.string (yesS b)) ∧ w = w' := by
  cases b
  · go_enter Tryz.func48, Tryz.ntmps48
    go_wp2
    go_ret
    exact ⟨rfl, rfl⟩
  · go_enter Tryz.func48, Tryz.ntmps48
    go_wp2
    go_ret
    exact ⟨rfl, rfl⟩

theorem jns_le (b : Nat) (l : List ByteArray) (h : ∀ x ∈ l, x.size ≤ b) : (jns l).size ≤ l.length * (b + 1) := by
  have key : ∀ m : List ByteArray, (∀ x ∈ m, x.size ≤ b) → (jns m.reverse).size ≤ m.length * (b + 1) := by
    intro m
    induction m with
    | nil => intro _; exact Nat.zero_le _
    | cons x m ih =>
      intro hm
      have h1 := ih (fun y hy => hm y (List.mem_cons_of_mem _ hy))
      have h2 := hm x (List.mem_cons_self ..)
      rw [List.reverse_cons, jns_snoc, List.length_cons, Nat.succ_mul]
      have h3 : spT.size = 1 := rfl
      split
      · omega
      · rw [ByteArray.size_append, ByteArray.size_append]; omega
  have := key l.reverse (fun x hx => h x (List.mem_reverse.1 hx))
  rwa [List.reverse_reverse, List.length_reverse] at this
theorem dcI_size (x : Int) : 1 ≤ (dcI x).size ∧ (dcI x).size ≤ 7 := decF_size 6 x.toNat
theorem jns_dc_le (l : List Int) : (jns (l.map dcI)).size ≤ l.length * 8 := by
  have := jns_le 7 (l.map dcI) (fun x hx => by
    obtain ⟨y, _, rfl⟩ := List.mem_map.1 hx
    exact (dcI_size y).2)
  rwa [List.length_map] at this
theorem specDec_grw (x : Int) (h0 : 0 ≤ x) (h1 : x < 10000000) (w : World) : Calls Tryz.prog 81 #[.int .i64 x] w fun e w' => e = .returned (.string (dcI x)) ∧ Grw w w' := by
  have h := l6Dec_grw 6 x.toNat (by omega) (by omega) w
  rw [show ((x.toNat : Nat) : Int) = x by omega] at h
  exact h
theorem specDec_any (x : Int) (h0 : 0 ≤ x) (h1 : x < 10000000) (w : World) : Calls Tryz.prog 81 #[.int .i64 x] w fun e w' => e = .returned (.string (dcI x)) ∧ Below w.heap.size w w' :=
  (specDec_grw x h0 h1 w).mono fun _ _ ⟨a, b⟩ => ⟨a, b.below⟩
theorem jns_take {l : List Int} {k : Nat} {x : Int} (h : l[k]? = some x) : jns ((l.take (k + 1)).map dcI) = if k = 0 then dcI x else jns ((l.take k).map dcI) ++ spT ++ dcI x := by
  obtain ⟨hk, he⟩ := List.getElem?_eq_some_iff.1 h
  rw [List.take_succ_eq_append_getElem hk, he, List.map_append, List.map_cons, List.map_nil, jns_snoc]
  by_cases h0 : k = 0
  · subst h0; rfl
  · rw [if_neg h0, if_neg]
    intro e
    have := congrArg List.length e
    rw [List.length_map, List.length_take, List.length_nil] at this
    have : min k l.length = k := Nat.min_eq_left (by omega)
    omega

set_option maxHeartbeats 1000000 in
theorem specSaid_any (l : List Int) (ok : Bool) {lo : Nat} (v : Value) (w : World) (h : IntsV lo w v l) (hl : l.length ≤ 1000) (hx : ok = true → ∀ x ∈ l, 0 ≤ x ∧ x < 10000000) :
    Calls Tryz.prog 43 #[v, .bool ok] w fun e w' => e = .returned (.string (saidS l ok)) ∧ Below w.heap.size w w' := by
  obtain ⟨a, c, rfl, hf⟩ : ∃ a c, v = .slice a l.length c ∧ (0 < l.length → ∃ g, a = some ⟨g, 0, none⟩ ∧ CellsAt w g (l.map (.int .i64))) := by
    rcases h with ⟨a, c, rfl, rfl⟩ | ⟨g, c, rfl, _, _, _, hc⟩
    · exact ⟨a, c, rfl, fun h => by simp at h⟩
    · exact ⟨_, c, rfl, fun _ => ⟨g, rfl, hc⟩⟩
  cases ok
  · go_enter Tryz.func43, Tryz.ntmps43
    go_wp2
    go_ret
    exact ⟨rfl, Below.refl _ _⟩
  · have HX := hide (hx rfl)
    have HF := hide hf
    obtain ⟨n, hn⟩ : ∃ n, n = l.length := ⟨_, rfl⟩
    have HN := hide hn
    rw [← hn] at hl ⊢
    have HS : Hid (saidS l true = jns ((l.take n).map dcI) ++ nlT) := by show _ = _; rw [hn, List.take_length]; rfl
    clear h hf hx hn
    go_enter Tryz.func43, Tryz.ntmps43
    go_wp2
    go_loopw [5, 6] (fun o i wr => ∃ (x : ByteArray) (k : Nat), k ≤ n ∧ o = .string x ∧ i = .int .i64 (k : Int) ∧ x.size ≤ 8 * k ∧ Hid (x = jns ((l.take k).map dcI)) ∧ Hid (Below w.heap.size w wr)) (fun _ i _ => n - (Go.RowKit.intOf i).toNat)
    case atStart => exact ⟨⟨#[]⟩, 0, Nat.zero_le _, rfl, rfl, Nat.zero_le _, rfl, Below.refl _ _⟩
    case round =>
      obtain ⟨x, k, hk, rfl, rfl, hxs, HXS, HB⟩ := hrel
      by_cases hlt : k < n
      · obtain ⟨g, rfl, hc⟩ := HF.out (by rw [← HN.out]; omega)
        obtain ⟨y, hy⟩ : ∃ y, l[k]? = some y := ⟨_, List.getElem?_eq_getElem (by rw [← HN.out]; exact hlt)⟩
        have c1 := (hc.below' HB.out (Nat.le_refl _) k (.int .i64 y) (by rw [List.getElem?_map, hy]; rfl)).1
        obtain ⟨y0, y1⟩ := HX.out y (List.mem_of_getElem? hy)
        have CD := hide (fun w => specDec_any y y0 y1 w)
        have hds := (dcI_size y).2
        have HT := hide (jns_take hy)
        obtain ⟨d, hd⟩ : ∃ d, d = dcI y := ⟨_, rfl⟩
        rw [← hd] at CD hds HT
        have i0 : (0 : Int) ≤ (k : Int) := by omega
        have i1 : (k : Int) < (n : Int) := by omega
        have hsp : spT.size = 1 := rfl
        clear hc hy y0 y1 hd
        by_cases hk0 : k = 0
        · have HN2 : Hid (x ++ d = jns ((l.take (k + 1)).map dcI)) := by
            show _ = _
            rw [HT.out, if_pos hk0, HXS.out, hk0]
            exact lst_inj (by rw [lst_add]; rfl)
          have hx0 : x.size = 0 := by omega
          have HK0 := hide hk0
          have hk1 : ¬ (0 : Int) < (k : Int) := by omega
          clear hk0
          go_wp2_with (go_at_call 81; refine (CD.out _).mono ?_; rintro e w1 ⟨rfl, hb1⟩)
          have HB2 := hide (HB.out.trans (hb1.mono HB.out.size))
          clear hb1
          go_roundw
          case rel => exact ⟨_, k + 1, by omega, rfl, by go_num, by rw [ByteArray.size_append]; omega, HN2, HB2⟩
          case measure => simp [Go.RowKit.intOf]; omega
        · have HN2 : Hid (x ++ spT ++ d = jns ((l.take (k + 1)).map dcI)) := by
            show _ = _
            rw [HT.out, if_neg hk0, HXS.out]
          have hk1 : (0 : Int) < (k : Int) := by omega
          have hx1 : (x ++ spT).size ≤ 8 * k + 1 := by rw [ByteArray.size_append]; omega
          unfold spT at HN2 hx1 hsp
          go_wp2_with (go_at_call 81; refine (CD.out _).mono ?_; rintro e w1 ⟨rfl, hb1⟩)
          have HB2 := hide (HB.out.trans (hb1.mono HB.out.size))
          clear hb1
          go_roundw
          case rel => exact ⟨_, k + 1, by omega, rfl, by go_num, by rw [ByteArray.size_append]; omega, HN2, HB2⟩
          case measure => simp [Go.RowKit.intOf]; omega
      · have hkn : k = n := by omega
        have HE : Hid (x ++ nlT = saidS l true) := by show _ = _; rw [HS.out, HXS.out, hkn]
        unfold nlT at HE
        go_wp2_with fail
        go_ret
        exact ⟨by rw [← HE.out]; rfl, HB.out⟩
end Go.Proofs.YtdooboibmllfkaaGreatDoor

namespace Go.Proofs.YtdooboibmllfkaaGreatDoor
set_option maxRecDepth 100000
open Go.RowKit Go.Sort

theorem infoT : (Tryz.prog.info? 9).map (fun i => (i.zero, i.size, i.bytes)) = some (some (.string ByteArray.empty), 1, 16) := by kernel_rfl
theorem itoa_any {x : Int} (h0 : 0 ≤ x) (h1 : x < 10000000) (w : World) (hE : Env w) :
    Calls Tryz.prog 113 #[.int .i64 x] w fun e w' => e = .returned (.string (dcI x)) ∧ Grw w w' := by
  have h := Tryz.strconv_Itoa x (by omega) (by omega) w hE.tab
  rw [itoa_dcI h0 h1] at h
  exact h
theorem rowText_any (s : ByteArray) (w : World) :
    Calls Tryz.prog 19 #[.string s] w fun e w' => e = .returned (.string (rowS s)) ∧ w' = w := by
  by_cases h : s.size = 0
  · have e := size_zero h
    subst e
    go_enter Tryz.func19, Tryz.ntmps19
    go_wp2
    go_ret
    exact ⟨rfl, rfl⟩
  · have e : rowS s = s := if_neg h
    rw [e]
    have hq : s.toList.isEmpty = false := by
      rw [ByteArray.toList_eq]
      cases e : s.data.toList with
      | nil => exact absurd (by rw [← lst_size]; unfold lst; rw [e]; rfl) h
      | cons x l => rfl
    go_enter Tryz.func19, Tryz.ntmps19
    go_wp2
    go_ret
    exact ⟨rfl, rfl⟩
theorem holdsText_any (b : Bool) (w : World) :
    Calls Tryz.prog 119 #[.bool b] w fun e w' => e = .returned (.string (if b then yesB else notB)) ∧ w' = w := by
  cases b
  · go_enter Tryz.func119, Tryz.ntmps119
    go_wp2
    go_ret
    exact ⟨rfl, rfl⟩
  · go_enter Tryz.func119, Tryz.ntmps119
    go_wp2
    go_ret
    exact ⟨rfl, rfl⟩
theorem numberText_any {x : Int} (ok : Bool) (h0 : 0 ≤ x) (h1 : x < 10000000) (w : World) (hE : Env w) :
    Calls Tryz.prog 108 #[.int .i64 x, .bool ok] w fun e w' => e = .returned (.tuple #[.string (dcI x), .bool ok]) ∧ Below w.heap.size w w' := by
  have C := hide (itoa_any h0 h1 w hE)
  obtain ⟨d, hd⟩ : ∃ d, d = dcI x := ⟨_, rfl⟩
  rw [← hd] at C ⊢
  clear hd
  go_enter Tryz.func108, Tryz.ntmps108
  go_wp2_with (go_at_call 113; refine C.out.mono ?_; rintro e w' ⟨rfl, hg⟩)
  go_ret2
  exact ⟨rfl, hg.below⟩
theorem one_str (x : ByteArray) : ∀ u ∈ [Value.string x], u.oneCell' = true := by intro u hu; simp at hu; subst hu; rfl
theorem join_any (l : List ByteArray) {B : Nat} (v : Value) (w : World) (ho : w.ownsRow B 9 1 v l.length (l.map .string)) (hn : l.length ≤ 1000) (hz : ∀ x ∈ l, x.size ≤ 100) (W : World) (hg : Grw w W) :
    Calls Tryz.prog 148 #[v, .string ⟨#[32]⟩] W fun e w' => e = .returned (.string (jns l)) ∧ Below W.heap.size W w' := by
  have hle : (jns l).size ≤ l.length * 101 := jns_le 100 l hz
  by_cases h0 : l = []
  · subst h0
    obtain ⟨a, c, rfl⟩ : ∃ a c, v = .slice a 0 c := by
      rcases ho.2 with ⟨rfl, _⟩ | ⟨g, cap, cur, rfl, _⟩
      · exact ⟨_, _, rfl⟩
      · exact ⟨_, _, rfl⟩
    refine (Tryz.strings_Join_none a c ⟨#[32]⟩ W).mono ?_
    rintro e w' ⟨rfl, rfl⟩
    exact ⟨rfl, Below.refl _ _⟩
  · obtain ⟨g, cap, rfl⟩ : ∃ g cap, v = .slice (some ⟨g, 0, none⟩) l.length cap := by
      rcases ho.2 with ⟨rfl, h⟩ | ⟨g, cap, cur, rfl, _⟩
      · exact absurd (List.eq_nil_of_length_eq_zero h) h0
      · exact ⟨_, _, rfl⟩
    have hc := hg.cells (CellsAt.of_owns ho)
    have hl : g < w.heap.size := (ho.lt g rfl).2
    have hcap : l.length ≤ cap := by
      rcases ho.2 with ⟨h, _⟩ | ⟨g', cap', cur, h, _, _, h2, _⟩
      · cases h
      · cases h; exact h2
    have J := Tryz.strings_Join g 0 cap l ⟨#[32]⟩ W (fun j x hx => by
      rw [Nat.zero_add]
      exact (hc j (.string x) (by rw [List.getElem?_map, hx]; rfl)).1) (Nat.lt_of_lt_of_le hl hg.size) (by omega) hcap (by
        show (Lib.join (l.map (·.data.toList)) [32]).length ≤ _
        rw [join_jns _ l rfl, lst_size]
        omega)
    refine J.mono ?_
    rintro e w' ⟨rfl, hb⟩
    exact ⟨by rw [← join_text], hb⟩

set_option maxRecDepth 100000 in
set_option maxHeartbeats 2000000 in
theorem listText_any (l : List Int) (ok : Bool) {lo : Nat} (v : Value) (w : World) (hE : Env w) (h : IntsV lo w v l) (hl : l.length ≤ 1000) (hx : ∀ x ∈ l, 0 ≤ x ∧ x < 10000000) :
    Calls Tryz.prog 115 #[v, .bool ok] w fun e w' => e = .returned (.tuple #[.string (jns (l.map dcI)), .bool ok]) ∧ Below w.heap.size w w' := by
  obtain ⟨i0, hi, hz0, hz1, hz2⟩ := info_parts infoT
  obtain ⟨a, c, rfl, hf⟩ : ∃ a c, v = .slice a l.length c ∧ (0 < l.length → ∃ g, a = some ⟨g, 0, none⟩ ∧ CellsAt w g (l.map (.int .i64))) := by
    rcases h with ⟨a, c, rfl, rfl⟩ | ⟨g, c, rfl, _, _, _, hc⟩
    · exact ⟨a, c, rfl, fun h => by simp at h⟩
    · exact ⟨_, c, rfl, fun _ => ⟨g, rfl, hc⟩⟩
  have HX := hide hx
  have HF := hide hf
  have HEE := hide hE
  obtain ⟨n, hn⟩ : ∃ n, n = l.length := ⟨_, rfl⟩
  have HN := hide hn
  obtain ⟨r, hr⟩ : ∃ r, r = jns (l.map dcI) := ⟨_, rfl⟩
  have HR := hide hr
  rw [← hn] at hl ⊢
  rw [← hr]
  clear h hf hx hn hE hr
  go_enter Tryz.func115, Tryz.ntmps115
  go_wp2
  go_loopw [6, 11] (fun o i wr => ∃ k : Nat, k ≤ n ∧ i = .int .i64 (k : Int) ∧ Hid (wr.ownsRow w.heap.size 9 1 o k ((((l.take k).map dcI)).map .string)) ∧ Hid (Below w.heap.size w wr) ∧ w.heap.size ≤ wr.heap.size) (fun _ i _ => n - (Go.RowKit.intOf i).toNat)
  case atStart => exact ⟨0, Nat.zero_le _, rfl, World.ownsRow_nil _ _ _ _, Below.refl _ _, Nat.le_refl _⟩
  case round =>
    obtain ⟨k, hk, rfl, HO, HB, hsz⟩ := hrel
    by_cases hlt : k < n
    · obtain ⟨g, rfl, hc⟩ := HF.out (by rw [← HN.out]; omega)
      obtain ⟨y, hy⟩ : ∃ y, l[k]? = some y := ⟨_, List.getElem?_eq_getElem (by rw [← HN.out]; exact hlt)⟩
      have c1 := (hc.below' HB.out (Nat.le_refl _) k (.int .i64 y) (by rw [List.getElem?_map, hy]; rfl)).1
      obtain ⟨y0, y1⟩ := HX.out y (List.mem_of_getElem? hy)
      have CD := hide (itoa_any y0 y1 wr (HEE.out.below HB.out))
      have HT : Hid ((l.take (k + 1)).map dcI = (l.take k).map dcI ++ [dcI y]) := by
        show _ = _
        rw [List.take_add_one, hy, List.map_append]
        rfl
      obtain ⟨d, hd⟩ : ∃ d, d = dcI y := ⟨_, rfl⟩
      rw [← hd] at CD HT
      have i0' : (0 : Int) ≤ (k : Int) := by omega
      have i1 : (k : Int) < (n : Int) := by omega
      clear hc hy y0 y1 hd
      go_wp2_with fail
      refine CD.out.mono ?_
      rintro e w1 ⟨rfl, hg1⟩
      have hs1 := hg1.size
      have HO1 : Hid (w1.ownsRow w.heap.size 9 1 _ k ((((l.take k).map dcI)).map .string)) := HO.out.kept (row := none) ⟨hg1.below.os, hg1.below.tape, hg1.below.output, hg1.below.size, fun i hi _ => hg1.below.block i hi⟩ (Classical.em _)
      have HB1 := hide (HB.out.trans (hg1.below.mono HB.out.size))
      have hsz1 : w.heap.size ≤ w1.heap.size := by omega
      clear hg1 HO HB CD
      go_wp2_with (at_builtin; refine wpList_append_own _ rfl _ _ 51 rfl w.heap.size 9 i0 (.string ByteArray.empty) 1 16 Tryz.underlying51 hi hz0 hz1 hz2 rfl (by decide) _ _ _ rfl (HO1.out.alloc _) ⟨w1.heap.size, 0, none⟩ 1 1 [.string d] rfl rfl (cell_one_new _ _ _) (one_str _) (by unfold maxLen; omega) (by omega) (by simp; omega) ?_; intro v' w2 hown' hgrow _)
      go_roundw
      case rel =>
        refine ⟨k + 1, by omega, by go_num, ?_, ?_, ?_⟩
        · show World.ownsRow _ _ _ _ _ _ _
          rw [HT.out, List.map_append]
          exact hown'
        · exact (HB1.out.alloc hsz1 _).grown hgrow (by simp; omega) (fun b e => (HO1.out.lt b e).1)
        · have := hgrow.size; simp at this; omega
      case measure => simp [Go.RowKit.intOf]; omega
    · have hkn : k = n := by omega
      have HO1 : Hid (wr.ownsRow w.heap.size 9 1 u6 (l.map dcI).length ((l.map dcI).map .string)) := by
        have := HO.out
        rw [hkn, HN.out, List.take_length] at this
        rw [List.length_map]
        exact this
      have CJ := hide (fun W hW => join_any (l.map dcI) _ wr HO1.out (by rw [List.length_map, ← HN.out]; exact hl) (fun x hx => by
        obtain ⟨y, _, rfl⟩ := List.mem_map.1 hx
        have := (dcI_size y).2
        omega) W hW)
      rw [← HR.out] at CJ
      clear hkn
      go_wp2_with (go_at_call 148; refine (CJ.out _ (Grw.refl _)).mono ?_; rintro e w2 ⟨rfl, hb2⟩)
      go_ret2
      exact ⟨rfl, HB.out.trans (hb2.mono HB.out.size)⟩
end Go.Proofs.YtdooboibmllfkaaGreatDoor

namespace Go.Proofs.YtdooboibmllfkaaGreatDoor
set_option maxRecDepth 100000
open Go.RowKit Go.Sort Go.Shelf

def rgT (p : Int × Int) : ByteArray := dcI p.1 ++ colT ++ dcI p.2
theorem rgT_size (p : Int × Int) : (rgT p).size ≤ 15 := by
  have h1 := (dcI_size p.1).2
  have h2 := (dcI_size p.2).2
  have h3 : colT.size = 1 := rfl
  unfold rgT
  rw [ByteArray.size_append, ByteArray.size_append]
  omega
theorem jnsp_take {l : List (Int × Int)} {k : Nat} {p : Int × Int} (h : l[k]? = some p) : jns ((l.take (k + 1)).map rgT) = if k = 0 then rgT p else jns ((l.take k).map rgT) ++ spT ++ rgT p := by
  obtain ⟨hk, he⟩ := List.getElem?_eq_some_iff.1 h
  rw [List.take_succ_eq_append_getElem hk, he, List.map_append, List.map_cons, List.map_nil, jns_snoc]
  by_cases h0 : k = 0
  · subst h0; rfl
  · rw [if_neg h0, if_neg]
    intro e
    have := congrArg List.length e
    rw [List.length_map, List.length_take, List.length_nil] at this
    have : min k l.length = k := Nat.min_eq_left (by omega)
    omega

set_option maxHeartbeats 2000000 in
theorem specRigged_any (l : List (Int × Int)) (ok : Bool) {lo : Nat} (v : Value) (w : World) (h : PartsV lo w v l) (hl : l.length ≤ 1000) (hx : ok = true → ∀ p ∈ l, (0 ≤ p.1 ∧ p.1 < 10000000) ∧ 0 ≤ p.2 ∧ p.2 < 10000000) :
    Calls Tryz.prog 52 #[v, .bool ok] w fun e w' => e = .returned (.string (rigS l ok)) ∧ Below w.heap.size w w' := by
  have mixed : Tryz.prog.follows .mixedOrders = true := by kernel_rfl
  obtain ⟨n, hn⟩ : ∃ n, l.length = n := ⟨_, rfl⟩
  obtain ⟨a, c, rfl, hf⟩ := h.form hn
  cases ok
  · go_enter Tryz.func52, Tryz.ntmps52
    go_wp2
    go_ret
    exact ⟨rfl, Below.refl _ _⟩
  · have HX := hide (hx rfl)
    have HF := hide hf
    have HN := hide hn
    rw [hn] at hl
    have HS : Hid (rigS l true = jns ((l.take n).map rgT) ++ nlT) := by show _ = _; rw [← hn, List.take_length]; rfl
    clear h hf hx hn
    go_enter Tryz.func52, Tryz.ntmps52
    go_wp2
    go_loopw [5, 6] (fun o i wr => ∃ (x : ByteArray) (k : Nat), k ≤ n ∧ o = .string x ∧ i = .int .i64 (k : Int) ∧ x.size ≤ 16 * k ∧ Hid (x = jns ((l.take k).map rgT)) ∧ Hid (Grw w wr)) (fun _ i _ => n - (Go.RowKit.intOf i).toNat)
    case atStart => exact ⟨⟨#[]⟩, 0, Nat.zero_le _, rfl, rfl, Nat.zero_le _, rfl, Grw.refl _⟩
    case round =>
      obtain ⟨x, k, hk, rfl, rfl, hxs, HXS, HG⟩ := hrel
      by_cases hlt : k < n
      · obtain ⟨q, rfl, hq0, hqc⟩ := HF.out (by omega)
        obtain ⟨p, hp⟩ : ∃ p, l[k]? = some p := ⟨_, List.getElem?_eq_getElem (by rw [HN.out]; exact hlt)⟩
        obtain ⟨g1, g2⟩ := encZ_get l k p hp
        have hqr := HG.out.cells hqc
        have hql : q < wr.heap.size := by have := HG.out.size; omega
        have c1 : ∀ n os, (grow (wr.drewN n) os).cell? ⟨q, k * 2, none⟩ = some (.int .i64 p.1) := fun n os => cell_grown hql (hqr _ _ g1).1 n os
        have c2 : ∀ n os, (grow (wr.drewN n) os).cell? ⟨q, k * 2 + 1, none⟩ = some (.int .i64 p.2) := fun n os => cell_grown hql (hqr _ _ g2).1 n os
        obtain ⟨⟨y0, y1⟩, y2, y3⟩ := HX.out p (List.mem_of_getElem? hp)
        have C1 := hide (fun W => (specDec_grw p.1 y0 y1 W).mono (fun e w' h => (show e = .returned (.string (dcI p.1)) ∧ ∃ (q : Nat) (os : Array Obj), w' = grow (W.drewN q) os from h)))
        have C2 := hide (fun W => (specDec_grw p.2 y2 y3 W).mono (fun e w' h => (show e = .returned (.string (dcI p.2)) ∧ ∃ (q : Nat) (os : Array Obj), w' = grow (W.drewN q) os from h)))
        have hs1 := (dcI_size p.1).2
        have hs2 := (dcI_size p.2).2
        have HT := hide (jnsp_take hp)
        have HE : Hid (rgT p = dcI p.1 ++ colT ++ dcI p.2) := rfl
        obtain ⟨p1, hp1⟩ : ∃ y, y = p.1 := ⟨_, rfl⟩
        obtain ⟨p2, hp2⟩ : ∃ y, y = p.2 := ⟨_, rfl⟩
        rw [← hp1] at c1 C1 hs1 HE
        rw [← hp2] at c2 C2 hs2 HE
        obtain ⟨d1, hd1⟩ : ∃ d, d = dcI p1 := ⟨_, rfl⟩
        obtain ⟨d2, hd2⟩ : ∃ d, d = dcI p2 := ⟨_, rfl⟩
        rw [← hd1] at C1 hs1 HE
        rw [← hd2] at C2 hs2 HE
        have hsz := rgT_size p
        rw [HE.out] at hsz
        rw [HE.out] at HT
        have i0 : (0 : Int) ≤ (k : Int) := by omega
        have i1 : (k : Int) < (n : Int) := by omega
        have hcol : colT.size = 1 := rfl
        have hsp : spT.size = 1 := rfl
        clear g1 g2 hqr hp y0 y1 y2 y3 hp1 hp2 hd1 hd2 hq0 hqc
        by_cases hk0 : k = 0
        · have HN2 : Hid (x ++ d1 ++ colT ++ d2 = jns ((l.take (k + 1)).map rgT)) := by
            show _ = _
            rw [HT.out, if_pos hk0, HXS.out, hk0]
            exact lst_inj (by simp only [lst_add, List.take_zero, List.map_nil]; rfl)
          have hk1 : ¬ (0 : Int) < (k : Int) := by omega
          have hx0 : x.size ≤ 20000 := by omega
          have hx1 : (x ++ d1).size ≤ 20000 := by rw [ByteArray.size_append]; omega
          have hx2 : (x ++ d1 ++ colT).size ≤ 20000 := by rw [ByteArray.size_append, ByteArray.size_append, hcol]; omega
          have hx3 : Hid ((x ++ d1 ++ colT ++ d2).size ≤ 16 * (k + 1)) := by show _ ≤ _; simp only [ByteArray.size_append, hcol]; omega
          have HK0 := hide hk0
          clear hsz hsp
          unfold colT at HN2 hx2 hx3 hcol
          clear hk0
          have f1 : ¬ 9223372036854775807 < x.size + d1.size := by omega
          have f2 : ¬ 9223372036854775807 < x.size + d1.size + 1 := by omega
          have f3 : ¬ 9223372036854775807 < x.size + d1.size + 1 + d2.size := by omega
          clear hx0 hx1 hx2 hcol hxs hs1 hs2
          go_wp2
          refine wp_region_quiet_grown (by assumption) (by kernel_rfl) ?_
          repeat (first | go_big_quiet_skip | quiet_step ((go_at_call 81; first | (with_reducible refine Calls.grown_of (C1.out _)) | (with_reducible refine Calls.grown_of (C2.out _)))))
          refine wpQuiet_nil ?_
          intro _ hw'
          obtain ⟨⟨nq, osq⟩, hw''⟩ := hw'
          subst hw''
          go_wp2
          go_roundw
          case rel => exact ⟨_, k + 1, by omega, rfl, by go_num, hx3.out, HN2, HG.out.trans (Grw.mk _ _ _)⟩
          case measure => simp [Go.RowKit.intOf]; omega
        · have HN2 : Hid (x ++ spT ++ d1 ++ colT ++ d2 = jns ((l.take (k + 1)).map rgT)) := by
            show _ = _
            rw [HT.out, if_neg hk0, HXS.out]
            exact lst_inj (by simp only [lst_add, List.append_assoc])
          have hk1 : (0 : Int) < (k : Int) := by omega
          have hx00 : x.size ≤ 20000 := by omega
          have hx0 : (x ++ spT).size ≤ 20000 := by rw [ByteArray.size_append, hsp]; omega
          have hx1 : (x ++ spT ++ d1).size ≤ 20000 := by rw [ByteArray.size_append, ByteArray.size_append, hsp]; omega
          have hx2 : (x ++ spT ++ d1 ++ colT).size ≤ 20000 := by rw [ByteArray.size_append, ByteArray.size_append, ByteArray.size_append, hsp, hcol]; omega
          have hx3 : Hid ((x ++ spT ++ d1 ++ colT ++ d2).size ≤ 16 * (k + 1)) := by show _ ≤ _; simp only [ByteArray.size_append, hcol, hsp]; omega
          clear hsz
          unfold colT spT at HN2 hx2 hx3
          unfold spT at hx0 hx1 hsp
          unfold colT at hcol
          have f0 : ¬ 9223372036854775807 < x.size + 1 := by omega
          have f1 : ¬ 9223372036854775807 < x.size + 1 + d1.size := by omega
          have f2 : ¬ 9223372036854775807 < x.size + 1 + d1.size + 1 := by omega
          have f3 : ¬ 9223372036854775807 < x.size + 1 + d1.size + 1 + d2.size := by omega
          clear hx00 hx0 hx1 hx2 hcol hsp hxs hs1 hs2
          go_wp2
          refine wp_region_quiet_grown (by assumption) (by kernel_rfl) ?_
          repeat (first | go_big_quiet_skip | quiet_step ((go_at_call 81; first | (with_reducible refine Calls.grown_of (C1.out _)) | (with_reducible refine Calls.grown_of (C2.out _)))))
          refine wpQuiet_nil ?_
          intro _ hw'
          obtain ⟨⟨nq, osq⟩, hw''⟩ := hw'
          subst hw''
          go_wp2
          go_roundw
          case rel => exact ⟨_, k + 1, by omega, rfl, by go_num, hx3.out, HN2, HG.out.trans (Grw.mk _ _ _)⟩
          case measure => simp [Go.RowKit.intOf]; omega
      · have hkn : k = n := by omega
        have HE : Hid (x ++ nlT = rigS l true) := by show _ = _; rw [HS.out, HXS.out, hkn]
        unfold nlT at HE
        go_wp2_with fail
        go_ret
        exact ⟨by rw [← HE.out]; rfl, HG.out.below⟩
end Go.Proofs.YtdooboibmllfkaaGreatDoor
