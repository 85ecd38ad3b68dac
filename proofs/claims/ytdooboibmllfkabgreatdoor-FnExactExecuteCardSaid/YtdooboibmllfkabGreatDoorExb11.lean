/- TEXTS Shape2, Shape3, SShape, RowHigh. -/
import Derived.Test.YtdooboibmllfkabGreatDoorExb10
import Derived.Test.YtdooboibmllfkabGreatDoorExb05
namespace Go.Proofs.YtdooboibmllfkabGreatDoor
set_option maxRecDepth 100000
open Go.RowKit

theorem drop_two (l : List Bool) (k : Nat) (a b : Bool) (ha : l[k]? = some a) (hb : l[k + 1]? = some b) : l.drop k = a :: b :: l.drop (k + 2) := by
  obtain ⟨h1, e1⟩ := List.getElem?_eq_some_iff.1 ha
  obtain ⟨h2, e2⟩ := List.getElem?_eq_some_iff.1 hb
  rw [List.drop_eq_getElem_cons h1, List.drop_eq_getElem_cons h2, e1, e2]
theorem drop_one (l : List Bool) (k : Nat) (a : Bool) (ha : l[k]? = some a) : l.drop k = a :: l.drop (k + 1) := by
  obtain ⟨h1, e1⟩ := List.getElem?_eq_some_iff.1 ha
  rw [List.drop_eq_getElem_cons h1, e1]
theorem el_keep (a b : Bool) (t : List Bool) (h : (a && !b) = false) : el (a :: b :: t) = a :: el (b :: t) ∧ np (a :: b :: t) = np (b :: t) := by
  show (if a && !b then el t else a :: el (b :: t)) = _ ∧ (if a && !b then np t + 1 else np (b :: t)) = _
  rw [h]; exact ⟨rfl, rfl⟩
theorem el_step {l : List Bool} {k : Nat} {b : Bool} (hb : l[k]? = some b) (h : b = true → ∀ c, l[k + 1]? = some c → c = true) : el (l.drop k) = b :: el (l.drop (k + 1)) ∧ np (l.drop k) = np (l.drop (k + 1)) := by
  rw [drop_one l k b hb]
  cases hc : l[k + 1]? with
  | none => rw [List.drop_of_length_le (by have := List.getElem?_eq_none_iff.1 hc; omega)]; exact ⟨rfl, rfl⟩
  | some c =>
    rw [drop_one l (k + 1) c hc]
    apply el_keep
    cases b
    · rfl
    · rw [h rfl c hc]; rfl
theorem el_pair_step {l : List Bool} {k : Nat} (hb : l[k]? = some true) (hc : l[k + 1]? = some false) : el (l.drop k) = el (l.drop (k + 2)) ∧ np (l.drop k) = np (l.drop (k + 2)) + 1 := by
  rw [drop_two l k true false hb hc]; exact ⟨rfl, rfl⟩
theorem np_le (l : List Bool) : 2 * np l ≤ l.length := by have := el_length l; omega

def PairRel (s : ByteArray) (o n i : Value) : Prop :=
  ∃ (x : ByteArray) (c k : Nat), k ≤ s.size ∧ i = .int .i64 (k : Int) ∧ n = .int .i64 (c : Int) ∧ o = .string x ∧ x.size ≤ k ∧ c ≤ k ∧ Hid (el (bits s) = bits x ++ el ((bits s).drop k)) ∧ Hid (np (bits s) = c + np ((bits s).drop k)) ∧ Hid (allSgn x.data.toList = true)
theorem sgn48 (s : ByteArray) (k : Nat) (h : k < s.size) (g : allSgn s.data.toList = true) : ((s[k].toNat : Int) == 48) = !((s[k].toNat : Int) == 49) := by rw [sgn_bit s k h g, bit_int]
theorem bits_app (x y : ByteArray) : bits (x ++ y) = bits x ++ bits y := by unfold bits; rw [ByteArray.data_append, Array.toList_append, List.map_append]
theorem bits_sub (s : ByteArray) (k : Nat) (h : k < s.size) : bits (s.extract k (k + 1)) = [s[k] == 49] := by unfold bits; rw [sub_toList s k h]; rfl
theorem sgn_app {x y : ByteArray} (h1 : allSgn x.data.toList = true) (h2 : allSgn y.data.toList = true) : allSgn (x ++ y).data.toList = true := by
  unfold allSgn at *
  rw [ByteArray.data_append, Array.toList_append, List.all_append, h1, h2]; rfl
theorem sgn_sub {s : ByteArray} (k : Nat) (h : k < s.size) (g : allSgn s.data.toList = true) : allSgn (s.extract k (k + 1)).data.toList = true := by
  rw [sub_toList s k h]
  unfold allSgn at g ⊢
  rw [List.all_eq_true] at g
  have := g s[k] (List.getElem_mem (l := s.data.toList) (by simpa using h))
  simp [this]

def RoundRel (s0 : ByteArray) (B : Nat) (w : World) (sv v : Value) (wr : World) : Prop :=
  ∃ (s : ByteArray) (out : List Nat), sv = .string s ∧ s.size ≤ 240 ∧ nballs (bits s) + out.length ≤ 120 ∧ Hid (allSgn s.data.toList = true) ∧ Hid (Still (bits s)) ∧ Hid (rdB (bits s0) = out ++ rds (nballs (bits s)) (bits s)) ∧
    Hid (wr.ownsRow B 3 1 v out.length ((ni out).map (.int .i64))) ∧ Hid (Below B w wr) ∧ B ≤ wr.heap.size
def ballsOf : Value → Nat
  | .string s => nballs (bits s)
  | _ => 0

set_option maxRecDepth 100000 in
set_option maxHeartbeats 4000000 in
theorem l3Rounds_any (s : ByteArray) (w : World) (hv : vld s = true) :
    Calls Tryz.prog 146 #[.string s] w fun e w' => ∃ v, e = .returned v ∧ IntsV w.heap.size w' v (ni (rdB (bits s))) ∧ Below w.heap.size w w' := by
  have hs := vld_le s hv
  have hg := vld_sgn s hv
  have hnb : nballs (bits s) ≤ s.size := by have := nballs_le (bits s) s.size; rw [List.take_of_length_le (by rw [length_bits]; exact Nat.le_refl _)] at this; exact this
  obtain ⟨i0, hi, hz0, hz1, hz2⟩ := info_parts infoI
  obtain ⟨B, hB⟩ : ∃ B, w.heap.size = B := ⟨_, rfl⟩
  have h0 := World.ownsRow_lit (base := B) (e := 3) (size := 1) w #[] 0 (by omega) (by unfold maxLen; omega) rfl
  have hb0 := (Below.refl B w).alloc (by omega) (.cells #[] 3)
  have start : ∀ z : ByteArray, z.data.toList = rep (nballs (bits s)) [48] → z.size ≤ 120 ∧ allSgn (s ++ z).data.toList = true ∧ bits (s ++ z) = pad (bits s) := by
    intro z hz
    have hr : rep (nballs (bits s)) [(48 : UInt8)] = List.replicate (nballs (bits s)) 48 := by
      unfold rep
      generalize nballs (bits s) = k
      induction k with
      | zero => rfl
      | succ k ih => simp [List.replicate_succ] at ih ⊢
    have hlen : z.size = nballs (bits s) := by have := congrArg List.length hz; rw [rep_length] at this; simpa using this
    have hzs : allSgn z.data.toList = true := by rw [hz, hr]; unfold allSgn; rw [List.all_replicate]; simp [sgn]
    have hzb : bits z = List.replicate (nballs (bits s)) false := by unfold bits; rw [hz, hr, List.map_replicate]; rfl
    exact ⟨by omega, sgn_app hg hzs, by rw [bits_app, hzb]; rfl⟩
  have START := hide start
  have CB := hide (fun w => l1Balls_any s w (by unfold maxLen; omega))
  have CM := hide (fun w => l6Many_any ⟨#[48]⟩ (nballs (bits s)) w (by omega) (by decide))
  have HPS := hide (pad_still (bits s))
  have HPB := hide (nballs_pad (bits s))
  have HRD : Hid (rdB (bits s) = rds (nballs (bits s)) (pad (bits s))) := rfl
  clear start
  rw [hB] at h0 ⊢
  have HB := hide hB
  clear hB
  have H0 := hide h0
  clear h0
  go_enter Tryz.func146, Tryz.ntmps146
  go_wp2_with (first | (go_at_call 75; refine (CB.out _).mono ?_; rintro e w1 ⟨rfl, rfl⟩) | (go_at_call 63; refine (CM.out _).mono ?_; rintro e w' ⟨⟨z, rfl, hz⟩, rfl⟩; obtain ⟨z1, z2, z3⟩ := START.out z hz; have Z2 := hide z2; have Z3 := hide z3; clear hz z2 z3))
  go_loopw [0, 3] (RoundRel s B w) (fun sv _ _ => ballsOf sv)
  case atStart =>
    refine ⟨s ++ z, [], rfl, by rw [ByteArray.size_append]; omega, by rw [Z3.out, HPB.out]; simp; omega, Z2, by rw [Z3.out]; exact HPS, ?_, ?_, hb0, by simp [← HB.out]⟩
    · rw [Z3.out, HPB.out, HRD.out]; rfl
    · have := H0.out
      rw [← HB.out] at this ⊢
      exact this
  case round =>
    obtain ⟨t, out, rfl, ht, hlen, HG, HST, HR, HO, HBW, hsz⟩ := hrel
    clear H0 hb0 Z2 Z3 z1
    have CT := hide (fun w => l1Balls_any t w (by unfold maxLen; omega))
    by_cases hnz : nballs (bits t) = 0
    · rw [hnz] at CT
      have HR2 := hide (HR.out.trans (by rw [rds_nil hnz, List.append_nil] : _ = out))
      go_wp2_with (go_at_call 75; refine (CT.out _).mono ?_; rintro e w1 ⟨rfl, rfl⟩)
      go_ret
      rw [HR2.out]
      exact ⟨_, rfl, IntsV.of_owns (e := 3) (n := out.length) HO.out, HBW.out⟩
    · obtain ⟨nb, hnb0⟩ : ∃ nb, nb = nballs (bits t) := ⟨_, rfl⟩
      have HNB := hide hnb0
      rw [← hnb0] at CT hnz hlen
      have hnp := np_le (bits t)
      rw [length_bits] at hnp
      clear hnb0
      have hpos : (0 : Int) < (nb : Int) := by omega
      go_wp2_with (go_at_call 75; refine (CT.out _).mono ?_; rintro e w1 ⟨rfl, rfl⟩)
      go_loop [4, 5, 6] (PairRel t) (fun _ _ i => t.size - (Go.RowKit.intOf i).toNat)
      case atStart => exact ⟨⟨#[]⟩, 0, 0, Nat.zero_le _, rfl, rfl, rfl, Nat.le_refl _, Nat.le_refl _, rfl, by show _ = 0 + _; rw [Nat.zero_add]; rfl, rfl⟩
      case round =>
        obtain ⟨x, c, k, hk, rfl, rfl, rfl, hx, hc, HE, HN, HXG⟩ := hrel
        by_cases hlt : k < t.size
        · have hbk := bits_getElem t k hlt
          have hx2 : x.size ≤ 240 := by omega
          have i0 : (0 : Int) ≤ (k : Int) := by omega
          have i1 : (k : Int) < (t.size : Int) := by omega
          cases hb0 : ((t[k].toNat : Int) == 49)
          · have hbf : (t[k] == 49) = false := by rw [bit_int]; exact hb0
            obtain ⟨k1, k2⟩ := el_step hbk (fun h => by rw [hbf] at h; cases h)
            have HK1 := hide k1
            have HK2 := hide k2
            clear k1 k2 hbk hbf
            go_wp2
            go_round
            case rel =>
              refine ⟨x ++ t.extract k (k + 1), c, k + 1, by omega, by go_num, rfl, rfl, ?_, by omega, ?_, ?_, ?_⟩
              · rw [ByteArray.size_append]; have : (t.extract k (k + 1)).size ≤ 1 := by simp; omega
                omega
              · show el (bits t) = _
                rw [HE.out, HK1.out, bits_app, bits_sub t k hlt, List.append_assoc]; rfl
              · show np (bits t) = _
                rw [HN.out, HK2.out]
              · exact sgn_app HXG.out (sgn_sub k hlt HG.out)
            case measure => simp [Go.RowKit.intOf]; omega
          · have hbt : (t[k] == 49) = true := by rw [bit_int]; exact hb0
            by_cases hk1 : k + 1 < t.size
            · have hbk1 := bits_getElem t (k + 1) hk1
              have h48 := sgn48 t (k + 1) hk1 HG.out
              have i2 : (k : Int) + 1 < (t.size : Int) := by omega
              have i3 : (0 : Int) ≤ (k : Int) + 1 := by omega
              cases hb1 : ((t[k + 1].toNat : Int) == 48)
              · have hc1 : (t[k + 1] == 49) = true := by rw [bit_int]; rw [hb1] at h48; simpa using h48.symm
                obtain ⟨k1, k2⟩ := el_step hbk (fun _ c hc => by rw [hbk1] at hc; injection hc with hc; rw [← hc]; exact hc1)
                have HK1 := hide k1
                have HK2 := hide k2
                clear k1 k2 hbk hbt hbk1 h48 hc1
                go_wp2
                go_round
                case rel =>
                  refine ⟨x ++ t.extract k (k + 1), c, k + 1, by omega, by go_num, rfl, rfl, ?_, by omega, ?_, ?_, ?_⟩
                  · rw [ByteArray.size_append]; have : (t.extract k (k + 1)).size ≤ 1 := by simp; omega
                    omega
                  · show el (bits t) = _
                    rw [HE.out, HK1.out, bits_app, bits_sub t k hlt, List.append_assoc]; rfl
                  · show np (bits t) = _
                    rw [HN.out, HK2.out]
                  · exact sgn_app HXG.out (sgn_sub k hlt HG.out)
                case measure => simp [Go.RowKit.intOf]; omega
              · have hc1 : (t[k + 1] == 49) = false := by rw [bit_int]; rw [hb1] at h48; simpa using h48.symm
                rw [hbt] at hbk
                rw [hc1] at hbk1
                obtain ⟨k1, k2⟩ := el_pair_step hbk hbk1
                have HK1 := hide k1
                have HK2 := hide k2
                clear k1 k2 hbk hbt hbk1 h48 hc1
                go_wp2
                go_round
                case rel =>
                  refine ⟨x, c + 1, k + 2, by omega, by go_num, by go_num, rfl, by omega, by omega, ?_, ?_, HXG⟩
                  · show el (bits t) = _; rw [HE.out, HK1.out]
                  · show np (bits t) = _; rw [HN.out, HK2.out]; omega
                case measure => simp [Go.RowKit.intOf]; omega
            · have i2 : ¬ (k : Int) + 1 < (t.size : Int) := by omega
              obtain ⟨k1, k2⟩ := el_step hbk (fun _ c hc => by rw [List.getElem?_eq_none_iff.2 (by rw [length_bits]; omega)] at hc; cases hc)
              have HK1 := hide k1
              have HK2 := hide k2
              clear k1 k2 hbk hbt
              go_wp2
              go_round
              case rel =>
                refine ⟨x ++ t.extract k (k + 1), c, k + 1, by omega, by go_num, rfl, rfl, ?_, by omega, ?_, ?_, ?_⟩
                · rw [ByteArray.size_append]; have : (t.extract k (k + 1)).size ≤ 1 := by simp; omega
                  omega
                · show el (bits t) = _
                  rw [HE.out, HK1.out, bits_app, bits_sub t k hlt, List.append_assoc]; rfl
                · show np (bits t) = _
                  rw [HN.out, HK2.out]
                · exact sgn_app HXG.out (sgn_sub k hlt HG.out)
              case measure => simp [Go.RowKit.intOf]; omega
        · have hks : k = t.size := by omega
          have hd : (bits t).drop k = [] := List.drop_of_length_le (by rw [length_bits]; omega)
          have hE : el (bits t) = bits x := by rw [HE.out, hd]; show _ ++ [] = _; rw [List.append_nil]
          have hN : np (bits t) = c := by rw [HN.out, hd]; rfl
          have eb := el_balls (bits t)
          have hnz2 : nballs (bits t) ≠ 0 := by rw [← HNB.out]; exact hnz
          have pb := np_ball HST.out hnz2
          have HRX : Hid (rdB (bits s) = (out ++ [c]) ++ rds (nballs (bits x)) (bits x)) := by
            show rdB (bits s) = _
            obtain ⟨m, hm⟩ : ∃ m, nballs (bits t) = m + 1 := ⟨nballs (bits t) - 1, by omega⟩
            rw [HR.out, hm, rds_cons hnz2, hN, hE, List.append_assoc]
            rw [hE] at eb
            have hs2 := HST.out.el
            rw [hE] at hs2
            rw [rds_more hs2 m (nballs (bits x)) (by omega) (Nat.le_refl _)]; rfl
          have HSX : Hid (Still (bits x)) := by rw [← hE]; exact HST.out.el
          have hlt2 : nballs (bits x) + (out.length + 1) ≤ 120 := by rw [hE] at eb; have := HNB.out; omega
          have hmeas := hide (show nballs (bits x) < nballs (bits t) by rw [hE] at eb; omega)
          clear hd hE hN eb hnz2 pb HE HN
          go_wp2_with (at_builtin; refine wpList_append_own _ rfl _ _ 39 rfl B 3 i0 (.int .i64 0) 1 8 Tryz.underlying39 hi hz0 hz1 hz2 rfl (by decide) _ _ _ rfl (HO.out.alloc _) ⟨wr.heap.size, 0, none⟩ 1 1 [.int .i64 (c : Int)] rfl rfl (cell_one_new _ _ _) (one_of_int _) (by unfold maxLen; omega) (by omega) (by simp; omega) ?_; intro v' w1 hown' hgrow _)
          go_roundw
          case rel =>
            have hsg := hgrow.size
            rw [World.size_alloc] at hsg
            refine ⟨x, out ++ [c], rfl, by omega, by rw [List.length_append]; exact hlt2, HXG, HSX, HRX, ?_, (HBW.out.alloc hsz _).grown hgrow (by simp; omega) (fun b e => (HO.out.lt b e).1), by omega⟩
            rw [List.length_append, ni_snoc, List.map_append]; exact hown'
          case measure => exact hmeas.out

theorem rdB_bd (l : List Bool) : (rdB l).length ≤ nballs l ∧ ∀ x ∈ rdB l, x ≤ nballs l := by
  refine ⟨rds_len _ _, fun x hx => ?_⟩
  have := mem_le_sum _ x hx
  rw [rdB_total] at this
  exact this
set_option maxRecDepth 100000 in
set_option maxHeartbeats 4000000 in
theorem l3Shape_any (s : ByteArray) (w : World) (hv : vld s = true) :
    Calls Tryz.prog 113 #[.string s] w fun e w' => ∃ v, e = .returned v ∧ IntsV w.heap.size w' v (ni (shB3 (bits s))) ∧ Below w.heap.size w w' := by
  obtain ⟨i0, hi, hz0, hz1, hz2⟩ := info_parts infoI
  have C := hide (fun w => l3Rounds_any s w hv)
  obtain ⟨b1, b2⟩ := rdB_bd (bits s)
  have hnb : nballs (bits s) ≤ 120 := by
    have h1 := nballs_le (bits s) s.size
    rw [List.take_of_length_le (by rw [length_bits]; exact Nat.le_refl _)] at h1
    have := vld_le s hv
    omega
  have HSH : Hid (shB3 (bits s) = shp (rdB (bits s))) := rfl
  rw [HSH.out]
  obtain ⟨r, hr⟩ : ∃ r, r = rdB (bits s) := ⟨_, rfl⟩
  rw [← hr] at C b1 b2 ⊢
  have HB2 := hide (fun x hx => Nat.le_trans (b2 x hx) hnb)
  have hrl : r.length ≤ 120 := by omega
  clear hr HSH b1 b2 hnb
  go_enter Tryz.func113, Tryz.ntmps113
  go_wp2_with fail
  refine (C.out _).mono ?_
  rintro e w1 ⟨v, rfl, hiv, hb1⟩
  have h0 := World.ownsRow_lit (base := w1.heap.size) (e := 3) (size := 1) w1 #[] 0 (Nat.le_refl _) (by unfold maxLen; omega) rfl
  have hb0 := (Below.refl w1.heap.size w1).alloc (Nat.le_refl _) (.cells #[] 3)
  have H0 := hide h0
  have HB1 := hide hb1
  clear C h0 hb1
  cases r with
  | nil =>
    have hvf : ∃ a c, v = .slice a 0 c := by
      rcases hiv with ⟨a, c, rfl, _⟩ | ⟨g, c, rfl, _⟩
      · exact ⟨a, c, rfl⟩
      · exact ⟨_, c, rfl⟩
    obtain ⟨a, c, rfl⟩ := hvf
    go_wp2
    go_loopw [4, 5] (fun o k wr => k = .int .i64 1 ∧ o = .slice (some ⟨w1.heap.size, 0, none⟩) 0 0 ∧ Hid (w1.alloc (.cells #[] 3) = wr)) (fun _ _ _ => 0)
    case atStart => exact ⟨rfl, rfl, rfl⟩
    case round =>
      obtain ⟨rfl, rfl, HQ⟩ := hrel
      go_wp2
      go_ret
      exact ⟨_, rfl, .inl ⟨_, _, rfl, rfl⟩, by rw [← HQ.out]; exact HB1.out.trans (hb0.mono HB1.out.size)⟩
  | cons x t =>
    obtain ⟨g, c, rfl, h1, h2, h3, h4⟩ := hiv.some (by simp [ni])
    rw [ni_length] at h1 ⊢
    have H4 := hide h4
    have hx : x ≤ 120 := HB2.out x (List.mem_cons_self ..)
    obtain ⟨nl, hnl⟩ : ∃ n, n = (x :: t).length := ⟨_, rfl⟩
    have HNL := hide hnl
    rw [← hnl] at h1 hrl ⊢
    have hnl1 : 1 ≤ nl := by rw [hnl]; simp
    clear h4 hiv hnl
    go_wp2
    go_loopw [4, 5] (fun o k wr => ∃ m : Nat, m ≤ x ∧ k = .int .i64 ((m : Int) + 1) ∧ Hid (wr.ownsRow w1.heap.size 3 1 o m ((ni ((shp (x :: t)).take m)).map (.int .i64))) ∧ Hid (Below w1.heap.size w1 wr) ∧ w1.heap.size ≤ wr.heap.size) (fun _ k _ => (x + 1 - (Go.RowKit.intOf k).toNat))
    case atStart => exact ⟨0, Nat.zero_le _, rfl, H0, hb0, by simp⟩
    case round =>
      obtain ⟨m, hm, rfl, HO, HBW, hsz⟩ := hrel
      clear H0 hb0
      have hc0 : wr.cell? ⟨g, 0, none⟩ = some (.int .i64 (x : Int)) := ((H4.out.below HBW.out h3) 0 _ rfl).1
      have j0 : (0 : Int) < (nl : Int) := by omega
      by_cases hlt : m < x
      · have d1 : (m : Int) + 1 ≤ (x : Int) := by omega
        have HS := hide (shp_take_succ (x :: t) m hlt)
        go_wp2
        go_loop [6, 7] (fun n i => ∃ j : Nat, j ≤ nl ∧ i = .int .i64 (j : Int) ∧ n = .int .i64 ((((x :: t).take j).countP (fun y => decide (m < y)) : Nat) : Int)) (fun _ i => nl - (Go.RowKit.intOf i).toNat)
        case atStart => exact ⟨0, Nat.zero_le _, rfl, rfl⟩
        case round =>
          obtain ⟨j, hj, rfl, rfl⟩ := hrel
          have hcl : ((x :: t).take j).countP (fun y => decide (m < y)) ≤ j := Nat.le_trans List.countP_le_length (by rw [List.length_take]; omega)
          by_cases hjl : j < nl
          · obtain ⟨y, hy⟩ : ∃ y, (x :: t)[j]? = some y := ⟨_, List.getElem?_eq_getElem (by rw [← HNL.out]; exact hjl)⟩
            have hcj : wr.cell? ⟨g, j, none⟩ = some (.int .i64 (y : Int)) := ((H4.out.below HBW.out h3) j _ (by rw [List.getElem?_map, ni_getElem, hy]; rfl)).1
            have HC := hide (count_take_succ (x :: t) m j y hy)
            obtain ⟨n0, hn0⟩ : ∃ n0, n0 = ((x :: t).take j).countP (fun y => decide (m < y)) := ⟨_, rfl⟩
            rw [← hn0] at hcl HC ⊢
            clear hn0 hy
            have i0 : (0 : Int) ≤ (j : Int) := by omega
            have i1 : (j : Int) < (nl : Int) := by omega
            by_cases hmy : m < y
            · have HC2 := hide (HC.out.trans (by rw [if_pos hmy]))
              clear HC
              have d2 : (m : Int) + 1 ≤ (y : Int) := by omega
              go_wp2
              go_round
              case rel => exact ⟨j + 1, by omega, by go_num, by rw [HC2.out]; rfl⟩
              case measure => simp [Go.RowKit.intOf]; omega
            · have HC2 := hide (HC.out.trans (by rw [if_neg hmy, Nat.add_zero]))
              clear HC
              have d2 : ¬ (m : Int) + 1 ≤ (y : Int) := by omega
              go_wp2
              go_round
              case rel => exact ⟨j + 1, by omega, by go_num, by rw [HC2.out]⟩
              case measure => simp [Go.RowKit.intOf]; omega
          · have hjn : j = nl := by omega
            rw [hjn, List.take_of_length_le (by rw [← HNL.out]; exact Nat.le_refl _)] at hcl ⊢
            obtain ⟨n0, hn0⟩ : ∃ n0, n0 = (x :: t).countP (fun y => decide (m < y)) := ⟨_, rfl⟩
            rw [← hn0] at hcl HS ⊢
            clear hn0
            subst hjn
            go_wp2_with (at_builtin; refine wpList_append_own _ rfl _ _ 39 rfl w1.heap.size 3 i0 (.int .i64 0) 1 8 Tryz.underlying39 hi hz0 hz1 hz2 rfl (by decide) _ _ _ rfl (HO.out.alloc _) ⟨wr.heap.size, 0, none⟩ 1 1 [.int .i64 (n0 : Int)] rfl rfl (cell_one_new _ _ _) (one_of_int _) (by unfold maxLen; omega) (by omega) (by simp; omega) ?_; intro v' w2 hown' hgrow _)
            go_roundw
            case rel =>
              have hsg := hgrow.size
              rw [World.size_alloc] at hsg
              refine ⟨m + 1, by omega, by go_num, ?_, (HBW.out.alloc hsz _).grown hgrow (by simp; omega) (fun b e => (HO.out.lt b e).1), by omega⟩
              rw [HS.out, ni_snoc, List.map_append]; exact hown'
            case measure => simp [Go.RowKit.intOf]; omega
      · have hmx : m = x := by omega
        have d1 : ¬ (m : Int) + 1 ≤ (x : Int) := by omega
        have hfin : (shp (x :: t)).take m = shp (x :: t) := List.take_of_length_le (by rw [shp_length]; show x ≤ m; omega)
        rw [hfin] at HO
        clear hfin
        go_wp2
        go_ret
        exact ⟨_, rfl, (IntsV.of_owns (e := 3) (n := m) HO.out).mono HB1.out.size, HB1.out.trans (HBW.out.mono HB1.out.size)⟩

def shR (s : ByteArray) : List Int := if vld s then ni (shB3 (bits s)) else []

set_option maxRecDepth 100000 in
set_option maxHeartbeats 400000 in
theorem specShapeOf_any (s : ByteArray) (w : World) (hs : s.size ≤ maxLen) :
    Calls Tryz.prog 76 #[.string s] w fun e w' => ∃ v, e = .returned (.tuple #[v, .bool (vld s)]) ∧ IntsV w.heap.size w' v (shR s) ∧ Below w.heap.size w w' := by
  unfold shR
  cases hv : vld s
  · go_enter Tryz.func76, Tryz.ntmps76
    go_wp2_with (go_at_call 22; refine (specRowValid_any _ _ hs).mono ?_; rintro e w' ⟨rfl, rfl⟩)
    go_ret2
    exact ⟨_, rfl, .inl ⟨_, _, rfl, rfl⟩, (Below.refl _ _).alloc (Nat.le_refl _) _⟩
  · have C := hide (fun w => l3Shape_any s w hv)
    go_enter Tryz.func76, Tryz.ntmps76
    go_wp2_with (go_at_call 22; refine (specRowValid_any _ _ hs).mono ?_; rintro e w' ⟨rfl, rfl⟩)
    refine (C.out _).mono ?_
    rintro e w1 ⟨u, rfl, hu, hb⟩
    go_wp2
    go_ret2
    exact ⟨_, rfl, hu, hb⟩
end Go.Proofs.YtdooboibmllfkabGreatDoor

namespace Go.Proofs.YtdooboibmllfkabGreatDoor
set_option maxRecDepth 100000
open Go.RowKit

theorem all_take_succ (l : List Int) (p : Int → Bool) (k : Nat) (x : Int) (h : l[k]? = some x) : (l.take (k + 1)).all p = ((l.take k).all p && p x) := by
  obtain ⟨hk, e⟩ := List.getElem?_eq_some_iff.1 h
  rw [List.take_succ_eq_append_getElem hk, List.all_append, e]; simp

end Go.Proofs.YtdooboibmllfkabGreatDoor

namespace Go.Proofs.YtdooboibmllfkabGreatDoor
set_option maxRecDepth 100000
open Go.RowKit

def tmF : Nat → ByteArray → Nat → Int × Bool
  | 0, _, _ => (0, false)
  | f + 1, s, n => if apOk s then ((n : Int), true) else if stOk s 200 then tmF f (stS s 200) (n + 1) else (0, false)
def tmR (s : ByteArray) : Int × Bool := if vld s then tmF 61 s 0 else (0, false)

set_option maxRecDepth 100000 in
set_option maxHeartbeats 2000000 in
theorem specShapeTime_any (s : ByteArray) (w : World) (hs : s.size ≤ maxLen) :
    Calls Tryz.prog 78 #[.string s] w fun e w' => e = .returned (.tuple #[.int .i64 (tmR s).1, .bool (tmR s).2]) ∧ Below w.heap.size w w' := by
  unfold tmR
  cases hv : vld s
  · go_enter Tryz.func78, Tryz.ntmps78
    go_wp2_with (go_at_call 22; refine (specRowValid_any _ _ hs).mono ?_; rintro e w' ⟨rfl, rfl⟩)
    go_ret2
    exact ⟨rfl, Below.refl _ _⟩
  · rw [if_pos rfl]
    have h120 := vld_le s hv
    obtain ⟨R, hR⟩ : ∃ R, R = tmF 61 s 0 := ⟨_, rfl⟩
    rw [← hR]
    have HR := hide hR
    clear hR
    go_enter Tryz.func78, Tryz.ntmps78
    go_wp2_with (go_at_call 22; refine (specRowValid_any _ _ hs).mono ?_; rintro e w' ⟨rfl, rfl⟩)
    go_loopw [0, 4] (fun sv n wr => ∃ (x : ByteArray) (k : Nat), k ≤ 61 ∧ sv = .string x ∧ n = .int .i64 (k : Int) ∧ x.size ≤ 120 ∧ Hid (R = tmF (61 - k) x k) ∧ Hid (Below w.heap.size w wr)) (fun _ n _ => 61 - (Go.RowKit.intOf n).toNat)
    case atStart => exact ⟨s, 0, Nat.zero_le _, rfl, rfl, h120, HR, Below.refl _ _⟩
    case round =>
      obtain ⟨x, k, hk, rfl, rfl, hx, HE, HBW⟩ := hrel
      have hxm : x.size ≤ maxLen := by unfold maxLen; omega
      by_cases hlt : k ≤ 60
      · have hE : R = if apOk x then ((k : Int), true) else if stOk x 200 then tmF (61 - (k + 1)) (stS x 200) (k + 1) else (0, false) := by
          rw [HE.out, show 61 - k = (61 - (k + 1)) + 1 by omega]; rfl
        have HE2 := hide hE
        have CA := hide (fun w => specShapeApart_any x w hxm)
        have CS := hide (fun w => specStepOf_any x 200 w hxm)
        have hsz := stS_size x 200
        obtain ⟨y, hy⟩ : ∃ y, y = stS x 200 := ⟨_, rfl⟩
        obtain ⟨a, ha⟩ : ∃ a, a = apOk x := ⟨_, rfl⟩
        obtain ⟨b, hb⟩ : ∃ b, b = stOk x 200 := ⟨_, rfl⟩
        rw [← hy, ← ha, ← hb] at HE2
        rw [← ha] at CA
        rw [← hy, ← hb] at CS
        rw [← hy] at hsz
        clear hy ha hb hE HE
        cases a
        · go_wp2_with fail
          refine (CA.out _).mono ?_
          rintro e w1 ⟨rfl, hb1⟩
          have g1 := HBW.out.trans (hb1.mono HBW.out.size)
          clear CA hb1
          cases b
          · have HE3 := hide (HE2.out.trans rfl)
            clear HE2
            go_wp2_with fail
            refine (CS.out _).mono ?_
            rintro e w2 ⟨rfl, hb2⟩
            go_wp2_with fail
            go_ret2
            exact ⟨by rw [HE3.out]; rfl, g1.trans (hb2.mono g1.size)⟩
          · have HE3 := hide (HE2.out.trans rfl)
            clear HE2
            go_wp2_with fail
            refine (CS.out _).mono ?_
            rintro e w2 ⟨rfl, hb2⟩
            have g2 := g1.trans (hb2.mono g1.size)
            clear CS hb2
            go_wp2_with fail
            go_roundw
            case rel => exact ⟨y, k + 1, by omega, rfl, by go_num, hsz, HE3, g2⟩
            case measure => simp [Go.RowKit.intOf]; omega
        · have HE3 := hide (HE2.out.trans rfl)
          clear HE2 CS
          go_wp2_with fail
          refine (CA.out _).mono ?_
          rintro e w1 ⟨rfl, hb1⟩
          go_wp2_with fail
          go_ret2
          exact ⟨by rw [HE3.out]; rfl, HBW.out.trans (hb1.mono HBW.out.size)⟩
      · have hk61 : k = 61 := by omega
        have HE2 := hide (HE.out.trans (by rw [hk61]; rfl : _ = ((0 : Int), false)))
        go_wp2
        go_ret2
        exact ⟨by rw [HE2.out]; rfl, HBW.out⟩
end Go.Proofs.YtdooboibmllfkabGreatDoor

namespace Go.Proofs.YtdooboibmllfkabGreatDoor
set_option maxRecDepth 100000
open Go.RowKit

theorem shape_facts (s : ByteArray) : (∀ x ∈ shB3 (bits s), 1 ≤ x) ∧ Falls (shB3 (bits s)) ∧ (shB3 (bits s)).sum = nballs (bits s) := by
  have h := rdB_falls (bits s)
  exact ⟨shp_pos h, shp_falls _, by unfold shB3; rw [shp_sum h, rdB_total]⟩
end Go.Proofs.YtdooboibmllfkabGreatDoor

namespace Go.Proofs.YtdooboibmllfkabGreatDoor
set_option maxRecDepth 100000

def swC (l : List Int) : Bool := decide (l.length ≤ 20) && l.all fun x => decide (1 ≤ x) && decide (x ≤ 20)
def swO (l : List Int) : Bool := swC l && decide (tl (szB (isr l)) ≤ 120)
def swS (l : List Int) : ByteArray := if swO l then ofBits (cut (szB (isr l))) else ByteArray.empty
theorem swC_iff {l : List Int} : swC l = true ↔ l.length ≤ 20 ∧ ∀ x ∈ l, 1 ≤ x ∧ x ≤ 20 := by
  unfold swC
  rw [Bool.and_eq_true, decide_eq_true_eq, List.all_eq_true]
  simp only [Bool.and_eq_true, decide_eq_true_eq]
theorem swS_facts {l : List Int} (h : swO l = true) : vld (swS l) = true ∧ (swS l).size ≤ 120 ∧ bx (bits (swS l)) = bx (szB (isr l)) := by
  unfold swO at h
  have h0 := h
  rw [Bool.and_eq_true, decide_eq_true_eq] at h
  have e : swS l = ofBits (cut (szB (isr l))) := by unfold swS swO; rw [if_pos h0]
  have hb : bits (swS l) = cut (szB (isr l)) := by rw [e, bits_ofBits]
  have hs : (swS l).size = tl (szB (isr l)) := by rw [← length_bits, hb, cut_length]
  refine ⟨?_, by omega, by rw [hb, bx_fun_cut]⟩
  rw [e]
  exact vld_ofBits _ (by rw [cut_length]; exact h.2)
end Go.Proofs.YtdooboibmllfkabGreatDoor

namespace Go.Proofs.YtdooboibmllfkabGreatDoor
set_option maxRecDepth 100000
open Go.RowKit

def nn (x : Int) : Bool := decide (0 ≤ x)
def highB (s : ByteArray) : Bool := levOk s && (levR s).all nn
theorem all_snoc (l : List Int) (k : Nat) (x : Int) (h : l[k]? = some x) : (l.take (k + 1)).all nn = ((l.take k).all nn && nn x) := by
  obtain ⟨hk, he⟩ := List.getElem?_eq_some_iff.1 h
  rw [List.take_succ_eq_append_getElem hk, List.all_append, he]; simp

theorem nn_min (x y : Int) : nn (if y < x then y else x) = (nn x && nn y) := by
  unfold nn; rw [Bool.eq_iff_iff]; simp; split <;> omega

set_option maxHeartbeats 400000 in
theorem specRowHigh_any (s : ByteArray) (w : World) (hs : s.size ≤ maxLen) :
    Calls Tryz.prog 15 #[.string s] w fun e w' => e = .returned (.bool (highB s)) ∧ Below w.heap.size w w' := by
  have hlen := levR_len s
  have C1 := hide (fun w => specRowLevels_any s w hs)
  obtain ⟨l, hl⟩ : ∃ l, l = levR s := ⟨_, rfl⟩
  obtain ⟨b, hb⟩ : ∃ b, b = levOk s := ⟨_, rfl⟩
  have HR : Hid (highB s = (b && l.all nn)) := by unfold highB; rw [hl, hb]; exact rfl
  rw [← hl, ← hb] at C1
  rw [← hl] at hlen
  clear hl hb hs
  go_enter Tryz.func15, Tryz.ntmps15
  go_wp2_with fail
  refine (C1.out _).mono ?_
  rintro e w1 ⟨v, rfl, hi, hb1⟩
  rcases hi with ⟨a, cap, rfl, rfl⟩ | ⟨g, cap, rfl, hcap, hlo, hlt, hc⟩
  · go_wp2_with fail
    go_loopw [4, 5] (fun o i wr => o = .bool b ∧ i = .int .i64 0 ∧ Hid (w1 = wr)) (fun _ _ _ => 0)
    case atStart => exact ⟨rfl, rfl, rfl⟩
    case round =>
      obtain ⟨rfl, rfl, HQ⟩ := hrel
      go_wp2
      go_ret
      have hw := HQ.out
      subst hw
      exact ⟨ret_bool (by rw [HR.out]; simp), hb1⟩
  · obtain ⟨n, hn⟩ : ∃ n, n = l.length := ⟨_, rfl⟩
    have HN := hide hn
    have HC := hide hc
    have HB := hide hb1
    rw [← hn] at hlen
    clear hn hc hb1 hlo hlt hcap
    go_wp2_with fail
    rw [← HN.out]
    go_loopw [4, 5] (fun o i wr => ∃ (k : Nat) (x : Bool), k ≤ n ∧ i = .int .i64 k ∧ o = .bool x ∧ Hid (x = (b && (l.take k).all nn)) ∧ Hid (w1 = wr)) (fun _ i _ => n - (Go.RowKit.intOf i).toNat)
    case atStart => exact ⟨0, b, Nat.zero_le _, rfl, rfl, by simp [Hid], rfl⟩
    case round =>
      obtain ⟨k, x, hk, rfl, rfl, HX, HQ⟩ := hrel
      by_cases hltk : k < n
      · obtain ⟨y, hy⟩ : ∃ y, l[k]? = some y := ⟨_, List.getElem?_eq_getElem (by rw [← HN.out]; exact hltk)⟩
        have hw := HQ.out
        subst hw
        have hcell := (HC.out k (.int .i64 y) (by simp [hy])).1
        have HA := hide (all_snoc l k y hy)
        clear hy
        cases x
        · go_wp2
          go_roundw
          case rel => exact ⟨k + 1, false, by omega, by go_num, rfl, by rw [HA.out, ← Bool.and_assoc, ← HX.out]; rfl, True.intro⟩
          case measure => simp [Go.RowKit.intOf]; omega
        · by_cases hy0 : 0 ≤ y
          · have HY := hide (show nn y = true by simp [nn, hy0])
            go_wp2
            go_roundw
            case rel => exact ⟨k + 1, true, by omega, by go_num, rfl, by rw [HA.out, ← Bool.and_assoc, ← HX.out, HY.out]; rfl, True.intro⟩
            case measure => simp [Go.RowKit.intOf]; omega
          · have HY := hide (show nn y = false by simp [nn]; omega)
            go_wp2
            go_roundw
            case rel => exact ⟨k + 1, false, by omega, by go_num, rfl, by rw [HA.out, ← Bool.and_assoc, ← HX.out, HY.out]; rfl, True.intro⟩
            case measure => simp [Go.RowKit.intOf]; omega
      · go_wp2
        go_ret
        have hw := HQ.out
        subst hw
        exact ⟨ret_bool (by rw [HR.out, HX.out, List.take_of_length_le (by rw [← HN.out]; omega)]), HB.out⟩

theorem min_any (g cap : Nat) (l : List Int) (w : World) (hl : 0 < l.length) (hm : l.length ≤ 1000) (hc : CellsAt w g (l.map (.int .i64))) :
    Calls Tryz.prog 35 #[.slice (some ⟨g, 0, none⟩) l.length cap] w fun e w' => ∃ m : Int, e = .returned (.int .i64 m) ∧ nn m = l.all nn ∧ w = w' := by
  obtain ⟨n, hn⟩ : ∃ n, n = l.length := ⟨_, rfl⟩
  have HN := hide hn
  have HC := hide hc
  rw [← hn] at hl hm ⊢
  obtain ⟨y0, hy0⟩ : ∃ y, l[0]? = some y := ⟨_, List.getElem?_eq_getElem (by rw [← HN.out]; exact hl)⟩
  have hcell0 := (HC.out 0 (.int .i64 y0) (by simp [hy0])).1
  have HA0 := hide (all_snoc l 0 y0 hy0)
  clear hn hc hy0
  go_enter Tryz.func35, Tryz.ntmps35
  go_wp2
  go_loop [3, 4] (fun m i => ∃ (k : Nat) (x : Int), 1 ≤ k ∧ k ≤ n ∧ i = .int .i64 k ∧ m = .int .i64 x ∧ Hid (nn x = (l.take k).all nn)) (fun _ i => n - (Go.RowKit.intOf i).toNat)
  case atStart => exact ⟨1, y0, by omega, by omega, rfl, rfl, by rw [HA0.out]; simp [Hid]⟩
  case round =>
    obtain ⟨k, x, hk1, hk, rfl, rfl, HX⟩ := hrel
    by_cases hltk : k < n
    · obtain ⟨y, hy⟩ : ∃ y, l[k]? = some y := ⟨_, List.getElem?_eq_getElem (by rw [← HN.out]; exact hltk)⟩
      have hcell := (HC.out k (.int .i64 y) (by simp [hy])).1
      have HA := hide (all_snoc l k y hy)
      clear hy
      go_wp2
      go_round
      case rel =>
        first
        | exact ⟨k + 1, if y < x then y else x, by omega, by omega, by go_num, rfl, by rw [HA.out, ← HX.out]; exact nn_min x y⟩
        | exact ⟨k + 1, min x y, by omega, by omega, by go_num, rfl, by rw [HA.out, ← HX.out, show min x y = (if y < x then y else x) from by rw [Int.min_def]; split <;> split <;> omega]; exact nn_min x y⟩
      case measure => simp [Go.RowKit.intOf]; omega
    · go_wp2
      go_ret
      exact ⟨x, rfl, by rw [HX.out, List.take_of_length_le (by rw [← HN.out]; omega)], rfl⟩

set_option maxHeartbeats 400000 in
theorem implRowHigh_any (s : ByteArray) (w : World) (hs : s.size ≤ maxLen) :
    Calls Tryz.prog 14 #[.string s] w fun e w' => e = .returned (.bool (highB s)) ∧ Below w.heap.size w w' := by
  have hlen := levR_len s
  have hpos : levOk s = true → 0 < (levR s).length := by
    intro h; simp [levR, h, lev_length]
  have C1 := hide (fun w => implRowLevels_any s w hs)
  obtain ⟨l, hl⟩ : ∃ l, l = levR s := ⟨_, rfl⟩
  obtain ⟨b, hb⟩ : ∃ b, b = levOk s := ⟨_, rfl⟩
  have HR : Hid (highB s = (b && l.all nn)) := by unfold highB; rw [hl, hb]; exact rfl
  rw [← hl, ← hb] at C1
  rw [← hl] at hlen
  rw [← hl, ← hb] at hpos
  clear hl hb hs
  cases b
  · clear hpos
    go_enter Tryz.func14, Tryz.ntmps14
    go_wp2_with (go_at_call 34; refine (C1.out _).mono ?_; rintro e w1 ⟨v, rfl, hi, hb1⟩)
    go_ret
    exact ⟨ret_bool (by rw [HR.out]; rfl), hb1⟩
  · have hq := hpos rfl
    clear hpos
    go_enter Tryz.func14, Tryz.ntmps14
    go_wp2_with fail
    refine (C1.out _).mono ?_
    rintro e w1 ⟨v, rfl, hi, hb1⟩
    rcases hi with ⟨a, cap, rfl, rfl⟩ | ⟨g, cap, rfl, hcap, hlo, hlt, hc⟩
    · simp at hq
    · go_wp2_with fail
      refine (min_any _ _ l _ hq (by omega) hc).mono ?_
      rintro e w2 ⟨m, rfl, hm, rfl⟩
      have HM := hide hm
      clear hm
      go_wp2_with fail
      go_ret
      exact ⟨ret_bool (by rw [HR.out, ← HM.out]; rfl), hb1⟩

end Go.Proofs.YtdooboibmllfkabGreatDoor
