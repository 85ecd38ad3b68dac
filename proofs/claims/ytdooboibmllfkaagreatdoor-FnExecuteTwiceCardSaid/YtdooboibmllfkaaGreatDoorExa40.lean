/- TEXTS Col7, ICol1, ICol2, OwnSet. -/
import Derived.Test.YtdooboibmllfkaaGreatDoorExa14
import Derived.Test.YtdooboibmllfkaaGreatDoorExa15
import Derived.Maps.AppendAt
import Derived.RegionTactic
import Derived.ChangeAlike
import Derived.BigRegion
import Derived.Deep.RegionLaw
import Derived.Deep.RegionWith
import Derived.Test.YtdooboibmllfkaaGreatDoorExa01
namespace Go.Proofs.YtdooboibmllfkaaGreatDoor
set_option maxRecDepth 100000
open Go.RowKit

def aAt (c : UInt8) (l : List UInt8) (i : Nat) : List UInt8 := cAt c l i ++ List.replicate (cLd c (l.take i) 0 - zs (l.drop i)) c
theorem aAt_zero (c : UInt8) (l : List UInt8) : aAt c l 0 = l := by unfold aAt; rw [cAt_zero]; simp [cLd]
theorem aAt_all (c : UInt8) (l : List UInt8) : aAt c l l.length = cMv c l 0 ++ List.replicate (cLd c l 0) c := by
  unfold aAt
  rw [cAt_all, List.take_of_length_le (Nat.le_refl _), List.drop_of_length_le (Nat.le_refl _), zs_nil, Nat.sub_zero]
theorem aAt_length (c : UInt8) (l : List UInt8) (i : Nat) : (aAt c l i).length = l.length + (cLd c (l.take i) 0 - zs (l.drop i)) := by
  unfold aAt
  rw [List.length_append, cAt_length, List.length_replicate]
theorem aAt_le (c : UInt8) (l : List UInt8) (i : Nat) : (aAt c l i).length ≤ l.length + i := by
  rw [aAt_length]
  have := cLd_le c (l.take i) 0
  rw [List.length_take] at this
  omega
theorem aAt_ge (c : UInt8) (l : List UInt8) (i : Nat) : l.length ≤ (aAt c l i).length := by rw [aAt_length]; omega
theorem aAt_other {c : UInt8} {l : List UInt8} {i : Nat} {x : UInt8} (h : l[i]? = some x) (hx : x ≠ c) : aAt c l (i + 1) = aAt c l i := by
  obtain ⟨h1, h2⟩ := take_one h
  unfold aAt
  rw [cAt_other h hx, h1, cLd_append, h2, zs_cons]
  congr 2
  show (cg c x (cLd c (l.take i) 0)).2 - zs (l.drop (i + 1)) = _
  generalize cLd c (l.take i) 0 = u
  unfold cg
  rw [if_neg hx]
  by_cases h4 : x = 48 ∧ 0 < u
  · rw [if_pos h4, if_pos h4.1]
    show u - 1 - _ = _
    omega
  · rw [if_neg h4]
    show u - _ = _
    by_cases h5 : x = 48
    · have : u = 0 := by
        by_cases h6 : 0 < u
        · exact absurd ⟨h5, h6⟩ h4
        · omega
      rw [if_pos h5]
      omega
    · rw [if_neg h5]
      rfl
theorem aAt_in {c : UInt8} {l : List UInt8} {i : Nat} (h : l[i]? = some c) (hc : c ≠ 48) {k : Nat} (hk : (aAt c l i)[i + 1 + k]? = some 48) : (cAt c l i)[i + 1 + k]? = some 48 ∧ cLd c (l.take i) 0 < zs (l.drop (i + 1)) ∧ i + 1 + k < l.length := by
  have hlt : i + 1 + k < l.length := by
    by_cases hl : i + 1 + k < l.length
    · exact hl
    · unfold aAt at hk
      rw [List.getElem?_append_right (by rw [cAt_length]; omega), List.getElem?_replicate] at hk
      split at hk
      · injection hk with hk; exact absurd hk hc
      · cases hk
  have h2 : (cAt c l i)[i + 1 + k]? = some 48 := by
    unfold aAt at hk
    rw [List.getElem?_append_left (by rw [cAt_length]; omega)] at hk
    exact hk
  refine ⟨h2, ?_, hlt⟩
  rw [cAt_behind h hc] at h2
  by_cases hle : zs (l.drop (i + 1)) ≤ cLd c (l.take i) 0
  · exact absurd h2 (fz_none hc _ _ hle _)
  · omega
theorem ld_ball {c : UInt8} {l : List UInt8} {i : Nat} (h : l[i]? = some c) (hc : c ≠ 48) : cLd c (l.take (i + 1)) 0 = cLd c (l.take i) 0 + 1 ∧ zs (l.drop i) = zs (l.drop (i + 1)) := by
  obtain ⟨h1, h2⟩ := take_one h
  rw [h1, cLd_append, h2, zs_cons, if_neg hc]
  refine ⟨?_, rfl⟩
  show (cg c c _).2 = _
  unfold cg
  rw [if_pos rfl]
theorem aAt_ball {c : UInt8} {l : List UInt8} {i k : Nat} (hc : c ≠ 48) (h : l[i]? = some c) (hk : (aAt c l i)[i + 1 + k]? = some 48) (hb : ∀ j, j < k → (aAt c l i)[i + 1 + j]? ≠ some 48) :
    aAt c l (i + 1) = ((aAt c l i).set (i + 1 + k) c).set i 48 := by
  obtain ⟨k1, k2, k3⟩ := aAt_in h hc hk
  have hb2 : ∀ j, j < k → (cAt c l i)[i + 1 + j]? ≠ some 48 := by
    intro j hj e
    refine hb j hj ?_
    unfold aAt
    rw [List.getElem?_append_left (by rw [cAt_length]; omega)]
    exact e
  obtain ⟨l1, l2⟩ := ld_ball h hc
  unfold aAt
  rw [cAt_ball hc h k1 hb2, l1, l2, show cLd c (l.take i) 0 + 1 - zs (l.drop (i + 1)) = 0 by omega, show cLd c (l.take i) 0 - zs (l.drop (i + 1)) = 0 by omega]
  simp
theorem fz_full {c : UInt8} : ∀ (u v : Nat) (l : List UInt8), zs l ≤ u → zs l ≤ v → fz c u l = fz c v l
  | _, _, [], _, _ => by simp [fz]
  | u, v, x :: l, h1, h2 => by
    rw [zs_cons] at h1 h2
    by_cases h : x = 48
    · rw [if_pos h] at h1 h2
      rw [fz_pos ⟨h, by omega⟩, fz_pos ⟨h, by omega⟩, fz_full (u - 1) (v - 1) l (by omega) (by omega)]
    · rw [if_neg h] at h1 h2
      rw [fz_neg (fun e => h e.1), fz_neg (fun e => h e.1), fz_full u v l (by omega) (by omega)]
theorem aAt_out {c : UInt8} {l : List UInt8} {i : Nat} (hc : c ≠ 48) (h : l[i]? = some c) (hb : ∀ j, i + 1 ≤ j → j < (aAt c l i).length → (aAt c l i)[j]? ≠ some 48) :
    aAt c l (i + 1) = ((aAt c l i) ++ [c]).set i 48 := by
  obtain ⟨h1, h2⟩ := take_one h
  obtain ⟨hi, _⟩ := List.getElem?_eq_some_iff.1 h
  obtain ⟨l1, l2⟩ := ld_ball h hc
  have hle : zs (l.drop (i + 1)) ≤ cLd c (l.take i) 0 := by
    by_cases hlt : cLd c (l.take i) 0 < zs (l.drop (i + 1))
    · obtain ⟨k, hk, e⟩ := fz_find (c := c) _ _ hlt
      rw [List.length_drop] at hk
      rw [← cAt_behind h hc] at e
      have := aAt_ge c l i
      refine absurd ?_ (hb (i + 1 + k) (by omega) (by omega))
      unfold aAt
      rw [List.getElem?_append_left (by rw [cAt_length]; omega)]
      exact e
    · omega
  have hset : cAt c l (i + 1) = (cAt c l i).set i 48 := by
    have hll : (cMv c (l.take i) 0).length = i := by rw [cMv_length, List.length_take]; omega
    unfold cAt
    rw [h1, cMv_append, cLd_append, h2, fz_neg (fun e => hc e.1), List.append_assoc]
    have e2 : cMv c [c] (cLd c (l.take i) 0) = [48] := by simp [cMv, cg]
    have e3 : cLd c [c] (cLd c (l.take i) 0) = cLd c (l.take i) 0 + 1 := by simp [cLd, cg]
    rw [e2, e3, fz_full (cLd c (l.take i) 0 + 1) (cLd c (l.take i) 0) _ (by omega) hle]
    generalize cMv c (l.take i) 0 = A at hll ⊢
    generalize fz c (cLd c (l.take i) 0) (l.drop (i + 1)) = B
    subst hll
    rw [set_at]
    rfl
  unfold aAt
  rw [hset, l1, l2, show cLd c (l.take i) 0 + 1 - zs (l.drop (i + 1)) = (cLd c (l.take i) 0 - zs (l.drop (i + 1))) + 1 by omega, List.replicate_succ', ← List.append_assoc, List.append_assoc, List.append_assoc, List.set_append_left _ _ (by rw [cAt_length]; exact hi)]
theorem cMv_fill {c : UInt8} (hc : c ≠ 48) : ∀ (m u : Nat), u ≤ m → cMv c (List.replicate m 48) u = List.replicate u c ++ List.replicate (m - u) 48
  | m, 0, _ => by rw [(cMv_rep hc m).1]; simp
  | 0, u + 1, h => by omega
  | m + 1, u + 1, h => by
    have e : cg c 48 (u + 1) = (c, u) := by
      unfold cg
      rw [if_neg (fun h => hc h.symm), if_pos ⟨rfl, by omega⟩]
      rfl
    rw [List.replicate_succ]
    show (cg c 48 (u + 1)).1 :: cMv c (List.replicate m 48) (cg c 48 (u + 1)).2 = _
    rw [e]
    show c :: cMv c (List.replicate m 48) u = _
    rw [cMv_fill hc m u (by omega), List.replicate_succ, show m + 1 - (u + 1) = m - u by omega]
    rfl
def mvU (c : UInt8) (l : List UInt8) : List UInt8 := aAt c l l.length
theorem mvU_cz {c : UInt8} (hc : c ≠ 48) (l : List UInt8) : cz (mvU c l) = mv1 c l := by
  unfold mvU mv1 padN
  have hle := cLd_le c l 0
  rw [aAt_all, cMv_append, cMv_fill hc _ _ (by omega), ← List.append_assoc, cz_pad]
theorem mvU_len (c : UInt8) (l : List UInt8) : (mvU c l).length = l.length + cLd c l 0 := by
  unfold mvU
  rw [aAt_all, List.length_append, cMv_length, List.length_replicate]
theorem mvU_le (c : UInt8) (l : List UInt8) : (mvU c l).length ≤ 2 * l.length := by
  have := cLd_le c l 0
  rw [mvU_len]
  omega
theorem mvU_sg {c : UInt8} (hc : sg3 c = true) {l : List UInt8} (h : ∀ x ∈ l, sg3 x = true) : ∀ x ∈ mvU c l, sg3 x = true := by
  intro x hx
  unfold mvU at hx
  rw [aAt_all] at hx
  rcases List.mem_append.1 hx with hx | hx
  · exact cMv_sg hc l 0 h x hx
  · rw [(List.mem_replicate.1 hx).2]; exact hc
end Go.Proofs.YtdooboibmllfkaaGreatDoor

namespace Go.Proofs.YtdooboibmllfkaaGreatDoor
set_option maxRecDepth 100000
open Go.RowKit Go.Lib

def cv (x : UInt8) : Value :=
  if x = 49 then .iface 214 (.agg #[]) else if x = 50 then .iface 215 (.agg #[]) else if x = 51 then .iface 216 (.agg #[]) else .nilIface
theorem cv_48 : cv 48 = .nilIface := rfl
theorem cv_49 : cv 49 = .iface 214 (.agg #[]) := rfl
theorem cv_50 : cv 50 = .iface 215 (.agg #[]) := rfl
theorem cv_51 : cv 51 = .iface 216 (.agg #[]) := rfl
def cV (l : List UInt8) : List Value := l.map cv
theorem cV_length (l : List UInt8) : (cV l).length = l.length := by simp [cV]
theorem cV_get {l : List UInt8} {j : Nat} {x : UInt8} (h : l[j]? = some x) : (cV l)[j]? = some (cv x) := by unfold cV; rw [List.getElem?_map, h]; rfl
theorem cV_set (l : List UInt8) (j : Nat) (x : UInt8) : cV (l.set j x) = (cV l).set j (cv x) := by unfold cV; rw [List.map_set]
theorem cv_one (x : UInt8) : (cv x).oneCell' = true := by
  unfold cv
  split
  · rfl
  · split
    · rfl
    · split <;> rfl
theorem cV_one (l : List UInt8) : ∀ u ∈ cV l, u.oneCell' = true := by
  intro u hu
  obtain ⟨b, _, rfl⟩ := List.mem_map.1 hu
  exact cv_one b
theorem madeC (n : Nat) : (madeCells (Value.nilIface).cells (n * 1)).toList = cV (List.replicate n 48) := by
  rw [Nat.mul_one]
  show (madeCells #[Value.nilIface] n).toList = _
  rw [toList_madeCells_one]
  unfold cV
  rw [List.map_replicate]
  rfl
theorem cv_form (x : UInt8) : cv x = .nilIface ∨ ∃ u, cv x = .iface u (.agg #[]) := by
  unfold cv
  split
  · exact .inr ⟨_, rfl⟩
  · split
    · exact .inr ⟨_, rfl⟩
    · split
      · exact .inr ⟨_, rfl⟩
      · exact .inl rfl
theorem infoC : (Tryz.prog.info? 180).map (fun i => (i.zero, i.size, i.bytes)) = some (some .nilIface, 1, 16) := by kernel_rfl

theorem is1 (W : World) (v : Value) : (Instr.typeAssert (.iface 214 v) 180 214 true).run Tryz.prog W = .ok (.tuple #[v, .bool true]) W := by kernel_rfl
theorem is2 (W : World) (v : Value) : (Instr.typeAssert (.iface 215 v) 180 215 true).run Tryz.prog W = .ok (.tuple #[v, .bool true]) W := by kernel_rfl
theorem is3 (W : World) (v : Value) : (Instr.typeAssert (.iface 216 v) 180 216 true).run Tryz.prog W = .ok (.tuple #[v, .bool true]) W := by kernel_rfl
theorem no21 (W : World) (v : Value) : (Instr.typeAssert (.iface 215 v) 180 214 true).run Tryz.prog W = .ok (.tuple #[.agg #[], .bool false]) W := by kernel_rfl
theorem no31 (W : World) (v : Value) : (Instr.typeAssert (.iface 216 v) 180 214 true).run Tryz.prog W = .ok (.tuple #[.agg #[], .bool false]) W := by kernel_rfl
theorem no32 (W : World) (v : Value) : (Instr.typeAssert (.iface 216 v) 180 215 true).run Tryz.prog W = .ok (.tuple #[.agg #[], .bool false]) W := by kernel_rfl
theorem no01 (W : World) : (Instr.typeAssert .nilIface 180 214 true).run Tryz.prog W = .ok (.tuple #[.agg #[], .bool false]) W := by kernel_rfl
theorem no02 (W : World) : (Instr.typeAssert .nilIface 180 215 true).run Tryz.prog W = .ok (.tuple #[.agg #[], .bool false]) W := by kernel_rfl
theorem no03 (W : World) : (Instr.typeAssert .nilIface 180 216 true).run Tryz.prog W = .ok (.tuple #[.agg #[], .bool false]) W := by kernel_rfl

theorem numberOf_49 (w : World) : Calls Tryz.prog 205 #[cv 49] w fun e w' => e = .returned (.int .i64 1) ∧ w = w' := by
  rw [cv_49]
  have h1 := is1 w (.agg #[])
  go_enter Tryz.func205, Tryz.ntmps205
  go_wp2
  go_ret
  exact ⟨rfl, rfl⟩
theorem numberOf_50 (w : World) : Calls Tryz.prog 205 #[cv 50] w fun e w' => e = .returned (.int .i64 2) ∧ w = w' := by
  rw [cv_50]
  have h1 := no21 w (.agg #[])
  have h2 := is2 w (.agg #[])
  go_enter Tryz.func205, Tryz.ntmps205
  go_wp2
  go_ret
  exact ⟨rfl, rfl⟩
theorem numberOf_51 (w : World) : Calls Tryz.prog 205 #[cv 51] w fun e w' => e = .returned (.int .i64 3) ∧ w = w' := by
  rw [cv_51]
  have h1 := no31 w (.agg #[])
  have h2 := no32 w (.agg #[])
  have h3 := is3 w (.agg #[])
  go_enter Tryz.func205, Tryz.ntmps205
  go_wp2
  go_ret
  exact ⟨rfl, rfl⟩
theorem numberOf_48 (w : World) : Calls Tryz.prog 205 #[cv 48] w fun e w' => e = .returned (.int .i64 0) ∧ w = w' := by
  rw [cv_48]
  have h1 := no01 w
  have h2 := no02 w
  have h3 := no03 w
  go_enter Tryz.func205, Tryz.ntmps205
  go_wp2
  go_ret
  exact ⟨rfl, rfl⟩
theorem numberOf_any (x : UInt8) (w : World) (h : sg3 x = true) : Calls Tryz.prog 205 #[cv x] w fun e w' => e = .returned (.int .i64 ((x.toNat : Int) - 48)) ∧ w = w' := by
  rcases (sg3_iff x).1 h with rfl | rfl | rfl | rfl
  · exact numberOf_48 w
  · exact numberOf_49 w
  · exact numberOf_50 w
  · exact numberOf_51 w

theorem colourOf_0 (n : Int) (w : World) (h1 : n ≠ 1) (h2 : n ≠ 2) (h3 : n ≠ 3) : Calls Tryz.prog 176 #[.int .i64 n] w fun e w' => e = .returned .nilIface ∧ w = w' := by
  go_enter Tryz.func176, Tryz.ntmps176
  go_wp2
  go_ret
  exact ⟨rfl, rfl⟩
theorem colourOf_1 (w : World) : Calls Tryz.prog 176 #[.int .i64 1] w fun e w' => e = .returned (cv 49) ∧ w = w' := by
  go_enter Tryz.func176, Tryz.ntmps176
  go_wp2
  go_ret
  exact ⟨rfl, rfl⟩
theorem colourOf_2 (w : World) : Calls Tryz.prog 176 #[.int .i64 2] w fun e w' => e = .returned (cv 50) ∧ w = w' := by
  go_enter Tryz.func176, Tryz.ntmps176
  go_wp2
  go_ret
  exact ⟨rfl, rfl⟩
theorem colourOf_3 (w : World) : Calls Tryz.prog 176 #[.int .i64 3] w fun e w' => e = .returned (cv 51) ∧ w = w' := by
  go_enter Tryz.func176, Tryz.ntmps176
  go_wp2
  go_ret
  exact ⟨rfl, rfl⟩
theorem colourOf_sg (x : UInt8) (w : World) (h : sg3 x = true) : Calls Tryz.prog 176 #[.int .i64 ((x.toNat : Int) - 48)] w fun e w' => e = .returned (cv x) ∧ w = w' := by
  rcases (sg3_iff x).1 h with rfl | rfl | rfl | rfl
  · exact colourOf_0 0 w (by decide) (by decide) (by decide)
  · exact colourOf_1 w
  · exact colourOf_2 w
  · exact colourOf_3 w
theorem colourOf_c3 (c : Int) (w : World) (h : c3 c = true) : Calls Tryz.prog 176 #[.int .i64 c] w fun e w' => e = .returned (cv (cCh c)) ∧ w = w' := by
  rcases c3_cases h with rfl | rfl | rfl
  · exact colourOf_1 w
  · exact colourOf_2 w
  · exact colourOf_3 w
theorem colourOf_no (c : Int) (w : World) (h : c3 c = false) : Calls Tryz.prog 176 #[.int .i64 c] w fun e w' => e = .returned .nilIface ∧ w = w' := by
  refine colourOf_0 c w ?_ ?_ ?_ <;> (rintro rfl; cases h)

set_option maxHeartbeats 400000 in
theorem implColourIn_same (s : ByteArray) (w : World) (hs : s.size ≤ maxLen) :
    Calls Tryz.prog 204 #[.string s] w fun e w' => e = .returned (.bool (cIn s)) ∧ w = w' := by
  unfold maxLen at hs
  by_cases h120 : 120 < s.size
  · have HF : Hid (cIn s = false) := by
      show _ = _
      cases h : cIn s
      · rfl
      · have := ((cIn_iff s).1 h).2; omega
    go_enter Tryz.func204, Tryz.ntmps204
    go_wp2
    go_ret
    exact ⟨ret_bool HF.out.symm, rfl⟩
  go_enter Tryz.func204, Tryz.ntmps204
  go_wp2
  go_loop [9] (fun i => ∃ k : Nat, k ≤ s.size ∧ i = .int .i64 k ∧ Hid (∀ j (h : j < s.size), j < k → sg3 s[j] = true)) (fun i => s.size - (Go.RowKit.intOf i).toNat)
  case atStart => exact ⟨0, Nat.zero_le _, rfl, fun j _ h => by omega⟩
  case round =>
    obtain ⟨k, hk, rfl, HA⟩ := hrel
    by_cases hlt : k < s.size
    · by_cases hc : 48 ≤ (s[k].toNat : Int) ∧ (s[k].toNat : Int) ≤ 51
      · have HN : Hid (∀ j (h : j < s.size), j < k + 1 → sg3 s[j] = true) := by
          intro j h hj
          by_cases e : j = k
          · subst e; exact (sg3_int _).2 hc
          · exact HA.out j h (by omega)
        have h1 : decide ((s[k].toNat : Int) < 48) = false := by simp; omega
        have h2 : decide ((51 : Int) < (s[k].toNat : Int)) = false := by simp; omega
        clear hc
        go_wp2
        go_round
        case rel => exact ⟨k + 1, by omega, by go_num, HN.out⟩
        case measure => simp [Go.RowKit.intOf]; omega
      · have HC := hide (cIn_bad s k hlt hc)
        by_cases h3 : (s[k].toNat : Int) < 48
        · have h1 : decide ((s[k].toNat : Int) < 48) = true := by simpa using h3
          clear hc
          go_wp2
          go_ret
          exact ⟨ret_bool HC.out.symm, rfl⟩
        · have h1 : decide ((s[k].toNat : Int) < 48) = false := by simpa using h3
          have h4 : (51 : Int) < (s[k].toNat : Int) := by omega
          have h2 : decide ((51 : Int) < (s[k].toNat : Int)) = true := by simpa using h4
          clear hc
          go_wp2
          go_ret
          exact ⟨ret_bool HC.out.symm, rfl⟩
    · have HE : Hid (cIn s = true) := by
        show _ = _
        rw [cIn_good s (fun j h => HA.out j h (by omega))]
        simp; omega
      go_wp2
      go_ret
      exact ⟨ret_bool HE.out.symm, rfl⟩

theorem readColours_no (s : ByteArray) (w : World) (hs : s.size ≤ maxLen) (hv : cIn s = false) :
    Calls Tryz.prog 175 #[.string s] w fun e w' => e = .returned (.tuple #[.slice none 0 0, .bool false]) ∧ w = w' := by
  have C := hide (fun w => implColourIn_same s w hs)
  rw [hv] at C
  clear hv
  go_enter Tryz.func175, Tryz.ntmps175
  go_wp2_with (go_at_call 204; refine (C.out _).mono ?_; rintro e w' ⟨rfl, rfl⟩)
  go_ret2
  exact ⟨rfl, rfl⟩

theorem set_take {l xs : List UInt8} {k : Nat} {y : UInt8} (hy : l[k]? = some y) (hx : xs.length = l.length) (ht : xs.take k = l.take k) : (xs.set k y).take (k + 1) = l.take (k + 1) := by
  obtain ⟨hk, e⟩ := List.getElem?_eq_some_iff.1 hy
  rw [List.take_succ_eq_append_getElem (by simp; omega), List.take_succ_eq_append_getElem hk, List.take_set_of_le (Nat.le_refl _), ht, e]
  simp

set_option maxRecDepth 100000 in
set_option maxHeartbeats 1000000 in
theorem readColours_yes (s : ByteArray) (w : World) (hv : cIn s = true) :
    Calls Tryz.prog 175 #[.string s] w fun e w' => e = .returned (.tuple #[.slice (some ⟨w.heap.size, 0, none⟩) s.size s.size, .bool true]) ∧
      Below w.heap.size w w' ∧ CellsAt w' w.heap.size (cV (lst s)) ∧ w.heap.size < w'.heap.size := by
  obtain ⟨hsg, h120⟩ := (cIn_iff s).1 hv
  have hs : s.size ≤ maxLen := by unfold maxLen; omega
  have HS := hide hsg
  clear hsg
  have C := hide (fun w => implColourIn_same s w hs)
  rw [hv] at C
  clear hv
  obtain ⟨i0, hi, hz0, hz1, hz2⟩ := info_parts infoC
  go_enter Tryz.func175, Tryz.ntmps175
  go_wp2_with (first | (go_at_call 204; refine (C.out _).mono ?_; rintro e w' ⟨rfl, rfl⟩) | (at_make; refine wpList_make_full _ rfl _ _ 176 rfl w.heap.size 180 i0 .nilIface 1 Tryz.underlying176 hi hz0 hz1 _ _ _ _ s.size rfl rfl rfl rfl ?b2 ?b3 ?b4 ?_; rotate_right; intro w1 hown hgrow))
  case b2 => rw [hz2]; omega
  case b3 => exact hs
  case b4 => exact Nat.le_refl _
  rw [madeC] at hown
  have hb1 : Below w.heap.size w w1 := (Below.refl _ _).grown hgrow (Nat.le_refl _) (fun k e => by cases e)
  have hz : w.heap.size < w1.heap.size := (hown.lt _ rfl).2
  have hc1 := CellsAt.of_owns hown
  clear hown hgrow hi hz0 hz1 hz2
  obtain ⟨g, hg⟩ : ∃ g, w.heap.size = g := ⟨_, rfl⟩
  rw [hg] at hb1 hz hc1 ⊢
  have HG := hide hg
  clear hg
  go_loopw [14] (fun i wr => ∃ k : Nat, k ≤ s.size ∧ i = .int .i64 k ∧ Below g w wr ∧ g < wr.heap.size ∧ ∃ xs : List UInt8, Hid (xs.length = (lst s).length) ∧ Hid (xs.take k = (lst s).take k) ∧ CellsAt wr g (cV xs)) (fun i _ => s.size - (Go.RowKit.intOf i).toNat)
  case atStart => exact ⟨0, Nat.zero_le _, rfl, hb1, hz, List.replicate s.size 48, by simp [Hid, lst_size], rfl, hc1⟩
  case round =>
    obtain ⟨k, hk, rfl, hbr, hzr, xs, HX, HT, hcr⟩ := hrel
    have HC := hide hcr
    clear hcr hc1 hb1 hz
    by_cases hlt : k < s.size
    · obtain ⟨x, hx⟩ : ∃ x, xs[k]? = some x := ⟨_, List.getElem?_eq_getElem (by rw [HX.out, lst_size]; omega)⟩
      obtain ⟨hcell, hfr⟩ := HC.out k _ (cV_get hx)
      have hy := lst_get s k hlt
      have h3 := HS.out s[k] (List.mem_of_getElem? hy)
      obtain ⟨v, hv⟩ : ∃ v : Int, v = (s[k].toNat : Int) - 48 := ⟨_, rfl⟩
      have CO : Hid (∀ w, Calls Tryz.prog 176 #[.int .i64 v] w fun e w' => e = .returned (cv s[k]) ∧ w = w') := by
        intro w
        rw [hv]
        exact colourOf_sg _ w h3
      have hw : IntKind.u8.wrap ((s[k].toNat : Int) - 48) = v := by
        rw [hv]
        rcases (sg3_iff _).1 h3 with h | h | h | h <;> (rw [h]; rfl)
      have hvv : IntKind.i64.wrap v = v := by
        rw [hv]
        rcases (sg3_iff _).1 h3 with h | h | h | h <;> (rw [h]; rfl)
      have HN := hide (set_take hy HX.out HT.out)
      have HC2 : Hid (CellsAt (wr.setCell ⟨g, k, none⟩ (cv s[k])) g (cV (xs.set k s[k]))) := by
        show CellsAt _ _ _
        rw [cV_set]
        exact HC.out.set k (by rw [cV_length, HX.out, lst_size]; exact hlt) _
      have HV := hide hv
      have HFORM := cv_form s[k]
      clear hx hy h3 hv
      rcases HFORM with hf | ⟨u, hf⟩
      · rw [hf] at CO HC2
        clear hf
        go_wp2_with (go_at_call 176; refine (CO.out _).mono ?_; rintro e w' ⟨rfl, rfl⟩)
        go_roundw
        case rel => exact ⟨k + 1, by omega, by go_num, hbr.setCell (Nat.le_refl _) _, by simpa [World.setCell] using hzr, xs.set k s[k], by simp [Hid, HX.out], HN.out, HC2.out⟩
        case measure => simp [Go.RowKit.intOf]; omega
      · rw [hf] at CO HC2
        clear hf
        go_wp2_with (go_at_call 176; refine (CO.out _).mono ?_; rintro e w' ⟨rfl, rfl⟩)
        go_roundw
        case rel => exact ⟨k + 1, by omega, by go_num, hbr.setCell (Nat.le_refl _) _, by simpa [World.setCell] using hzr, xs.set k s[k], by simp [Hid, HX.out], HN.out, HC2.out⟩
        case measure => simp [Go.RowKit.intOf]; omega
    · have hxs : xs = lst s := by
        have := HT.out
        rw [List.take_of_length_le (by rw [HX.out, lst_size]; omega), List.take_of_length_le (by rw [lst_size]; omega)] at this
        exact this
      subst hxs
      go_wp2
      go_ret2
      have hg := HG.out
      subst hg
      exact ⟨rfl, hbr, HC.out, hzr⟩
end Go.Proofs.YtdooboibmllfkaaGreatDoor

namespace Go.Proofs.YtdooboibmllfkaaGreatDoor
set_option maxRecDepth 100000
open Go.RowKit Go.Lib

def OwnC (B : Nat) (w : World) (v : Value) (l : List UInt8) : Prop := ∃ g cp, v = .slice (some ⟨g, 0, none⟩) l.length cp ∧ B ≤ g ∧ g < w.heap.size ∧ l.length ≤ cp ∧ cp ≤ maxLen ∧ w.ownsRow B 180 1 v l.length (cV l)
theorem ownC_of {B : Nat} {w : World} {v : Value} {l : List UInt8} (h : w.ownsRow B 180 1 v l.length (cV l)) (hn : v ≠ .slice none 0 0) : OwnC B w v l := by
  have h' := h
  rcases h.2 with ⟨h0, _⟩ | ⟨g, cp, cur, h1, h2, h3, h4, h5, h6, h7⟩
  · exact absurd h0 hn
  · exact ⟨g, cp, h1, h2, (Array.getElem?_eq_some_iff.1 h3).1, by omega, by omega, h'⟩

theorem eqC (w : World) (a : Option Addr) (n c n' c' : Nat) : (binOp .eql 176 (.slice a n c) (.slice none n' c')).run Tryz.prog w = .ok (.bool a.isNone) w :=
  Go.Lib.run_eql_slice_nil w _ _ a n c n' c' Tryz.underlying176

set_option maxRecDepth 100000 in
set_option maxHeartbeats 1000000 in
theorem cloneC_any (g n cap : Nat) (l : List UInt8) (w : World) (hl : l.length = n) (hm : n ≤ 1000) (hc : CellsAt w g (cV l)) :
    Calls Tryz.prog 297 #[.slice (some ⟨g, 0, none⟩) n cap] w fun e w' => ∃ v, e = .returned v ∧ OwnC w.heap.size w' v l ∧ Below w.heap.size w w' := by
  obtain ⟨i0, hi, hz0, hz1, hz2⟩ := info_parts infoC
  have q := eqC
  have h0 := World.ownsRow_lit (base := w.heap.size) (e := 180) (size := 1) w #[] 0 (Nat.le_refl _) (by unfold maxLen; omega) rfl
  have SRC : Hid (∀ j u, (cV l)[j]? = some u → (w.alloc (.cells #[] 180)).cell? ((⟨g, 0, none⟩ : Addr).add j) = some u) := by
    intro j u hu
    rw [Addr.add_lit, Nat.zero_add]
    exact ((hc.alloc (.cells #[] 180)) j u hu).1
  have H0 := hide h0
  have HL : Hid ((cV l).length = n * 1) := by show _ = _; rw [cV_length, hl, Nat.mul_one]
  have HLL := hide hl
  clear h0 hc hl
  go_enter Tryz.func297, Tryz.ntmps297
  go_wp2_with (first | (at_builtin; refine wpList_append_own _ rfl _ _ 176 rfl w.heap.size 180 i0 .nilIface 1 16 Tryz.underlying176 hi hz0 hz1 hz2 rfl (by decide) (.slice (some ⟨w.heap.size, 0, none⟩) 0 0) 0 [] rfl H0.out ⟨g, 0, none⟩ n cap (cV l) rfl HL.out SRC.out (cV_one _) (by unfold maxLen; omega) (by omega) (by simp) ?_; intro v' w1 hown' hgrow hnil) | fail)
  go_ret
  rw [Nat.zero_add, List.nil_append] at hown'
  have hn : v' ≠ .slice none 0 0 := fun h => by
    have := (hnil.1 h).1
    cases this
  refine ⟨_, rfl, ownC_of (by rw [HLL.out]; exact hown') hn, ?_⟩
  exact ((Below.refl w.heap.size w).alloc (Nat.le_refl _) _).grown hgrow (by simp) (fun r e => by have e' : some w.heap.size = some r := e; injection e' with e'; omega)

theorem nilC (W : World) (u : TypeId) (v : Value) : (binOp .neq 180 (.iface u v) .nilIface).run Tryz.prog W = .ok (.bool true) W := by kernel_rfl
theorem nilC0 (W : World) : (binOp .neq 180 .nilIface .nilIface).run Tryz.prog W = .ok (.bool false) W := by kernel_rfl
end Go.Proofs.YtdooboibmllfkaaGreatDoor

namespace Go.Proofs.YtdooboibmllfkaaGreatDoor
set_option maxRecDepth 100000
open Go.RowKit
theorem own_set {w : World} {B e size n k : Nat} {a : Option Addr} {g c : Nat} {xs : List Value} (h : w.ownsRow B e size (.slice a n c) n xs) (ha : a = some ⟨g, 0, none⟩) (u : Value) : (w.setCell ⟨g, k, none⟩ u).ownsRow B e size (.slice a n c) n (xs.set k u) := by
  refine ⟨by rw [List.length_set]; exact h.1, ?_⟩
  rcases h.2 with ⟨h1, _⟩ | ⟨g', cap, cur, h1, h2, h3, h4, h5, h6, h7⟩
  · injection h1 with h1; rw [ha] at h1; cases h1
  · injection h1 with h1 _ h8
    rw [ha] at h1
    injection h1 with h1
    injection h1 with h1
    subst h1
    refine .inr ⟨g, cap, cur.set! k u, by rw [ha, h8], h2, ?_, h4, h5, by simpa using h6, ?_⟩
    · show (w.heap.modify g _)[g]? = _
      obtain ⟨hlt, hg⟩ := Array.getElem?_eq_some_iff.1 h3
      rw [Array.getElem?_eq_getElem (by rw [Array.size_modify]; exact hlt), Array.getElem_modify_self, hg]
      rfl
    · rw [← h7]
      simp [List.take_set]
end Go.Proofs.YtdooboibmllfkaaGreatDoor
