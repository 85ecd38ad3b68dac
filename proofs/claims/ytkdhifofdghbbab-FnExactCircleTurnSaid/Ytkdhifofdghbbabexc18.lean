/- TEXTS SCir5. -/
import Derived.Test.Ytkdhifofdghbbabexc17
/- THE WALKS of the model's CircleTurn, CircleBack, CirclePeriod and CircleShape. -/
namespace Go.Proofs.Ytkdhifofdghbbab
open Go.RowKit

theorem specCircleTurn_any (s : ByteArray) (w : World) (hs : s.size ≤ maxLen) :
    Calls Try.prog 11 #[.string s] w fun e w' => e = .returned (.tuple #[.string (ctS s), .bool (ciIn s)]) ∧ Below w.heap.size w w' := specCircleTurn_of l6cRounds_any s w hs
theorem specCircleBack_any (s : ByteArray) (w : World) (hs : s.size ≤ maxLen) :
    Calls Try.prog 13 #[.string s] w fun e w' => e = .returned (.tuple #[.string (cbS s), .bool (ciIn s)]) ∧ Below w.heap.size w w' := specCircleBack_of specCircleTurn_any s w hs
theorem specCirclePeriod_any (s : ByteArray) (w : World) (hs : s.size ≤ maxLen) :
    Calls Try.prog 22 #[.string s] w fun e w' => e = .returned (.tuple #[.int .i64 (cpN s), .bool (ciIn s)]) ∧ Below w.heap.size w w' := specCirclePeriod_of specCircleTurn_any s w hs

/-- CircleShape -/
def cshL (s : ByteArray) : List Int := if ciIn s then (cshB (bits s)).map fun n : Nat => (n : Int) else []
theorem cnt10_len : ∀ (f : Nat) (l : List Bool), (cnt10 f l).length ≤ f
  | 0, _ => Nat.le_refl _
  | f + 1, l => by
    simp only [cnt10]
    split
    · exact Nat.zero_le _
    · have := cnt10_len f (c10 l)
      simp only [List.length_cons]
      omega
theorem le_sum {l : List Nat} {x : Nat} (h : x ∈ l) : x ≤ l.sum := by
  induction l with
  | nil => cases h
  | cons y l ih =>
    rw [List.sum_cons]
    rcases List.mem_cons.1 h with rfl | h
    · omega
    · have := ih h; omega
theorem cshL_len0 (s : ByteArray) : (cshL s).length ≤ 60 := by
  unfold cshL
  cases h : ciIn s
  · exact Nat.zero_le _
  · obtain ⟨_, _, _, h60, hd⟩ := ciIn_facts h
    rw [if_pos rfl, List.length_map]
    unfold cshB
    rw [shp_length]
    have h1 := cnt10_sum (nballs (bits s)) hd (Nat.le_refl _)
    have h2 := ci_few h
    have h3 : (cnt10 (nballs (bits s)) (bits s)).headD 0 ≤ (cnt10 (nballs (bits s)) (bits s)).sum := by
      cases (cnt10 (nballs (bits s)) (bits s)) with
      | nil => exact Nat.zero_le _
      | cons x l => exact le_sum (List.mem_cons_self ..)
    omega
theorem own_below {w w' : World} {B e size n : Nat} {v : Value} {xs : List Value} (h : w.ownsRow B e size v n xs) (hb : Below w.heap.size w w') : w'.ownsRow B e size v n xs := by
  refine ⟨h.1, ?_⟩
  rcases h.2 with h2 | ⟨g, cap, cur, k1, k2, k3, k4⟩
  · exact .inl h2
  · exact .inr ⟨g, cap, cur, k1, k2, (hb.block g (Array.getElem?_eq_some_iff.1 k3).1).trans k3, k4⟩

set_option maxRecDepth 100000 in
set_option maxHeartbeats 4000000 in
theorem specCircleShape_any (s : ByteArray) (w : World) (hs : s.size ≤ maxLen) :
    Calls Try.prog 17 #[.string s] w fun e w' => ∃ v, e = .returned (.tuple #[v, .bool (ciIn s)]) ∧ IntsV w.heap.size w' v (cshL s) ∧ Below w.heap.size w w' := by
  have CI := hide (fun w => specCircleIn_any s w hs)
  cases h1 : ciIn s
  · rw [h1] at CI
    have e : cshL s = [] := by unfold cshL; rw [h1]; rfl
    rw [e]
    clear h1 hs e
    go_enter Try.func17, Try.ntmps17
    go_wp2_with (go_at_call 9; refine (CI.out _).mono ?_; rintro e w' ⟨rfl, rfl⟩)
    go_ret2
    exact ⟨_, rfl, .inl ⟨_, _, rfl, rfl⟩, (Below.refl _ _).alloc (Nat.le_refl _) _⟩
  · rw [h1] at CI
    obtain ⟨i0, hi, hz0, hz1, hz2⟩ := info_parts infoN
    have CR := hide (fun w => l6cRounds_any s w h1)
    obtain ⟨_, _, _, h60, hdrf⟩ := ciIn_facts h1
    have hnb : nballs (bits s) ≤ 60 := by
      have h2 := nballs_le (bits s) s.size
      rw [List.take_of_length_le (by rw [length_bits]; exact Nat.le_refl _)] at h2
      omega
    have hcl := cnt10_len (nballs (bits s)) (bits s)
    have hcs := cnt10_sum (nballs (bits s)) hdrf (Nat.le_refl _)
    have e : cshL s = (shp (cnt10 (nballs (bits s)) (bits s))).map fun n : Nat => (n : Int) := by unfold cshL cshB; rw [h1]; rfl
    rw [e]
    obtain ⟨r, hr⟩ : ∃ r, r = cnt10 (nballs (bits s)) (bits s) := ⟨_, rfl⟩
    rw [← hr] at CR hcl hcs ⊢
    have HB2 := hide (fun x (hx : x ∈ r) => Nat.le_trans (le_sum hx) (by rw [hcs]; exact hnb))
    have hrl : r.length ≤ 60 := by omega
    clear hr hcl hcs hnb e h1 hs hdrf
    obtain ⟨B, hB⟩ : ∃ B, w.heap.size = B := ⟨_, rfl⟩
    have h0 := World.ownsRow_lit (base := B) (e := 3) (size := 1) w #[] 0 (by omega) (by unfold maxLen; omega) rfl
    have H0 := hide h0
    have HBW := hide ((Below.refl B w).alloc (by omega) (.cells #[] 3))
    have HWB := hide hB
    clear h0 hB
    go_enter Try.func17, Try.ntmps17
    go_wp2_with (go_at_call 9; refine (CI.out _).mono ?_; rintro e w' ⟨rfl, rfl⟩)
    refine (CR.out _).mono ?_
    rintro e w1 ⟨v1, v, pl, rfl, _, _, _, hiv, hb1⟩
    rw [World.size_alloc, HWB.out] at hiv hb1
    have hown := own_below H0.out (by rw [World.size_alloc, HWB.out]; exact hb1)
    have HO0 := hide hown
    have HB1 : Hid (Below B w w1) := HBW.out.trans (hb1.mono (Nat.le_succ B))
    have hw1 : B + 1 ≤ w1.heap.size := by have := hb1.size; rw [World.size_alloc, HWB.out] at this; exact this
    clear CR hb1 hown H0
    cases r with
    | nil =>
      have hvf : ∃ a c, v = .slice a 0 c := by
        rcases hiv with ⟨a, c, rfl, _⟩ | ⟨g, c, rfl, _⟩
        · exact ⟨a, c, rfl⟩
        · exact ⟨_, c, rfl⟩
      obtain ⟨a, c, rfl⟩ := hvf
      clear hiv
      go_wp2_with fail
      go_loopw [4, 7] (fun o k wr => k = .int .i64 1 ∧ o = .slice (some ⟨w.heap.size, 0, none⟩) 0 0 ∧ Hid (w1 = wr)) (fun _ _ _ => 0)
      case atStart => exact ⟨rfl, rfl, rfl⟩
      case round =>
        obtain ⟨rfl, rfl, HQ⟩ := hrel
        go_wp2_with fail
        go_ret2
        exact ⟨_, rfl, .inl ⟨_, _, rfl, rfl⟩, by rw [← HQ.out, HWB.out]; exact HB1.out⟩
    | cons x t =>
      obtain ⟨g, c, rfl, k1, k2, k3, k4⟩ := hiv.resolve_left (fun ⟨_, _, _, h0⟩ => by simp at h0)
      rw [List.length_map] at k1 ⊢
      have H4 := hide k4
      have hx : x ≤ 60 := HB2.out x (List.mem_cons_self ..)
      obtain ⟨nl, hnl⟩ : ∃ n, n = (x :: t).length := ⟨_, rfl⟩
      have HNL := hide hnl
      rw [← hnl] at k1 hrl ⊢
      have hnl1 : 1 ≤ nl := by rw [hnl]; simp
      have HG := hide k3
      have HZ1 := hide hw1
      have HBR : Hid (∀ W, Below B w1 W → True) := fun _ _ => trivial
      clear k4 hiv hnl k3 hw1 HBR
      go_wp2_with fail
      go_loopw [4, 7] (fun o k wr => ∃ m : Nat, m ≤ x ∧ k = .int .i64 ((m : Int) + 1) ∧ Hid (wr.ownsRow B 3 1 o m (nv ((shp (x :: t)).take m))) ∧ Hid (CellsAt wr g (((x :: t).map fun n : Nat => (n : Int)).map (.int .i64))) ∧ Hid (∀ q, o.ownBlock = some q → q ≠ g) ∧ Hid (Below B w wr) ∧ g < wr.heap.size ∧ B ≤ wr.heap.size) (fun _ k _ => (x + 1 - (Go.RowKit.intOf k).toNat))
      case atStart => exact ⟨0, Nat.zero_le _, rfl, HO0, H4, fun q hq => by simp [Value.ownBlock] at hq; rw [HWB.out] at hq; omega, HB1, HG.out, by have := HZ1.out; omega⟩
      case round =>
        obtain ⟨m, hm, rfl, HO, HC, HA, HBB, hg, hsz⟩ := hrel
        have hc0 : wr.cell? ⟨g, 0, none⟩ = some (.int .i64 (x : Int)) := (HC.out 0 _ rfl).1
        have j0 : (0 : Int) < (nl : Int) := by omega
        by_cases hlt : m < x
        · have d1 : (m : Int) + 1 ≤ (x : Int) := by omega
          have HS := hide (shp_take_succ (x :: t) m hlt)
          go_wp2_with fail
          go_loop [8, 9] (fun n i => ∃ j : Nat, j ≤ nl ∧ i = .int .i64 (j : Int) ∧ n = .int .i64 ((((x :: t).take j).countP (fun y => decide (m < y)) : Nat) : Int)) (fun _ i => nl - (Go.RowKit.intOf i).toNat)
          case atStart => exact ⟨0, Nat.zero_le _, rfl, rfl⟩
          case round =>
            obtain ⟨j, hj, rfl, rfl⟩ := hrel
            have hcl : ((x :: t).take j).countP (fun y => decide (m < y)) ≤ j := Nat.le_trans List.countP_le_length (by rw [List.length_take]; omega)
            by_cases hjl : j < nl
            · obtain ⟨y, hy⟩ : ∃ y, (x :: t)[j]? = some y := ⟨_, List.getElem?_eq_getElem (by rw [← HNL.out]; exact hjl)⟩
              have hcj : wr.cell? ⟨g, j, none⟩ = some (.int .i64 (y : Int)) := (HC.out j _ (by rw [List.getElem?_map, List.getElem?_map, hy]; rfl)).1
              have HCT := hide (count_take_succ (x :: t) m j y hy)
              obtain ⟨n0, hn0⟩ : ∃ n0, n0 = ((x :: t).take j).countP (fun y => decide (m < y)) := ⟨_, rfl⟩
              rw [← hn0] at hcl HCT ⊢
              clear hn0 hy
              have i0 : (0 : Int) ≤ (j : Int) := by omega
              have i1 : (j : Int) < (nl : Int) := by omega
              by_cases hmy : m < y
              · have HC2 := hide (HCT.out.trans (by rw [if_pos hmy]))
                clear HCT
                have d2 : (m : Int) + 1 ≤ (y : Int) := by omega
                go_wp2
                go_round
                case rel => exact ⟨j + 1, by omega, by go_num, by rw [HC2.out]; rfl⟩
                case measure => simp [Go.RowKit.intOf]; omega
              · have HC2 := hide (HCT.out.trans (by rw [if_neg hmy, Nat.add_zero]))
                clear HCT
                have d2 : ¬ (m : Int) + 1 ≤ (y : Int) := by omega
                go_wp2
                go_round
                case rel => exact ⟨j + 1, by omega, by go_num, by rw [HC2.out]⟩
                case measure => simp [Go.RowKit.intOf]; omega
            · have hjn : j = nl := by omega
              rw [hjn, List.take_of_length_le (by rw [← HNL.out]; exact Nat.le_refl _)] at hcl ⊢
              obtain ⟨n0, hn0⟩ : ∃ n0, n0 = (x :: t).countP (fun y => decide (m < y)) := ⟨_, rfl⟩
              rw [← hn0] at hcl HS ⊢
              clear hn0
              subst hjn
              go_wp2_with (at_builtin; refine wpList_append_own_at _ rfl _ _ 27 rfl B 3 i0 (.int .i64 0) 1 8 Try.underlying27 hi hz0 hz1 hz2 rfl (by decide) _ _ _ rfl (HO.out.alloc _) ⟨wr.heap.size, 0, none⟩ 1 1 [.int .i64 (n0 : Int)] rfl rfl (cell_one_new _ _ _) (one_int _) (by unfold maxLen; omega) (by omega) (by rw [World.size_alloc]; omega) ?_; intro v' w2 hown' hgrow _ hat)
              go_roundw
              case rel =>
                have hb2 : Below B wr w2 := ((Below.refl B wr).alloc hsz _).grown hgrow (by rw [World.size_alloc]; omega) (fun b e => (HO.out.lt b e).1)
                have hz2' := hb2.size
                refine ⟨m + 1, by omega, by go_num, ?_, ?_, ?_, HBB.out.trans hb2, by omega, by omega⟩
                · show w2.ownsRow _ _ _ _ _ _
                  rw [HS.out, nv_snoc]
                  exact hown'
                · intro i u hu
                  obtain ⟨p1, p2⟩ := (HC.out.alloc (.cells #[.int .i64 (n0 : Int)] 3)) i u hu
                  have hne : ∀ r, Value.ownBlock _ = some r → g ≠ r := fun r hr => (HA.out r hr).symm
                  have hblk := hgrow.block g (by rw [World.size_alloc]; omega) (fun e => hne g e.symm rfl)
                  exact ⟨(World.cell?_of_block (a := ⟨g, i, none⟩) hblk).trans p1, (World.frozen?_of_block (a := ⟨g, i, none⟩) hblk).trans p2⟩
                · intro q hq
                  rcases hat with h | h
                  · exact HA.out q (h ▸ hq)
                  · rw [h] at hq
                    injection hq with hq
                    rw [World.size_alloc] at hq
                    omega
              case measure => simp [Go.RowKit.intOf]; omega
        · have hmx : m = x := by omega
          have d1 : ¬ (m : Int) + 1 ≤ (x : Int) := by omega
          have hfin : (shp (x :: t)).take m = shp (x :: t) := List.take_of_length_le (by rw [shp_length]; show x ≤ m; omega)
          rw [hfin] at HO
          have HI := hide (IntsV.of_owns (l := (shp (x :: t)).map fun n : Nat => (n : Int)) HO.out)
          rw [← HWB.out] at HI
          have HBF : Hid (Below w.heap.size w wr) := by have := HBB.out; rw [← HWB.out] at this; exact this
          clear hfin
          go_wp2_with fail
          go_ret2
          exact ⟨_, rfl, HI.out, HBF.out⟩
end Go.Proofs.Ytkdhifofdghbbab
