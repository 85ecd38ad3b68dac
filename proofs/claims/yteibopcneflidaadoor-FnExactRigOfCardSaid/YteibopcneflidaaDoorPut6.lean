/- THE WALKS of newRigged, room, readParts, readFitting, roomIn, and the program's RigRoom and RigFits. -/
import Derived.Test.YteibopcneflidaaDoorPut5
namespace Go.Proofs.YteibopcneflidaaDoor
open Go.RowKit Go.Sort Go.Shelf

set_option maxRecDepth 100000 in
set_option maxHeartbeats 4000000 in
theorem newRigged_any (l : List (Int × Int)) (v : Value) (m : Int) (w : World) {lo : Nat} (hs : pSorted l) (hP : PartsV lo w v l) (hl : l.length ≤ 900) :
    Calls Tryd.prog 55 #[v, .int .i64 m] w fun e w' => e = .returned (.pointer (some ⟨w.heap.size, 0, none⟩)) ∧ ∃ v', RigAt w' w.heap.size w.heap.size v' l m ∧ Below w.heap.size w w' := by
  obtain ⟨n, hn⟩ : ∃ n, l.length = n := ⟨_, rfl⟩
  obtain ⟨a, c, rfl, hf⟩ := hP.form hn
  have HN := hide hn
  have HF := hide hf
  rw [hn] at hl
  have HSO := hide hs
  obtain ⟨W0, hW0⟩ : ∃ W0, W0 = w.alloc (.cells #[cmpFn, .slice none 0 0, .int .i64 m] 84) := ⟨_, rfl⟩
  have hz0 : w.heap.size < W0.heap.size := by rw [hW0]; simp
  have HB0 : Hid (Below w.heap.size w W0) := by rw [hW0]; exact (Below.refl _ w).alloc (Nat.le_refl _) _
  have HR0 : Hid (RigAt W0 w.heap.size w.heap.size (.slice none 0 0) [] m) := by
    rw [hW0]
    refine ⟨?_, ?_, ?_, fun j => World.frozen?_alloc_at _ _ _ _ rfl, World.ownsRow_nil _ _ _ _, (fun h => by cases h), Nat.le_refl _⟩
    all_goals (rw [World.cell?_alloc_at _ _ _ _ rfl]; rfl)
  clear hP hn hf hs
  go_enter Tryd.func55, Tryd.ntmps55
  go_wp2
  rw [← hW0]
  clear hW0
  go_loopw [14] (fun i wr => ∃ (k : Nat) (v' : Value), k ≤ n ∧ i = .int .i64 (k : Int) ∧ Hid (RigAt wr w.heap.size w.heap.size v' (l.take k) m) ∧ Hid (Below w.heap.size w wr)) (fun i _ => n - (intOf i).toNat)
  case atStart => exact ⟨0, _, Nat.zero_le _, rfl, HR0.out, HB0.out⟩
  case round =>
    obtain ⟨k, v', hk, rfl, HR, HB⟩ := hrel
    by_cases hlt : k < n
    · obtain ⟨q, rfl, hq0, hq⟩ := HF.out (by omega)
      obtain ⟨x, hx⟩ : ∃ x, l[k]? = some x := ⟨_, List.getElem?_eq_getElem (by rw [HN.out]; exact hlt)⟩
      obtain ⟨g1, g2⟩ := encZ_get l k x hx
      have hqr := hq.below' HB.out (Nat.le_refl _)
      have d1 := (hqr _ _ g1).1
      have d2 := (hqr _ _ g2).1
      have hql : q < wr.heap.size := by have := HB.out.size; omega
      have HPT := hide (take_put HSO.out hx)
      have hlt2 : (l.take k).length ≤ 900 := by rw [List.length_take]; omega
      have hst : pSorted (l.take k) := List.Pairwise.sublist (List.take_sublist ..) HSO.out
      obtain ⟨x1, hx1⟩ : ∃ z, z = x.1 := ⟨_, rfl⟩
      obtain ⟨x2, hx2⟩ : ∃ z, z = x.2 := ⟨_, rfl⟩
      have hxe : pV x = .agg #[.int .i64 x1, .int .i64 x2] := by unfold pV; rw [hx1, hx2]
      rw [← hx1] at d1
      rw [← hx2] at d2
      obtain ⟨W1, hW1⟩ : ∃ W1, W1 = wr.alloc (.cells #[.int .i64 x1, .int .i64 x2] 48) := ⟨_, rfl⟩
      have c1 : W1.cell? ⟨wr.heap.size, 0, none⟩ = some (.int .i64 x1) := by rw [hW1, World.cell?_alloc_at _ _ _ _ rfl]; rfl
      have c2 : W1.cell? ⟨wr.heap.size, 1, none⟩ = some (.int .i64 x2) := by rw [hW1, World.cell?_alloc_at _ _ _ _ rfl]; rfl
      have hbw : Below wr.heap.size wr W1 := by rw [hW1]; exact (Below.refl _ wr).alloc (Nat.le_refl _) _
      have HBW := hide hbw
      have PT := hide (put_any w.heap.size w.heap.size v' (l.take k) m x W1.drew ((HR.out.below hbw (Nat.le_refl _)).below (Below.refl W1.heap.size W1).drew (Nat.le_refl _)) hst hlt2)
      have HWR := hide HR.out.own.lt
      have i0 : (0 : Int) ≤ (k : Int) := by omega
      have i1 : (k : Int) < (n : Int) := by omega
      have hrl : w.heap.size < wr.heap.size := HR.out.lt
      rw [hxe] at PT
      clear hx g1 g2 hqr hx1 hx2 hbw hlt2 hst hxe
      go_wp2
      rw [← hW1]
      clear hW1
      go_region_with (go_at_call 72; refine PT.out.mono ?_; rintro e w2 ⟨rfl, v2, hr2, ho2, hn2⟩; have HR2 := hide hr2; have HO2 := hide ho2; clear hr2 ho2 hn2)
      go_wp2
      go_roundw
      case rel =>
        refine ⟨k + 1, v2, by omega, by go_num, ?_, ?_⟩
        · show RigAt _ _ _ _ _ _
          rw [← HPT.out]
          exact HR2.out
        · exact (HB.out.trans (HBW.out.mono (by omega))).trans (Below.trans (Below.drew (Below.refl _ _)) (HO2.out.below (Nat.le_refl _) (fun g hg => (HWR.out g hg).1) (by have := HBW.out.size; show w.heap.size ≤ W1.heap.size; omega)))
      case measure => simp [intOf]; omega
    · have hkn : k = n := by omega
      have HE : Hid (l.take k = l) := List.take_of_length_le (by rw [HN.out]; omega)
      go_wp2
      go_ret
      exact ⟨rfl, v', by rw [← HE.out]; exact HR.out, HB.out⟩

/-- the sum in a room -/
def pSum (l : List (Int × Int)) (j : Int) : Int := (l.map (fun a => min j a.1)).sum
theorem room_sum (l : List (Int × Int)) (n j : Int) : pRoom l n j = n - 2 * pSum l j := rfl
theorem pSum_take (l : List (Int × Int)) (j : Int) (k : Nat) (a : Int × Int) (h : l[k]? = some a) : pSum (l.take (k + 1)) j = pSum (l.take k) j + min j a.1 := by
  unfold pSum
  rw [List.take_add_one, h, List.map_append, List.sum_append]
  simp
theorem pSum_bd (l : List (Int × Int)) (j : Int) (hj : 0 ≤ j ∧ j ≤ 1000) (h : ∀ a ∈ l, 0 ≤ a.1) : 0 ≤ pSum l j ∧ pSum l j ≤ 1000 * (l.length : Int) := by
  induction l with
  | nil => exact ⟨Int.le_refl _, Int.le_refl _⟩
  | cons x l ih =>
    have := ih (fun a ha => h a (List.mem_cons_of_mem _ ha))
    have hx := h x (List.mem_cons_self ..)
    have e : pSum (x :: l) j = min j x.1 + pSum l j := by unfold pSum; simp
    rw [e, List.length_cons]
    omega

set_option maxRecDepth 100000 in
set_option maxHeartbeats 4000000 in
theorem room_grw (r lo : Nat) (v : Value) (l : List (Int × Int)) (m j : Int) (w : World) (hR : RigAt w r lo v l m) (hl : l.length ≤ 1000) (h0 : ∀ a ∈ l, 0 ≤ a.1 ∧ a.1 ≤ 1000) (hj : 0 ≤ j ∧ j ≤ 1000) (hm : -1000 ≤ m ∧ m ≤ 1000) :
    Calls Tryd.prog 70 #[.pointer (some ⟨r, 0, none⟩), .int .i64 j] w fun e w' => e = .returned (.int .i64 (pRoom l m j)) ∧ Grw w w' := by
  have hrl := hR.lt
  have c1 := hR.items
  have c2 := hR.boxes
  obtain ⟨n, hn⟩ : ∃ n, l.length = n := ⟨_, rfl⟩
  obtain ⟨a, c, rfl, hf⟩ := hR.parts.form hn
  have HN := hide hn
  have HF := hide hf
  have H0 := hide h0
  rw [hn] at hl
  obtain ⟨j0, j1⟩ := hj
  obtain ⟨m0, m1⟩ := hm
  have HC2 := hide c2
  clear hR hn hf h0 c2
  go_enter Tryd.func70, Tryd.ntmps70
  go_wp2
  clear c1
  go_loopw [5, 14] (fun s i wr => ∃ k : Nat, k ≤ n ∧ i = .int .i64 (k : Int) ∧ s = .int .i64 (pSum (l.take k) j) ∧ Hid (Grw w wr)) (fun _ i _ => n - (intOf i).toNat)
  case atStart => exact ⟨0, Nat.zero_le _, rfl, rfl, Grw.refl w⟩
  case round =>
    obtain ⟨k, hk, rfl, rfl, HG⟩ := hrel
    obtain ⟨b0, b1⟩ := pSum_bd (l.take k) j ⟨j0, j1⟩ (fun a ha => (H0.out a (List.mem_of_mem_take ha)).1)
    rw [List.length_take, HN.out, Nat.min_eq_left hk] at b1
    by_cases hlt : k < n
    · obtain ⟨q, rfl, hq0, hq⟩ := HF.out (by omega)
      obtain ⟨x, hx⟩ : ∃ x, l[k]? = some x := ⟨_, List.getElem?_eq_getElem (by rw [HN.out]; exact hlt)⟩
      obtain ⟨g1, g2⟩ := encZ_get l k x hx
      have d1 := ((HG.out.cells hq) _ _ g1).1
      have d2 := ((HG.out.cells hq) _ _ g2).1
      have hql : q < wr.heap.size := by have := HG.out.size; omega
      have HT := hide (pSum_take l j k x hx)
      obtain ⟨x0, x1⟩ := H0.out x (List.mem_of_getElem? hx)
      obtain ⟨y, hy⟩ : ∃ y, y = x.1 := ⟨_, rfl⟩
      obtain ⟨z, hz⟩ : ∃ y, y = x.2 := ⟨_, rfl⟩
      obtain ⟨t, ht⟩ : ∃ t, t = pSum (l.take k) j := ⟨_, rfl⟩
      rw [← hy] at d1 HT x0 x1
      rw [← hz] at d2
      rw [← ht] at HT b0 b1 ⊢
      clear hx g1 g2 hy hz ht
      have i0 : (0 : Int) ≤ (k : Int) := by omega
      have i1 : (k : Int) < (n : Int) := by omega
      go_wp2
      go_roundw
      case rel =>
        have e : (if y < j then y else j) = min j y := by split <;> omega
        exact ⟨k + 1, by omega, by go_num, by rw [HT.out, e], HG.out.trans (Grw.alloc _ _)⟩
      case measure => simp [intOf]; omega
    · have hkn : k = n := by omega
      have HE : Hid (l.take k = l) := List.take_of_length_le (by rw [HN.out]; omega)
      have HRM : Hid (pRoom l m j = m - 2 * pSum (l.take k) j) := by rw [HE.out]; rfl
      have d2 : wr.cell? ⟨r, 2, none⟩ = some (.int .i64 m) := (HG.out.below.cell (p := ⟨r, 2, none⟩) hrl).trans HC2.out
      obtain ⟨t, ht⟩ : ∃ t, t = pSum (l.take k) j := ⟨_, rfl⟩
      rw [← ht] at HRM b0 b1 ⊢
      have w1 : IntKind.i64.wrap (2 * t) = 2 * t := by rw [IntKind.wrap_i64]; omega
      have w2 : IntKind.i64.wrap (m - 2 * t) = m - 2 * t := by rw [IntKind.wrap_i64]; omega
      clear ht
      go_wp2
      go_ret
      exact ⟨by rw [HRM.out]; rfl, HG.out⟩
end Go.Proofs.YteibopcneflidaaDoor
