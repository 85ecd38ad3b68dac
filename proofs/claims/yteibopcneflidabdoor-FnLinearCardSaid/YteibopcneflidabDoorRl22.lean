/- TEXTS Take4. -/
import Derived.Test.YteibopcneflidabDoorRl20
import Derived.Test.YteibopcneflidabDoorRl21
import Derived.Laws.ResultCell
/- THE WALKS of full, of slices.IndexFunc at it, of the sorted list's takeAt, takeFirst, takeLast. -/
namespace Go.Proofs.YteibopcneflidabDoor
open Go.RowKit Go.Sort Go.Shelf

/-- the method value r.full -/
abbrev fullFn (r : Nat) : Value := .func (.func 46) #[.pointer (some ⟨r, 0, none⟩)] #[]
theorem fullEnters : ∀ args w, (callFunc 46 args).run Tryd.prog w = .ok (.enter 46 args) w := enters_of Tryd.func46 (by kernel_rfl) rfl

set_option maxRecDepth 100000 in
set_option maxHeartbeats 4000000 in
theorem full_grw (r lo : Nat) (v : Value) (l : List (Int × Int)) (m : Int) (p : Int × Int) (w : World) (hR : RigAt w r lo v l m) (hl : l.length ≤ 1000) (h0 : ∀ a ∈ l, 0 ≤ a.1 ∧ a.1 ≤ 1000) (hj : 0 ≤ p.1 ∧ p.1 ≤ 1000) (hm : -1000 ≤ m ∧ m ≤ 1000) :
    Calls Tryd.prog 46 #[.pointer (some ⟨r, 0, none⟩), pV p] w fun e w' => e = .returned (.bool (pFull l m p)) ∧ Grw w w' := by
  have mixed : Tryd.prog.follows .mixedOrders = true := by kernel_rfl
  obtain ⟨p1, p2⟩ := p
  show Calls Tryd.prog 46 #[.pointer (some ⟨r, 0, none⟩), .agg #[.int .i64 p1, .int .i64 p2]] w fun e w' => e = .returned (.bool (decide (p2 = pRoom l m p1))) ∧ Grw w w'
  obtain ⟨W, hW⟩ : ∃ W, W = w.alloc (.cells #[.int .i64 p1, .int .i64 p2] 44) := ⟨_, rfl⟩
  have hz : w.heap.size < W.heap.size := by rw [hW]; simp
  have HGW : Hid (Grw w W) := by rw [hW]; exact hide (Grw.alloc _ _)
  have c1 : W.cell? ⟨w.heap.size, 0, none⟩ = some (.int .i64 p1) := by rw [hW, World.cell?_alloc_at _ _ _ _ rfl]; rfl
  have c2 : W.cell? ⟨w.heap.size, 1, none⟩ = some (.int .i64 p2) := by rw [hW, World.cell?_alloc_at _ _ _ _ rfl]; rfl
  have e1 : ∀ n os, (grow (W.drewN n) os).cell? ⟨w.heap.size, 0, none⟩ = some (.int .i64 p1) := fun n os => cell_grown hz c1 n os
  have e2 : ∀ n os, (grow (W.drewN n) os).cell? ⟨w.heap.size, 1, none⟩ = some (.int .i64 p2) := fun n os => cell_grown hz c2 n os
  have CR := hide (fun (n' : Nat) (os : Array Obj) => room_grw r lo v l m p1 (grow (W.drewN n') os) (hR.below (HGW.out.trans (Grw.mk W n' os)).below (Nat.le_refl _)) hl h0 hj hm)
  obtain ⟨t, ht⟩ : ∃ t, t = pRoom l m p1 := ⟨_, rfl⟩
  rw [← ht] at CR ⊢
  clear ht hR hl h0 hj hm c1 c2
  go_enter Tryd.func46, Tryd.ntmps46
  go_wp2
  rw [← hW]
  clear hW
  refine wp_region_quiet_grown (by assumption) (by kernel_rfl) ?_
  repeat (first | go_big_quiet_skip | quiet_step ((go_at_call 66; refine Calls.grown_of (CR.out _ _))))
  refine wpQuiet_nil ?_
  intro _ hw'
  obtain ⟨⟨nq, osq⟩, hw''⟩ := hw'
  subst hw''
  go_wp2
  go_ret
  exact ⟨rfl, HGW.out.trans (Grw.mk _ _ _)⟩

/-- the index of the first full part, or -1 -/
def IxPost (f : Int × Int → Bool) (l : List (Int × Int)) (i : Int) : Prop :=
  (i = -1 ∧ l.find? f = none) ∨ ∃ (j : Nat) (a : Int × Int), i = (j : Int) ∧ j < l.length ∧ l[j]? = some a ∧ l.find? f = some a
theorem find_step {f : Int × Int → Bool} {l : List (Int × Int)} {k : Nat} {x : Int × Int} (h : (l.take k).find? f = none) (hx : l[k]? = some x) (hf : f x = false) : (l.take (k + 1)).find? f = none := by
  rw [List.take_add_one, hx, List.find?_append, h]
  simp [hf]
theorem find_hit {f : Int × Int → Bool} {l : List (Int × Int)} {k : Nat} {x : Int × Int} (h : (l.take k).find? f = none) (hx : l[k]? = some x) (hf : f x = true) : l.find? f = some x := by
  obtain ⟨hk, e⟩ := List.getElem?_eq_some_iff.1 hx
  have e2 : l = l.take k ++ x :: l.drop (k + 1) := by rw [← e, List.getElem_cons_drop, List.take_append_drop]
  rw [e2, List.find?_append, h]
  simp [hf]
theorem rfind_step {f : Int × Int → Bool} {l : List (Int × Int)} {k : Nat} {x : Int × Int} (h : (l.drop (k + 1)).reverse.find? f = none) (hx : l[k]? = some x) (hf : f x = false) : (l.drop k).reverse.find? f = none := by
  obtain ⟨hk, e⟩ := List.getElem?_eq_some_iff.1 hx
  rw [List.drop_eq_getElem_cons hk, List.reverse_cons, List.find?_append, h, e]
  simp [hf]
theorem rfind_hit {f : Int × Int → Bool} {l : List (Int × Int)} {k : Nat} {x : Int × Int} (h : (l.drop (k + 1)).reverse.find? f = none) (hx : l[k]? = some x) (hf : f x = true) : l.reverse.find? f = some x := by
  obtain ⟨hk, e⟩ := List.getElem?_eq_some_iff.1 hx
  have e2 : l = l.take k ++ x :: l.drop (k + 1) := by rw [← e, List.getElem_cons_drop, List.take_append_drop]
  have e3 : l.reverse = (l.drop (k + 1)).reverse ++ x :: (l.take k).reverse := by
    conv => lhs; rw [e2]
    rw [List.reverse_append, List.reverse_cons, List.append_assoc]
    rfl
  rw [e3, List.find?_append, h]
  simp [hf]

set_option maxRecDepth 100000 in
set_option maxHeartbeats 4000000 in
theorem indexFunc_grw (r lo : Nat) (v : Value) (l : List (Int × Int)) (m : Int) (w : World) (hR : RigAt w r lo v l m) (hl : l.length ≤ 1000) (h0 : ∀ a ∈ l, 0 ≤ a.1 ∧ a.1 ≤ 1000) (hm : -1000 ≤ m ∧ m ≤ 1000) :
    Calls Tryd.prog 65 #[v, fullFn r] w fun e w' => (∃ i, e = .returned (.int .i64 i) ∧ IxPost (pFull l m) l i) ∧ Grw w w' := by
  have eg := fullEnters
  obtain ⟨n, hn⟩ : ∃ n, l.length = n := ⟨_, rfl⟩
  obtain ⟨a, c, rfl, hf⟩ := hR.parts.form hn
  have HN := hide hn
  have HF := hide hf
  have FL := hide (fun (p : Int × Int) (hp : p ∈ l) (W : World) (hW : Below w.heap.size w W) => full_grw r lo (.slice a n c) l m p W (hR.below hW (Nat.le_refl _)) hl h0 (h0 p hp) hm)
  unfold pV at FL
  rw [hn] at hl
  clear hR hn hf h0 hm
  go_enter Tryd.func65, Tryd.ntmps65
  go_wp2
  go_loopw [8] (fun i wr => ∃ k : Nat, k ≤ n ∧ i = .int .i64 (k : Int) ∧ Hid ((l.take k).find? (pFull l m) = none) ∧ Hid (Grw w wr)) (fun i _ => n - (intOf i).toNat)
  case atStart => exact ⟨0, Nat.zero_le _, rfl, rfl, Grw.refl _⟩
  case round =>
    obtain ⟨k, hk, rfl, HS, HG⟩ := hrel
    by_cases hlt : k < n
    · obtain ⟨q, rfl, hq0, hq⟩ := HF.out (by omega)
      obtain ⟨x, hx⟩ : ∃ x, l[k]? = some x := ⟨_, List.getElem?_eq_getElem (by rw [HN.out]; exact hlt)⟩
      obtain ⟨g1, g2⟩ := encZ_get l k x hx
      have d1 := ((HG.out.cells hq) _ _ g1).1
      have d2 := ((HG.out.cells hq) _ _ g2).1
      have FX := hide (FL.out x (List.mem_of_getElem? hx) wr HG.out.below)
      have HNX : Hid (pFull l m x = false → (l.take (k + 1)).find? (pFull l m) = none) := fun h => find_step HS.out hx h
      have HYES : Hid (pFull l m x = true → l.find? (pFull l m) = some x) := fun h => find_hit HS.out hx h
      have HX := hide hx
      obtain ⟨x1, hx1⟩ : ∃ z, z = x.1 := ⟨_, rfl⟩
      obtain ⟨x2, hx2⟩ : ∃ z, z = x.2 := ⟨_, rfl⟩
      rw [← hx1] at d1 FX
      rw [← hx2] at d2 FX
      obtain ⟨t, ht⟩ : ∃ t, t = pFull l m x := ⟨_, rfl⟩
      rw [← ht] at FX HNX HYES
      have i0 : (0 : Int) ≤ (k : Int) := by omega
      have i1 : (k : Int) < (n : Int) := by omega
      clear hx g1 g2 hx1 hx2 ht hq
      cases t
      · have HN2 := hide (HNX.out rfl)
        go_wp2_with (go_at_fn 46; refine FX.out.mono ?_; rintro e w2 ⟨rfl, hg2⟩; have G2 := hide (HG.out.trans hg2); clear hg2)
        go_roundw
        case rel => exact ⟨k + 1, by omega, by go_num, HN2.out, G2.out⟩
        case measure => simp [intOf]; omega
      · have HY2 := hide (HYES.out rfl)
        go_wp2_with (go_at_fn 46; refine FX.out.mono ?_; rintro e w2 ⟨rfl, hg2⟩; have G2 := hide (HG.out.trans hg2); clear hg2)
        go_ret
        exact ⟨⟨_, rfl, .inr ⟨k, x, rfl, by rw [HN.out]; exact hlt, HX.out, HY2.out⟩⟩, G2.out⟩
    · have HE : Hid (l.find? (pFull l m) = none) := by
        have h := HS.out
        rw [List.take_of_length_le (by rw [HN.out]; omega)] at h
        exact h
      go_wp2
      go_ret
      exact ⟨⟨_, rfl, .inl ⟨rfl, HE.out⟩⟩, HG.out⟩

set_option maxRecDepth 100000 in
set_option maxHeartbeats 4000000 in
theorem takeAt_none (r : Nat) (w : World) :
    Calls Tryd.prog 64 #[.pointer (some ⟨r, 0, none⟩), .int .i64 (-1)] w fun e w' => e = .returned (.tuple #[pV (0, 0), .bool false]) ∧ Grw w w' := by
  unfold pV
  go_enter Tryd.func64, Tryd.ntmps64
  go_wp2
  (try simp only [Exit.inBlock, Exit.then])
  refine bodyPost_ret (v := .tuple #[.agg #[.int .i64 0, .int .i64 0], .bool false]) (by rw [results_cell_tmp rfl]; go_simp) rfl ?_
  exact ⟨rfl, (Grw.alloc _ _).trans (Grw.alloc _ _)⟩

theorem Only.set_new {r : Nat} {row : Option Nat} {w A : World} (h : Only r row w A) (p : Addr) (hp : w.heap.size ≤ p.block) (u : Value) : Only r row w (A.setCell p u) :=
  ⟨h.os, h.tape, h.output, by simpa [World.setCell] using h.size, fun k hk h1 h2 => (Below.heap_setCell A p u k (by omega)).trans (h.block k hk h1 h2)⟩
theorem RigAt.far {w w' : World} {r lo : Nat} {v : Value} {l : List (Int × Int)} {m : Int} (h : RigAt w r lo v l m) (hr : w'.heap[r]? = w.heap[r]?) (hv : ∀ g, v.ownBlock = some g → w'.heap[g]? = w.heap[g]?) : RigAt w' r lo v l m :=
  ⟨(World.cell?_of_block (a := ⟨r, 0, none⟩) hr).trans h.fn, (World.cell?_of_block (a := ⟨r, 1, none⟩) hr).trans h.items, (World.cell?_of_block (a := ⟨r, 2, none⟩) hr).trans h.boxes, fun j => (World.frozen?_of_block (a := ⟨r, j, none⟩) hr).trans (h.free j), owns_far h.own hv, h.ne, h.lo_le⟩

set_option maxRecDepth 100000 in
set_option maxHeartbeats 4000000 in
theorem takeAt_some (r lo : Nat) (v : Value) (l : List (Int × Int)) (m : Int) (k : Nat) (a : Int × Int) (w : World) (hR : RigAt w r lo v l m) (ha : l[k]? = some a) (hl : l.length ≤ 1000) :
    Calls Tryd.prog 64 #[.pointer (some ⟨r, 0, none⟩), .int .i64 (k : Int)] w fun e w' => e = .returned (.tuple #[pV a, .bool true]) ∧ ∃ v', RigAt w' r lo v' (l.eraseIdx k) m ∧ Only r v.ownBlock w w' ∧ RowNext w v v' := by
  unfold pV
  obtain ⟨hk, _⟩ := List.getElem?_eq_some_iff.1 ha
  obtain ⟨n, hn⟩ : ∃ n, l.length = n + 1 := ⟨l.length - 1, by omega⟩
  have hrl := hR.lt
  have HR := hide hR
  have hown := hR.own
  rw [hn] at hown
  obtain ⟨g, c, rfl⟩ := own_form hown
  have hgl := (hown.lt g rfl).2
  obtain ⟨g1, g2⟩ := encZ_get l k a ha
  have d1 : w.cell? ⟨g, k * 2, none⟩ = some (.int .i64 a.1) := by
    rw [hown.cellAt _ (by omega)]; exact g1
  have d2 : w.cell? ⟨g, k * 2 + 1, none⟩ = some (.int .i64 a.2) := by
    rw [hown.cellAt _ (by omega)]; exact g2
  have hel : (l.eraseIdx k).length = n := by rw [List.length_eraseIdx, hn]; split <;> omega
  have HEL := hide hel
  obtain ⟨a1, ha1⟩ : ∃ z, z = a.1 := ⟨_, rfl⟩
  obtain ⟨a2, ha2⟩ : ∃ z, z = a.2 := ⟨_, rfl⟩
  rw [← ha1] at d1 ⊢
  rw [← ha2] at d2 ⊢
  have c1 := hR.items
  obtain ⟨W0, hW0⟩ : ∃ W0, W0 = w.alloc (.cells #[.int .i64 0, .int .i64 0] 44) := ⟨_, rfl⟩
  obtain ⟨W, hW⟩ : ∃ W, W = W0.alloc (.cells #[.int .i64 a1, .int .i64 a2] 44) := ⟨_, rfl⟩
  have hz0 : W0.heap.size = w.heap.size + 1 := by rw [hW0]; simp
  have HZ0 := hide hz0
  have HG0 : Hid (Grw w W0) := by rw [hW0]; exact hide (Grw.alloc _ _)
  have HWB : Hid (Below w.heap.size w W) := by rw [hW, hW0]; exact ((Below.refl _ w).alloc (Nat.le_refl _) _).alloc (by simp) _
  have DEL := hide (fun (W' : World) (hW' : W' = W) => (show Calls Tryd.prog 75 #[.slice (some ⟨g, 0, none⟩) (n + 1) c, .int .i64 (k : Int), .int .i64 ((k : Int) + 1)] W' (fun e w' =>
      e = .returned (.slice (some ⟨g, 0, none⟩) n c) ∧ w'.ownsRow lo 44 2 (.slice (some ⟨g, 0, none⟩) n c) n (encZ (l.eraseIdx k)) ∧ W'.grownBy w' (some g)) from by
    have := delete_any lo g c (n + 1) k l W' (owns_far hown (fun g' hg' => by rw [hW']; exact HWB.out.block g' (by have := (hown.lt g' hg').2; omega))) (by omega)
    rw [Nat.add_sub_cancel] at this
    exact this))
  have s1 : W.cell? ⟨w.heap.size + 1, 0, none⟩ = some (.int .i64 a1) := by rw [hW, World.cell?_alloc_at _ _ _ _ (by rw [hz0])]; rfl
  have s2 : W.cell? ⟨w.heap.size + 1, 1, none⟩ = some (.int .i64 a2) := by rw [hW, World.cell?_alloc_at _ _ _ _ (by rw [hz0])]; rfl
  have s3 : W.cell? ⟨w.heap.size, 0, none⟩ = some (.int .i64 0) := by rw [hW, World.cell?_alloc_lt W0 _ ⟨w.heap.size, 0, none⟩ (show w.heap.size < W0.heap.size by omega), hW0, World.cell?_alloc_at _ _ _ _ rfl]; rfl
  have s4 : W.cell? ⟨w.heap.size, 1, none⟩ = some (.int .i64 0) := by rw [hW, World.cell?_alloc_lt W0 _ ⟨w.heap.size, 1, none⟩ (show w.heap.size < W0.heap.size by omega), hW0, World.cell?_alloc_at _ _ _ _ rfl]; rfl
  have s5 : ∀ j, W.frozen? ⟨w.heap.size, j, none⟩ = false := fun j => by
    rw [World.frozen?_of_block (w := W0) (a := ⟨w.heap.size, j, none⟩) (by rw [hW]; exact Below.heap_alloc W0 _ w.heap.size (by omega)), hW0]
    exact World.frozen?_alloc_at _ _ _ _ rfl
  have hgz : ∀ j, j < 2 → (some (w.heap.size + j) : Option Nat) ≠ some g := fun j _ h => by injection h with h; omega
  have hzW : W.heap.size = w.heap.size + 2 := by rw [hW, World.size_alloc, hz0]
  have FIN := hide (fun (w2 : World) (hg2 : W.grownBy w2 (some g)) (ho2 : w2.ownsRow lo 44 2 (.slice (some ⟨g, 0, none⟩) n c) n (encZ (l.eraseIdx k))) =>
    (rig_next (v' := .slice (some ⟨g, 0, none⟩) n c) (l' := l.eraseIdx k) (W := W) (w2 := w2) (o := .cells #[.int .i64 a1, .int .i64 a2] 44) HR.out HG0.out (by rw [hW]) (by rw [hW]; rfl) (by rw [hW]; rfl) (by rw [hW]; rfl) hg2 (by rw [HEL.out]; exact ho2) (.inl rfl)))
  have KEEP := hide (fun (w2 : World) (hg2 : W.grownBy w2 (some g)) => (show (w2.cell? ⟨w.heap.size + 1, 0, none⟩ = some (.int .i64 a1) ∧ w2.cell? ⟨w.heap.size + 1, 1, none⟩ = some (.int .i64 a2)) ∧ (w2.cell? ⟨w.heap.size, 0, none⟩ = some (.int .i64 0) ∧ w2.cell? ⟨w.heap.size, 1, none⟩ = some (.int .i64 0)) ∧ (w2.frozen? ⟨w.heap.size, 0, none⟩ = false ∧ w2.frozen? ⟨w.heap.size, 1, none⟩ = false) from by
    have e1 := hg2.block (w.heap.size + 1) (by omega) (hgz 1 (by omega))
    have e0 := hg2.block w.heap.size (by omega) (hgz 0 (by omega))
    exact ⟨⟨(World.cell?_of_block (a := ⟨w.heap.size + 1, 0, none⟩) e1).trans s1, (World.cell?_of_block (a := ⟨w.heap.size + 1, 1, none⟩) e1).trans s2⟩, ⟨(World.cell?_of_block (a := ⟨w.heap.size, 0, none⟩) e0).trans s3, (World.cell?_of_block (a := ⟨w.heap.size, 1, none⟩) e0).trans s4⟩, (World.frozen?_of_block (a := ⟨w.heap.size, 0, none⟩) e0).trans (s5 0), (World.frozen?_of_block (a := ⟨w.heap.size, 1, none⟩) e0).trans (s5 1)⟩))
  have hrne0 : ¬ (r = w.heap.size) := by omega
  have hrne1 : ¬ (r = w.heap.size + 1) := by omega
  have hgne : ¬ (g = w.heap.size) := by omega
  have k0 : (0 : Int) ≤ (k : Int) := by omega
  have k1 : (k : Int) < ((n + 1 : Nat) : Int) := by omega
  have k2 : ¬ ((k : Int) < 0) := by omega
  clear hown ha hn g1 g2 hel ha1 ha2 s1 s2 s3 s4 s5 hR hgz hzW hz0
  go_enter Tryd.func64, Tryd.ntmps64
  go_wp2_with fail
  rw [← hW0, ← hW]
  clear hW hW0
  refine (DEL.out W rfl).mono ?_
  rintro e w2 ⟨rfl, ho2, hg2⟩
  obtain ⟨x1, x2, fin⟩ := FIN.out w2 hg2 ho2
  obtain ⟨⟨y1, y2⟩, ⟨y3, y4⟩, y5, y6⟩ := KEEP.out w2 hg2
  have HFIN := hide fin
  clear fin ho2 hg2 DEL FIN KEEP d1 d2 c1
  go_wp2_with fail
  (try simp only [Exit.inBlock, Exit.then])
  refine bodyPost_ret (v := .tuple #[.agg #[.int .i64 a1, .int .i64 a2], .bool true]) (by rw [results_cell_tmp rfl]; go_simp) rfl ?_
  obtain ⟨q1, q2, q3⟩ := HFIN.out
  refine ⟨rfl, _, q1.far ?_ ?_, (q2.set_new _ (Nat.le_refl _) _).set_new _ (Nat.le_refl _) _, q3⟩
  · exact (Below.heap_setCell _ _ _ r hrne0).trans (Below.heap_setCell _ _ _ r hrne0)
  · intro g' hg'
    obtain rfl : g = g' := by simpa [Value.ownBlock] using hg'
    exact (Below.heap_setCell _ _ _ g hgne).trans (Below.heap_setCell _ _ _ g hgne)
end Go.Proofs.YteibopcneflidabDoor
