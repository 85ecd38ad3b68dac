/- TEXTS Box4, RigOfP. -/
import Derived.Test.YtdooboibmllfkabGreatDoorExb34
import Derived.Test.YtdooboibmllfkabGreatDoorExb33
import Derived.Test.YtdooboibmllfkabGreatDoorExb19
import Derived.Test.YtdooboibmllfkabGreatDoorExb11
import Derived.Test.YtdooboibmllfkabGreatDoorExb02
namespace Go.Proofs.YtdooboibmllfkabGreatDoor
set_option maxRecDepth 100000
open Go.RowKit Go.Sort Go.Shelf

theorem IxPost.int {f : Int × Int → Bool} {l : List (Int × Int)} {i : Int} (h : IxPost f l i) : i = -1 ∨ ∃ k : Nat, i = (k : Int) := by
  rcases h with ⟨h, _⟩ | ⟨j, a, h, _⟩
  · exact .inl h
  · exact .inr ⟨j, h⟩
def took (o : Option (Int × Int)) (l : List (Int × Int)) : List (Int × Int) := match o with | some a => l.erase a | none => l
def TakePost (o : Option (Int × Int)) (w : World) (r lo : Nat) (v : Value) (l : List (Int × Int)) (m : Int) (e : Ending) (w' : World) : Prop :=
  ∃ v', e = .returned (.tuple #[pV (o.getD (0, 0)), .bool o.isSome]) ∧ RigAt w' r lo v' (took o l) m ∧ Only r v.ownBlock w w' ∧ RowNext w v v'
theorem Only.mono {r : Nat} {row : Option Nat} {w w' w'' : World} (h : Below w.heap.size w w') (k : Only r row w' w'') : Only r row w w'' := (Only.of_below r row h).trans k (.inl rfl)

set_option maxRecDepth 100000 in
set_option maxHeartbeats 4000000 in
theorem takeAt_any (r lo : Nat) (v : Value) (l : List (Int × Int)) (m i : Int) (o : Option (Int × Int)) (w : World) (hR : RigAt w r lo v l m) (hs : pSorted l) (hl : l.length ≤ 1000)
    (hi : (i = -1 ∧ o = none) ∨ ∃ (j : Nat) (a : Int × Int), i = (j : Int) ∧ j < l.length ∧ l[j]? = some a ∧ o = some a) :
    Calls Tryz.prog 241 #[.pointer (some ⟨r, 0, none⟩), .int .i64 i] w (TakePost o w r lo v l m) := by
  rcases hi with ⟨rfl, rfl⟩ | ⟨j, a, rfl, hj, ha, rfl⟩
  · refine (takeAt_none r w).mono ?_
    rintro e w' ⟨rfl, hg⟩
    exact ⟨v, rfl, hR.below hg.below (Nat.le_refl _), Only.of_below r _ hg.below, RowNext.refl _ _⟩
  · refine (takeAt_some r lo v l m j a w hR ha hl).mono ?_
    rintro e w' ⟨rfl, v', h1, h2, h3⟩
    rw [eraseIdx_erase hs ha] at h1
    exact ⟨v', rfl, h1, h2, h3⟩

theorem take_fin {w w1 w2 : World} {r lo : Nat} {v v' : Value} {l' : List (Int × Int)} {m : Int} (hb : Below w.heap.size w w1) (hw : w.heap.size < w1.heap.size) (hv : ∀ g, v.ownBlock = some g → g < w.heap.size) (hr : r < w.heap.size) (h1 : RigAt w2 r lo v' l' m) (h2 : Only r v.ownBlock w1 w2) (h3 : RowNext w1 v v') (x y : Value) :
    RigAt ((w2.setCell ⟨w.heap.size, 0, none⟩ x).setCell ⟨w.heap.size, 1, none⟩ y) r lo v' l' m ∧ Only r v.ownBlock w ((w2.setCell ⟨w.heap.size, 0, none⟩ x).setCell ⟨w.heap.size, 1, none⟩ y) ∧ RowNext w v v' := by
  have hne : ∀ k, k ≠ w.heap.size → ((w2.setCell ⟨w.heap.size, 0, none⟩ x).setCell ⟨w.heap.size, 1, none⟩ y).heap[k]? = w2.heap[k]? := fun k hk =>
    (Below.heap_setCell _ ⟨w.heap.size, 1, none⟩ _ k hk).trans (Below.heap_setCell _ ⟨w.heap.size, 0, none⟩ _ k hk)
  refine ⟨h1.far (hne r (by omega)) (fun g hg => hne g ?_), ((Only.mono hb h2).set_new _ (Nat.le_refl _) _).set_new _ (Nat.le_refl _) _, h3.elim .inl (fun ⟨g, e, hg⟩ => .inr ⟨g, e, by omega⟩)⟩
  rcases h3 with e | ⟨g', e, hg'⟩
  · rw [e] at hg; have := hv g hg; omega
  · rw [e] at hg; injection hg with hg; omega
theorem cells_kept2 {w w1 w2 : World} {r : Nat} {row : Option Nat} (hw : w.heap.size < w1.heap.size) (hrow : ∀ g, row = some g → g < w.heap.size) (hr : r < w.heap.size) (h2 : Only r row w1 w2) (j : Nat) : w2.cell? ⟨w.heap.size, j, none⟩ = w1.cell? ⟨w.heap.size, j, none⟩ ∧ w2.frozen? ⟨w.heap.size, j, none⟩ = w1.frozen? ⟨w.heap.size, j, none⟩ := by
  have e := h2.block w.heap.size hw (by omega) (fun h => by have := hrow _ h.symm; omega)
  exact ⟨World.cell?_of_block (a := ⟨w.heap.size, j, none⟩) e, World.frozen?_of_block (a := ⟨w.heap.size, j, none⟩) e⟩

set_option maxRecDepth 100000 in
set_option maxHeartbeats 4000000 in
theorem takeFirst_any (r lo : Nat) (v : Value) (l : List (Int × Int)) (m : Int) (w : World) (hR : RigAt w r lo v l m) (hs : pSorted l) (hl : l.length ≤ 1000) (h0 : ∀ a ∈ l, 0 ≤ a.1 ∧ a.1 ≤ 1000) (hm : -1000 ≤ m ∧ m ≤ 1000) :
    Calls Tryz.prog 217 #[.pointer (some ⟨r, 0, none⟩), fullFn r] w (TakePost (l.find? (pFull l m)) w r lo v l m) := by
  have CI := hide (fun (W : World) (h : RigAt W r lo v l m) => indexFunc_grw r lo v l m W h hl h0 hm)
  have TA := hide (fun (i : Int) (W : World) (h : RigAt W r lo v l m) (hi : IxPost (pFull l m) l i) => takeAt_any r lo v l m i (l.find? (pFull l m)) W h hs hl (by
    rcases hi with ⟨h1, h2⟩ | ⟨j, a, h1, h2, h3, h4⟩
    · exact .inl ⟨h1, h2⟩
    · exact .inr ⟨j, a, h1, h2, h3, h4⟩))
  have HR := hide hR
  have c1 := hR.items
  obtain ⟨o, ho⟩ : ∃ o, o = l.find? (pFull l m) := ⟨_, rfl⟩
  rw [← ho] at TA ⊢
  clear hR h0 hm ho
  have HB0 := hide ((Below.refl w.heap.size w).alloc (Nat.le_refl _) (.cells #[.int .i64 0, .int .i64 0] 132))
  have HR0 := hide (HR.out.below HB0.out (Nat.le_refl _))
  have hrl := HR.out.lt
  obtain ⟨p1, hp1⟩ : ∃ z, z = (o.getD (0, 0)).1 := ⟨_, rfl⟩
  obtain ⟨p2, hp2⟩ : ∃ z, z = (o.getD (0, 0)).2 := ⟨_, rfl⟩
  have HPV : Hid (pV (o.getD (0, 0)) = .agg #[.int .i64 p1, .int .i64 p2]) := by rw [hp1, hp2]; exact rfl
  have HVL := hide (fun g h => (HR.out.own.lt g h).2)
  clear hp1 hp2
  go_enter Tryz.func217, Tryz.ntmps217
  go_wp2_with fail
  refine (CI.out _ HR0.out).mono ?_
  rintro e w1 ⟨⟨i, rfl, hi⟩, g1⟩
  have HI := hide hi
  have B1 := hide (HB0.out.trans (g1.below.mono HB0.out.size))
  have hz1 : w.heap.size < w1.heap.size := Nat.lt_of_lt_of_le (by simp) g1.below.size
  have TAi := hide (TA.out i w1 (HR0.out.below g1.below (Nat.le_refl _)) hi)
  have HC1 : Hid (w1.cell? ⟨w.heap.size, 0, none⟩ = some (.int .i64 0) ∧ w1.cell? ⟨w.heap.size, 1, none⟩ = some (.int .i64 0) ∧ ∀ j, w1.frozen? ⟨w.heap.size, j, none⟩ = false) :=
    ⟨(g1.below.cell (p := ⟨w.heap.size, 0, none⟩) (by simp)).trans (by rw [World.cell?_alloc_at _ _ _ _ rfl]; rfl), (g1.below.cell (p := ⟨w.heap.size, 1, none⟩) (by simp)).trans (by rw [World.cell?_alloc_at _ _ _ _ rfl]; rfl), fun j => (g1.below.frozen (p := ⟨w.heap.size, j, none⟩) (by simp)).trans (World.frozen?_alloc_at _ _ _ _ rfl)⟩
  clear hi g1 c1
  go_wp2_with fail
  refine TAi.out.mono ?_
  rintro e w2 ⟨v', rfl, h1, h2, h3⟩
  have k2 := fun j => cells_kept2 hz1 HVL.out hrl h2 j
  have y0 := (k2 0).1.trans HC1.out.1
  have y1 := (k2 1).1.trans HC1.out.2.1
  have y2 := (k2 0).2.trans (HC1.out.2.2 0)
  have y3 := (k2 1).2.trans (HC1.out.2.2 1)
  have FIN := hide (take_fin B1.out hz1 HVL.out hrl h1 h2 h3 (.int .i64 p1) (.int .i64 p2))
  clear h1 h2 h3 k2 TAi
  rw [HPV.out]
  go_wp2_with fail
  (try simp only [Exit.inBlock, Exit.then])
  refine bodyPost_ret (v := .tuple #[.agg #[.int .i64 p1, .int .i64 p2], .bool o.isSome]) (by rw [results_cell_tmp rfl]; go_simp) rfl ?_
  exact ⟨v', by rw [HPV.out], FIN.out.1, FIN.out.2.1, FIN.out.2.2⟩

set_option maxRecDepth 100000 in
set_option maxHeartbeats 4000000 in
theorem putFull_any (r lo : Nat) (v : Value) (l : List (Int × Int)) (m s : Int) (w : World) (hR : RigAt w r lo v l m) (hs : pSorted l) (hl : l.length ≤ 900) (h0 : ∀ a ∈ l, 0 ≤ a.1 ∧ a.1 ≤ 1000) (hj : 0 ≤ s ∧ s ≤ 1000) (hm : -1000 ≤ m ∧ m ≤ 1000) :
    Calls Tryz.prog 219 #[.pointer (some ⟨r, 0, none⟩), .int .i64 s] w fun e w' => e = .returned (.tuple #[]) ∧ ∃ v', RigAt w' r lo v' (pPut l (s, pRoom l m s - 2 * s)) m ∧ Only r v.ownBlock w w' ∧ RowNext w v v' := by
  have CR := hide (fun (W : World) (h : RigAt W r lo v l m) => room_grw r lo v l m s W h (by omega) h0 hj hm)
  obtain ⟨x, hx⟩ : ∃ x, x = pRoom l m s := ⟨_, rfl⟩
  have rb := room_bd l m s hj (fun a ha => (h0 a ha).1)
  have PT := hide (fun (y : Int) (W : World) (h : RigAt W r lo v l m) (hy : y = x - 2 * s) => (show Calls Tryz.prog 216 #[.pointer (some ⟨r, 0, none⟩), .agg #[.int .i64 s, .int .i64 y]] W (fun e w' => e = .returned (.tuple #[]) ∧ ∃ v', RigAt w' r lo v' (pPut l (s, x - 2 * s)) m ∧ Only r v.ownBlock W w' ∧ RowNext W v v') from by subst hy; exact put_any r lo v l m (s, x - 2 * s) W h hs hl))
  have HR := hide hR
  rw [← hx] at CR rb ⊢
  obtain ⟨rb1, rb2⟩ := rb
  obtain ⟨j0, j1⟩ := hj
  have rb3 : x ≤ 1000 := by omega
  have rb4 : -2000000 ≤ x := by omega
  have w1 : IntKind.i64.wrap (2 * s) = 2 * s := by rw [IntKind.wrap_i64]; omega
  have w2 : IntKind.i64.wrap (x - 2 * s) = x - 2 * s := by rw [IntKind.wrap_i64]; omega
  clear hR h0 hm hx rb1 rb2
  go_enter Tryz.func219, Tryz.ntmps219
  go_region_with
    (first
      | (go_at_call 243; go_loud (refine (CR.out _ ?_).mono ?_; exact HR.out.below (Below.refl w.heap.size w).drew (Nat.le_refl _); rintro e w1 ⟨rfl, g1⟩; have B1 := hide (((Below.refl w.heap.size w).drew).trans g1.below); clear g1))
      | (go_at_call 216; go_loud (refine (PT.out _ w1 (HR.out.below B1.out (Nat.le_refl _)) rfl).mono ?_; rintro e w2 ⟨rfl, v', h1, h2, h3⟩; have H1 := hide h1; have H2 := hide (Only.mono B1.out h2); have H3 := hide (show RowNext w v v' from h3.elim .inl (fun ⟨g, e, hg⟩ => .inr ⟨g, e, Nat.le_trans B1.out.size hg⟩)); clear h1 h2 h3))
      | fail)
  all_goals (refine bodyPost_end (results_none rfl _ _ _) rfl ?_)
  all_goals exact ⟨rfl, v', H1.out, H2.out, H3.out⟩

theorem RigAt.box {w : World} {r lo : Nat} {v : Value} {l : List (Int × Int)} {m : Int} (h : RigAt w r lo v l m) (m' : Int) : RigAt (w.setCell ⟨r, 2, none⟩ (.int .i64 m')) r lo v l m' := by
  refine ⟨?_, ?_, World.cell?_setCell_same' _ _ _ (by rw [h.boxes]; rfl), fun j => by rw [World.frozen?_setCell]; exact h.free j, ?_, h.ne, h.lo_le⟩
  · rw [World.cell?_setCell_other _ _ _ _ (by intro h; injection h with _ h; omega)]; exact h.fn
  · rw [World.cell?_setCell_other _ _ _ _ (by intro h; injection h with _ h; omega)]; exact h.items
  · exact owns_far h.own (fun g hg => Below.heap_setCell _ _ _ _ (fun e => h.ne (by rw [hg, e])))
theorem RowNext.up {w w' : World} {v v' : Value} (h : RowNext w' v v') (hs : w.heap.size ≤ w'.heap.size) : RowNext w v v' := h.elim .inl (fun ⟨g, e, hg⟩ => .inr ⟨g, e, Nat.le_trans hs hg⟩)
theorem took_len (o : Option (Int × Int)) (l : List (Int × Int)) : (took o l).length ≤ l.length := by
  unfold took
  split
  · exact (List.erase_sublist ..).length_le
  · exact Nat.le_refl _
theorem took_mem {o : Option (Int × Int)} {l : List (Int × Int)} {x : Int × Int} (h : x ∈ took o l) : x ∈ l := by
  unfold took at h
  split at h
  · exact List.mem_of_mem_erase h
  · exact h
theorem took_sorted {o : Option (Int × Int)} {l : List (Int × Int)} (h : pSorted l) : pSorted (took o l) := by
  unfold took
  split
  · exact erase_sorted _ h
  · exact h
theorem step_form (l : List (Int × Int)) (n : Int) : pStep l n = pPut (took (l.find? (pFull l n)) l) (((l.find? (pFull l n)).getD (0, 0)).1 + 1, pRoom (took (l.find? (pFull l n)) l) (n + 1) (((l.find? (pFull l n)).getD (0, 0)).1 + 1) - 2 * (((l.find? (pFull l n)).getD (0, 0)).1 + 1)) := by
  cases h : l.find? (pFull l n) with
  | none => rw [pStep_none h]; rfl
  | some a => rw [pStep_some h]; rfl
theorem got_bd {o : Option (Int × Int)} {l : List (Int × Int)} (ho : ∀ a, o = some a → a ∈ l) (h0 : ∀ a ∈ l, 0 ≤ a.1 ∧ a.1 ≤ 900) : 0 ≤ (o.getD (0, 0)).1 ∧ (o.getD (0, 0)).1 ≤ 900 := by
  cases o with
  | none => exact ⟨Int.le_refl _, by decide⟩
  | some a => exact h0 a (ho a rfl)

set_option maxRecDepth 100000 in
set_option maxHeartbeats 4000000 in
theorem addBox_none (r lo : Nat) (v : Value) (l : List (Int × Int)) (m : Int) (w : World) (hR : RigAt w r lo v l m) (hm : -900 ≤ m ∧ m ≤ 900) :
    Calls Tryz.prog 191 #[.pointer (some ⟨r, 0, none⟩), .bool false] w fun e w' => e = .returned (.tuple #[]) ∧ RigAt w' r lo v l (m + 1) ∧ Only r v.ownBlock w w' := by
  have c2 := hR.boxes
  have f2 := hR.free 2
  have HR := hide (hR.box (m + 1))
  obtain ⟨m0, m1⟩ := hm
  have w1 : IntKind.i64.wrap (m + 1) = m + 1 := by rw [IntKind.wrap_i64]; omega
  clear hR
  go_enter Tryz.func191, Tryz.ntmps191
  go_wp2
  refine bodyPost_ret (results_none rfl _ _ _) rfl ?_
  exact ⟨rfl, HR.out, Only.setCell r 2 _ _⟩

set_option maxRecDepth 100000 in
set_option maxHeartbeats 4000000 in
theorem addBox_ball (r lo : Nat) (v : Value) (l : List (Int × Int)) (m : Int) (w : World) (hR : RigAt w r lo v l m) (hs : pSorted l) (hl : l.length ≤ 800) (h0 : ∀ a ∈ l, 0 ≤ a.1 ∧ a.1 ≤ 900) (hm : -900 ≤ m ∧ m ≤ 900) :
    Calls Tryz.prog 191 #[.pointer (some ⟨r, 0, none⟩), .bool true] w fun e w' => e = .returned (.tuple #[]) ∧ ∃ v', RigAt w' r lo v' (pStep l m) (m + 1) ∧ Only r v.ownBlock w w' ∧ RowNext w v v' := by
  have hmf : ∀ (fn : Fn) (first cap : Array Value) (w : World), (Instr.makeFunc fn first cap).run Tryz.prog w = .ok (.func fn first cap) w := fun _ _ _ _ => rfl
  have TF := hide (takeFirst_any r lo v l m w hR hs (by omega) (fun a ha => by have := h0 a ha; omega) (by omega))
  have e0 := step_form l m
  obtain ⟨b0, b1⟩ := got_bd (o := l.find? (pFull l m)) (fun a h => List.mem_of_find?_eq_some h) h0
  obtain ⟨o, ho⟩ : ∃ o, o = l.find? (pFull l m) := ⟨_, rfl⟩
  rw [← ho] at TF e0 b0 b1
  have t1 := took_len o l
  have t2 : ∀ a ∈ took o l, 0 ≤ a.1 ∧ a.1 ≤ 1000 := fun a ha => by have := h0 a (took_mem ha); omega
  have t3 := took_sorted (o := o) hs
  obtain ⟨l1, hl1⟩ : ∃ l1, l1 = took o l := ⟨_, rfl⟩
  obtain ⟨p1, hp1⟩ : ∃ z, z = (o.getD (0, 0)).1 := ⟨_, rfl⟩
  obtain ⟨p2, hp2⟩ : ∃ z, z = (o.getD (0, 0)).2 := ⟨_, rfl⟩
  obtain ⟨ob, hob⟩ : ∃ z, z = o.isSome := ⟨_, rfl⟩
  unfold TakePost pV at TF
  rw [← hl1] at TF e0 t1 t2 t3
  rw [← hp1] at TF e0 b0 b1
  rw [← hp2, ← hob] at TF
  have HE := hide e0
  obtain ⟨m0, m1⟩ := hm
  have PF := hide (fun (v1 : Value) (s : Int) (W : World) (h : RigAt W r lo v1 l1 (m + 1)) (e : s = p1 + 1) => putFull_any r lo v1 l1 (m + 1) s W h t3 (by omega) t2 (by omega) (by omega))
  have w1 : IntKind.i64.wrap (m + 1) = m + 1 := by rw [IntKind.wrap_i64]; omega
  have w2 : IntKind.i64.wrap (p1 + 1) = p1 + 1 := by rw [IntKind.wrap_i64]; omega
  clear hR hs hl h0 e0 t1 t2 t3 hl1 hp1 hp2 hob ho
  go_enter Tryz.func191, Tryz.ntmps191
  go_wp2_with fail
  refine TF.out.mono ?_
  rintro e w1 ⟨v1, rfl, h1, h2, h3⟩
  have hrl := h1.lt
  have c2 := h1.boxes
  have f2 := h1.free 2
  have H1 := hide h1
  have H2 := hide h2
  have H3 := hide h3
  clear h1 h2 h3
  have hzr : ¬ (r = w1.heap.size) := by omega
  go_wp2_with fail
  refine (PF.out v1 (p1 + 1) _ ((H1.out.box (m + 1)).below ((Below.refl _ _).alloc (Nat.le_refl _) _) (Nat.le_refl _)) rfl).mono ?_
  rintro e w3 ⟨rfl, v2, q1, q2, q3⟩
  have O1 := hide (((H2.out.trans (Only.setCell r 2 _ (.int .i64 (m + 1))) (.inl rfl)).trans (Only.of_below r _ ((Below.refl (w1.setCell ⟨r, 2, none⟩ (.int .i64 (m + 1))).heap.size _).alloc (Nat.le_refl _) (.cells #[.int .i64 p1, .int .i64 p2] 132))) (.inl rfl)).trans q2 H3.out)
  have N1 := hide (H3.out.trans q3 (Nat.le_trans H2.out.size (by simp [World.setCell])))
  have Q1 := hide q1
  clear q1 q2 q3
  go_wp2_with fail
  refine bodyPost_end (results_none rfl _ _ _) rfl ?_
  exact ⟨rfl, v2, by rw [HE.out]; exact Q1.out, O1.out, N1.out⟩

end Go.Proofs.YtdooboibmllfkabGreatDoor

namespace Go.Proofs.YtdooboibmllfkabGreatDoor
set_option maxRecDepth 100000
open Go.RowKit Go.Sort Go.Shelf

def PartsPost (w : World) (s : ByteArray) (ok : Bool) (e : Ending) (w' : World) : Prop :=
  if ok then ∃ u, e = .returned (.tuple #[u, .nilIface]) ∧ PartsV w.heap.size w' u (kRc (rvB s)) else ∃ t, e = .returned (.tuple #[.slice none 0 0, .iface 195 (.string t)])

set_option maxRecDepth 100000 in
set_option maxHeartbeats 4000000 in
theorem partsOfRow_any (s : ByteArray) (w : World) (hs : s.size ≤ maxLen) :
    Calls Tryz.prog 170 #[.string s] w fun e w' => PartsPost w s (highB s) e w' ∧ Below w.heap.size w w' := by
  have CH := hide (fun w => implRowHigh_any s w hs)
  cases hv : vld s
  · have hh : highB s = false := by
      cases h : highB s
      · rfl
      · have := ((levOk_iff s).1 ((highB_iff s).1 h).1).1
        rw [hv] at this; cases this
    rw [hh]
    have C := hide (fun w => readRow_no s w hs hv)
    clear hh hv
    go_enter Tryz.func170, Tryz.ntmps170
    go_wp2_with fail
    refine (C.out w).mono ?_
    rintro e w1 ⟨rfl, rfl⟩
    go_wp2_with fail
    go_ret2
    exact ⟨⟨_, rfl⟩, Below.refl _ _⟩
  · have C := hide (readRow_yes s w hv)
    cases hh : highB s
    · rw [hh] at CH
      clear hh hv
      go_enter Tryz.func170, Tryz.ntmps170
      go_wp2_with fail
      refine C.out.mono ?_
      rintro e w1 ⟨rfl, hb1, hc1, hz1⟩
      have HB1 := hide hb1
      clear hb1 hc1
      go_wp2_with fail
      refine (CH.out w1).mono ?_
      rintro e w2 ⟨rfl, hb2⟩
      have HB2 := hide (HB1.out.trans (hb2.mono HB1.out.size))
      clear hb2
      go_wp2_with fail
      go_ret2
      exact ⟨⟨_, rfl⟩, HB2.out⟩
    · obtain ⟨h1, h2⟩ := (highB_iff s).1 hh
      have h3 := ((levOk_iff s).1 h1).2
      have h120 := vld_le s hv
      rw [hh] at CH
      rw [h3] at C
      have HI := hide h2
      obtain ⟨n, hn⟩ : ∃ n, n = s.size := ⟨_, rfl⟩
      have HN := hide hn
      rw [← hn] at C h120
      have NR := hide (fun (W : World) => newRigged_any [] (.slice none 0 0) 0 W (lo := 0) (by unfold pSorted; exact List.Pairwise.nil) (.inl ⟨_, _, rfl, rfl⟩) (by decide))
      clear hh hv h1 h2 h3 hn hs
      go_enter Tryz.func170, Tryz.ntmps170
      go_wp2_with fail
      refine C.out.mono ?_
      rintro e w1 ⟨rfl, hb1, hc1, hz1⟩
      have HB1 := hide hb1
      have HC1 := hide hc1
      clear hb1 hc1
      go_wp2_with fail
      refine (CH.out w1).mono ?_
      rintro e w2 ⟨rfl, hb2⟩
      have HB2 := hide (HB1.out.trans (hb2.mono HB1.out.size))
      have HC2 := hide (HC1.out.below' hb2 (Nat.le_refl _))
      have hz2 : w.heap.size < w2.heap.size := Nat.lt_of_lt_of_le hz1 hb2.size
      clear hb2
      go_wp2_with fail
      refine (NR.out w2).mono ?_
      rintro e w3 ⟨rfl, v3, hr3, hb3⟩
      have HR3 := hide hr3
      have HB3 := hide hb3
      have HC3 := hide (HC2.out.below' hb3 (Nat.le_refl _))
      clear hr3 hb3
      go_wp2_with fail
      go_loopw [25] (fun i wr => ∃ (k : Nat) (v' : Value), k ≤ n ∧ i = .int .i64 (k : Int) ∧ Hid (RigAt wr w2.heap.size w2.heap.size v' (kRc ((bits s).take k).reverse) (k : Int)) ∧ Hid (Below w2.heap.size w2 wr)) (fun i _ => n - (Go.RowKit.intOf i).toNat)
      case atStart => exact ⟨0, v3, Nat.zero_le _, rfl, HR3, HB3⟩
      case round =>
        obtain ⟨k, v', hk, rfl, HR, HB⟩ := hrel
        by_cases hlt : k < n
        · have hks : k < s.size := by rw [← HN.out]; exact hlt
          obtain ⟨b, hb⟩ : ∃ b, (bits s)[k]? = some b := ⟨_, List.getElem?_eq_getElem (by rw [length_bits]; exact hks)⟩
          have c1 : wr.cell? ⟨w.heap.size, k, none⟩ = some (.bool b) := ((HC2.out.below HB.out hz2) k (.bool b) (by simp [hb])).1
          obtain ⟨p, hp⟩ : ∃ p, p = ((bits s).take k).reverse := ⟨_, rfl⟩
          have hpl : p.length = k := by rw [hp, List.length_reverse, List.length_take, length_bits]; omega
          have hph : kHi p := by rw [hp]; exact kHi_take HI.out k (by rw [length_bits]; omega)
          have HPN : Hid (((bits s).take (k + 1)).reverse = b :: p) := by rw [hp]; exact hide (rc_next hb)
          rw [← hp] at HR
          obtain ⟨r1, _⟩ := rc_in hph (by omega)
          obtain ⟨r2, r3, r4⟩ := (rgIn_iff _).1 ((rgFits_iff _ _).1 r1).1
          have hvl := hide (fun g h => (HR.out.own.lt g h).1)
          have hwr : w2.heap.size ≤ wr.heap.size := HB.out.size
          have i0 : (0 : Int) ≤ (k : Int) := by omega
          have i1 : (k : Int) < (n : Int) := by omega
          cases b
          · have AB := hide (addBox_none w2.heap.size w2.heap.size v' (kRc p) (k : Int) wr HR.out (by omega))
            have HNX : Hid (kRc ((bits s).take (k + 1)).reverse = kRc p) := by show _ = _; rw [HPN.out]; rfl
            clear hb hp hpl hph r1 r2 r3 r4 HPN
            go_wp2_with fail
            refine AB.out.mono ?_
            rintro e w4 ⟨rfl, q1, q2⟩
            have Q1 := hide q1
            have Q2 := hide (HB.out.trans (q2.below (Nat.le_refl _) hvl.out hwr))
            clear q1 q2
            go_wp2
            go_roundw
            case rel => exact ⟨k + 1, v', by omega, by go_num, by rw [HNX.out, show ((k + 1 : Nat) : Int) = (k : Int) + 1 by omega]; exact Q1, Q2⟩
            case measure => simp [Go.RowKit.intOf]; omega
          · have AB := hide (addBox_ball w2.heap.size w2.heap.size v' (kRc p) (k : Int) wr HR.out r3 (by omega) (fun a ha => by have := r2 a ha; omega) (by omega))
            have HNX : Hid (kRc ((bits s).take (k + 1)).reverse = pStep (kRc p) (k : Int)) := by show _ = _; rw [HPN.out, kRc_true, hpl]
            clear hb hp hpl hph r1 r2 r3 r4 HPN
            go_wp2_with fail
            refine AB.out.mono ?_
            rintro e w4 ⟨rfl, v4, q1, q2, _⟩
            have Q1 := hide q1
            have Q2 := hide (HB.out.trans (q2.below (Nat.le_refl _) hvl.out hwr))
            clear q1 q2
            go_wp2
            go_roundw
            case rel => exact ⟨k + 1, v4, by omega, by go_num, by rw [HNX.out, show ((k + 1 : Nat) : Int) = (k : Int) + 1 by omega]; exact Q1, Q2⟩
            case measure => simp [Go.RowKit.intOf]; omega
        · have hkn : k = n := by omega
          have HE : Hid (((bits s).take k).reverse = rvB s) := by
            show _ = _
            unfold rvB
            rw [List.take_of_length_le (by rw [length_bits, ← HN.out]; omega)]
          have c1 := HR.out.items
          have hBB := hide (HB2.out.trans (HB.out.mono (Nat.le_of_lt hz2)))
          go_wp2
          go_ret2
          exact ⟨⟨v', rfl, by rw [← HE.out]; exact (PartsV.of_owns (owns_lo HR.out.own (Nat.le_of_lt hz2)))⟩, hBB.out⟩

set_option maxHeartbeats 1000000 in
theorem implRigOf_any (s : ByteArray) (w : World) (hE : EtAt w) (hs : s.size ≤ maxLen) :
    Calls Tryz.prog 145 #[.string s] w fun e w' => ∃ u, e = .returned (.tuple #[u, .bool (highB s)]) ∧ PartsV w.heap.size w' u (rgOf s) ∧ Below w.heap.size w w' := by
  have HE := hide hE
  have C := hide (partsOfRow_any s w hs)
  cases hok : highB s
  · rw [hok] at C
    have e0 : rgOf s = [] := by unfold rgOf; rw [hok]; rfl
    rw [e0]
    clear hE hok e0
    go_enter Tryz.func145, Tryz.ntmps145
    go_wp2_with fail
    refine C.out.mono ?_
    rintro e w1 ⟨⟨t, rfl⟩, hb1⟩
    have HB1 := hide hb1
    have SO := hide (sound_any false _ w1 (HE.out.below hb1 (Nat.le_refl _)) (fault_mk t))
    clear hb1
    go_wp2_with fail
    refine SO.out.mono ?_
    rintro e w2 ⟨rfl, hb2⟩
    have HB2 := hide hb2
    clear hb2
    go_wp2_with fail
    go_ret2
    exact ⟨_, rfl, .inl ⟨_, _, rfl, rfl⟩, HB1.out.trans (HB2.out.mono HB1.out.size)⟩
  · rw [hok] at C
    have e0 : rgOf s = kRc (rvB s) := by unfold rgOf; rw [hok]; rfl
    rw [e0]
    clear hE hok e0
    go_enter Tryz.func145, Tryz.ntmps145
    go_wp2_with fail
    refine C.out.mono ?_
    rintro e w1 ⟨⟨u, rfl, hp⟩, hb1⟩
    have HB1 := hide hb1
    have HP1 := hide hp
    have SO := hide (sound_any true .nilIface w1 (HE.out.below hb1 (Nat.le_refl _)) rfl)
    clear hb1 hp
    go_wp2_with fail
    refine SO.out.mono ?_
    rintro e w2 ⟨rfl, hb2⟩
    have HB2 := hide hb2
    clear hb2
    go_wp2_with fail
    go_ret2
    exact ⟨_, rfl, HP1.out.below HB2.out (Nat.le_refl _), HB1.out.trans (HB2.out.mono HB1.out.size)⟩
end Go.Proofs.YtdooboibmllfkabGreatDoor
