/- TEXTS IBox, InLaws. -/
import Derived.Test.YtdooboibmllfkaaGreatDoorChecked
import Derived.Test.YtdooboibmllfkaaGreatDoorExa01
import Derived.Test.YtdooboibmllfkaaGreatDoorExa36
import Derived.Test.YtdooboibmllfkaaGreatDoorExa14
import Derived.Maps.AppendAt
import Derived.Deep.RegionWith
import Derived.RegionTactic
import Derived.BigRegion
import Derived.WalkKit
import Derived.OwnWalk
import Derived.OwnWalkIn
import Derived.Laws.CopyOwn
namespace Go.Proofs.YtdooboibmllfkaaGreatDoor
set_option maxRecDepth 100000
open Go.RowKit

def Cl (w : World) (p : Addr) (v : Value) : Prop := w.cell? p = some v ∧ w.frozen? p = false
theorem Cl.below {w w' : World} {p : Addr} {v : Value} {C : Nat} (h : Cl w p v) (hb : Below C w w') (hp : p.block < C) : Cl w' p v :=
  ⟨(hb.cell (p := p) hp).trans h.1, (hb.frozen (p := p) hp).trans h.2⟩
theorem Cl.set {w : World} {p : Addr} {v : Value} (h : Cl w p v) (u : Value) : Cl (w.setCell p u) p u :=
  ⟨World.cell?_setCell_same' _ _ _ (by rw [h.1]; rfl), by rw [World.frozen?_setCell]; exact h.2⟩
theorem Cl.far {w : World} {p : Addr} {v : Value} (h : Cl w p v) {q : Addr} (hq : q ≠ p) (u : Value) : Cl (w.setCell q u) p v :=
  ⟨by rw [World.cell?_setCell_other _ _ _ _ hq]; exact h.1, by rw [World.frozen?_setCell]; exact h.2⟩
theorem addr_ne {B i j : Nat} (h : i ≠ j) : (⟨B, i, none⟩ : Addr) ≠ ⟨B, j, none⟩ := fun e => h (by injection e)

structure BX (w : World) (B n : Nat) (sg : List Bool) (A H : Nat → Option Addr) : Prop where
  len : sg.length = n
  s : ∀ i b, sg[i]? = some b → Cl w ⟨B, i * 3, none⟩ (.bool b)
  a : ∀ i, i < n → Cl w ⟨B, i * 3 + 1, none⟩ (.pointer (A i))
  h : ∀ i, i < n → Cl w ⟨B, i * 3 + 2, none⟩ (.pointer (H i))
def lp (B : Nat) (f : Nat → Nat) : Nat → Option Addr := fun i => some ⟨B, f i * 3, none⟩
def pt (B i : Nat) : Value := .pointer (some ⟨B, i * 3, none⟩)
theorem BX.below {w w' : World} {B n C : Nat} {sg : List Bool} {A H : Nat → Option Addr} (h : BX w B n sg A H) (hb : Below C w w') (hB : B < C) : BX w' B n sg A H :=
  ⟨h.len, fun i b hi => (h.s i b hi).below hb hB, fun i hi => (h.a i hi).below hb hB, fun i hi => (h.h i hi).below hb hB⟩
theorem BX.setS {w : World} {B n : Nat} {sg : List Bool} {A H : Nat → Option Addr} (h : BX w B n sg A H) {i : Nat} (hi : i < n) (b : Bool) : BX (w.setCell ⟨B, i * 3, none⟩ (.bool b)) B n (sg.set i b) A H := by
  refine ⟨by rw [List.length_set]; exact h.len, ?_, fun j hj => (h.a j hj).far (addr_ne (by omega)) _, fun j hj => (h.h j hj).far (addr_ne (by omega)) _⟩
  intro j c hj
  rw [List.getElem?_set] at hj
  by_cases e : i = j
  · subst e
    rw [if_pos rfl, if_pos (by rw [h.len]; exact hi)] at hj
    injection hj with hj
    subst hj
    obtain ⟨x, hx⟩ : ∃ x, sg[i]? = some x := ⟨_, List.getElem?_eq_getElem (by rw [h.len]; exact hi)⟩
    exact (h.s i x hx).set _
  · rw [if_neg e] at hj
    exact (h.s j c hj).far (addr_ne (by omega)) _
theorem BX.setA {w : World} {B n : Nat} {sg : List Bool} {A H : Nat → Option Addr} (h : BX w B n sg A H) {i : Nat} (hi : i < n) (x : Option Addr) : BX (w.setCell ⟨B, i * 3 + 1, none⟩ (.pointer x)) B n sg (upd A i x) H := by
  refine ⟨h.len, fun j b hj => (h.s j b hj).far (addr_ne (by omega)) _, ?_, fun j hj => (h.h j hj).far (addr_ne (by omega)) _⟩
  intro j hj
  by_cases e : j = i
  · subst e
    rw [upd_at]
    exact (h.a j hj).set _
  · rw [upd_ne _ _ e]
    exact (h.a j hj).far (addr_ne (by omega)) _
theorem BX.setH {w : World} {B n : Nat} {sg : List Bool} {A H : Nat → Option Addr} (h : BX w B n sg A H) {i : Nat} (hi : i < n) (x : Option Addr) : BX (w.setCell ⟨B, i * 3 + 2, none⟩ (.pointer x)) B n sg A (upd H i x) := by
  refine ⟨h.len, fun j b hj => (h.s j b hj).far (addr_ne (by omega)) _, fun j hj => (h.a j hj).far (addr_ne (by omega)) _, ?_⟩
  intro j hj
  by_cases e : j = i
  · subst e
    rw [upd_at]
    exact (h.h j hj).set _
  · rw [upd_ne _ _ e]
    exact (h.h j hj).far (addr_ne (by omega)) _
theorem BX.congr {w : World} {B n : Nat} {sg : List Bool} {A H A' H' : Nat → Option Addr} (h : BX w B n sg A H) (ea : ∀ i, i < n → A i = A' i) (eh : ∀ i, i < n → H i = H' i) : BX w B n sg A' H' :=
  ⟨h.len, h.s, fun i hi => by rw [← ea i hi]; exact h.a i hi, fun i hi => by rw [← eh i hi]; exact h.h i hi⟩
theorem upd_lp (B : Nat) (f : Nat → Nat) (i x : Nat) : upd (lp B f) i (some ⟨B, x * 3, none⟩) = lp B (upd f i x) := by
  funext j
  show (if j = i then some ⟨B, x * 3, none⟩ else some ⟨B, f j * 3, none⟩ : Option Addr) = some ⟨B, (if j = i then x else f j) * 3, none⟩
  split <;> rfl
theorem BX.lt {w : World} {B n : Nat} {sg : List Bool} {A H : Nat → Option Addr} (h : BX w B n sg A H) (hn : 0 < n) : B < w.heap.size := World.block_lt_of_cell? w _ (h.a 0 hn).1

structure Ex (B : Nat) (w w' : World) : Prop where
  os : w'.os = w.os
  tape : w'.tape = w.tape
  output : w'.output = w.output
  size : w.heap.size ≤ w'.heap.size
  block : ∀ k, k < w.heap.size → k ≠ B → w'.heap[k]? = w.heap[k]?
theorem Ex.refl (B : Nat) (w : World) : Ex B w w := ⟨rfl, rfl, rfl, Nat.le_refl _, fun _ _ _ => rfl⟩
theorem Ex.trans {B : Nat} {a b c : World} (h : Ex B a b) (k : Ex B b c) : Ex B a c :=
  ⟨k.os.trans h.os, k.tape.trans h.tape, k.output.trans h.output, Nat.le_trans h.size k.size, fun i hi hn => (k.block i (Nat.lt_of_lt_of_le hi h.size) hn).trans (h.block i hi hn)⟩
theorem Ex.of_below {B C : Nat} {w w' : World} (h : Below C w w') (hC : w.heap.size ≤ C) : Ex B w w' := ⟨h.os, h.tape, h.output, h.size, fun k hk _ => h.block k (by omega)⟩
theorem Ex.drew {B : Nat} {a w : World} (h : Ex B a w) : Ex B a w.drew := ⟨h.os, h.tape, h.output, h.size, h.block⟩
theorem Ex.setCell {B : Nat} {a w : World} (h : Ex B a w) (j : Nat) (u : Value) : Ex B a (w.setCell ⟨B, j, none⟩ u) :=
  ⟨h.os, h.tape, h.output, by simpa [World.setCell] using h.size, fun k hk hn => (Below.heap_setCell w ⟨B, j, none⟩ u k hn).trans (h.block k hk hn)⟩
theorem Ex.alloc {B : Nat} {a w : World} (h : Ex B a w) (o : Obj) : Ex B a (w.alloc o) := h.trans (Ex.of_below ((Below.refl w.heap.size w).alloc (Nat.le_refl _) o) (Nat.le_refl _))
theorem Ex.below {B C : Nat} {w w' : World} (h : Ex B w w') (hC : C ≤ B) (hB : B ≤ w.heap.size) : Below C w w' := ⟨h.os, h.tape, h.output, h.size, fun k hk => h.block k (by omega) (by omega)⟩
theorem Ex.cells {B g : Nat} {w w' : World} (h : Ex B w w') (hg : g ≠ B) (hl : g < w.heap.size) {l : List Value} (hc : CellsAt w g l) : CellsAt w' g l := by
  intro j v hv
  obtain ⟨a, b⟩ := hc j v hv
  have e := h.block g hl hg
  exact ⟨(World.cell?_of_block (a := ⟨g, j, none⟩) e).trans a, (World.frozen?_of_block (a := ⟨g, j, none⟩) e).trans b⟩
theorem Ex.owns {B b e size n : Nat} {w w' : World} {v : Value} {xs : List Value} (h : Ex B w w') (hB : B < b) (ho : w.ownsRow b e size v n xs) : w'.ownsRow b e size v n xs := by
  refine ⟨ho.1, ho.2.elim .inl ?_⟩
  rintro ⟨g, cap, cur, h1, h2, h3, h4⟩
  exact .inr ⟨g, cap, cur, h1, h2, (h.block g (Array.getElem?_eq_some_iff.1 h3).1 (by omega)).trans h3, h4⟩
theorem BX.alloc {w : World} {B n : Nat} {sg : List Bool} {A H : Nat → Option Addr} (h : BX w B n sg A H) (hB : B < w.heap.size) (o : Obj) : BX (w.alloc o) B n sg A H := h.below ((Below.refl w.heap.size w).alloc (Nat.le_refl _) o) hB
theorem BX.drew {w : World} {B n : Nat} {sg : List Bool} {A H : Nat → Option Addr} (h : BX w B n sg A H) : BX w.drew B n sg A H := h.below (C := B + 1) ((Below.refl _ _).drew) (by omega)

set_option maxHeartbeats 1000000 in
theorem boxOut_any (B n e : Nat) (sg : List Bool) (A H : Nat → Nat) (w : World) (h : BX w B n sg (lp B A) (lp B H)) (he : e < n) (ha : A e < n) (hh : H e < n) (hne : A e ≠ e) :
    Calls Tryz.prog 203 #[pt B e] w fun o w' => o = .returned (.tuple #[]) ∧ BX w' B n sg (lp B (upd A (H e) (A e))) (lp B (upd H (A e) (H e))) ∧ Ex B w w' := by
  unfold pt
  obtain ⟨a1, f1⟩ := h.a e he
  obtain ⟨a2, f2⟩ := h.h e he
  obtain ⟨a3, f3⟩ := h.h (A e) ha
  obtain ⟨a4, f4⟩ := h.a (H e) hh
  have HF := hide ((h.setH ha (some ⟨B, H e * 3, none⟩)).setA hh (some ⟨B, A e * 3, none⟩))
  rw [upd_lp, upd_lp] at HF
  have HAT := hide (((Ex.refl B w).setCell (A e * 3 + 2) (.pointer (some ⟨B, H e * 3, none⟩))).setCell (H e * 3 + 1) (.pointer (some ⟨B, A e * 3, none⟩)))
  unfold lp at a1 a2 a3 a4
  clear h
  have i1 : ¬ A e * 3 + 2 = e * 3 + 2 := by omega
  have i2 : ¬ A e * 3 + 2 = e * 3 + 1 := by omega
  have i3 : ¬ A e * 3 + 2 = H e * 3 + 1 := by omega
  go_enter Tryz.func203, Tryz.ntmps203
  go_wp2
  go_region
  all_goals go_wp2
  all_goals go_region
  all_goals go_wp2
  all_goals go_end0
  all_goals exact ⟨rfl, HF.out.drew.drew, HAT.out.drew.drew⟩

set_option maxHeartbeats 1000000 in
theorem exchange_any (B n p q : Nat) (sg : List Bool) (A H : Nat → Option Addr) (w : World) (h : BX w B n sg A H) (hp : p < n) (hq : q < n) (hne : p ≠ q) (hB : B < w.heap.size) :
    Calls Tryz.prog 174 #[.agg #[pt B p, pt B q]] w fun o w' => o = .returned (.tuple #[]) ∧ BX w' B n (exc sg (p, q)) A H ∧ Ex B w w' := by
  unfold pt
  obtain ⟨x, hx⟩ : ∃ x, sg[p]? = some x := ⟨_, List.getElem?_eq_getElem (by rw [h.len]; exact hp)⟩
  obtain ⟨y, hy⟩ : ∃ y, sg[q]? = some y := ⟨_, List.getElem?_eq_getElem (by rw [h.len]; exact hq)⟩
  obtain ⟨a1, f1⟩ := h.s p x hx
  obtain ⟨a2, f2⟩ := h.s q y hy
  have HF0 : Hid (BX ((w.setCell ⟨B, p * 3, none⟩ (.bool false)).setCell ⟨B, q * 3, none⟩ (.bool true)) B n (exc sg (p, q)) A H) := (h.setS hp false).setS hq true
  have HAT0 := hide (((Ex.refl B w).setCell (p * 3) (.bool false)).setCell (q * 3) (.bool true))
  clear h hx hy
  have i1 : ¬ p * 3 = q * 3 := by omega
  have i2 : ¬ B = w.heap.size := by omega
  have i3 : ¬ w.heap.size = B := by omega
  go_enter Tryz.func174, Tryz.ntmps174
  go_wp2
  go_end0
  exact ⟨rfl, HF0.out.alloc (by simpa [World.setCell] using hB) _, HAT0.out.alloc _⟩

def lkA (n k : Nat) (A0 : Nat → Option Addr) (B : Nat) : Nat → Option Addr := fun i => if i < k then some ⟨B, lnA n i * 3, none⟩ else A0 i
def lkH (n k : Nat) (H0 : Nat → Option Addr) (B : Nat) : Nat → Option Addr := fun i => if lnH n i < k then some ⟨B, lnH n i * 3, none⟩ else H0 i
theorem link_step {w : World} {B n k : Nat} {sg : List Bool} {A0 H0 : Nat → Option Addr} (h : BX w B n sg (lkA n k A0 B) (lkH n k H0 B)) (hk : k < n) :
    BX ((w.setCell ⟨B, lnA n k * 3 + 2, none⟩ (.pointer (some ⟨B, k * 3, none⟩))).setCell ⟨B, k * 3 + 1, none⟩ (.pointer (some ⟨B, lnA n k * 3, none⟩))) B n sg (lkA n (k + 1) A0 B) (lkH n (k + 1) H0 B) := by
  have hl : lnA n k < n := by unfold lnA; split <;> omega
  refine ((h.setH hl (some ⟨B, k * 3, none⟩)).setA hk (some ⟨B, lnA n k * 3, none⟩)).congr (fun i hi => ?_) (fun i hi => ?_)
  · unfold upd lkA
    by_cases e : i = k
    · rw [if_pos e, if_pos (by omega), e]
    · rw [if_neg e]
      by_cases c : i < k
      · rw [if_pos c, if_pos (by omega)]
      · rw [if_neg c, if_neg (by omega)]
  · unfold upd lkH
    by_cases e : i = lnA n k
    · have e2 : lnH n i = k := by rw [e]; unfold lnH lnA; split <;> split <;> omega
      rw [if_pos e, e2, if_pos (by omega)]
    · rw [if_neg e]
      have e2 : lnH n i ≠ k := by intro e3; apply e; rw [← e3]; unfold lnH lnA; split <;> split <;> omega
      by_cases c : lnH n i < k
      · rw [if_pos c, if_pos (by omega)]
      · rw [if_neg c, if_neg (by omega)]

set_option maxHeartbeats 1000000 in
theorem link_any (B n cap : Nat) (sg : List Bool) (A0 H0 : Nat → Option Addr) (w : World) (hn : 0 < n) (hm : n ≤ 60) (h : BX w B n sg A0 H0) :
    Calls Tryz.prog 201 #[.slice (some ⟨B, 0, none⟩) n cap] w fun o w' => o = .returned (.tuple #[]) ∧ BX w' B n sg (lp B (lnA n)) (lp B (lnH n)) ∧ Ex B w w' := by
  have HX := hide h
  clear h
  go_enter Tryz.func201, Tryz.ntmps201
  go_wp2
  go_loopw [2, 11] (fun lv i wr => ∃ k : Nat, k ≤ n ∧ i = .int .i64 (k : Int) ∧ lv = .pointer (some ⟨B, lnA n k * 3, none⟩) ∧ Hid (BX wr B n sg (lkA n k A0 B) (lkH n k H0 B)) ∧ Hid (Ex B w wr)) (fun _ i _ => n - (Go.RowKit.intOf i).toNat)
  case atStart => exact ⟨0, Nat.zero_le _, rfl, rfl, HX.out.congr (fun i _ => rfl) (fun i _ => rfl), Ex.refl _ _⟩
  case round =>
    obtain ⟨k, hk, rfl, rfl, HB, HW⟩ := hrel
    by_cases hlt : k < n
    · have hl : lnA n k < n := by unfold lnA; split <;> omega
      obtain ⟨a1, f1⟩ := HB.out.h (lnA n k) hl
      obtain ⟨a2, f2⟩ := HB.out.a k hlt
      have HS := hide (link_step HB.out hlt)
      have HAT := hide ((HW.out.setCell (lnA n k * 3 + 2) (.pointer (some ⟨B, k * 3, none⟩))).setCell (k * 3 + 1) (.pointer (some ⟨B, lnA n k * 3, none⟩)))
      have HLN : Hid (lnA n (k + 1) = k) := by show _ = _; unfold lnA; rw [if_neg (by omega)]; omega
      obtain ⟨x, hx⟩ : ∃ x, x = lkH n k H0 B (lnA n k) := ⟨_, rfl⟩
      obtain ⟨y, hy⟩ : ∃ y, y = lkA n k A0 B k := ⟨_, rfl⟩
      rw [← hx] at a1
      rw [← hy] at a2
      clear hx hy
      obtain ⟨pv, hpv⟩ : ∃ pv, pv = lnA n k := ⟨_, rfl⟩
      rw [← hpv] at a1 f1 HS HAT hl ⊢
      clear hpv
      have i0 : (0 : Int) ≤ (k : Int) := by omega
      have i1 : (k : Int) < (n : Int) := by omega
      have i2 : ¬ pv * 3 + 2 = k * 3 + 1 := by omega
      go_wp2
      go_roundw
      case rel => exact ⟨k + 1, by omega, by go_num, by rw [HLN.out], HS, HAT⟩
      case measure => simp [Go.RowKit.intOf]; omega
    · have hkn : k = n := by omega
      subst hkn
      have HF : Hid (BX wr B k sg (lp B (lnA k)) (lp B (lnH k))) := HB.out.congr (fun i hi => if_pos hi) (fun i hi => if_pos (by unfold lnH; split <;> omega))
      go_wp2
      go_end0
      exact ⟨rfl, HF.out, HW.out⟩

theorem infoPtr : (Tryz.prog.info? 167).map (fun i => (i.zero, i.size, i.bytes)) = some (some (.pointer none), 1, 8) := by kernel_rfl
theorem one_pt (B x : Nat) : ∀ u ∈ [pt B x], u.oneCell' = true := by intro u hu; simp at hu; subst hu; rfl
theorem lbs_succ {l : List Bool} {k : Nat} {b : Bool} (h : l[k]? = some b) : lbs l (List.range (k + 1)) = lbs l (List.range k) ++ if b then [k] else [] := by
  unfold lbs
  rw [List.range_succ, List.filter_append]
  congr 1
  have e : bl l k = b := by unfold bl; rw [List.getD_eq_getElem?_getD, h]; rfl
  cases b
  · rw [List.filter_cons_of_neg (by rw [e]; simp)]; rfl
  · rw [List.filter_cons_of_pos e]; rfl
theorem lbs_le (l : List Bool) (k : Nat) : (lbs l (List.range k)).length ≤ k := by
  have := List.length_filter_le (bl l) (List.range k)
  rw [List.length_range] at this
  exact this

set_option maxRecDepth 100000 in
set_option maxHeartbeats 1000000 in
theorem cBalls_any (B n cap : Nat) (sg : List Bool) (A H : Nat → Option Addr) (w : World) (hm : n ≤ 60) (hB : B < w.heap.size) (h : BX w B n sg A H) :
    Calls Tryz.prog 202 #[.slice (some ⟨B, 0, none⟩) n cap] w fun o w' => ∃ v, o = .returned v ∧ w'.ownsRow w.heap.size 167 1 v (lbs sg (List.range n)).length ((lbs sg (List.range n)).map (pt B)) ∧ Below w.heap.size w w' := by
  obtain ⟨i0, hi, hz0, hz1, hz2⟩ := info_parts infoPtr
  have HX := hide h
  clear h
  go_enter Tryz.func202, Tryz.ntmps202
  go_wp2
  go_loopw [3, 7] (fun v i wr => ∃ k : Nat, k ≤ n ∧ i = .int .i64 (k : Int) ∧ Hid (wr.ownsRow w.heap.size 167 1 v (lbs sg (List.range k)).length ((lbs sg (List.range k)).map (pt B))) ∧ Hid (Below w.heap.size w wr) ∧ w.heap.size ≤ wr.heap.size) (fun _ i _ => n - (Go.RowKit.intOf i).toNat)
  case atStart => exact ⟨0, Nat.zero_le _, rfl, World.ownsRow_nil _ _ _ _, Below.refl _ _, Nat.le_refl _⟩
  case round =>
    obtain ⟨k, hk, rfl, HO, HB, hz⟩ := hrel
    by_cases hlt : k < n
    · obtain ⟨b, hb⟩ : ∃ b, sg[k]? = some b := ⟨_, List.getElem?_eq_getElem (by rw [HX.out.len]; exact hlt)⟩
      obtain ⟨a1, f1⟩ := (HX.out.s k b hb).below HB.out (show B < w.heap.size by omega)
      have hle := lbs_le sg k
      have HS := hide (lbs_succ hb)
      have i0' : (0 : Int) ≤ (k : Int) := by omega
      have i1' : (k : Int) < (n : Int) := by omega
      clear hb f1
      cases b
      · go_wp2_with fail
        go_roundw
        case rel => exact ⟨k + 1, by omega, by go_num, by rw [HS.out]; simpa using HO, HB, hz⟩
        case measure => simp [Go.RowKit.intOf]; omega
      · obtain ⟨m, hm2⟩ : ∃ m, m = (lbs sg (List.range k)).length := ⟨_, rfl⟩
        rw [← hm2] at HO hle
        have HM := hide hm2
        clear hm2
        go_wp2_with (at_builtin; refine wpList_append_own _ rfl _ _ 212 rfl w.heap.size 167 i0 (.pointer none) 1 8 Tryz.underlying212 hi hz0 hz1 hz2 rfl (by decide) _ _ _ rfl (HO.out.alloc _) ⟨wr.heap.size, 0, none⟩ 1 1 [pt B k] rfl rfl (cell_one_new _ _ _) (one_pt B k) (by unfold maxLen; omega) (by omega) (by rw [World.size_alloc]; omega) ?_; intro v' w1 hown' hgrow _)
        have hb2 : Below w.heap.size wr w1 := ((Below.refl w.heap.size wr).alloc hz _).grown hgrow (by rw [World.size_alloc]; omega) (fun b e => (HO.out.lt b e).1)
        have hsz := hb2.size
        have HO2 : Hid (w1.ownsRow w.heap.size 167 1 v' (lbs sg (List.range (k + 1))).length ((lbs sg (List.range (k + 1))).map (pt B))) := by
          rw [HS.out, if_pos rfl, List.length_append, List.map_append, ← HM.out]
          exact hown'
        have HB2 := hide (HB.out.trans hb2)
        clear hown' hgrow hb2
        go_roundw
        case rel => exact ⟨k + 1, by omega, by go_num, HO2, HB2, by omega⟩
        case measure => simp [Go.RowKit.intOf]; omega
    · have hkn : k = n := by omega
      subst hkn
      go_wp2_with fail
      go_ret
      exact ⟨_, rfl, HO.out, HB.out⟩

theorem infoByte : (Tryz.prog.info? 5).map (fun i => (i.zero, i.size, i.bytes)) = some (some (.int .u8 0), 1, 1) := by kernel_rfl
def tcV (l : List Bool) (n : Nat) : List Value := (List.range n).map fun j => match l[j]? with | some true => .int .u8 49 | some false => .int .u8 48 | none => .int .u8 0
theorem tcV_length (l : List Bool) (n : Nat) : (tcV l n).length = n := by simp [tcV]
theorem madeByte (n : Nat) : (madeCells (Value.int .u8 0).cells (n * 1)).toList = tcV [] n := by
  rw [Nat.mul_one]
  show (madeCells #[Value.int .u8 0] n).toList = _
  rw [toList_madeCells_one]
  unfold tcV
  apply List.ext_getElem?
  intro j
  by_cases h : j < n <;> simp [h]
theorem tc_step {sg : List Bool} {k n : Nat} {b : Bool} (hb : sg[k]? = some b) : tcV (sg.take (k + 1)) n = (tcV (sg.take k) n).set k (.int .u8 (if b then 49 else 48)) := by
  apply List.ext_getElem?
  intro j
  rw [List.getElem?_set, tcV_length]
  unfold tcV
  have hk : k < sg.length := (List.getElem?_eq_some_iff.1 hb).1
  by_cases hj : j < n
  · rw [List.getElem?_map, List.getElem?_range hj, List.getElem?_map, List.getElem?_range hj]
    simp only [Option.map_some]
    by_cases e : k = j
    · subst e
      rw [if_pos rfl, if_pos hj, List.getElem?_take, if_pos (by omega), hb]
      cases b <;> rfl
    · rw [if_neg e, List.getElem?_take, List.getElem?_take]
      by_cases c : j < k
      · rw [if_pos c, if_pos (by omega)]
      · rw [if_neg c, if_neg (by omega)]
  · rw [List.getElem?_eq_none_iff.2 (by simp; omega)]
    by_cases e : k = j
    · rw [if_pos e, if_neg (by omega)]
    · rw [if_neg e, List.getElem?_eq_none_iff.2 (by simp; omega)]
theorem tc_full {sg : List Bool} {n : Nat} (h : sg.length = n) : tcV sg n = (chC 49 sg).map fun c => .int .u8 (c.toNat : Int) := by
  apply List.ext_getElem?
  intro j
  unfold tcV chC
  by_cases hj : j < n
  · rw [List.getElem?_map, List.getElem?_range hj, List.map_map, List.getElem?_map, List.getElem?_eq_getElem (by omega)]
    simp only [Option.map_some]
    rw [List.getElem?_eq_getElem (by omega)]
    cases sg[j] <;> rfl
  · rw [List.getElem?_eq_none_iff.2 (by simp; omega), List.getElem?_eq_none_iff.2 (by simp; omega)]

set_option maxRecDepth 100000 in
set_option maxHeartbeats 1000000 in
theorem cText_any (B n cap : Nat) (sg : List Bool) (A H : Nat → Option Addr) (w : World) (hm : n ≤ 60) (hB : B < w.heap.size) (h : BX w B n sg A H) :
    Calls Tryz.prog 144 #[.slice (some ⟨B, 0, none⟩) n cap] w fun o w' => o = .returned (.string (ofB sg)) ∧ Below w.heap.size w w' := by
  obtain ⟨i0, hi, hz0, hz1, hz2⟩ := info_parts infoByte
  have HX := hide h
  clear h
  go_enter Tryz.func144, Tryz.ntmps144
  go_wp2_with (at_make; refine wpList_make_full _ rfl _ _ 22 rfl w.heap.size 5 i0 (.int .u8 0) 1 Tryz.underlying22 hi hz0 hz1 _ _ _ _ n rfl rfl rfl rfl ?b2 ?b3 ?b4 ?_; rotate_right; intro w1 hown hgrow)
  case b2 => rw [hz2]; omega
  case b3 => unfold maxLen; omega
  case b4 => exact Nat.le_refl _
  rw [madeByte] at hown
  have hb1 : Below w.heap.size w w1 := (Below.refl _ _).grown hgrow (Nat.le_refl _) (fun k e => by cases e)
  have hz : w.heap.size < w1.heap.size := (hown.lt _ rfl).2
  have HC1 := hide (CellsAt.of_owns hown)
  have HB1 := hide hb1
  clear hown hgrow hb1
  obtain ⟨g, hg⟩ : ∃ g, w.heap.size = g := ⟨_, rfl⟩
  rw [hg] at HB1 hz HC1 hB ⊢
  have HG := hide hg
  clear hg
  go_wp2
  go_loopw [11] (fun i wr => ∃ k : Nat, k ≤ n ∧ i = .int .i64 (k : Int) ∧ Hid (Below g w wr) ∧ g < wr.heap.size ∧ Hid (CellsAt wr g (tcV (sg.take k) n))) (fun i _ => n - (Go.RowKit.intOf i).toNat)
  case atStart => exact ⟨0, Nat.zero_le _, rfl, HB1, hz, by rw [List.take_zero]; exact HC1.out⟩
  case round =>
    obtain ⟨k, hk, rfl, HB, hzr, HC⟩ := hrel
    by_cases hlt : k < n
    · obtain ⟨b, hb⟩ : ∃ b, sg[k]? = some b := ⟨_, List.getElem?_eq_getElem (by rw [HX.out.len]; exact hlt)⟩
      have hx2 := HX.out.below HB.out hB
      obtain ⟨a1, f1⟩ := hx2.s k b hb
      obtain ⟨a2, f2⟩ := hx2.a k hlt
      obtain ⟨a3, f3⟩ := hx2.h k hlt
      obtain ⟨x2, hx2'⟩ : ∃ x, x = A k := ⟨_, rfl⟩
      obtain ⟨x3, hx3'⟩ : ∃ x, x = H k := ⟨_, rfl⟩
      rw [← hx2'] at a2
      rw [← hx3'] at a3
      clear hx2 hx2' hx3'
      obtain ⟨c0, hc0⟩ : ∃ v, (tcV (sg.take k) n)[k]? = some v := ⟨_, List.getElem?_eq_getElem (by rw [tcV_length]; exact hlt)⟩
      obtain ⟨s1, t1⟩ := HC.out k c0 hc0
      have hgl : g < (wr.alloc (.cells #[.bool b, .pointer x2, .pointer x3] 169)).heap.size := by rw [World.size_alloc]; omega
      have HW := hide (tc_step (n := n) hb)
      clear hc0 f1 f2 f3
      have i0 : (0 : Int) ≤ (k : Int) := by omega
      have i1 : (k : Int) < (n : Int) := by omega
      have i2 : ¬ wr.heap.size = g := by omega
      have i3 : ¬ g = wr.heap.size := by omega
      have HC48 := hide (HC.out.set k (by rw [tcV_length]; exact hlt) (.int .u8 48))
      have HB48 := hide (HB.out.setCell (p := ⟨g, k, none⟩) (Nat.le_refl _) (.int .u8 48))
      clear hb
      cases b
      · have HF : Hid (CellsAt (wr.setCell ⟨g, k, none⟩ (.int .u8 48)) g (tcV (sg.take (k + 1)) n)) := by
          show CellsAt _ _ _
          rw [HW.out]; exact HC48.out
        clear HC48 HW
        go_wp2
        go_roundw
        case rel => exact ⟨k + 1, by omega, by go_num, HB48.out.alloc (by simp [World.setCell]; omega) _, by simp [World.setCell]; omega, HF.out.alloc _⟩
        case measure => simp [Go.RowKit.intOf]; omega
      · have HB49 := hide (HB48.out.setCell (p := ⟨g, k, none⟩) (Nat.le_refl _) (.int .u8 49))
        have HF : Hid (CellsAt ((wr.setCell ⟨g, k, none⟩ (.int .u8 48)).setCell ⟨g, k, none⟩ (.int .u8 49)) g (tcV (sg.take (k + 1)) n)) := by
          show CellsAt _ _ _
          have := HC48.out.set k (by rw [List.length_set, tcV_length]; exact hlt) (.int .u8 49)
          rw [List.set_set] at this
          rw [HW.out]; exact this
        clear HC48 HW
        go_wp2
        go_roundw
        case rel => exact ⟨k + 1, by omega, by go_num, HB49.out.alloc (by simp [World.setCell]; omega) _, by simp [World.setCell]; omega, HF.out.alloc _⟩
        case measure => simp [Go.RowKit.intOf]; omega
    · have hkn : k = n := by omega
      subst hkn
      have hcs := HC.out
      rw [List.take_of_length_le (by rw [HX.out.len]; exact Nat.le_refl _), tc_full HX.out.len] at hcs
      have hlen : (chC 49 sg).length = k := by unfold chC; rw [List.length_map]; exact HX.out.len
      have hconv := run_convert_bytes_back (P := Tryz.prog) wr 22 9 5 ⟨g, 0, none⟩ k (chC 49 sg) Tryz.underlying22 Tryz.underlying5 Tryz.underlying9 (fun j hj => by
        rw [Addr.add_lit, Nat.zero_add]
        exact (hcs j _ (by rw [List.getElem?_map, List.getElem?_eq_getElem hj]; rfl)).1)
      rw [hlen] at hconv
      clear hcs hlen
      go_wp2
      go_ret
      have hg := HG.out
      subst hg
      exact ⟨rfl, HB.out⟩
end Go.Proofs.YtdooboibmllfkaaGreatDoor

namespace Go.Proofs.YtdooboibmllfkaaGreatDoor
set_option maxRecDepth 100000
open Go.RowKit

theorem wpListIn_make_full {F : Fence} {f : Nat} {P : Program} (w : World) {ops : Array Oper} {rest : List Oper} {o : Oper} {a : Act} {Q : Exit → Act → World → Prop}
    (hg : o.guard = none) (l c : Operand) (t : TypeId) (hop : o.op = Op.makeSlice t l c)
    (base : Nat) (e : TypeId) (i : TypeInfo) (z : Value) (size : Nat) (h1 : P.underlying t = some (.slice e)) (h2 : P.info? e = some i) (h3 : i.zero = some z) (h4 : i.size = size)
    (kl kc : IntKind) (L C : Int) (n : Nat) (hl : a.eval l = .int kl L) (hc : a.eval c = .int kc C) (hL : L = (n : Int)) (hC : C = (n : Int)) (b2 : i.bytes * n ≤ 281474976710656) (b3 : n ≤ maxLen) (b4 : base ≤ w.heap.size)
    (hK : ∀ w', w'.ownsRow base e size (.slice (some ⟨w.heap.size, 0, none⟩) n n) n (madeCells z.cells (n * size)).toList → w.grownBy w' none → wpListIn F f P ops Q rest (a.put o.dst (.slice (some ⟨w.heap.size, 0, none⟩) n n)) w') :
    wpListIn F f P ops Q (o :: rest) a w := by
  refine wpListIn_plain hg fun K hK' => ?_
  obtain ⟨w', hrun, r1, r2⟩ := run_make_full (P := P) w base t e i z size h1 h2 h3 h4 kl kc n b2 b3 b4
  subst hL
  subst hC
  unfold Oper.wpIn
  refine ⟨?_, ?_⟩
  · simp [Oper.about, hop]
  · rw [Oper.semAt_plain F _ _ (by rw [hop]; intro c hc'; cases hc')]
    simp [execOp, hop, hl, hc, hrun, Result.andThen]
    exact hK' _ _ (hK w' r1 r2)

end Go.Proofs.YtdooboibmllfkaaGreatDoor
