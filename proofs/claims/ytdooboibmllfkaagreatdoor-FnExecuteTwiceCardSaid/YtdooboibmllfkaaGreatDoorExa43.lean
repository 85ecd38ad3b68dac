/- TEXTS Parts8, RngC, SExe6, Cut8. -/
import Derived.Test.YtdooboibmllfkaaGreatDoorExa42
import Derived.Test.YtdooboibmllfkaaGreatDoorExa18
import Derived.Test.YtdooboibmllfkaaGreatDoorExa21
import Derived.Test.YtdooboibmllfkaaGreatDoorExa22
import Derived.RangeFuncNested
import Derived.RangeFuncBound
import Derived.RangeFuncCalls
import Derived.RangeFuncLeaves
import Derived.Shelf.Abstract
import Derived.Shelf.RegionOpen
import Derived.WalkKit
import Derived.OwnWalkIn
import Derived.TacticsInMore
import Derived.LoopNIn
import Derived.LoopIn
import Derived.Test.YtdooboibmllfkaaGreatDoorExa25
import Derived.Test.YtdooboibmllfkaaGreatDoorExa16
import Derived.Test.YtdooboibmllfkaaGreatDoorExa03
import Derived.Test.YtdooboibmllfkaaGreatDoorExa17
namespace Go.Proofs.YtdooboibmllfkaaGreatDoor
set_option maxRecDepth 100000
open Go.RowKit Go.Sort

theorem rgT_take {l : List (Int × Int)} {k : Nat} {p : Int × Int} (h : l[k]? = some p) : (l.take (k + 1)).map rgT = (l.take k).map rgT ++ [rgT p] := by
  rw [List.take_add_one, h, List.map_append]
  rfl

set_option maxRecDepth 100000 in
set_option maxHeartbeats 4000000 in
theorem partsText_any (l : List (Int × Int)) (ok : Bool) {lo : Nat} (v : Value) (w : World) (hE : Env w) (h : PartsV lo w v l) (hl : l.length ≤ 1000) (hx : ∀ p ∈ l, (0 ≤ p.1 ∧ p.1 < 10000000) ∧ 0 ≤ p.2 ∧ p.2 < 10000000) :
    Calls Tryz.prog 122 #[v, .bool ok] w fun e w' => e = .returned (.tuple #[.string (jns (l.map rgT)), .bool ok]) ∧ Below w.heap.size w w' := by
  obtain ⟨i0, hi, hz0, hz1, hz2⟩ := info_parts infoT
  have mixed : Tryz.prog.follows .mixedOrders = true := by kernel_rfl
  obtain ⟨n, hn⟩ : ∃ n, l.length = n := ⟨_, rfl⟩
  obtain ⟨a, c, rfl, hf⟩ := h.form hn
  have HX := hide hx
  have HF := hide hf
  have HN := hide hn
  have HEE := hide hE
  obtain ⟨r, hr⟩ : ∃ r, r = jns (l.map rgT) := ⟨_, rfl⟩
  have HR := hide hr
  rw [hn] at hl
  rw [← hr]
  clear h hf hx hn hE hr
  go_enter Tryz.func122, Tryz.ntmps122
  go_wp2
  go_loopw [6, 11] (fun o i wr => ∃ k : Nat, k ≤ n ∧ i = .int .i64 (k : Int) ∧ Hid (wr.ownsRow w.heap.size 9 1 o k ((((l.take k).map rgT)).map .string)) ∧ Hid (Below w.heap.size w wr) ∧ w.heap.size ≤ wr.heap.size) (fun _ i _ => n - (Go.RowKit.intOf i).toNat)
  case atStart => exact ⟨0, Nat.zero_le _, rfl, World.ownsRow_nil _ _ _ _, Below.refl _ _, Nat.le_refl _⟩
  case round =>
    obtain ⟨k, hk, rfl, HO, HB, hsz⟩ := hrel
    by_cases hlt : k < n
    · obtain ⟨q, rfl, hq0, hqc⟩ := HF.out (by omega)
      obtain ⟨p, hp⟩ : ∃ p, l[k]? = some p := ⟨_, List.getElem?_eq_getElem (by rw [HN.out]; exact hlt)⟩
      obtain ⟨g1, g2⟩ := encZ_get l k p hp
      have hqr := hqc.below' HB.out (Nat.le_refl _)
      have c1 := (hqr _ _ g1).1
      have c2 := (hqr _ _ g2).1
      obtain ⟨⟨y0, y1⟩, y2, y3⟩ := HX.out p (List.mem_of_getElem? hp)
      have CI1 := hide (fun W (hW : Below w.heap.size w W) => itoa_any y0 y1 W (HEE.out.below hW))
      have CI2 := hide (fun W (hW : Below w.heap.size w W) => itoa_any y2 y3 W (HEE.out.below hW))
      have hs1 := (dcI_size p.1).2
      have hs2 := (dcI_size p.2).2
      have HT := hide (rgT_take hp)
      have HE : Hid (rgT p = dcI p.1 ++ colT ++ dcI p.2) := rfl
      obtain ⟨p1, hp1⟩ : ∃ y, y = p.1 := ⟨_, rfl⟩
      obtain ⟨p2, hp2⟩ : ∃ y, y = p.2 := ⟨_, rfl⟩
      rw [← hp1] at c1 CI1 hs1 HE
      rw [← hp2] at c2 CI2 hs2 HE
      obtain ⟨d1, hd1⟩ : ∃ d, d = dcI p1 := ⟨_, rfl⟩
      obtain ⟨d2, hd2⟩ : ∃ d, d = dcI p2 := ⟨_, rfl⟩
      rw [← hd1] at CI1 hs1 HE
      rw [← hd2] at CI2 hs2 HE
      rw [HE.out] at HT
      unfold colT at HT
      have i0' : (0 : Int) ≤ (k : Int) := by omega
      have i1 : (k : Int) < (n : Int) := by omega
      have f1 : ¬ 9223372036854775807 < d1.size + 1 := by omega
      have f2 : ¬ 9223372036854775807 < d1.size + 1 + d2.size := by omega
      clear g1 g2 hqr hp y0 y1 y2 y3 hp1 hp2 hd1 hd2 hq0 hqc hs1 hs2
      go_wp2_with fail
      have hS0 : (wr.alloc (.cells #[.int .i64 p1, .int .i64 p2] 98)).heap.size = wr.heap.size + 1 := World.size_alloc _ _
      have s0 : (wr.alloc (.cells #[.int .i64 p1, .int .i64 p2] 98)).cell? ⟨wr.heap.size, 0, none⟩ = some (.int .i64 p1) := by simp
      have s1 : (wr.alloc (.cells #[.int .i64 p1, .int .i64 p2] 98)).cell? ⟨wr.heap.size, 1, none⟩ = some (.int .i64 p2) := by simp
      have HO0 := hide (HO.out.alloc (.cells #[.int .i64 p1, .int .i64 p2] 98))
      have HB0 := hide (HB.out.alloc hsz (.cells #[.int .i64 p1, .int .i64 p2] 98))
      generalize wr.alloc (.cells #[.int .i64 p1, .int .i64 p2] 98) = W0 at hS0 s0 s1 HO0 HB0 ⊢
      have hsz0 : w.heap.size ≤ W0.heap.size := by omega
      have hlS : wr.heap.size < W0.heap.size := by omega
      have HS0 := hide hS0
      have KEEP := hide (fun (W W' : World) (hG : Grw W W') (hL : wr.heap.size < W.heap.size) (h0 : W.cell? ⟨wr.heap.size, 0, none⟩ = some (.int .i64 p1)) (h1 : W.cell? ⟨wr.heap.size, 1, none⟩ = some (.int .i64 p2)) =>
        (show W'.cell? ⟨wr.heap.size, 0, none⟩ = some (.int .i64 p1) ∧ W'.cell? ⟨wr.heap.size, 1, none⟩ = some (.int .i64 p2) from ⟨(hG.below.cell (p := ⟨wr.heap.size, 0, none⟩) hL).trans h0, (hG.below.cell (p := ⟨wr.heap.size, 1, none⟩) hL).trans h1⟩))
      have OWN := hide (fun (W W' : World) (hG : Grw W W') (h : W.ownsRow w.heap.size 9 1 u6 k ((((l.take k).map rgT)).map .string)) => (h.kept (row := none) ⟨hG.below.os, hG.below.tape, hG.below.output, hG.below.size, fun i hi _ => hG.below.block i hi⟩ (Classical.em _)))
      have HNE : Hid (some wr.heap.size ≠ u6.ownBlock) := by
        intro e
        have := (HO.out.lt _ e.symm).2
        omega
      have kL : k + 1 ≤ maxLen := by unfold maxLen; omega
      have kB : (k + 1) * 16 ≤ 140737488355328 := by omega
      have ALL := hide (fun (W : World) (h : w.heap.size ≤ W.heap.size) => (show w.heap.size ≤ (W.alloc (.cells #[.string (d1 ++ ⟨#[58]⟩ ++ d2)] 9)).heap.size from by rw [World.size_alloc]; omega))
      clear hS0
      go_region_held3 (fun w' => w'.cell? ⟨wr.heap.size, 0, none⟩ = some (.int .i64 p1) ∧ w'.cell? ⟨wr.heap.size, 1, none⟩ = some (.int .i64 p2)) (first | exact ⟨s0, s1⟩ | exact ⟨x0, x1⟩ | exact ⟨y0, y1⟩ | exact ⟨z0, z1⟩ | go_keep | fail) (first | (go_at_call 113; have h := CI1.out W0.drew HB0.out.drew; (with_reducible (refine h.mono ?_)); rintro e w1 ⟨rfl, hg⟩; obtain ⟨x0, x1⟩ := KEEP.out W0.drew w1 hg hlS s0 s1; have HO1 := hide (OWN.out W0.drew w1 hg HO0.out); have HB1 := hide (HB0.out.drew.trans (hg.below.mono hsz0)); have hl1 : wr.heap.size < w1.heap.size := Nat.lt_of_lt_of_le hlS hg.size; have hsz1 : w.heap.size ≤ w1.heap.size := Nat.le_trans hsz0 hg.size; clear h hg) | (go_at_call 113; have h := CI1.out W0 HB0.out; (with_reducible (refine h.mono ?_)); rintro e w1 ⟨rfl, hg⟩; obtain ⟨x0, x1⟩ := KEEP.out W0 w1 hg hlS s0 s1; have HO1 := hide (OWN.out W0 w1 hg HO0.out); have HB1 := hide (HB0.out.trans (hg.below.mono hsz0)); have hl1 : wr.heap.size < w1.heap.size := Nat.lt_of_lt_of_le hlS hg.size; have hsz1 : w.heap.size ≤ w1.heap.size := Nat.le_trans hsz0 hg.size; clear h hg) | (go_at_call 113; have h := CI2.out w1.drew HB1.out.drew; (with_reducible (refine h.mono ?_)); rintro e w2 ⟨rfl, hg⟩; obtain ⟨y0, y1⟩ := KEEP.out w1.drew w2 hg hl1 x0 x1; have HO2 := hide (OWN.out w1.drew w2 hg HO1.out); have HB2 := hide (HB1.out.drew.trans (hg.below.mono hsz1)); have hsz2 : w.heap.size ≤ w2.heap.size := Nat.le_trans hsz1 hg.size; have hl2 : wr.heap.size < w2.heap.size := Nat.lt_of_lt_of_le hl1 hg.size; clear h hg) | (go_at_call 113; have h := CI2.out w1 HB1.out; (with_reducible (refine h.mono ?_)); rintro e w2 ⟨rfl, hg⟩; obtain ⟨y0, y1⟩ := KEEP.out w1 w2 hg hl1 x0 x1; have HO2 := hide (OWN.out w1 w2 hg HO1.out); have HB2 := hide (HB1.out.trans (hg.below.mono hsz1)); have hsz2 : w.heap.size ≤ w2.heap.size := Nat.le_trans hsz1 hg.size; have hl2 : wr.heap.size < w2.heap.size := Nat.lt_of_lt_of_le hl1 hg.size; clear h hg) | (refine step_app (by rfl) (.tmp 15) (.tmp 24) 51 (by rfl) w.heap.size 9 i0 (.string ByteArray.empty) 1 16 Tryz.underlying51 hi hz0 hz1 hz2 rfl (by decide) u6 k _ (by rfl) (HO2.out.alloc (.cells #[.string (d1 ++ ⟨#[58]⟩ ++ d2)] 9)).drew ⟨w2.heap.size, 0, none⟩ 1 1 [.string (d1 ++ ⟨#[58]⟩ ++ d2)] (by rfl) rfl (fun j u h => cell_one_new w2 _ _ j u h) (one_str _) kL kB (ALL.out w2 hsz2) ?_; intro v' w3 hown3 hgrow3 _; have O3 := hide hown3; have B3 := hide (((HB2.out.alloc hsz2 (.cells #[.string (d1 ++ ⟨#[58]⟩ ++ d2)] 9)).drew).grown hgrow3 (ALL.out w2 hsz2) (fun b e => (HO2.out.lt b e).1)); have z0 := hgrow3.cell (a := ⟨wr.heap.size, 0, none⟩) ((World.cell?_alloc_lt w2 _ _ hl2).trans y0) HNE.out; have z1 := hgrow3.cell (a := ⟨wr.heap.size, 1, none⟩) ((World.cell?_alloc_lt w2 _ _ hl2).trans y1) HNE.out; have S3 : w.heap.size ≤ w3.heap.size := Nat.le_trans (ALL.out w2 hsz2) hgrow3.size; clear hown3 hgrow3) | (refine step_app (by rfl) (.tmp 15) (.tmp 24) 51 (by rfl) w.heap.size 9 i0 (.string ByteArray.empty) 1 16 Tryz.underlying51 hi hz0 hz1 hz2 rfl (by decide) u6 k _ (by rfl) (HO2.out.alloc (.cells #[.string (d1 ++ ⟨#[58]⟩ ++ d2)] 9)) ⟨w2.heap.size, 0, none⟩ 1 1 [.string (d1 ++ ⟨#[58]⟩ ++ d2)] (by rfl) rfl (fun j u h => cell_one_new w2 _ _ j u h) (one_str _) kL kB (ALL.out w2 hsz2) ?_; intro v' w3 hown3 hgrow3 _; have O3 := hide hown3; have B3 := hide (((HB2.out.alloc hsz2 (.cells #[.string (d1 ++ ⟨#[58]⟩ ++ d2)] 9))).grown hgrow3 (ALL.out w2 hsz2) (fun b e => (HO2.out.lt b e).1)); have z0 := hgrow3.cell (a := ⟨wr.heap.size, 0, none⟩) ((World.cell?_alloc_lt w2 _ _ hl2).trans y0) HNE.out; have z1 := hgrow3.cell (a := ⟨wr.heap.size, 1, none⟩) ((World.cell?_alloc_lt w2 _ _ hl2).trans y1) HNE.out; have S3 : w.heap.size ≤ w3.heap.size := Nat.le_trans (ALL.out w2 hsz2) hgrow3.size; clear hown3 hgrow3) | fail)
      all_goals (try go_wp2)
      all_goals go_roundw
      case rel => exact ⟨k + 1, by omega, by go_num, (show World.ownsRow _ _ _ _ _ _ _ from by rw [HT.out, List.map_append]; exact O3.out), B3, S3⟩
      case measure => simp [Go.RowKit.intOf]; omega
    · have hkn : k = n := by omega
      have HO1 : Hid (wr.ownsRow w.heap.size 9 1 u6 (l.map rgT).length ((l.map rgT).map .string)) := by
        have := HO.out
        rw [hkn, ← HN.out, List.take_length] at this
        rw [List.length_map]
        exact this
      have CJ := hide (fun W hW => join_any (l.map rgT) _ wr HO1.out (by rw [List.length_map, HN.out]; exact hl) (fun x hx => by
        obtain ⟨y, _, rfl⟩ := List.mem_map.1 hx
        have := rgT_size y
        omega) W hW)
      rw [← HR.out] at CJ
      clear hkn
      go_wp2_with (go_at_call 148; refine (CJ.out _ (Grw.refl _)).mono ?_; rintro e w2 ⟨rfl, hb2⟩)
      go_ret2
      exact ⟨rfl, HB.out.trans (hb2.mono HB.out.size)⟩

set_option maxHeartbeats 1000000 in
theorem rigged_does (b : Nat) (s : ByteArray) (w : World) (hB : BenchAt w b s) (hE : Env w) (hv : vld s = true) : Does 80 #[.pointer (some ⟨b, 0, none⟩)] b (s, jns ((rgOf s).map fun p => dcI p.1 ++ colT ++ dcI p.2), highB s) w := by
  have C := hide (implRigOf_any s w hE.et (by have := vld_le s hv; unfold maxLen; omega))
  have h1 := (rgOf_bd s).2
  have h2 : ∀ p ∈ rgOf s, (0 ≤ p.1 ∧ p.1 < 10000000) ∧ 0 ≤ p.2 ∧ p.2 < 10000000 := by
    by_cases h : highB s = true
    · exact rg_bd h
    · have e0 : rgOf s = [] := by unfold rgOf; rw [if_neg h]
      rw [e0]
      intro p hp
      cases hp
  have CL := hide (fun v w' hb hi => partsText_any (lo := w.heap.size) (rgOf s) (highB s) v w' (hE.below hb) hi (by omega) h2)
  have e1 : (rgOf s).map (fun p => dcI p.1 ++ colT ++ dcI p.2) = (rgOf s).map rgT := rfl
  rw [e1]
  obtain ⟨l, hl⟩ : ∃ l, l = rgOf s := ⟨_, rfl⟩
  obtain ⟨k, hk⟩ : ∃ k, k = highB s := ⟨_, rfl⟩
  rw [← hl, ← hk] at C CL ⊢
  have hc := hB.1
  unfold Does
  clear h1 h2 hl hv e1 hk
  go_enter Tryz.func80, Tryz.ntmps80
  go_wp2_with (first | (go_at_call 123; refine C.out.mono ?_; rintro e w1 ⟨v, rfl, hi, hb1⟩; have HB1 := hide hb1; have HI := hide hi; clear hb1 hi) | (go_at_call 122; refine (CL.out _ _ HB1.out HI.out).mono ?_; rintro e w2 ⟨rfl, hb2⟩; have HB2 := hide hb2; clear hb2))
  go_ret2
  exact ⟨rfl, Turn.of_below hB (HB1.out.trans (HB2.out.mono HB1.out.size))⟩
end Go.Proofs.YtdooboibmllfkaaGreatDoor

namespace Go.Proofs.YtdooboibmllfkaaGreatDoor
set_option maxRecDepth 100000
open Go.RowKit Go.Shelf

structure IterOk (cb : Nat) (J : Nat → World → Prop) : Prop where
  set : ∀ k A x, J k A → J k (A.setCell ⟨cb, 0, none⟩ (.string x))
  drew : ∀ k A, J k A → J k A.drew
structure LoopOk (D cb : Nat) (I : Nat → World → Prop) : Prop where
  it : IterOk cb I
  put : ∀ k A l o o', I k A → D ≤ l → A.heap[l]? = some o → o.isCells = false → I k (A.putObj l o')
  new : ∀ k A o, I k A → I k (A.alloc o)
def SeqAll {α : Type} (F : Fence) (n : Nat) (P : Program) (g : Nat) (lb : Array Value) (encs : α → Array Value) (cb : Nat) (xs : List α) (w : World) : Prop :=
  ∀ (l : Nat) (J : Nat → World → Prop) (W : World), Below w.heap.size w W → IterOk cb J →
    (∀ k x W1, xs[k]? = some x → J k W1 → YieldAt F (n - 1) P l (encs x) W1 fun e W' => e = .returned (.bool true) ∧ J (k + 1) W' ∧ W'.heap[cb]? = W1.heap[cb]?) →
    J 0 W →
    CallsIn F n P g (#[.func (.yield l) #[] #[]] ++ lb) W fun e W' => (∃ v, e = .returned v) ∧ J xs.length W'
def RoundEnds (D cb : Nat) (I : Nat → World → Prop) (k : Nat) (W : World) : Exit → Act → World → Prop
  | .normal, _, W' => KeepsFrom D W W' ∧ W'.heap[cb]? = W.heap[cb]? ∧ I k W'
  | _, _, _ => False

variable {F : Fence} {n : Nat} {P : Program}
theorem wpIn_range_cell {α : Type} {g : Operand} {ps : Array Tmp} {assign body : Code} {Q : Exit → Act → World → Prop} {a : Act} {w : World}
    (hro : F.round = none) (h1 : 1 ≤ n) {gf : Nat} {lb : Array Value} (hg : a.eval g = .func (.func gf) #[] lb) (hFg : F.fn gf) (eg : ∀ args w, (callFunc gf args).run P w = .ok (.enter gf args) w)
    {encs : α → Array Value} {cb : Nat} {xs : List α} (hcb : cb < w.heap.size) (hseq : SeqAll F (n - 1) P gf lb encs cb xs w) (hps : ∀ x, (encs x).size = ps.size)
    (I : Nat → World → Prop) (hI : LoopOk w.heap.size cb I) (h0 : I 0 w) (Ax : α → Act → World → Prop)
    (hassign : ∀ (l : Nat) (x : α) (k : Nat) (W : World) (K : Act → World → Prop), I k W → (∀ a₁ W', KeepsFrom w.heap.size W W' → W'.heap[cb]? = W.heap[cb]? → I k W' → Ax x a₁ W' → K a₁ W') →
      assign.wpIn (F.inRound l) (n - 1 - 1) P (Exit.then K (fun _ _ _ => False)) { tmps := (ps.zip (encs x)).foldl (fun t (p, v) => t.setIfInBounds p v) a.tmps, defers := [] } W)
    (hAx : ∀ x a₁ A l (o o' : Obj), Ax x a₁ A → w.heap.size ≤ l → A.heap[l]? = some o → o.isCells = false → Ax x a₁ (A.putObj l o'))
    (hbody : ∀ (l k : Nat) (x : α) (W : World) (a₁ : Act), xs[k]? = some x → I k W → Ax x a₁ W → body.wpIn (F.inRound l) (n - 1 - 1) P (RoundEnds w.heap.size cb I (k + 1) W) a₁ W)
    (hdone : ∀ (D : Nat) (W : World), w.heap.size ≤ D → I xs.length W → W.heap[D]? = some (.deferred (some [])) → Q .normal { a with defers := { target := .collected D, args := #[] } :: a.defers } W) :
    (Code.rangeFunc g ps assign body).wpIn F n P Q a w := by
  refine wpIn_rangeFunc ?_
  intro fn hfn
  rw [hro]
  obtain ⟨rec, hrec⟩ : ∃ rec : LoopState → Option Code → Loop, rec = fun st pe => { state := st, pending := pe, fn, tmps := a.tmps, params := ps, assign, body, defers := w.heap.size } := ⟨_, rfl⟩
  let D := w.heap.size
  let W1 := (w.alloc (.deferred (some []))).alloc (.loop (rec .ready none))
  have hD1 : W1.heap[D]? = some (.deferred (some [])) := (Below.heap_alloc _ _ _ (by simp [D])).trans (World.alloc_heap_new w _)
  have hL1 : W1.heap[D + 1]? = some (.loop (rec .ready none)) := by
    have := World.alloc_heap_new (w.alloc (.deferred (some []))) (.loop (rec .ready none))
    rwa [World.size_alloc] at this
  have hb1 : Below D w W1 := ((Below.refl _ w).alloc (Nat.le_refl _) _).alloc (by simp) _
  refine ⟨D + 1, [{ target := .collected D, args := #[] }], W1, { target := .fn (.func gf) lb, args := #[.func (.yield (D + 1)) #[] #[]] }, W1, gf, #[.func (.yield (D + 1)) #[] #[]] ++ lb, W1,
    by subst hrec; exact run_enterLoop_outer _ _ _ _ _, by simp only [resolve, hg]; simp [go_sem], (fun f' hf' => by simp [Target.leads] at hf'; subst hf'; exact hFg), by simp [invoke, go_sem, eg], fun _ => h1, ?_⟩
  refine (hseq (D + 1) (fun k W => I k W ∧ W.heap[D + 1]? = some (.loop (rec .ready none)) ∧ W.heap[D]? = some (.deferred (some []))) W1 hb1 ?_ ?_ ⟨hI.new _ _ _ (hI.new _ _ _ h0), hL1, hD1⟩).mono ?_
  · -- the iterator's own steps
    refine ⟨fun k A x ⟨hi, hl, hd⟩ => ⟨hI.it.set k A x hi, ?_, ?_⟩, fun k A ⟨hi, hl, hd⟩ => ⟨hI.it.drew k A hi, hl, hd⟩⟩
    · rw [Below.heap_setCell _ _ _ _ (show D + 1 ≠ cb by omega)]; exact hl
    · rw [Below.heap_setCell _ _ _ _ (show D ≠ cb by omega)]; exact hd
  · -- one round
    rintro k x W hx ⟨hi, hl, hd⟩
    have hlt := (Array.getElem?_eq_some_iff.1 hl).1
    have hy := run_yield (P := P) (args := encs x) hl (by rw [hrec]; exact hps x)
    rw [hrec] at hy
    refine ⟨fn, _, assign, body, hy, roundIn_of_wpIn hfn (hassign _ x k W _ hi ?_)⟩
    intro a₁ W2 hk2 hc2 hi2 hax
    have hl2 := hk2.same _ _ (by omega) hl rfl
    have hd2 := hk2.same _ _ (Nat.le_refl _) hd rfl
    have hlt2 := (Array.getElem?_eq_some_iff.1 hl2).1
    refine ⟨_, run_beginRound hl2 (by rw [hrec]), ?_⟩
    let W3 := W2.putObj (D + 1) (.loop { rec .ready none with state := .busy })
    have hl3 : W3.heap[D + 1]? = some (.loop { rec .ready none with state := .busy }) := World.putObj_heap_same hlt2
    have hd3 : W3.heap[D]? = some (.deferred (some [])) := (World.putObj_heap_other (by omega)).trans hd2
    have hc3 : W3.heap[cb]? = W2.heap[cb]? := World.putObj_heap_other (by omega)
    refine wpIn_mono (hbody _ k x W3 a₁ hx (hI.put _ _ _ _ _ hi2 (Nat.le_succ _) hl2 rfl) (hAx x a₁ W2 (D + 1) _ _ hax (Nat.le_succ _) hl2 rfl)) ?_
    rintro e a3 W4 hp
    cases e with
    | normal =>
      obtain ⟨hk4, hc4, hi4⟩ := hp
      have hl4 := hk4.same _ _ (Nat.le_succ _) hl3 rfl
      have hd4 := hk4.same _ _ (Nat.le_refl _) hd3 rfl
      have hlt4 := (Array.getElem?_eq_some_iff.1 hl4).1
      have he := run_endRound (P := P) none hl4
      rw [hrec] at he
      refine ⟨_, _, he, rfl, ⟨hI.put _ _ _ _ _ hi4 (Nat.le_succ _) hl4 rfl, by rw [hrec]; exact World.putObj_heap_same hlt4, (World.putObj_heap_other (by omega)).trans hd4⟩, ?_⟩
      exact (World.putObj_heap_other (by omega)).trans (hc4.trans (hc3.trans hc2))
    | _ => exact hp.elim
  · -- behind the iterator
    rintro e W2 ⟨⟨v, rfl⟩, hi, hl, hd⟩
    have he := run_endLoop (P := P) hl (by rw [hrec]; simp)
    rw [hrec] at he
    exact ⟨none, _, he, hdone D _ (Nat.le_refl _) (hI.put _ _ _ _ _ hi (Nat.le_succ _) hl rfl) ((World.putObj_heap_other (by omega)).trans hd)⟩
end Go.Proofs.YtdooboibmllfkaaGreatDoor

namespace Go.Proofs.YtdooboibmllfkaaGreatDoor
set_option maxRecDepth 100000
open Go.RowKit

theorem lst_at {x : ByteArray} {k : Nat} (hk : k < x.size) : (lst x)[k]? = some x[k] := lst_get x k hk
theorem atL_end {x : ByteArray} (h : ∀ j, j < x.size → (lst x)[j]? ≠ some 32) : atL (lst x) = x.size := by
  rw [atL_all, lst_size]
  intro hm
  obtain ⟨j, hj⟩ := List.getElem?_of_mem hm
  have := (List.getElem?_eq_some_iff.1 hj).1
  rw [lst_size] at this
  exact h j this hj
theorem atL_stop {x : ByteArray} {k : Nat} (hk : k < x.size) (h : ∀ j, j < k → (lst x)[j]? ≠ some 32) (hs : (lst x)[k]? = some 32) : atL (lst x) = k := by
  have hl : k < (lst x).length := by rw [lst_size]; exact hk
  have e : lst x = (lst x).take k ++ 32 :: (lst x).drop (k + 1) := by
    have h1 : (lst x).drop k = (lst x)[k] :: (lst x).drop (k + 1) := List.drop_eq_getElem_cons hl
    rw [List.getElem?_eq_getElem hl] at hs
    rw [Option.some.inj hs] at h1
    rw [← h1, List.take_append_drop]
  rw [e, atL_word _ (by
    intro hm
    obtain ⟨j, hj⟩ := List.getElem?_of_mem hm
    have h2 := (List.getElem?_eq_some_iff.1 hj).1
    rw [List.length_take] at h2
    rw [List.getElem?_take, if_pos (by omega)] at hj
    exact h j (by omega) hj), List.length_take]
  exact Nat.min_eq_left (by omega)
theorem extract_all (x : ByteArray) : x.extract 0 x.size = x := lst_inj (by rw [lst_extract, List.drop_zero, Nat.sub_zero]; exact List.take_of_length_le (by rw [lst_size]; exact Nat.le_refl _))

set_option maxHeartbeats 2000000 in
theorem specLine_any (s line : ByteArray) (w : World) (hv : vld s = true) (hz : line.size ≤ 600) :
    Calls Tryz.prog 21 #[.string s, .string line] w fun e w' => e = .returned (.tuple #[.string (lineS s line).1, .string (lineS s line).2]) ∧ Below w.heap.size w w' := by
  have hs : s.size ≤ maxLen := by have := vld_le s hv; unfold maxLen; omega
  have HV := hide hv
  have CT := hide (fun w => specRowTurned_any s w hs)
  have CB := hide (fun w => specBare_any s line w hv)
  clear hv hs
  go_enter Tryz.func21, Tryz.ntmps21
  go_wp2
  go_loopw [6] (fun i wr => ∃ k : Nat, k ≤ line.size ∧ i = .int .i64 (k : Int) ∧ Hid (∀ j, j < k → (lst line)[j]? ≠ some 32) ∧ w = wr) (fun i _ => line.size - (Go.RowKit.intOf i).toNat)
  case atStart => exact ⟨0, Nat.zero_le _, rfl, fun j hj => absurd hj (Nat.not_lt_zero j), rfl⟩
  case round =>
    obtain ⟨k, hk, rfl, HK, rfl⟩ := hrel
    by_cases hlt : k < line.size
    · have i0 : (0 : Int) ≤ (k : Int) := by omega
      have i1 : (k : Int) < (line.size : Int) := by omega
      have HL := hide (lst_at hlt)
      by_cases c : (line[k].toNat : Int) = 32
      · have hc32 : line[k] = 32 := by
          apply UInt8.toNat_inj.1
          show line[k].toNat = 32
          omega
        have HA : Hid (atL (lst line) = k) := atL_stop hlt HK.out (by rw [HL.out, hc32])
        have t1 : ((line[k].toNat : Int) == 32) = true := by rw [c]; rfl
        have t2 : ((line[k].toNat : Int) != 32) = false := by rw [c]; rfl
        obtain ⟨wd, hwd⟩ : ∃ wd, wd = line.extract 0 k := ⟨_, rfl⟩
        obtain ⟨rs, hrs⟩ : ∃ rs, rs = line.extract (k + 1) line.size := ⟨_, rfl⟩
        have hrz : rs.size ≤ 600 := by
          rw [hrs, ← lst_size, lst_extract]
          have := List.length_take_le (line.size - (k + 1)) ((lst line).drop (k + 1))
          omega
        have CC := hide (fun w => specChange_any s wd rs w HV.out hrz)
        have CA := hide (fun w => specAsk_any s wd rs w HV.out hrz)
        have HLS : Hid (lineS s line = if (chS s wd rs).2.1 then (if (chS s wd rs).2.2 then ((chS s wd rs).1, okT) else (s, noT)) else (s, askS s wd rs)) := by
          show _ = _
          unfold lineS
          rw [HA.out, if_neg (by omega), ← hwd, ← hrs]
        obtain ⟨nx, hnx⟩ : ∃ x, x = (chS s wd rs).1 := ⟨_, rfl⟩
        obtain ⟨b1, hb1⟩ : ∃ x, x = (chS s wd rs).2.1 := ⟨_, rfl⟩
        obtain ⟨b2, hb2⟩ : ∃ x, x = (chS s wd rs).2.2 := ⟨_, rfl⟩
        obtain ⟨an, han⟩ : ∃ x, x = askS s wd rs := ⟨_, rfl⟩
        rw [← hnx, ← hb1, ← hb2] at CC HLS
        rw [← han] at CA HLS
        have xw : line.extract 0 k = wd := hwd.symm
        have xr : line.extract (k + 1) line.size = rs := hrs.symm
        have hke : ((k : Int) == (line.size : Int)) = false := beq_eq_false_iff_ne.2 (by omega)
        clear c hc32 hwd hrs hnx hb1 hb2 han hrz
        cases b1
        · have HLS2 : Hid (lineS s line = (s, an)) := by show _ = _; rw [HLS.out]; rfl
          clear HLS
          go_wp2_with (first | (go_at_call 33; refine (CC.out _).mono ?_; rintro e w1 ⟨rfl, hb1⟩) | (go_at_call 34; refine (CA.out _).mono ?_; rintro e w2 ⟨rfl, hb2⟩))
          go_ret2
          exact ⟨by rw [HLS2.out]; rfl, hb1.trans (hb2.mono hb1.size)⟩
        · cases b2
          · have HLS2 : Hid (lineS s line = (s, noT)) := by show _ = _; rw [HLS.out]; rfl
            clear HLS
            go_wp2_with (go_at_call 33; refine (CC.out _).mono ?_; rintro e w1 ⟨rfl, hb1⟩)
            go_ret2
            exact ⟨by rw [HLS2.out]; rfl, hb1⟩
          · have HLS2 : Hid (lineS s line = (nx, okT)) := by show _ = _; rw [HLS.out]; rfl
            clear HLS
            go_wp2_with (go_at_call 33; refine (CC.out _).mono ?_; rintro e w1 ⟨rfl, hb1⟩)
            go_ret2
            exact ⟨by rw [HLS2.out]; rfl, hb1⟩
      · have t1 : ((line[k].toNat : Int) == 32) = false := beq_eq_false_iff_ne.2 c
        have t2 : ((line[k].toNat : Int) != 32) = true := by rw [bne, t1]; rfl
        have HK2 : Hid (∀ j, j < k + 1 → (lst line)[j]? ≠ some 32) := by
          intro j hj
          by_cases e : j = k
          · subst e
            rw [HL.out]
            intro h
            injection h with h
            exact c (by rw [h]; rfl)
          · exact HK.out j (by omega)
        clear c
        go_wp2_with fail
        go_roundw
        case rel => exact ⟨k + 1, by omega, by go_num, HK2, trivial⟩
        case measure => simp [Go.RowKit.intOf]; omega
    · have hkn : k = line.size := by omega
      have HA : Hid (atL (lst line) = line.size) := atL_end (fun j hj => HK.out j (by omega))
      have hw : line.extract 0 k = line := by rw [hkn]; exact extract_all line
      have hke : ((k : Int) == (line.size : Int)) = true := by rw [hkn]; simp
      have HKN := hide hkn
      by_cases c : line = wTurned
      · have HLS : Hid (lineS s line = (turnS s, okT)) := by
          show _ = _
          unfold lineS
          rw [if_pos HA.out, if_pos c]
        have hq : (line.toList == [116, 117, 114, 110, 101, 100]) = true := by rw [c, ByteArray.toList_eq]; rfl
        clear hkn c
        go_wp2_with (go_at_call 31; refine (CT.out _).mono ?_; rintro e w1 ⟨rfl, rfl⟩)
        go_ret2
        exact ⟨by rw [HLS.out]; rfl, Below.refl _ _⟩
      · have HLS : Hid (lineS s line = (s, bareS s line)) := by
          show _ = _
          unfold lineS
          rw [if_pos HA.out, if_neg c]
        have hq := word_ne [116, 117, 114, 110, 101, 100] c
        obtain ⟨b, hb⟩ : ∃ b, b = bareS s line := ⟨_, rfl⟩
        rw [← hb] at CB HLS
        clear hkn c hb
        go_wp2_with (go_at_call 32; refine (CB.out _).mono ?_; rintro e w1 ⟨rfl, hb⟩)
        go_ret2
        exact ⟨by rw [HLS.out]; rfl, hb⟩
end Go.Proofs.YtdooboibmllfkaaGreatDoor

namespace Go.Proofs.YtdooboibmllfkaaGreatDoor
set_option maxRecDepth 100000
open Go.RowKit Go.Sort

theorem cut_ix {line : ByteArray} {k : Nat} (h : Lib.indexByte line.data.toList 32 = (k : Int)) : atL (lst line) = k ∧ k < line.size := by
  obtain ⟨h1, h2, h3⟩ := index_some h
  have h4 : k < line.size := by rw [← lst_size]; exact h3
  refine ⟨?_, h4⟩
  have e : lst line = (lst line).take k ++ 32 :: (lst line).drop (k + 1) := h1
  have h5 : 32 ∉ (lst line).take k := h2
  rw [e, atL_word _ h5, List.length_take]
  exact Nat.min_eq_left (Nat.le_of_lt h3)
theorem cut_no {line : ByteArray} (h : Lib.indexByte line.data.toList 32 < 0) : atL (lst line) = line.size := by
  have h5 : 32 ∉ lst line := index_none h
  rw [atL_all h5, lst_size]

set_option maxHeartbeats 1000000 in
theorem liteCut_yes (line : ByteArray) (k : Nat) (w : World) (hz : line.size ≤ 1000) (h : Lib.indexByte line.data.toList 32 = (k : Int)) :
    Calls Tryz.prog 63 #[.string line, .string ⟨#[32]⟩] w fun e w' => e = .returned (.tuple #[.string (line.extract 0 k), .string (line.extract (k + 1) line.size), .bool true]) ∧ Grw w w' := by
  have C := hide (Tryz.stringslite_Index_one line 32 w)
  rw [h] at C
  obtain ⟨_, hk⟩ := cut_ix h
  have g0 : (0 : Int) ≤ (k : Int) := by omega
  have g1 : (k : Int) ≤ (line.size : Int) := by omega
  have g2 : (k : Int) + 1 ≤ (line.size : Int) := by omega
  have g3 : (0 : Int) ≤ (k : Int) + 1 := by omega
  have wk : IntKind.i64.wrap ((k : Int) + 1) = (k : Int) + 1 := by rw [IntKind.wrap_i64]; omega
  have mixed : Tryz.prog.follows .mixedOrders = true := by kernel_rfl
  clear h
  go_enter Tryz.func63, Tryz.ntmps63
  go_wp2_with (go_at_call 99; refine C.out.mono ?_; rintro e w' ⟨rfl, rfl⟩)
  go_region
  all_goals (try go_wp2)
  all_goals (try go_ret3)
  all_goals exact ⟨rfl, by first | exact Grw.refl _ | exact Grw.drew _ | exact (Grw.drew _).trans (Grw.drew _) | exact ((Grw.drew _).trans (Grw.drew _)).trans (Grw.drew _)⟩

set_option maxHeartbeats 1000000 in
theorem liteCut_no (line : ByteArray) (w : World) (h : Lib.indexByte line.data.toList 32 < 0) :
    Calls Tryz.prog 63 #[.string line, .string ⟨#[32]⟩] w fun e w' => e = .returned (.tuple #[.string line, .string ⟨#[]⟩, .bool false]) ∧ w' = w := by
  have C := hide (Tryz.stringslite_Index_one line 32 w)
  obtain ⟨x, hx⟩ : ∃ x, x = Lib.indexByte line.data.toList 32 := ⟨_, rfl⟩
  rw [← hx] at C h
  have g0 : ¬ (0 : Int) ≤ x := by omega
  clear h hx
  go_enter Tryz.func63, Tryz.ntmps63
  go_wp2_with (go_at_call 99; refine C.out.mono ?_; rintro e w' ⟨rfl, rfl⟩)
  go_ret3
  exact ⟨rfl, rfl⟩

theorem cut_yes (line : ByteArray) (w : World) (hz : line.size ≤ 1000) (h : ¬ atL (lst line) = line.size) :
    Calls Tryz.prog 39 #[.string line, .string ⟨#[32]⟩] w fun e w' => e = .returned (.tuple #[.string (line.extract 0 (atL (lst line))), .string (line.extract (atL (lst line) + 1) line.size), .bool true]) ∧ Grw w w' := by
  have hx : ∃ k : Nat, Lib.indexByte line.data.toList 32 = (k : Int) := by
    rcases Int.lt_or_le (Lib.indexByte line.data.toList 32) 0 with h1 | h1
    · exact absurd (cut_no h1) h
    · exact ⟨(Lib.indexByte line.data.toList 32).toNat, by omega⟩
  obtain ⟨k, hk⟩ := hx
  have C := hide (liteCut_yes line k w hz hk)
  rw [(cut_ix hk).1]
  clear hk h
  go_enter Tryz.func39, Tryz.ntmps39
  go_wp2_with (go_at_call 63; refine C.out.mono ?_; rintro e w' ⟨rfl, hg⟩)
  go_ret3
  exact ⟨rfl, hg⟩
theorem cut_none (line : ByteArray) (w : World) (h : atL (lst line) = line.size) :
    Calls Tryz.prog 39 #[.string line, .string ⟨#[32]⟩] w fun e w' => e = .returned (.tuple #[.string line, .string ⟨#[]⟩, .bool false]) ∧ w' = w := by
  have hx : Lib.indexByte line.data.toList 32 < 0 := by
    rcases Int.lt_or_le (Lib.indexByte line.data.toList 32) 0 with h1 | h1
    · exact h1
    · have := cut_ix (line := line) (k := (Lib.indexByte line.data.toList 32).toNat) (by omega)
      omega
  have C := hide (liteCut_no line w hx)
  clear hx h
  go_enter Tryz.func39, Tryz.ntmps39
  go_wp2_with (go_at_call 63; refine C.out.mono ?_; rintro e w' ⟨rfl, rfl⟩)
  go_ret3
  exact ⟨rfl, rfl⟩

attribute [local go_sem] Oper.semAt_some
theorem lines_in (F : Fence) (n : Nat) (hf : F.fn 15) (hro : F.round = none) (s : ByteArray) (w : World) :
    CallsIn F n Tryz.prog 15 #[.string s] w fun e w' => e = .returned (.func (.func 25) #[] #[.pointer (some ⟨w.heap.size, 0, none⟩)]) ∧ w' = w.alloc (.cells #[.string s] 9) := by
  refine callsIn_of_wp Tryz.func15 rfl hf ?_ hro
  simp only [Tryz.ntmps15, List.size_toArray, List.length_cons, List.length_nil, Nat.reduceAdd, Nat.reduceSub, Array.replicate_succ, Array.replicate_zero, List.push_toArray, List.append_toArray, List.nil_append, List.cons_append]
  gi_wp2
  go_ret
  exact ⟨rfl, rfl⟩
end Go.Proofs.YtdooboibmllfkaaGreatDoor
