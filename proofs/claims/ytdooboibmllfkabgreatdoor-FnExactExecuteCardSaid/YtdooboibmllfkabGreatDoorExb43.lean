/- TEXTS Bench8, Parts8. -/
import Derived.Test.YtdooboibmllfkabGreatDoorExb25
import Derived.Test.YtdooboibmllfkabGreatDoorExb26
import Derived.Test.YtdooboibmllfkabGreatDoorExb30
import Derived.Test.YtdooboibmllfkabGreatDoorExb31
import Derived.Test.YtdooboibmllfkabGreatDoorExb32
import Derived.Test.YtdooboibmllfkabGreatDoorExb35
import Derived.Test.YtdooboibmllfkabGreatDoorExb39
import Derived.Test.YtdooboibmllfkabGreatDoorExb42
import Derived.Test.YtdooboibmllfkabGreatDoorExb18
import Derived.Test.YtdooboibmllfkabGreatDoorExb21
import Derived.Test.YtdooboibmllfkabGreatDoorExb22
namespace Go.Proofs.YtdooboibmllfkabGreatDoor
set_option maxRecDepth 100000
open Go.RowKit Go.Sort

def BenchAt (w : World) (b : Nat) (s : ByteArray) : Prop := w.cell? ⟨b, 0, none⟩ = some (.string s) ∧ w.frozen? ⟨b, 0, none⟩ = false
theorem BenchAt.lt {w : World} {b : Nat} {s : ByteArray} (h : BenchAt w b s) : b < w.heap.size := World.block_lt_of_cell? w _ h.1
theorem BenchAt.below {w w' : World} {b : Nat} {s : ByteArray} (h : BenchAt w b s) (hb : Below w.heap.size w w') : BenchAt w' b s :=
  ⟨(hb.cell (p := ⟨b, 0, none⟩) h.lt).trans h.1, (World.frozen?_of_block (a := ⟨b, 0, none⟩) (hb.block _ h.lt)).trans h.2⟩
theorem grown_of_below {w w' : World} (hb : Below w.heap.size w w') (r : Option Nat) : w.grownBy w' r := ⟨hb.os, hb.tape, hb.output, hb.size, fun k hk _ => hb.block k hk⟩
structure Turn (b : Nat) (s : ByteArray) (w w' : World) : Prop where
  bench : BenchAt w' b s
  kept : w.grownBy w' (some b)
theorem Turn.of_below {b : Nat} {s : ByteArray} {w w' : World} (h : BenchAt w b s) (hb : Below w.heap.size w w') : Turn b s w w' := ⟨h.below hb, grown_of_below hb _⟩
theorem Turn.after {b : Nat} {s : ByteArray} {w w1 w2 : World} (hb : Below w.heap.size w w1) (h : Turn b s w1 w2) : Turn b s w w2 := ⟨h.bench, (grown_of_below hb _).trans h.kept⟩
theorem Turn.store {b : Nat} {s : ByteArray} {w : World} (h : BenchAt w b s) (x : ByteArray) : Turn b x w (w.setCell ⟨b, 0, none⟩ (.string x)) :=
  ⟨⟨World.cell?_setCell_same' _ _ _ (by rw [h.1]; rfl), by rw [World.frozen?_setCell]; exact h.2⟩,
    ⟨rfl, rfl, rfl, by simp [World.setCell], fun k _ hk => Below.heap_setCell _ _ _ _ (fun e => hk (by rw [e]))⟩⟩
theorem Turn.drew {b : Nat} {s : ByteArray} {w w' : World} (h : Turn b s w w') : Turn b s w w'.drew := ⟨h.bench, ⟨h.kept.os, h.kept.tape, h.kept.output, h.kept.size, h.kept.block⟩⟩
theorem becS_ok (s x : ByteArray) (b : Bool) : (becS s x b).2.2 = b := by cases b <;> rfl

set_option maxHeartbeats 1000000 in
theorem become_any (b : Nat) (s x : ByteArray) (ok : Bool) (w : World) (h : BenchAt w b s) :
    Calls Tryz.prog 126 #[.pointer (some ⟨b, 0, none⟩), .string x, .bool ok] w fun e w' => e = .returned (.tuple #[.string (becS s x ok).2.1, .bool ok]) ∧ Turn b (becS s x ok).1 w w' := by
  have hc := h.1
  have hz := h.2
  cases ok
  · go_enter Tryz.func126, Tryz.ntmps126
    go_wp2
    go_ret2
    exact ⟨rfl, Turn.of_below h (Below.refl _ _)⟩
  · have T := hide (Turn.store h x)
    clear h
    go_enter Tryz.func126, Tryz.ntmps126
    go_wp2
    go_ret2
    exact ⟨rfl, T.out⟩

def Does (f : Nat) (args : Array Value) (b : Nat) (r : ByteArray × ByteArray × Bool) (w : World) : Prop :=
  Calls Tryz.prog f args w fun e w' => e = .returned (.tuple #[.string r.2.1, .bool r.2.2]) ∧ Turn b r.1 w w'

section
variable (b : Nat) (s r : ByteArray) (w : World)
set_option maxHeartbeats 1000000 in
theorem set_does (hB : BenchAt w b s) (hr : r.size ≤ 1000) : Does 95 #[.pointer (some ⟨b, 0, none⟩), .string r] b (becS s (if vld r then tidyS r else ByteArray.empty) (vld r)) w := by
  have C := hide (implRowTidy_any r w (by unfold maxLen; omega))
  obtain ⟨x, hx⟩ : ∃ x, x = (if vld r then tidyS r else ByteArray.empty) := ⟨_, rfl⟩
  obtain ⟨k, hk⟩ : ∃ k, k = vld r := ⟨_, rfl⟩
  rw [← hx, ← hk] at C ⊢
  unfold Does
  rw [becS_ok]
  clear hx hk
  go_enter Tryz.func95, Tryz.ntmps95
  go_wp2_with (first | (go_at_call 127; refine C.out.mono ?_; rintro e w1 ⟨rfl, hb1⟩; have D := hide (become_any b s x k w1 (hB.below hb1)); have HB1 := hide hb1; clear hb1) | (go_at_call 126; refine D.out.mono ?_; rintro e w2 ⟨rfl, ht2⟩; have HT := hide ht2; clear ht2))
  go_ret2
  exact ⟨rfl, Turn.after HB1.out HT.out⟩
set_option maxHeartbeats 1000000 in
theorem turned_does (hB : BenchAt w b s) (hv : vld s = true) : Does 103 #[.pointer (some ⟨b, 0, none⟩)] b (turnS s, okB, true) w := by
  have C := hide (implRowTurned_any s w (by have := vld_le s hv; unfold maxLen; omega))
  rw [hv] at C
  obtain ⟨x, hx⟩ : ∃ x, x = turnS s := ⟨_, rfl⟩
  rw [← hx] at C ⊢
  have hc := hB.1
  unfold Does
  clear hx hv
  go_enter Tryz.func103, Tryz.ntmps103
  go_wp2_with (first | (go_at_call 136; refine C.out.mono ?_; rintro e w1 ⟨rfl, hb1⟩; have D := hide (become_any b s x true w1 (hB.below hb1)); have HB1 := hide hb1; clear hb1) | (go_at_call 126; refine D.out.mono ?_; rintro e w2 ⟨rfl, ht2⟩; have HT := hide ht2; clear ht2))
  go_ret2
  exact ⟨rfl, Turn.after HB1.out HT.out⟩
set_option maxHeartbeats 2000000 in
theorem shift_does (hB : BenchAt w b s) (hE : Env w) (hv : vld s = true) (hr : r.size ≤ 1000) : Does 97 #[.pointer (some ⟨b, 0, none⟩), .string r] b (becS s (shS s (numI r)) (shOk s (numI r))) w := by
  have mixed : Tryz.prog.follows .mixedOrders = true := by kernel_rfl
  have CN := hide (fun W (hW : Below w.heap.size w W) => (readNumber_any r W (hE.below hW) hr).mono (R' := fun e w' => e = .returned (.int .i64 (numI r)) ∧ Below w.heap.size w w') (fun e w' h => ⟨h.1, hW.trans (h.2.mono hW.size)⟩))
  have hwf := wf_num r
  obtain ⟨n, hn⟩ : ∃ n, n = numI r := ⟨_, rfl⟩
  rw [← hn] at CN hwf ⊢
  have C := hide (fun W (hW : Below w.heap.size w W) => (implRowShift_any s n W (by have := vld_le s hv; unfold maxLen; omega) hwf).mono (R' := fun e w' => e = .returned (.tuple #[.string (shS s n), .bool (shOk s n)]) ∧ Below w.heap.size w w') (fun e w' h => ⟨h.1, hW.trans (h.2.mono hW.size)⟩))
  obtain ⟨x, hx⟩ : ∃ x, x = shS s n := ⟨_, rfl⟩
  obtain ⟨k, hk⟩ : ∃ k, k = shOk s n := ⟨_, rfl⟩
  rw [← hx, ← hk] at C ⊢
  have D := hide (fun W (hW : Below w.heap.size w W) => (become_any b s x k W (hB.below hW)).mono (R' := fun e w' => e = .returned (.tuple #[.string (becS s x k).2.1, .bool k]) ∧ Turn b (becS s x k).1 w w') (fun e w' h => ⟨h.1, Turn.after hW h.2⟩))
  have HB := hide hB
  have hc := hB.1
  unfold Does
  rw [becS_ok]
  clear hx hk hn hv hB hwf hE
  go_enter Tryz.func97, Tryz.ntmps97
  go_wp2_with fail
  go_region_with (first | (go_at_call 131; refine (CN.out _ (by first | exact HB2.out.drew | exact HB2.out | exact HB1.out.drew | exact HB1.out | exact HB1.out.drew.drew | exact Below.refl _ _ | exact (Below.refl _ _).drew | exact (Below.refl _ _).drew.drew)).mono ?_; rintro e w1 ⟨rfl, hb1⟩; have HB1 := hide hb1; have hc1 := (HB.out.below hb1).1; clear hb1) | (go_at_call 130; refine (C.out _ (by first | exact HB2.out.drew | exact HB2.out | exact HB1.out.drew | exact HB1.out | exact HB1.out.drew.drew | exact Below.refl _ _ | exact (Below.refl _ _).drew | exact (Below.refl _ _).drew.drew)).mono ?_; rintro e w2 ⟨rfl, hb2⟩; have HB2 := hide hb2; clear hb2) | (go_at_call 126; refine (D.out _ (by first | exact HB2.out.drew | exact HB2.out | exact HB1.out.drew | exact HB1.out | exact HB1.out.drew.drew | exact Below.refl _ _ | exact (Below.refl _ _).drew | exact (Below.refl _ _).drew.drew)).mono ?_; rintro e w3 ⟨rfl, ht3⟩; have HT := hide ht3; clear ht3) | fail)
  all_goals (try go_wp2)
  all_goals go_ret2
  all_goals (first | exact ⟨rfl, HT.out⟩ | exact ⟨rfl, HT.out.drew⟩ | exact ⟨rfl, HT.out.drew.drew⟩)
set_option maxHeartbeats 2000000 in
theorem step_does (hB : BenchAt w b s) (hE : Env w) (hv : vld s = true) (hr : r.size ≤ 1000) : Does 98 #[.pointer (some ⟨b, 0, none⟩), .string r] b (becS s (stS s (numI r)) (stOk s (numI r))) w := by
  have mixed : Tryz.prog.follows .mixedOrders = true := by kernel_rfl
  have CN := hide (fun W (hW : Below w.heap.size w W) => (readNumber_any r W (hE.below hW) hr).mono (R' := fun e w' => e = .returned (.int .i64 (numI r)) ∧ Below w.heap.size w w') (fun e w' h => ⟨h.1, hW.trans (h.2.mono hW.size)⟩))
  have hwf := wf_num r
  obtain ⟨n, hn⟩ : ∃ n, n = numI r := ⟨_, rfl⟩
  rw [← hn] at CN hwf ⊢
  have C := hide (fun W (hW : Below w.heap.size w W) => (implStepOf_any s n W (by have := vld_le s hv; unfold maxLen; omega)).mono (R' := fun e w' => e = .returned (.tuple #[.string (stS s n), .bool (stOk s n)]) ∧ Below w.heap.size w w') (fun e w' h => ⟨h.1, hW.trans (h.2.mono hW.size)⟩))
  obtain ⟨x, hx⟩ : ∃ x, x = stS s n := ⟨_, rfl⟩
  obtain ⟨k, hk⟩ : ∃ k, k = stOk s n := ⟨_, rfl⟩
  rw [← hx, ← hk] at C ⊢
  have D := hide (fun W (hW : Below w.heap.size w W) => (become_any b s x k W (hB.below hW)).mono (R' := fun e w' => e = .returned (.tuple #[.string (becS s x k).2.1, .bool k]) ∧ Turn b (becS s x k).1 w w') (fun e w' h => ⟨h.1, Turn.after hW h.2⟩))
  have HB := hide hB
  have hc := hB.1
  unfold Does
  rw [becS_ok]
  clear hx hk hn hv hB hwf hE
  go_enter Tryz.func98, Tryz.ntmps98
  go_wp2_with fail
  go_region_with (first | (go_at_call 131; refine (CN.out _ (by first | exact HB2.out.drew | exact HB2.out | exact HB1.out.drew | exact HB1.out | exact HB1.out.drew.drew | exact Below.refl _ _ | exact (Below.refl _ _).drew | exact (Below.refl _ _).drew.drew)).mono ?_; rintro e w1 ⟨rfl, hb1⟩; have HB1 := hide hb1; have hc1 := (HB.out.below hb1).1; clear hb1) | (go_at_call 7; refine (C.out _ (by first | exact HB2.out.drew | exact HB2.out | exact HB1.out.drew | exact HB1.out | exact HB1.out.drew.drew | exact Below.refl _ _ | exact (Below.refl _ _).drew | exact (Below.refl _ _).drew.drew)).mono ?_; rintro e w2 ⟨rfl, hb2⟩; have HB2 := hide hb2; clear hb2) | (go_at_call 126; refine (D.out _ (by first | exact HB2.out.drew | exact HB2.out | exact HB1.out.drew | exact HB1.out | exact HB1.out.drew.drew | exact Below.refl _ _ | exact (Below.refl _ _).drew | exact (Below.refl _ _).drew.drew)).mono ?_; rintro e w3 ⟨rfl, ht3⟩; have HT := hide ht3; clear ht3) | fail)
  all_goals (try go_wp2)
  all_goals go_ret2
  all_goals (first | exact ⟨rfl, HT.out⟩ | exact ⟨rfl, HT.out.drew⟩ | exact ⟨rfl, HT.out.drew.drew⟩)
set_option maxHeartbeats 2000000 in
theorem back_does (hB : BenchAt w b s) (hE : Env w) (hv : vld s = true) (hr : r.size ≤ 1000) : Does 99 #[.pointer (some ⟨b, 0, none⟩), .string r] b (becS s (bkS s (numI r)) (bkOk s (numI r))) w := by
  have mixed : Tryz.prog.follows .mixedOrders = true := by kernel_rfl
  have CN := hide (fun W (hW : Below w.heap.size w W) => (readNumber_any r W (hE.below hW) hr).mono (R' := fun e w' => e = .returned (.int .i64 (numI r)) ∧ Below w.heap.size w w') (fun e w' h => ⟨h.1, hW.trans (h.2.mono hW.size)⟩))
  have hwf := wf_num r
  obtain ⟨n, hn⟩ : ∃ n, n = numI r := ⟨_, rfl⟩
  rw [← hn] at CN hwf ⊢
  have C := hide (fun W (hW : Below w.heap.size w W) => (implStepBack_any s n W (by have := vld_le s hv; unfold maxLen; omega)).mono (R' := fun e w' => e = .returned (.tuple #[.string (bkS s n), .bool (bkOk s n)]) ∧ Below w.heap.size w w') (fun e w' h => ⟨h.1, hW.trans (h.2.mono hW.size)⟩))
  obtain ⟨x, hx⟩ : ∃ x, x = bkS s n := ⟨_, rfl⟩
  obtain ⟨k, hk⟩ : ∃ k, k = bkOk s n := ⟨_, rfl⟩
  rw [← hx, ← hk] at C ⊢
  have D := hide (fun W (hW : Below w.heap.size w W) => (become_any b s x k W (hB.below hW)).mono (R' := fun e w' => e = .returned (.tuple #[.string (becS s x k).2.1, .bool k]) ∧ Turn b (becS s x k).1 w w') (fun e w' h => ⟨h.1, Turn.after hW h.2⟩))
  have HB := hide hB
  have hc := hB.1
  unfold Does
  rw [becS_ok]
  clear hx hk hn hv hB hwf hE
  go_enter Tryz.func99, Tryz.ntmps99
  go_wp2_with fail
  go_region_with (first | (go_at_call 131; refine (CN.out _ (by first | exact HB2.out.drew | exact HB2.out | exact HB1.out.drew | exact HB1.out | exact HB1.out.drew.drew | exact Below.refl _ _ | exact (Below.refl _ _).drew | exact (Below.refl _ _).drew.drew)).mono ?_; rintro e w1 ⟨rfl, hb1⟩; have HB1 := hide hb1; have hc1 := (HB.out.below hb1).1; clear hb1) | (go_at_call 132; refine (C.out _ (by first | exact HB2.out.drew | exact HB2.out | exact HB1.out.drew | exact HB1.out | exact HB1.out.drew.drew | exact Below.refl _ _ | exact (Below.refl _ _).drew | exact (Below.refl _ _).drew.drew)).mono ?_; rintro e w2 ⟨rfl, hb2⟩; have HB2 := hide hb2; clear hb2) | (go_at_call 126; refine (D.out _ (by first | exact HB2.out.drew | exact HB2.out | exact HB1.out.drew | exact HB1.out | exact HB1.out.drew.drew | exact Below.refl _ _ | exact (Below.refl _ _).drew | exact (Below.refl _ _).drew.drew)).mono ?_; rintro e w3 ⟨rfl, ht3⟩; have HT := hide ht3; clear ht3) | fail)
  all_goals (try go_wp2)
  all_goals go_ret2
  all_goals (first | exact ⟨rfl, HT.out⟩ | exact ⟨rfl, HT.out.drew⟩ | exact ⟨rfl, HT.out.drew.drew⟩)
set_option maxHeartbeats 1000000 in
theorem sizes_does (hB : BenchAt w b s) (hr : r.size ≤ 600) : Does 96 #[.pointer (some ⟨b, 0, none⟩), .string r] b (becS s (szS r).1 (szS r).2) w := by
  have CN := hide (readSizes_any r w hr)
  have HB := hide hB
  clear hB
  unfold Does
  rw [becS_ok]
  go_enter Tryz.func96, Tryz.ntmps96
  go_wp2_with fail
  refine CN.out.mono ?_
  rintro e w1 ⟨v, ok, rfl, hp, hb1⟩
  have HB1 := hide hb1
  clear hb1 CN
  cases ok
  · have HE : Hid (szS r = (ByteArray.empty, false)) := hp
    clear hp
    go_wp2
    go_ret2
    exact ⟨by rw [HE.out]; rfl, by rw [HE.out]; exact Turn.of_below HB.out HB1.out⟩
  · obtain ⟨x, l, hl, hlen, hi⟩ := hp
    have HE : Hid (szS r = (swS (x :: l), swO (x :: l))) := by show _ = _; unfold szS; rw [hl]
    have C := hide (implShapeRow_any v (x :: l) w1 (by omega) hi)
    obtain ⟨y, hy⟩ : ∃ y, y = swS (x :: l) := ⟨_, rfl⟩
    obtain ⟨k, hk⟩ : ∃ k, k = swO (x :: l) := ⟨_, rfl⟩
    rw [← hy, ← hk] at C HE
    clear hl hlen hi hy hk
    go_wp2_with (first | (go_at_call 129; refine C.out.mono ?_; rintro e w2 ⟨rfl, hb2⟩; have HB2 := hide (HB1.out.trans (hb2.mono HB1.out.size)); have D := hide (become_any b s y k w2 (HB.out.below HB2.out)); clear hb2) | (go_at_call 126; refine D.out.mono ?_; rintro e w3 ⟨rfl, ht3⟩; have HT := hide ht3; clear ht3))
    go_ret2
    exact ⟨by rw [HE.out]; rfl, by rw [HE.out]; exact Turn.after HB2.out HT.out⟩
set_option maxHeartbeats 1000000 in
theorem show_does (hB : BenchAt w b s) : Does 104 #[.pointer (some ⟨b, 0, none⟩)] b (s, rowS s, true) w := by
  have C := hide (rowText_any s w)
  have hc := hB.1
  unfold Does
  go_enter Tryz.func104, Tryz.ntmps104
  go_wp2_with (go_at_call 30; refine C.out.mono ?_; rintro e w1 ⟨rfl, rfl⟩)
  go_ret2
  exact ⟨rfl, Turn.of_below hB (Below.refl _ _)⟩
set_option maxHeartbeats 1000000 in
theorem balls_does (hB : BenchAt w b s) (hE : Env w) (hv : vld s = true) : Does 105 #[.pointer (some ⟨b, 0, none⟩)] b (s, dcI (nballs (bits s) : Int), true) w := by
  have C := hide (implRowBalls_any s w (by have := vld_le s hv; unfold maxLen; omega))
  rw [hv, if_pos rfl] at C
  have hn := nballs8 hv
  have CI := hide (fun w' (hb : Below w.heap.size w w') => itoa_any (x := (nballs (bits s) : Int)) (by omega) (by omega) w' (hE.below hb))
  obtain ⟨m, hm⟩ : ∃ m : Int, m = (nballs (bits s) : Int) := ⟨_, rfl⟩
  rw [← hm] at C CI ⊢
  obtain ⟨d, hd⟩ : ∃ d, d = dcI m := ⟨_, rfl⟩
  rw [← hd] at CI ⊢
  have hc := hB.1
  unfold Does
  clear hn hm hd hv
  go_enter Tryz.func105, Tryz.ntmps105
  go_wp2_with (first | (go_at_call 16; refine C.out.mono ?_; rintro e w1 ⟨rfl, hb1⟩; have HB1 := hide hb1; clear hb1) | (go_at_call 137; refine (CI.out _ HB1.out).mono ?_; rintro e w2 ⟨rfl, hg2⟩; have HG := hide hg2.below; clear hg2))
  go_ret2
  exact ⟨rfl, Turn.of_below hB (HB1.out.trans (HG.out.mono HB1.out.size))⟩
set_option maxHeartbeats 1000000 in
theorem shape_does (hB : BenchAt w b s) (hE : Env w) (hv : vld s = true) : Does 106 #[.pointer (some ⟨b, 0, none⟩)] b (s, jns ((shR s).map dcI), true) w := by
  have C := hide (implShapeOf_any s w (by have := vld_le s hv; unfold maxLen; omega))
  rw [hv] at C
  obtain ⟨h1, h2⟩ := shR_bd hv
  have CL := hide (fun v w' hb hi => listText_any (lo := w.heap.size) (shR s) true v w' (hE.below hb) hi h1 h2)
  obtain ⟨l, hl⟩ : ∃ l, l = shR s := ⟨_, rfl⟩
  rw [← hl] at C CL ⊢
  have hc := hB.1
  unfold Does
  clear h1 h2 hl hv
  go_enter Tryz.func106, Tryz.ntmps106
  go_wp2_with (first | (go_at_call 139; refine C.out.mono ?_; rintro e w1 ⟨v, rfl, hi, hb1⟩; have HB1 := hide hb1; have HI := hide hi; clear hb1 hi) | (go_at_call 138; refine (CL.out _ _ HB1.out HI.out).mono ?_; rintro e w2 ⟨rfl, hb2⟩; have HB2 := hide hb2; clear hb2))
  go_ret2
  exact ⟨rfl, Turn.of_below hB (HB1.out.trans (HB2.out.mono HB1.out.size))⟩
set_option maxHeartbeats 1000000 in
theorem runs_does (hB : BenchAt w b s) (hE : Env w) (hv : vld s = true) : Does 107 #[.pointer (some ⟨b, 0, none⟩)] b (s, jns ((rnR s).map dcI), true) w := by
  have C := hide (implShapeRuns_any s w (by have := vld_le s hv; unfold maxLen; omega))
  rw [hv] at C
  obtain ⟨h1, h2⟩ := rnR_bd hv
  have CL := hide (fun v w' hb hi => listText_any (lo := w.heap.size) (rnR s) true v w' (hE.below hb) hi h1 h2)
  obtain ⟨l, hl⟩ : ∃ l, l = rnR s := ⟨_, rfl⟩
  rw [← hl] at C CL ⊢
  have hc := hB.1
  unfold Does
  clear h1 h2 hl hv
  go_enter Tryz.func107, Tryz.ntmps107
  go_wp2_with (first | (go_at_call 140; refine C.out.mono ?_; rintro e w1 ⟨v, rfl, hi, hb1⟩; have HB1 := hide hb1; have HI := hide hi; clear hb1 hi) | (go_at_call 138; refine (CL.out _ _ HB1.out HI.out).mono ?_; rintro e w2 ⟨rfl, hb2⟩; have HB2 := hide hb2; clear hb2))
  go_ret2
  exact ⟨rfl, Turn.of_below hB (HB1.out.trans (HB2.out.mono HB1.out.size))⟩
set_option maxHeartbeats 1000000 in
theorem time_does (hB : BenchAt w b s) (hE : Env w) (hv : vld s = true) : Does 108 #[.pointer (some ⟨b, 0, none⟩)] b (s, dcI (tmR s).1, (tmR s).2) w := by
  have C := hide (implShapeTime_any s w (by have := vld_le s hv; unfold maxLen; omega))
  have hb := tmR_bd s
  have CN := hide (fun w' hb' => numberText_any (x := (tmR s).1) (tmR s).2 (by omega) (by omega) w' (hE.below hb'))
  obtain ⟨m, hm⟩ : ∃ m, m = (tmR s).1 := ⟨_, rfl⟩
  obtain ⟨k, hk⟩ : ∃ k, k = (tmR s).2 := ⟨_, rfl⟩
  rw [← hm, ← hk] at C CN ⊢
  have hc := hB.1
  unfold Does
  clear hb hm hk hv
  go_enter Tryz.func108, Tryz.ntmps108
  go_wp2_with (first | (go_at_call 141; refine C.out.mono ?_; rintro e w1 ⟨rfl, hb1⟩; have HB1 := hide hb1; clear hb1) | (go_at_call 133; refine (CN.out _ HB1.out).mono ?_; rintro e w2 ⟨rfl, hb2⟩; have HB2 := hide hb2; clear hb2))
  go_ret2
  exact ⟨rfl, Turn.of_below hB (HB1.out.trans (HB2.out.mono HB1.out.size))⟩
set_option maxHeartbeats 1000000 in
theorem apart_does (hB : BenchAt w b s) (hv : vld s = true) : Does 109 #[.pointer (some ⟨b, 0, none⟩)] b (s, if apOk s then yesB else notB, true) w := by
  have C := hide (implShapeApart_any s w (by have := vld_le s hv; unfold maxLen; omega))
  obtain ⟨k, hk⟩ : ∃ k, k = apOk s := ⟨_, rfl⟩
  rw [← hk] at C ⊢
  have CH := hide (fun w => holdsText_any k w)
  obtain ⟨x, hx⟩ : ∃ x, x = (if k then yesB else notB) := ⟨_, rfl⟩
  rw [← hx] at CH ⊢
  have hc := hB.1
  unfold Does
  clear hk hx hv
  go_enter Tryz.func109, Tryz.ntmps109
  go_wp2_with (first | (go_at_call 143; refine C.out.mono ?_; rintro e w1 ⟨rfl, hb1⟩; have HB1 := hide hb1; clear hb1) | (go_at_call 142; refine (CH.out _).mono ?_; rintro e w2 ⟨rfl, rfl⟩))
  go_ret2
  exact ⟨rfl, Turn.of_below hB HB1.out⟩
set_option maxHeartbeats 1000000 in
theorem high_does (hB : BenchAt w b s) (hv : vld s = true) : Does 110 #[.pointer (some ⟨b, 0, none⟩)] b (s, if highB s then yesB else notB, true) w := by
  have C := hide (implRowHigh_any s w (by have := vld_le s hv; unfold maxLen; omega))
  obtain ⟨k, hk⟩ : ∃ k, k = highB s := ⟨_, rfl⟩
  rw [← hk] at C ⊢
  have CH := hide (fun w => holdsText_any k w)
  obtain ⟨x, hx⟩ : ∃ x, x = (if k then yesB else notB) := ⟨_, rfl⟩
  rw [← hx] at CH ⊢
  have hc := hB.1
  unfold Does
  clear hk hx hv
  go_enter Tryz.func110, Tryz.ntmps110
  go_wp2_with (first | (go_at_call 14; refine C.out.mono ?_; rintro e w1 ⟨rfl, hb1⟩; have HB1 := hide hb1; clear hb1) | (go_at_call 142; refine (CH.out _).mono ?_; rintro e w2 ⟨rfl, rfl⟩))
  go_ret2
  exact ⟨rfl, Turn.of_below hB HB1.out⟩
set_option maxHeartbeats 2000000 in
theorem energy_does (hB : BenchAt w b s) (hE : Env w) (hv : vld s = true) (hr : r.size ≤ 1000) : Does 100 #[.pointer (some ⟨b, 0, none⟩), .string r] b (s, dcI (tkN s (numI r)), tkOk s (numI r)) w := by
  have mixed : Tryz.prog.follows .mixedOrders = true := by kernel_rfl
  have CN := hide (fun W (hW : Below w.heap.size w W) => (readNumber_any r W (hE.below hW) hr).mono (R' := fun e w' => e = .returned (.int .i64 (numI r)) ∧ Below w.heap.size w w') (fun e w' h => ⟨h.1, hW.trans (h.2.mono hW.size)⟩))
  obtain ⟨n, hn⟩ : ∃ n, n = numI r := ⟨_, rfl⟩
  rw [← hn] at CN ⊢
  have C := hide (fun W (hW : Below w.heap.size w W) => (implStepTaken_any s n W (by have := vld_le s hv; unfold maxLen; omega)).mono (R' := fun e w' => e = .returned (.tuple #[.int .i64 (tkN s n), .bool (tkOk s n)]) ∧ Below w.heap.size w w') (fun e w' h => ⟨h.1, hW.trans (h.2.mono hW.size)⟩))
  have hb := tkN_bd8 n hv
  have D := hide (fun W (hW : Below w.heap.size w W) => (numberText_any (x := tkN s n) (tkOk s n) (by omega) (by omega) W (hE.below hW)).mono (R' := fun e w' => e = .returned (.tuple #[.string (dcI (tkN s n)), .bool (tkOk s n)]) ∧ Below w.heap.size w w') (fun e w' h => ⟨h.1, hW.trans (h.2.mono hW.size)⟩))
  obtain ⟨m, hm⟩ : ∃ m, m = tkN s n := ⟨_, rfl⟩
  obtain ⟨k, hk⟩ : ∃ k, k = tkOk s n := ⟨_, rfl⟩
  rw [← hm, ← hk] at C D ⊢
  obtain ⟨d, hd⟩ : ∃ d, d = dcI m := ⟨_, rfl⟩
  rw [← hd] at D ⊢
  have HB := hide hB
  have hc := hB.1
  unfold Does
  clear hm hk hn hv hB hb hE hd
  go_enter Tryz.func100, Tryz.ntmps100
  go_wp2_with fail
  go_region_with (first | (go_at_call 131; refine (CN.out _ (by first | exact HB2.out.drew | exact HB2.out | exact HB1.out.drew | exact HB1.out | exact HB1.out.drew.drew | exact Below.refl _ _ | exact (Below.refl _ _).drew | exact (Below.refl _ _).drew.drew)).mono ?_; rintro e w1 ⟨rfl, hb1⟩; have HB1 := hide hb1; have hc1 := (HB.out.below hb1).1; clear hb1) | (go_at_call 9; refine (C.out _ (by first | exact HB2.out.drew | exact HB2.out | exact HB1.out.drew | exact HB1.out | exact HB1.out.drew.drew | exact Below.refl _ _ | exact (Below.refl _ _).drew | exact (Below.refl _ _).drew.drew)).mono ?_; rintro e w2 ⟨rfl, hb2⟩; have HB2 := hide hb2; clear hb2) | (go_at_call 133; refine (D.out _ (by first | exact HB2.out.drew | exact HB2.out | exact HB1.out.drew | exact HB1.out | exact HB1.out.drew.drew | exact Below.refl _ _ | exact (Below.refl _ _).drew | exact (Below.refl _ _).drew.drew)).mono ?_; rintro e w3 ⟨rfl, hb3⟩; have HB3 := hide hb3; clear hb3) | fail)
  all_goals (try go_wp2)
  all_goals go_ret2
  all_goals (first | exact ⟨rfl, Turn.of_below HB.out HB3.out⟩ | exact ⟨rfl, Turn.of_below HB.out HB3.out.drew⟩ | exact ⟨rfl, Turn.of_below HB.out HB3.out.drew.drew⟩)
set_option maxHeartbeats 1000000 in
theorem period_does (hB : BenchAt w b s) (hE : Env w) (hr : r.size ≤ 1000) : Does 101 #[.pointer (some ⟨b, 0, none⟩), .string r] b (s, dcI (cpN r), ciIn r) w := by
  have C := hide (implCirclePeriod_any r w (by unfold maxLen; omega))
  have hb := cpN_bd r
  have CT := hide (fun w' hb' => numberText_any (x := cpN r) (ciIn r) (by omega) (by omega) w' (hE.below hb'))
  obtain ⟨m, hm⟩ : ∃ m, m = cpN r := ⟨_, rfl⟩
  obtain ⟨k, hk⟩ : ∃ k, k = ciIn r := ⟨_, rfl⟩
  rw [← hm, ← hk] at C CT ⊢
  unfold Does
  clear hm hk hb
  go_enter Tryz.func101, Tryz.ntmps101
  go_wp2_with (first | (go_at_call 134; refine C.out.mono ?_; rintro e w1 ⟨rfl, hb1⟩; have HB1 := hide hb1; clear hb1) | (go_at_call 133; refine (CT.out _ HB1.out).mono ?_; rintro e w2 ⟨rfl, hb2⟩; have HB2 := hide hb2; clear hb2))
  go_ret2
  exact ⟨rfl, Turn.of_below hB (HB1.out.trans (HB2.out.mono HB1.out.size))⟩
set_option maxHeartbeats 1000000 in
theorem colours_does (hB : BenchAt w b s) (hr : r.size ≤ 1000) : Does 102 #[.pointer (some ⟨b, 0, none⟩), .string r] b (s, rowS (csS r), csOk r) w := by
  have C := hide (implColourStep_any r w (by unfold maxLen; omega))
  obtain ⟨x, hx⟩ : ∃ x, x = csS r := ⟨_, rfl⟩
  obtain ⟨k, hk⟩ : ∃ k, k = csOk r := ⟨_, rfl⟩
  rw [← hx, ← hk] at C ⊢
  have CT := hide (fun w => rowText_any x w)
  unfold Does
  clear hx hk
  go_enter Tryz.func102, Tryz.ntmps102
  go_wp2_with (first | (go_at_call 135; refine C.out.mono ?_; rintro e w1 ⟨rfl, hb1⟩; have HB1 := hide hb1; clear hb1) | (go_at_call 30; refine (CT.out _).mono ?_; rintro e w2 ⟨rfl, rfl⟩))
  go_ret2
  exact ⟨rfl, Turn.of_below hB HB1.out⟩
end
end Go.Proofs.YtdooboibmllfkabGreatDoor

namespace Go.Proofs.YtdooboibmllfkabGreatDoor
set_option maxRecDepth 100000
open Go.RowKit Go.Sort

theorem rgT_take {l : List (Int × Int)} {k : Nat} {p : Int × Int} (h : l[k]? = some p) : (l.take (k + 1)).map rgT = (l.take k).map rgT ++ [rgT p] := by
  rw [List.take_add_one, h, List.map_append]
  rfl

set_option maxRecDepth 100000 in
set_option maxHeartbeats 4000000 in
theorem partsText_any (l : List (Int × Int)) (ok : Bool) {lo : Nat} (v : Value) (w : World) (hE : Env w) (h : PartsV lo w v l) (hl : l.length ≤ 1000) (hx : ∀ p ∈ l, (0 ≤ p.1 ∧ p.1 < 10000000) ∧ 0 ≤ p.2 ∧ p.2 < 10000000) :
    Calls Tryz.prog 144 #[v, .bool ok] w fun e w' => e = .returned (.tuple #[.string (jns (l.map rgT)), .bool ok]) ∧ Below w.heap.size w w' := by
  obtain ⟨i0, hi, hz0, hz1, hz2⟩ := info_parts infoT
  have mixed : Tryz.prog.follows .mixedOrders = true := by kernel_rfl
  obtain ⟨n, hn⟩ : ∃ n, l.length = n := ⟨_, rfl⟩
  obtain ⟨a, c, rfl, hf⟩ := h.form hn
  have HX := hide hx
  have HF := hide hf
  have HN := hide hn
  have HEE := hide hE
  obtain ⟨r, hr⟩ : ∃ r, r = jns (l.map rgT) := ⟨_, rfl⟩
  have HR := hide hr
  rw [hn] at hl
  rw [← hr]
  clear h hf hx hn hE hr
  go_enter Tryz.func144, Tryz.ntmps144
  go_wp2
  go_loopw [6, 11] (fun o i wr => ∃ k : Nat, k ≤ n ∧ i = .int .i64 (k : Int) ∧ Hid (wr.ownsRow w.heap.size 9 1 o k ((((l.take k).map rgT)).map .string)) ∧ Hid (Below w.heap.size w wr) ∧ w.heap.size ≤ wr.heap.size) (fun _ i _ => n - (Go.RowKit.intOf i).toNat)
  case atStart => exact ⟨0, Nat.zero_le _, rfl, World.ownsRow_nil _ _ _ _, Below.refl _ _, Nat.le_refl _⟩
  case round =>
    obtain ⟨k, hk, rfl, HO, HB, hsz⟩ := hrel
    by_cases hlt : k < n
    · obtain ⟨q, rfl, hq0, hqc⟩ := HF.out (by omega)
      obtain ⟨p, hp⟩ : ∃ p, l[k]? = some p := ⟨_, List.getElem?_eq_getElem (by rw [HN.out]; exact hlt)⟩
      obtain ⟨g1, g2⟩ := encZ_get l k p hp
      have hqr := hqc.below' HB.out (Nat.le_refl _)
      have c1 := (hqr _ _ g1).1
      have c2 := (hqr _ _ g2).1
      obtain ⟨⟨y0, y1⟩, y2, y3⟩ := HX.out p (List.mem_of_getElem? hp)
      have CI1 := hide (fun W (hW : Below w.heap.size w W) => itoa_any y0 y1 W (HEE.out.below hW))
      have CI2 := hide (fun W (hW : Below w.heap.size w W) => itoa_any y2 y3 W (HEE.out.below hW))
      have hs1 := (dcI_size p.1).2
      have hs2 := (dcI_size p.2).2
      have HT := hide (rgT_take hp)
      have HE : Hid (rgT p = dcI p.1 ++ colT ++ dcI p.2) := rfl
      obtain ⟨p1, hp1⟩ : ∃ y, y = p.1 := ⟨_, rfl⟩
      obtain ⟨p2, hp2⟩ : ∃ y, y = p.2 := ⟨_, rfl⟩
      rw [← hp1] at c1 CI1 hs1 HE
      rw [← hp2] at c2 CI2 hs2 HE
      obtain ⟨d1, hd1⟩ : ∃ d, d = dcI p1 := ⟨_, rfl⟩
      obtain ⟨d2, hd2⟩ : ∃ d, d = dcI p2 := ⟨_, rfl⟩
      rw [← hd1] at CI1 hs1 HE
      rw [← hd2] at CI2 hs2 HE
      rw [HE.out] at HT
      unfold colT at HT
      have i0' : (0 : Int) ≤ (k : Int) := by omega
      have i1 : (k : Int) < (n : Int) := by omega
      have f1 : ¬ 9223372036854775807 < d1.size + 1 := by omega
      have f2 : ¬ 9223372036854775807 < d1.size + 1 + d2.size := by omega
      clear g1 g2 hqr hp y0 y1 y2 y3 hp1 hp2 hd1 hd2 hq0 hqc hs1 hs2
      go_wp2_with fail
      have hS0 : (wr.alloc (.cells #[.int .i64 p1, .int .i64 p2] 132)).heap.size = wr.heap.size + 1 := World.size_alloc _ _
      have s0 : (wr.alloc (.cells #[.int .i64 p1, .int .i64 p2] 132)).cell? ⟨wr.heap.size, 0, none⟩ = some (.int .i64 p1) := by simp
      have s1 : (wr.alloc (.cells #[.int .i64 p1, .int .i64 p2] 132)).cell? ⟨wr.heap.size, 1, none⟩ = some (.int .i64 p2) := by simp
      have HO0 := hide (HO.out.alloc (.cells #[.int .i64 p1, .int .i64 p2] 132))
      have HB0 := hide (HB.out.alloc hsz (.cells #[.int .i64 p1, .int .i64 p2] 132))
      generalize wr.alloc (.cells #[.int .i64 p1, .int .i64 p2] 132) = W0 at hS0 s0 s1 HO0 HB0 ⊢
      have hsz0 : w.heap.size ≤ W0.heap.size := by omega
      have hlS : wr.heap.size < W0.heap.size := by omega
      have HS0 := hide hS0
      have KEEP := hide (fun (W W' : World) (hG : Grw W W') (hL : wr.heap.size < W.heap.size) (h0 : W.cell? ⟨wr.heap.size, 0, none⟩ = some (.int .i64 p1)) (h1 : W.cell? ⟨wr.heap.size, 1, none⟩ = some (.int .i64 p2)) =>
        (show W'.cell? ⟨wr.heap.size, 0, none⟩ = some (.int .i64 p1) ∧ W'.cell? ⟨wr.heap.size, 1, none⟩ = some (.int .i64 p2) from ⟨(hG.below.cell (p := ⟨wr.heap.size, 0, none⟩) hL).trans h0, (hG.below.cell (p := ⟨wr.heap.size, 1, none⟩) hL).trans h1⟩))
      have OWN := hide (fun (W W' : World) (hG : Grw W W') (h : W.ownsRow w.heap.size 9 1 u6 k ((((l.take k).map rgT)).map .string)) => (h.kept (row := none) ⟨hG.below.os, hG.below.tape, hG.below.output, hG.below.size, fun i hi _ => hG.below.block i hi⟩ (Classical.em _)))
      have HNE : Hid (some wr.heap.size ≠ u6.ownBlock) := by
        intro e
        have := (HO.out.lt _ e.symm).2
        omega
      have kL : k + 1 ≤ maxLen := by unfold maxLen; omega
      have kB : (k + 1) * 16 ≤ 140737488355328 := by omega
      have ALL := hide (fun (W : World) (h : w.heap.size ≤ W.heap.size) => (show w.heap.size ≤ (W.alloc (.cells #[.string (d1 ++ ⟨#[58]⟩ ++ d2)] 9)).heap.size from by rw [World.size_alloc]; omega))
      clear hS0
      go_region_held3 (fun w' => w'.cell? ⟨wr.heap.size, 0, none⟩ = some (.int .i64 p1) ∧ w'.cell? ⟨wr.heap.size, 1, none⟩ = some (.int .i64 p2)) (first | exact ⟨s0, s1⟩ | exact ⟨x0, x1⟩ | exact ⟨y0, y1⟩ | exact ⟨z0, z1⟩ | go_keep | fail) (first | (go_at_call 137; have h := CI1.out W0.drew HB0.out.drew; (with_reducible (refine h.mono ?_)); rintro e w1 ⟨rfl, hg⟩; obtain ⟨x0, x1⟩ := KEEP.out W0.drew w1 hg hlS s0 s1; have HO1 := hide (OWN.out W0.drew w1 hg HO0.out); have HB1 := hide (HB0.out.drew.trans (hg.below.mono hsz0)); have hl1 : wr.heap.size < w1.heap.size := Nat.lt_of_lt_of_le hlS hg.size; have hsz1 : w.heap.size ≤ w1.heap.size := Nat.le_trans hsz0 hg.size; clear h hg) | (go_at_call 137; have h := CI1.out W0 HB0.out; (with_reducible (refine h.mono ?_)); rintro e w1 ⟨rfl, hg⟩; obtain ⟨x0, x1⟩ := KEEP.out W0 w1 hg hlS s0 s1; have HO1 := hide (OWN.out W0 w1 hg HO0.out); have HB1 := hide (HB0.out.trans (hg.below.mono hsz0)); have hl1 : wr.heap.size < w1.heap.size := Nat.lt_of_lt_of_le hlS hg.size; have hsz1 : w.heap.size ≤ w1.heap.size := Nat.le_trans hsz0 hg.size; clear h hg) | (go_at_call 137; have h := CI2.out w1.drew HB1.out.drew; (with_reducible (refine h.mono ?_)); rintro e w2 ⟨rfl, hg⟩; obtain ⟨y0, y1⟩ := KEEP.out w1.drew w2 hg hl1 x0 x1; have HO2 := hide (OWN.out w1.drew w2 hg HO1.out); have HB2 := hide (HB1.out.drew.trans (hg.below.mono hsz1)); have hsz2 : w.heap.size ≤ w2.heap.size := Nat.le_trans hsz1 hg.size; have hl2 : wr.heap.size < w2.heap.size := Nat.lt_of_lt_of_le hl1 hg.size; clear h hg) | (go_at_call 137; have h := CI2.out w1 HB1.out; (with_reducible (refine h.mono ?_)); rintro e w2 ⟨rfl, hg⟩; obtain ⟨y0, y1⟩ := KEEP.out w1 w2 hg hl1 x0 x1; have HO2 := hide (OWN.out w1 w2 hg HO1.out); have HB2 := hide (HB1.out.trans (hg.below.mono hsz1)); have hsz2 : w.heap.size ≤ w2.heap.size := Nat.le_trans hsz1 hg.size; have hl2 : wr.heap.size < w2.heap.size := Nat.lt_of_lt_of_le hl1 hg.size; clear h hg) | (refine step_app (by rfl) (.tmp 15) (.tmp 24) 157 (by rfl) w.heap.size 9 i0 (.string ByteArray.empty) 1 16 Tryz.underlying157 hi hz0 hz1 hz2 rfl (by decide) u6 k _ (by rfl) (HO2.out.alloc (.cells #[.string (d1 ++ ⟨#[58]⟩ ++ d2)] 9)).drew ⟨w2.heap.size, 0, none⟩ 1 1 [.string (d1 ++ ⟨#[58]⟩ ++ d2)] (by rfl) rfl (fun j u h => cell_one_new w2 _ _ j u h) (one_str _) kL kB (ALL.out w2 hsz2) ?_; intro v' w3 hown3 hgrow3 _; have O3 := hide hown3; have B3 := hide (((HB2.out.alloc hsz2 (.cells #[.string (d1 ++ ⟨#[58]⟩ ++ d2)] 9)).drew).grown hgrow3 (ALL.out w2 hsz2) (fun b e => (HO2.out.lt b e).1)); have z0 := hgrow3.cell (a := ⟨wr.heap.size, 0, none⟩) ((World.cell?_alloc_lt w2 _ _ hl2).trans y0) HNE.out; have z1 := hgrow3.cell (a := ⟨wr.heap.size, 1, none⟩) ((World.cell?_alloc_lt w2 _ _ hl2).trans y1) HNE.out; have S3 : w.heap.size ≤ w3.heap.size := Nat.le_trans (ALL.out w2 hsz2) hgrow3.size; clear hown3 hgrow3) | (refine step_app (by rfl) (.tmp 15) (.tmp 24) 157 (by rfl) w.heap.size 9 i0 (.string ByteArray.empty) 1 16 Tryz.underlying157 hi hz0 hz1 hz2 rfl (by decide) u6 k _ (by rfl) (HO2.out.alloc (.cells #[.string (d1 ++ ⟨#[58]⟩ ++ d2)] 9)) ⟨w2.heap.size, 0, none⟩ 1 1 [.string (d1 ++ ⟨#[58]⟩ ++ d2)] (by rfl) rfl (fun j u h => cell_one_new w2 _ _ j u h) (one_str _) kL kB (ALL.out w2 hsz2) ?_; intro v' w3 hown3 hgrow3 _; have O3 := hide hown3; have B3 := hide (((HB2.out.alloc hsz2 (.cells #[.string (d1 ++ ⟨#[58]⟩ ++ d2)] 9))).grown hgrow3 (ALL.out w2 hsz2) (fun b e => (HO2.out.lt b e).1)); have z0 := hgrow3.cell (a := ⟨wr.heap.size, 0, none⟩) ((World.cell?_alloc_lt w2 _ _ hl2).trans y0) HNE.out; have z1 := hgrow3.cell (a := ⟨wr.heap.size, 1, none⟩) ((World.cell?_alloc_lt w2 _ _ hl2).trans y1) HNE.out; have S3 : w.heap.size ≤ w3.heap.size := Nat.le_trans (ALL.out w2 hsz2) hgrow3.size; clear hown3 hgrow3) | fail)
      all_goals (try go_wp2)
      all_goals go_roundw
      case rel => exact ⟨k + 1, by omega, by go_num, (show World.ownsRow _ _ _ _ _ _ _ from by rw [HT.out, List.map_append]; exact O3.out), B3, S3⟩
      case measure => simp [Go.RowKit.intOf]; omega
    · have hkn : k = n := by omega
      have HO1 : Hid (wr.ownsRow w.heap.size 9 1 u6 (l.map rgT).length ((l.map rgT).map .string)) := by
        have := HO.out
        rw [hkn, ← HN.out, List.take_length] at this
        rw [List.length_map]
        exact this
      have CJ := hide (fun W hW => join_any (l.map rgT) _ wr HO1.out (by rw [List.length_map, HN.out]; exact hl) (fun x hx => by
        obtain ⟨y, _, rfl⟩ := List.mem_map.1 hx
        have := rgT_size y
        omega) W hW)
      rw [← HR.out] at CJ
      clear hkn
      go_wp2_with (go_at_call 164; refine (CJ.out _ (Grw.refl _)).mono ?_; rintro e w2 ⟨rfl, hb2⟩)
      go_ret2
      exact ⟨rfl, HB.out.trans (hb2.mono HB.out.size)⟩

set_option maxHeartbeats 1000000 in
theorem rigged_does (b : Nat) (s : ByteArray) (w : World) (hB : BenchAt w b s) (hE : Env w) (hv : vld s = true) : Does 111 #[.pointer (some ⟨b, 0, none⟩)] b (s, jns ((rgOf s).map fun p => dcI p.1 ++ colT ++ dcI p.2), highB s) w := by
  have C := hide (implRigOf_any s w hE.et (by have := vld_le s hv; unfold maxLen; omega))
  have h1 := (rgOf_bd s).2
  have h2 : ∀ p ∈ rgOf s, (0 ≤ p.1 ∧ p.1 < 10000000) ∧ 0 ≤ p.2 ∧ p.2 < 10000000 := by
    by_cases h : highB s = true
    · exact rg_bd h
    · have e0 : rgOf s = [] := by unfold rgOf; rw [if_neg h]
      rw [e0]
      intro p hp
      cases hp
  have CL := hide (fun v w' hb hi => partsText_any (lo := w.heap.size) (rgOf s) (highB s) v w' (hE.below hb) hi (by omega) h2)
  have e1 : (rgOf s).map (fun p => dcI p.1 ++ colT ++ dcI p.2) = (rgOf s).map rgT := rfl
  rw [e1]
  obtain ⟨l, hl⟩ : ∃ l, l = rgOf s := ⟨_, rfl⟩
  obtain ⟨k, hk⟩ : ∃ k, k = highB s := ⟨_, rfl⟩
  rw [← hl, ← hk] at C CL ⊢
  have hc := hB.1
  unfold Does
  clear h1 h2 hl hv e1 hk
  go_enter Tryz.func111, Tryz.ntmps111
  go_wp2_with (first | (go_at_call 145; refine C.out.mono ?_; rintro e w1 ⟨v, rfl, hi, hb1⟩; have HB1 := hide hb1; have HI := hide hi; clear hb1 hi) | (go_at_call 144; refine (CL.out _ _ HB1.out HI.out).mono ?_; rintro e w2 ⟨rfl, hb2⟩; have HB2 := hide hb2; clear hb2))
  go_ret2
  exact ⟨rfl, Turn.of_below hB (HB1.out.trans (HB2.out.mono HB1.out.size))⟩
end Go.Proofs.YtdooboibmllfkabGreatDoor
