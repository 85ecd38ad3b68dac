/- TEXTS Run8, Ans8, LinesI. -/
import Derived.Test.YtdooboibmllfkaaGreatDoorExa43
import Derived.Defers
import Derived.Recover
import Derived.Laws.Pointers
namespace Go.Proofs.YtdooboibmllfkaaGreatDoor
set_option maxRecDepth 100000
open Go.RowKit Go.Sort

def Known (f? : Option Nat) (r? : Option (ByteArray × ByteArray × Bool)) (args : Array Value) (b : Nat) (s : ByteArray) : Prop :=
  (f? = none ∧ r? = none) ∨ ∃ f r, f? = some f ∧ r? = some r ∧ (∀ args w, (callFunc f args).run Tryz.prog w = .ok (.enter f args) w) ∧ ∀ w, BenchAt w b s → Env w → Does f args b r w
theorem rest_known (b : Nat) (s word : ByteArray) (r : ByteArray) (hr : r.size ≤ 600) (hv : vld s = true) : Known (fnd word restL) (restS s word r) #[.pointer (some ⟨b, 0, none⟩), .string r] b s := by
  unfold Known fnd restL restS
  simp only [fnd]
  by_cases c_set : word = wSet
  · rw [if_pos c_set, if_pos c_set]; exact .inr ⟨_, _, rfl, rfl, enters_of Tryz.func64 (by kernel_rfl) rfl, fun w hB hE => set_does b s r w hB (by omega)⟩
  rw [if_neg c_set, if_neg c_set]
  by_cases c_sizes : word = wSizes
  · rw [if_pos c_sizes, if_pos c_sizes]; exact .inr ⟨_, _, rfl, rfl, enters_of Tryz.func65 (by kernel_rfl) rfl, fun w hB hE => sizes_does b s r w hB hr⟩
  rw [if_neg c_sizes, if_neg c_sizes]
  by_cases c_shift : word = wShift
  · rw [if_pos c_shift, if_pos c_shift]; exact .inr ⟨_, _, rfl, rfl, enters_of Tryz.func66 (by kernel_rfl) rfl, fun w hB hE => shift_does b s r w hB hE hv (by omega)⟩
  rw [if_neg c_shift, if_neg c_shift]
  by_cases c_step : word = wStep
  · rw [if_pos c_step, if_pos c_step]; exact .inr ⟨_, _, rfl, rfl, enters_of Tryz.func67 (by kernel_rfl) rfl, fun w hB hE => step_does b s r w hB hE hv (by omega)⟩
  rw [if_neg c_step, if_neg c_step]
  by_cases c_back : word = wBack
  · rw [if_pos c_back, if_pos c_back]; exact .inr ⟨_, _, rfl, rfl, enters_of Tryz.func68 (by kernel_rfl) rfl, fun w hB hE => back_does b s r w hB hE hv (by omega)⟩
  rw [if_neg c_back, if_neg c_back]
  by_cases c_energy : word = wEnergy
  · rw [if_pos c_energy, if_pos c_energy]; exact .inr ⟨_, _, rfl, rfl, enters_of Tryz.func69 (by kernel_rfl) rfl, fun w hB hE => energy_does b s r w hB hE hv (by omega)⟩
  rw [if_neg c_energy, if_neg c_energy]
  by_cases c_period : word = wPeriod
  · rw [if_pos c_period, if_pos c_period]; exact .inr ⟨_, _, rfl, rfl, enters_of Tryz.func70 (by kernel_rfl) rfl, fun w hB hE => period_does b s r w hB hE (by omega)⟩
  rw [if_neg c_period, if_neg c_period]
  by_cases c_colours : word = wColours
  · rw [if_pos c_colours, if_pos c_colours]; exact .inr ⟨_, _, rfl, rfl, enters_of Tryz.func71 (by kernel_rfl) rfl, fun w hB hE => colours_does b s r w hB (by omega)⟩
  rw [if_neg c_colours, if_neg c_colours]
  exact .inl ⟨rfl, rfl⟩
theorem lone_known (b : Nat) (s word : ByteArray) (hv : vld s = true) : Known (fnd word loneL) (loneS s word) #[.pointer (some ⟨b, 0, none⟩)] b s := by
  unfold Known fnd loneL loneS
  simp only [fnd]
  by_cases c_turned : word = wTurned
  · rw [if_pos c_turned, if_pos c_turned]; exact .inr ⟨_, _, rfl, rfl, enters_of Tryz.func72 (by kernel_rfl) rfl, fun w hB hE => turned_does b s w hB hv⟩
  rw [if_neg c_turned, if_neg c_turned]
  by_cases c_show : word = wShow
  · rw [if_pos c_show, if_pos c_show]; exact .inr ⟨_, _, rfl, rfl, enters_of Tryz.func73 (by kernel_rfl) rfl, fun w hB hE => show_does b s w hB⟩
  rw [if_neg c_show, if_neg c_show]
  by_cases c_balls : word = wBalls
  · rw [if_pos c_balls, if_pos c_balls]; exact .inr ⟨_, _, rfl, rfl, enters_of Tryz.func74 (by kernel_rfl) rfl, fun w hB hE => balls_does b s w hB hE hv⟩
  rw [if_neg c_balls, if_neg c_balls]
  by_cases c_shape : word = wShape
  · rw [if_pos c_shape, if_pos c_shape]; exact .inr ⟨_, _, rfl, rfl, enters_of Tryz.func75 (by kernel_rfl) rfl, fun w hB hE => shape_does b s w hB hE hv⟩
  rw [if_neg c_shape, if_neg c_shape]
  by_cases c_runs : word = wRuns
  · rw [if_pos c_runs, if_pos c_runs]; exact .inr ⟨_, _, rfl, rfl, enters_of Tryz.func76 (by kernel_rfl) rfl, fun w hB hE => runs_does b s w hB hE hv⟩
  rw [if_neg c_runs, if_neg c_runs]
  by_cases c_time : word = wTime
  · rw [if_pos c_time, if_pos c_time]; exact .inr ⟨_, _, rfl, rfl, enters_of Tryz.func77 (by kernel_rfl) rfl, fun w hB hE => time_does b s w hB hE hv⟩
  rw [if_neg c_time, if_neg c_time]
  by_cases c_apart : word = wApart
  · rw [if_pos c_apart, if_pos c_apart]; exact .inr ⟨_, _, rfl, rfl, enters_of Tryz.func78 (by kernel_rfl) rfl, fun w hB hE => apart_does b s w hB hv⟩
  rw [if_neg c_apart, if_neg c_apart]
  by_cases c_high : word = wHigh
  · rw [if_pos c_high, if_pos c_high]; exact .inr ⟨_, _, rfl, rfl, enters_of Tryz.func79 (by kernel_rfl) rfl, fun w hB hE => high_does b s w hB hv⟩
  rw [if_neg c_high, if_neg c_high]
  by_cases c_rigged : word = wRigged
  · rw [if_pos c_rigged, if_pos c_rigged]; exact .inr ⟨_, _, rfl, rfl, enters_of Tryz.func80 (by kernel_rfl) rfl, fun w hB hE => rigged_does b s w hB hE hv⟩
  rw [if_neg c_rigged, if_neg c_rigged]
  exact .inl ⟨rfl, rfl⟩

set_option maxRecDepth 100000 in
set_option maxHeartbeats 4000000 in
theorem run_rest (b : Nat) (s line : ByteArray) (w : World) (hB : BenchAt w b s) (hE : Env w) (word r : ByteArray) (hc : Calls Tryz.prog 39 #[.string line, .string ⟨#[32]⟩] w fun e w' => e = .returned (.tuple #[.string word, .string r, .bool true]) ∧ Grw w w') (f : Nat) (q : ByteArray × ByteArray × Bool) (hf : fnd word restL = some f)
    (ef : ∀ args w, (callFunc f args).run Tryz.prog w = .ok (.enter f args) w) (hd : ∀ w, BenchAt w b s → Env w → Does f #[.pointer (some ⟨b, 0, none⟩), .string r] b q w) :
    Does 30 #[.pointer (some ⟨b, 0, none⟩), .string line] b q w := by
  have HD := hide hd
  have CC := hide hc
  have CW := hide (fun w => restWords_any w)
  have HB := hide hB
  have HE := hide hE
  unfold Does
  obtain ⟨q1, q2, q3⟩ := q
  clear hd hc hB hE
  go_enter Tryz.func30, Tryz.ntmps30
  go_wp2_with fail
  refine CC.out.mono ?_
  rintro e w1 ⟨rfl, hg1⟩
  have HG1 := hide hg1
  clear hg1 CC
  go_wp2_with fail
  refine (CW.out w1).mono ?_
  rintro e w2 ⟨rfl, hw2⟩
  have hb2 : Below w1.heap.size w1 w2 := by rw [hw2]; exact (Below.refl _ _).alloc (Nat.le_refl _) _
  have hl := look_restWords word w2 (b := w1.heap.size) (by rw [hw2]; exact (MapKept.heap_alloc w1 _).1)
  rw [hf] at hl
  have HB2 := hide (HG1.out.below.trans (hb2.mono HG1.out.size))
  have D := hide (HD.out w2 (HB.out.below HB2.out) (HE.out.below HB2.out))
  clear hw2 hb2 CW HG1 HD hf
  go_wp2_with (go_at_fn f; refine D.out.mono ?_; rintro e w3 ⟨rfl, ht3⟩; have HT := hide ht3; clear ht3)
  go_ret2
  exact ⟨rfl, Turn.after HB2.out HT.out⟩

set_option maxRecDepth 100000 in
set_option maxHeartbeats 4000000 in
theorem run_rest_none (b : Nat) (line : ByteArray) (w : World) (word r : ByteArray) (hc : Calls Tryz.prog 39 #[.string line, .string ⟨#[32]⟩] w fun e w' => e = .returned (.tuple #[.string word, .string r, .bool true]) ∧ Grw w w') (hf : fnd word restL = none) :
    Calls Tryz.prog 30 #[.pointer (some ⟨b, 0, none⟩), .string line] w fun e w' => e = .panicked [{ v := .iface 56 (.agg #[]), recovered := false }] ∧ Below w.heap.size w w' := by
  have CC := hide hc
  have CW := hide (fun w => restWords_any w)
  clear hc
  go_enter Tryz.func30, Tryz.ntmps30
  go_wp2_with fail
  refine CC.out.mono ?_
  rintro e w1 ⟨rfl, hg1⟩
  have HG1 := hide hg1
  clear hg1 CC
  go_wp2_with fail
  refine (CW.out w1).mono ?_
  rintro e w2 ⟨rfl, hw2⟩
  have hb2 : Below w1.heap.size w1 w2 := by rw [hw2]; exact (Below.refl _ _).alloc (Nat.le_refl _) _
  have hl := look_restWords word w2 (b := w1.heap.size) (by rw [hw2]; exact (MapKept.heap_alloc w1 _).1)
  rw [hf] at hl
  have HB2 := hide (HG1.out.below.trans (hb2.mono HG1.out.size))
  clear hw2 hb2 CW HG1 hf
  go_wp2
  exact ⟨rfl, rfl, HB2.out⟩

set_option maxRecDepth 100000 in
set_option maxHeartbeats 4000000 in
theorem run_lone (b : Nat) (s line : ByteArray) (w : World) (hB : BenchAt w b s) (hE : Env w) (word : ByteArray) (hc : Calls Tryz.prog 39 #[.string line, .string ⟨#[32]⟩] w fun e w' => e = .returned (.tuple #[.string word, .string ⟨#[]⟩, .bool false]) ∧ Grw w w') (f : Nat) (q : ByteArray × ByteArray × Bool) (hf : fnd word loneL = some f)
    (ef : ∀ args w, (callFunc f args).run Tryz.prog w = .ok (.enter f args) w) (hd : ∀ w, BenchAt w b s → Env w → Does f #[.pointer (some ⟨b, 0, none⟩)] b q w) :
    Does 30 #[.pointer (some ⟨b, 0, none⟩), .string line] b q w := by
  have HD := hide hd
  have CC := hide hc
  have CW := hide (fun w => loneWords_any w)
  have HB := hide hB
  have HE := hide hE
  unfold Does
  obtain ⟨q1, q2, q3⟩ := q
  clear hd hc hB hE
  go_enter Tryz.func30, Tryz.ntmps30
  go_wp2_with fail
  refine CC.out.mono ?_
  rintro e w1 ⟨rfl, hg1⟩
  have HG1 := hide hg1
  clear hg1 CC
  go_wp2_with fail
  refine (CW.out w1).mono ?_
  rintro e w2 ⟨rfl, hw2⟩
  have hb2 : Below w1.heap.size w1 w2 := by rw [hw2]; exact (Below.refl _ _).alloc (Nat.le_refl _) _
  have hl := look_loneWords word w2 (b := w1.heap.size) (by rw [hw2]; exact (MapKept.heap_alloc w1 _).1)
  rw [hf] at hl
  have HB2 := hide (HG1.out.below.trans (hb2.mono HG1.out.size))
  have D := hide (HD.out w2 (HB.out.below HB2.out) (HE.out.below HB2.out))
  clear hw2 hb2 CW HG1 HD hf
  go_wp2_with (go_at_fn f; refine D.out.mono ?_; rintro e w3 ⟨rfl, ht3⟩; have HT := hide ht3; clear ht3)
  go_ret2
  exact ⟨rfl, Turn.after HB2.out HT.out⟩

set_option maxRecDepth 100000 in
set_option maxHeartbeats 4000000 in
theorem run_lone_none (b : Nat) (line : ByteArray) (w : World) (word : ByteArray) (hc : Calls Tryz.prog 39 #[.string line, .string ⟨#[32]⟩] w fun e w' => e = .returned (.tuple #[.string word, .string ⟨#[]⟩, .bool false]) ∧ Grw w w') (hf : fnd word loneL = none) :
    Calls Tryz.prog 30 #[.pointer (some ⟨b, 0, none⟩), .string line] w fun e w' => e = .panicked [{ v := .iface 56 (.agg #[]), recovered := false }] ∧ Below w.heap.size w w' := by
  have CC := hide hc
  have CW := hide (fun w => loneWords_any w)
  clear hc
  go_enter Tryz.func30, Tryz.ntmps30
  go_wp2_with fail
  refine CC.out.mono ?_
  rintro e w1 ⟨rfl, hg1⟩
  have HG1 := hide hg1
  clear hg1 CC
  go_wp2_with fail
  refine (CW.out w1).mono ?_
  rintro e w2 ⟨rfl, hw2⟩
  have hb2 : Below w1.heap.size w1 w2 := by rw [hw2]; exact (Below.refl _ _).alloc (Nat.le_refl _) _
  have hl := look_loneWords word w2 (b := w1.heap.size) (by rw [hw2]; exact (MapKept.heap_alloc w1 _).1)
  rw [hf] at hl
  have HB2 := hide (HG1.out.below.trans (hb2.mono HG1.out.size))
  clear hw2 hb2 CW HG1 hf
  go_wp2
  exact ⟨rfl, rfl, HB2.out⟩
end Go.Proofs.YtdooboibmllfkaaGreatDoor

namespace Go.Proofs.YtdooboibmllfkaaGreatDoor
set_option maxRecDepth 100000
open Go.RowKit Go.Sort

theorem assert_nil (W : World) : (Instr.typeAssert .nilIface 20 56 true).run Tryz.prog W = .ok (.tuple #[.agg #[], .bool false]) W := by kernel_rfl
theorem assert_yes (W : World) : (Instr.typeAssert (.iface 56 (.agg #[])) 20 56 true).run Tryz.prog W = .ok (.tuple #[.agg #[], .bool true]) W := by kernel_rfl
set_option maxHeartbeats 2000000 in
theorem catch_idle (p : Addr) (w : World) :
    CallsD Tryz.prog 29 #[.pointer (some p)] .returning w fun e u' w' => e = .returned (.tuple #[]) ∧ u' = .returning ∧ w' = w.alloc (.cells #[] 56) := by
  have t0 := assert_nil
  refine callsD_of_wpS Tryz.func29 rfl fun c₀ cs hu => ?_
  apply wpS_seq
  apply wpS_region
  simp [wpOpsS, go_sem, recoverD, hu, Tryz.ntmps29, Exit.thenS, t0]
  apply wpS_seq
  apply wpS_region
  simp [wpOpsS, go_sem, Exit.thenS]
  refine wpS_cond (t := false) (by simp [Act.eval]) ?_
  simp only [Bool.false_eq_true, if_false]
  refine wpS_of_wp (wp_skip ?_)
  cases c₀
  simp_all [bodyPostS, results, Tryz.results29]
set_option maxHeartbeats 2000000 in
theorem catch_what (p : Addr) (x : ByteArray) (older : List PanicEntry) (w : World) (hc : w.cell? p = some (.string x)) (hz : w.frozen? p = false) :
    CallsD Tryz.prog 29 #[.pointer (some p)] (.panicking ({ v := .iface 56 (.agg #[]), recovered := false } :: older)) w fun e u' w' =>
      e = .returned (.tuple #[]) ∧ u' = .panicking ({ v := .iface 56 (.agg #[]), recovered := true } :: older) ∧ w' = (w.alloc (.cells #[] 56)).setCell p (.string ⟨#[119, 104, 97, 116]⟩) := by
  have t0 := assert_yes
  have hl : p.block < w.heap.size := World.block_lt_of_cell? w _ hc
  have hc2 : (w.alloc (.cells #[] 56)).cell? p = some (.string x) := (World.cell?_alloc_lt _ _ p hl).trans hc
  have hz2 : (w.alloc (.cells #[] 56)).frozen? p = false := (World.frozen?_alloc_old _ _ p (Nat.ne_of_lt hl)).trans hz
  refine callsD_of_wpS Tryz.func29 rfl fun c₀ cs hu => ?_
  apply wpS_seq
  apply wpS_region
  simp [wpOpsS, go_sem, recoverD, hu, Tryz.ntmps29, Exit.thenS, t0]
  apply wpS_seq
  apply wpS_region
  simp [wpOpsS, go_sem, Exit.thenS]
  refine wpS_cond (t := true) (by simp [Act.eval]) ?_
  simp only [if_true]
  apply wpS_region
  simp [wpOpsS, go_sem, hc2, hz2, bodyPostS, results, Tryz.results29]

def AnsPost (b : Nat) (q : ByteArray × ByteArray) (w : World) (e : Ending) (w' : World) : Prop := e = .returned (.string q.2) ∧ Turn b q.1 w w'
theorem grown_cell8 (w : World) (c : Nat) (v : Value) : w.grownBy (w.setCell ⟨c, 0, none⟩ v) (some c) :=
  ⟨rfl, rfl, rfl, by simp [World.setCell], fun k _ hk => Below.heap_setCell _ _ _ _ (fun e => hk (by rw [e]))⟩
theorem ans_turn {b : Nat} {s s' : ByteArray} {w w2 : World} {o : Obj} {x : ByteArray} {T : TypeId} (hB : BenchAt w b s) (ho : o = .cells #[.string x] T (0, 0)) (h : (w.alloc o).grownBy w2 (some b)) (hb2 : BenchAt w2 b s') :
    w2.cell? ⟨w.heap.size, 0, none⟩ = some (.string x) ∧ w2.frozen? ⟨w.heap.size, 0, none⟩ = false ∧ w.heap.size < w2.heap.size ∧ ∀ (W : World), w2.grownBy W (some w.heap.size) → Turn b s' w W := by
  subst ho
  have hl := hB.lt
  have hne : some w.heap.size ≠ some b := by intro e; cases e; omega
  have hnb : some b ≠ some w.heap.size := by intro e; cases e; omega
  have hb := h.block w.heap.size (by simp) hne
  have hs2 : w.heap.size + 1 ≤ w2.heap.size := by have := h.size; simpa using this
  have k1 : ∀ k, k < w.heap.size → some k ≠ some b → w2.heap[k]? = w.heap[k]? := fun k hk hkb => (h.block k (by simp; omega) hkb).trans (Below.heap_alloc w _ k hk)
  refine ⟨(World.cell?_of_block (a := ⟨w.heap.size, 0, none⟩) hb).trans (by simp), (World.frozen?_of_block (a := ⟨w.heap.size, 0, none⟩) hb).trans (by simp), by omega, fun W hW => ?_⟩
  have hs3 := hW.size
  have hbW := hW.block b (by omega) hnb
  refine ⟨⟨(World.cell?_of_block (a := ⟨b, 0, none⟩) hbW).trans hb2.1, (World.frozen?_of_block (a := ⟨b, 0, none⟩) hbW).trans hb2.2⟩, ⟨hW.os.trans h.os, hW.tape.trans h.tape, hW.output.trans h.output, by omega, fun k hk hkb => ?_⟩⟩
  exact (hW.block k (by omega) (by intro e; cases e; omega)).trans (k1 k hk hkb)

set_option maxHeartbeats 2000000 in
theorem answer_some (b : Nat) (s line : ByteArray) (w : World) (q : ByteArray × ByteArray × Bool) (hB : BenchAt w b s) (hE : Env w)
    (hr : ∀ w, BenchAt w b s → Env w → Does 30 #[.pointer (some ⟨b, 0, none⟩), .string line] b q w) :
    Calls Tryz.prog 18 #[.pointer (some ⟨b, 0, none⟩), .string line] w (AnsPost b (q.1, if q.2.2 then q.2.1 else noB) w) := by
  have hmf : ∀ (fn : Fn) (first cap : Array Value) (w : World), (Instr.makeFunc fn first cap).run Tryz.prog w = .ok (.func fn first cap) w := fun _ _ _ _ => rfl
  obtain ⟨o, ho⟩ : ∃ o : Obj, o = .cells #[.string ⟨#[110, 111]⟩] 9 (0, 0) := ⟨_, rfl⟩
  have hbo : Below w.heap.size w (w.alloc o) := (Below.refl _ _).alloc (Nat.le_refl _) _
  have CR := hide (hr (w.alloc o) (hB.below hbo) (hE.below hbo))
  have HA := hide (fun (w2 : World) (h : Turn b q.1 (w.alloc o) w2) => ans_turn hB ho h.kept h.bench)
  obtain ⟨q1, q2, q3⟩ := q
  rw [ho] at CR HA
  unfold Does at CR
  clear ho hbo hr hB hE
  cases q3
  all_goals go_enter_defers Tryz.func18, Tryz.ntmps18
  all_goals go_wp2_with (go_at_call 30; refine CR.out.mono ?_; rintro e w2 ⟨rfl, ht⟩; obtain ⟨hc2, hz2, hl2, hT⟩ := HA.out w2 ht; have HT := hide hT; clear ht hT)
  · have hg1 := grown_cell8 w2 w.heap.size (.string ⟨#[110, 111]⟩)
    have hcc : (w2.setCell ⟨w.heap.size, 0, none⟩ (.string ⟨#[110, 111]⟩)).cell? ⟨w.heap.size, 0, none⟩ = some (.string ⟨#[110, 111]⟩) := World.cell?_setCell_same' _ _ _ (by rw [hc2]; rfl)
    generalize w2.setCell ⟨w.heap.size, 0, none⟩ (.string ⟨#[110, 111]⟩) = W at hg1 hcc ⊢
    have he := (World.cell?_alloc_lt W (.cells #[] 56) ⟨w.heap.size, 0, none⟩ (Nat.lt_of_lt_of_le hl2 hg1.size)).trans hcc
    have hT := HT.out _ (hg1.trans (World.grownBy_alloc W (.cells #[] 56) _))
    refine leaves_cons (by simp) (by rfl) ((catch_idle ⟨w.heap.size, 0, none⟩ _).mono ?_)
    rintro e u' w' ⟨rfl, rfl, rfl⟩
    refine ⟨.string noB, ?_, rfl, hT⟩
    simp [results, Tryz.results18, go_sem, he, noB]
  · have hg1 := (grown_cell8 w2 w.heap.size (.string q2)).trans (grown_cell8 (w2.setCell ⟨w.heap.size, 0, none⟩ (.string q2)) w.heap.size (.string q2))
    have hcc : ((w2.setCell ⟨w.heap.size, 0, none⟩ (.string q2)).setCell ⟨w.heap.size, 0, none⟩ (.string q2)).cell? ⟨w.heap.size, 0, none⟩ = some (.string q2) := World.cell?_setCell_same' _ _ _ (by rw [World.cell?_setCell_same' _ _ _ (by rw [hc2]; rfl)]; rfl)
    generalize (w2.setCell ⟨w.heap.size, 0, none⟩ (.string q2)).setCell ⟨w.heap.size, 0, none⟩ (.string q2) = W at hg1 hcc ⊢
    have he := (World.cell?_alloc_lt W (.cells #[] 56) ⟨w.heap.size, 0, none⟩ (Nat.lt_of_lt_of_le hl2 hg1.size)).trans hcc
    have hT := HT.out _ (hg1.trans (World.grownBy_alloc W (.cells #[] 56) _))
    refine leaves_cons (by simp) (by rfl) ((catch_idle ⟨w.heap.size, 0, none⟩ _).mono ?_)
    rintro e u' w' ⟨rfl, rfl, rfl⟩
    refine ⟨.string q2, ?_, rfl, hT⟩
    simp [results, Tryz.results18, go_sem, he]

set_option maxHeartbeats 2000000 in
theorem answer_none (b : Nat) (s line : ByteArray) (w : World) (hB : BenchAt w b s)
    (hr : ∀ w, Calls Tryz.prog 30 #[.pointer (some ⟨b, 0, none⟩), .string line] w fun e w' => e = .panicked [{ v := .iface 56 (.agg #[]), recovered := false }] ∧ Below w.heap.size w w') :
    Calls Tryz.prog 18 #[.pointer (some ⟨b, 0, none⟩), .string line] w (AnsPost b (s, whatB) w) := by
  have hmf : ∀ (fn : Fn) (first cap : Array Value) (w : World), (Instr.makeFunc fn first cap).run Tryz.prog w = .ok (.func fn first cap) w := fun _ _ _ _ => rfl
  obtain ⟨o, ho⟩ : ∃ o : Obj, o = .cells #[.string ⟨#[110, 111]⟩] 9 (0, 0) := ⟨_, rfl⟩
  have hbo : Below w.heap.size w (w.alloc o) := (Below.refl _ _).alloc (Nat.le_refl _) _
  have CR := hide (hr (w.alloc o))
  have HA := hide (fun (w2 : World) (h : Below (w.alloc o).heap.size (w.alloc o) w2) => ans_turn hB ho (grown_of_below h (some b)) ((hB.below hbo).below h))
  rw [ho] at CR HA
  clear ho hbo hr hB
  go_enter_defers Tryz.func18, Tryz.ntmps18
  go_wp2_with (go_at_call 30; refine CR.out.mono ?_; rintro e w2 ⟨rfl, ht⟩; obtain ⟨hc2, hz2, hl2, hT⟩ := HA.out w2 ht; have HT := hide hT; clear ht hT)
  have hl3 : w.heap.size < (w2.alloc (.cells #[] 56)).heap.size := by simp; omega
  have hcc : ((w2.alloc (.cells #[] 56)).setCell ⟨w.heap.size, 0, none⟩ (.string ⟨#[119, 104, 97, 116]⟩)).cell? ⟨w.heap.size, 0, none⟩ = some (.string ⟨#[119, 104, 97, 116]⟩) := World.cell?_setCell_same' _ _ _ (by rw [World.cell?_alloc_lt w2 _ ⟨w.heap.size, 0, none⟩ hl2, hc2]; rfl)
  have hT := HT.out _ ((World.grownBy_alloc w2 (.cells #[] 56) _).trans (grown_cell8 (w2.alloc (.cells #[] 56)) w.heap.size (.string ⟨#[119, 104, 97, 116]⟩)))
  refine leaves_cons (by simp) (by rfl) ((catch_what ⟨w.heap.size, 0, none⟩ _ [] w2 hc2 hz2).mono ?_)
  rintro e u' w' ⟨rfl, rfl, rfl⟩
  refine ⟨.string whatB, ?_, rfl, hT⟩
  simp [results, Tryz.results18, go_sem, hcc, whatB]

theorem answer_any (b : Nat) (s line : ByteArray) (w : World) (hs : line.size ≤ 600) (hv : vld s = true) (hB : BenchAt w b s) (hE : Env w) :
    Calls Tryz.prog 18 #[.pointer (some ⟨b, 0, none⟩), .string line] w (AnsPost b (ansS s (cmdS s line)) w) := by
  unfold cmdS
  by_cases hat : atL (lst line) = line.size
  · rw [if_pos hat]
    have cut : ∀ w, Calls Tryz.prog 39 #[.string line, .string ⟨#[32]⟩] w fun e w' => e = .returned (.tuple #[.string line, .string ⟨#[]⟩, .bool false]) ∧ Grw w w' := fun w => (cut_none line w hat).mono fun e w' h => ⟨h.1, by rw [h.2]; exact Grw.refl _⟩
    rcases lone_known b s line hv with ⟨hf, hq⟩ | ⟨f, q, hf, hq, ef, hd⟩
    · rw [hq]
      exact answer_none b s line w hB (fun w => run_lone_none b line w line (cut w) hf)
    · rw [hq]
      obtain ⟨q1, q2, q3⟩ := q
      exact answer_some b s line w (q1, q2, q3) hB hE (fun w hB hE => run_lone b s line w hB hE line (cut w) f (q1, q2, q3) hf ef hd)
  · rw [if_neg hat]
    have cut : ∀ w, Calls Tryz.prog 39 #[.string line, .string ⟨#[32]⟩] w fun e w' => e = .returned (.tuple #[.string (line.extract 0 (atL (lst line))), .string (line.extract (atL (lst line) + 1) line.size), .bool true]) ∧ Grw w w' := fun w => cut_yes line w (by omega) hat
    have hz : (line.extract (atL (lst line) + 1) line.size).size ≤ 600 := by rw [ByteArray.size_extract]; omega
    rcases rest_known b s (line.extract 0 (atL (lst line))) (line.extract (atL (lst line) + 1) line.size) hz hv with ⟨hf, hq⟩ | ⟨f, q, hf, hq, ef, hd⟩
    · rw [hq]
      exact answer_none b s line w hB (fun w => run_rest_none b line w _ _ (cut w) hf)
    · rw [hq]
      obtain ⟨q1, q2, q3⟩ := q
      exact answer_some b s line w (q1, q2, q3) hB hE (fun w hB hE => run_rest b s line w hB hE _ _ (cut w) f (q1, q2, q3) hf ef hd)
end Go.Proofs.YtdooboibmllfkaaGreatDoor

namespace Go.Proofs.YtdooboibmllfkaaGreatDoor
set_option maxRecDepth 100000
open Go.RowKit Go.Sort

attribute [local go_sem] Oper.semAt_some
def leftOf (cb : Nat) (w : World) : Nat := match w.cell? ⟨cb, 0, none⟩ with | some (.string x) => x.size | _ => 0
theorem lnY_cons {r : ByteArray} {k : Nat} (h : Lib.indexByte r.data.toList 10 = (k : Int)) : lnY [] (lst r) = lst (r.extract 0 (k + 1)) :: lnY [] (lst (r.extract (k + 1) r.size)) ∧ k + 1 ≤ r.size := by
  obtain ⟨h1, h2, h3⟩ := index_some h
  have e : lst r = (lst r).take k ++ 10 :: (lst r).drop (k + 1) := h1
  have h4 : k < (lst r).length := h3
  have h5 : 10 ∉ (lst r).take k := h2
  rw [lst_size] at h4
  refine ⟨?_, h4⟩
  have e1 : lst (r.extract 0 (k + 1)) = (lst r).take k ++ [10] := by
    rw [lst_extract, List.drop_zero, Nat.sub_zero]
    conv => lhs; rw [e]
    rw [List.take_append, List.length_take, lst_size, Nat.min_eq_left (Nat.le_of_lt h4), List.take_take, Nat.min_eq_right (Nat.le_succ k), show k + 1 - k = 1 by omega]
    rfl
  have e2 : lst (r.extract (k + 1) r.size) = (lst r).drop (k + 1) := by
    rw [lst_extract, List.take_of_length_le]
    rw [List.length_drop, lst_size]
    exact Nat.le_refl _
  rw [e1, e2]
  conv => lhs; rw [e]
  exact lnY_cut h5
theorem lnY_one {r : ByteArray} (h : Lib.indexByte r.data.toList 10 < 0) (h0 : 0 < r.size) : lnY [] (lst r) = [lst r] :=
  lnY_last (index_none h) (fun e => by rw [← lst_size, e] at h0; exact absurd h0 (Nat.lt_irrefl 0))

theorem linesB_at {s : ByteArray} {k : Nat} {r : List UInt8} {x : ByteArray} {t : List (List UInt8)} (h : lnY [] r = (lnY [] (lst s)).drop k) (e : lnY [] r = lst x :: t) : (linesB s)[k]? = some x := by
  rw [e] at h
  have h1 : (lnY [] (lst s))[k]? = some (lst x) := by
    have := congrArg (·[0]?) h
    simp only [List.getElem?_cons_zero, List.getElem?_drop, Nat.add_zero] at this
    exact this.symm
  unfold linesB
  rw [List.getElem?_map, h1]
  exact congrArg some (ofL_lst x)
theorem linesB_next {s : ByteArray} {k : Nat} {r : List UInt8} {x : List UInt8} {t : List (List UInt8)} (h : lnY [] r = (lnY [] (lst s)).drop k) (e : lnY [] r = x :: t) : t = (lnY [] (lst s)).drop (k + 1) := by
  rw [e] at h
  have := congrArg (List.drop 1) h
  rw [List.drop_drop] at this
  simpa using this
theorem set_cell {w : World} {b : Nat} {v0 : Value} {x : ByteArray} (hc : w.cell? ⟨b, 0, none⟩ = some v0) (hz : w.frozen? ⟨b, 0, none⟩ = false) (W : World) (h : W.heap[b]? = (w.setCell ⟨b, 0, none⟩ (.string x)).heap[b]?) :
    W.cell? ⟨b, 0, none⟩ = some (.string x) ∧ W.frozen? ⟨b, 0, none⟩ = false :=
  ⟨(World.cell?_of_block (a := ⟨b, 0, none⟩) h).trans (World.cell?_setCell_same' _ _ _ (by rw [hc]; rfl)), (World.frozen?_of_block (a := ⟨b, 0, none⟩) h).trans (by rw [World.frozen?_setCell]; exact hz)⟩

set_option maxRecDepth 100000 in
set_option maxHeartbeats 4000000 in
theorem lines_all (cb : Nat) (s : ByteArray) (hs : s.size ≤ 1000) (w : World) (hc : w.cell? ⟨cb, 0, none⟩ = some (.string s)) (hz : w.frozen? ⟨cb, 0, none⟩ = false) (n : Nat) (hn : 1 ≤ n) :
    SeqAll Fence.wide n Tryz.prog 25 #[.pointer (some ⟨cb, 0, none⟩)] (fun x : ByteArray => #[Value.string x]) cb (linesB s) w := fun l J W hW hJ hY h0 => by
  have hcl : cb < w.heap.size := World.block_lt_of_cell? w _ hc
  have hcW : W.cell? ⟨cb, 0, none⟩ = some (.string s) := (hW.cell (p := ⟨cb, 0, none⟩) hcl).trans hc
  have hzW : W.frozen? ⟨cb, 0, none⟩ = false := (World.frozen?_of_block (a := ⟨cb, 0, none⟩) (hW.block _ hcl)).trans hz
  have HJ := hide hJ
  have HY := hide hY
  have mixed : Tryz.prog.follows .mixedOrders = true := by kernel_rfl
  clear hc hz hJ hY
  refine callsIn_of_wp Tryz.func25 rfl trivial ?_ rfl
  simp only [Tryz.ntmps25, List.size_toArray, List.length_cons, List.length_nil, Nat.reduceAdd, Nat.reduceSub, Array.replicate_succ, Array.replicate_zero, List.push_toArray, List.append_toArray, List.nil_append, List.cons_append]
  gi_wp2
  gi_loopw [3] (fun _ wr => ∃ (k : Nat) (r : ByteArray), r.size ≤ 1000 ∧ Hid (lnY [] (lst r) = (lnY [] (lst s)).drop k) ∧ k ≤ (linesB s).length ∧ wr.cell? ⟨cb, 0, none⟩ = some (.string r) ∧ wr.frozen? ⟨cb, 0, none⟩ = false ∧ Hid (J k wr)) (fun _ wr => leftOf cb wr)
  case atStart => exact ⟨0, s, hs, by show _ = _; rw [List.drop_zero], Nat.zero_le _, hcW, hzW, h0⟩
  case round =>
    obtain ⟨k, r, hr, HL, hk, hcr, hzr, HK⟩ := hrel
    by_cases h0 : 0 < r.size
    · have g0 : (0 : Int) < (r.size : Int) := by omega
      have CI := hide (((callsIn_wide (n := n - 1)).2 (Tryz.strings_IndexByte r 10 wr)).mono (R' := fun e w' => e = .returned (.int .i64 (Lib.indexByte r.data.toList 10)) ∧ wr = w') (fun e w' h => ⟨h.1, h.2.symm⟩))
      rcases Int.lt_or_le (Lib.indexByte r.data.toList 10) 0 with hi | hi
      · have e := lnY_one hi h0
        have hx : (linesB s)[k]? = some r := linesB_at HL.out e
        have HN : Hid (lnY [] (lst (⟨#[]⟩ : ByteArray)) = (lnY [] (lst s)).drop (k + 1)) := linesB_next HL.out e
        obtain ⟨hkl, _⟩ := List.getElem?_eq_some_iff.1 hx
        obtain ⟨x, hx2⟩ : ∃ x, x = Lib.indexByte r.data.toList 10 := ⟨_, rfl⟩
        rw [← hx2] at CI hi
        have g1 : ¬ (0 : Int) ≤ x := by omega
        obtain ⟨fn, tmps, assign, body, hyy, hR⟩ := HY.out k r (wr.setCell ⟨cb, 0, none⟩ (.string ⟨#[]⟩)) hx (HJ.out.set k wr _ HK.out)
        have HC := hide (set_cell (x := ⟨#[]⟩) hcr hzr)
        have HM : Hid (leftOf cb wr = r.size) := by show leftOf cb wr = _; unfold leftOf; rw [hcr]
        clear hx2 hi e hx
        gi_wp2_with (refine ⟨trivial, ?_⟩; gi_at_call 26; refine CI.out.mono ?_; rintro e w' ⟨rfl, rfl⟩)
        refine hR.mono ?_
        rintro e W3 ⟨rfl, hJ3, hk3⟩
        obtain ⟨q1, q2⟩ := HC.out W3 hk3
        have HJ3 := hide hJ3
        clear hJ3 hk3
        gi_wp2
        go_roundw
        case rel => exact ⟨k + 1, _, Nat.zero_le _, HN, hkl, q1, q2, HJ3⟩
        case measure =>
          rw [HM.out]
          unfold leftOf
          rw [q1]
          exact h0
      · obtain ⟨j, hj⟩ : ∃ j : Nat, Lib.indexByte r.data.toList 10 = (j : Int) := ⟨(Lib.indexByte r.data.toList 10).toNat, by omega⟩
        obtain ⟨e, hle⟩ := lnY_cons hj
        have hx : (linesB s)[k]? = some (r.extract 0 (j + 1)) := linesB_at HL.out e
        have HN : Hid (lnY [] (lst (r.extract (j + 1) r.size)) = (lnY [] (lst s)).drop (k + 1)) := linesB_next HL.out e
        obtain ⟨hkl, _⟩ := List.getElem?_eq_some_iff.1 hx
        have hrest : (r.extract (j + 1) r.size).size < r.size := by
          rw [← lst_size, lst_extract]
          have := List.length_take_le (r.size - (j + 1)) ((lst r).drop (j + 1))
          rw [List.length_take, List.length_drop, lst_size]
          omega
        rw [hj] at CI
        have g1 : (0 : Int) ≤ (j : Int) := by omega
        have g2 : (j : Int) + 1 ≤ (r.size : Int) := by omega
        have g3 : (0 : Int) ≤ (j : Int) + 1 := by omega
        have wk : IntKind.i64.wrap ((j : Int) + 1) = (j : Int) + 1 := by rw [IntKind.wrap_i64]; omega
        obtain ⟨x, hx1⟩ : ∃ x, x = r.extract 0 (j + 1) := ⟨_, rfl⟩
        obtain ⟨y, hy1⟩ : ∃ y, y = r.extract (j + 1) r.size := ⟨_, rfl⟩
        rw [← hx1] at hx
        rw [← hy1] at HN hrest
        have ex : r.extract 0 (j + 1) = x := hx1.symm
        have ey : r.extract (j + 1) r.size = y := hy1.symm
        obtain ⟨fn, tmps, assign, body, hyy, hR⟩ := HY.out k x (wr.setCell ⟨cb, 0, none⟩ (.string y)).drew hx (HJ.out.drew k _ (HJ.out.set k wr _ HK.out))
        have HC := hide (set_cell (x := y) hcr hzr)
        have HM : Hid (leftOf cb wr = r.size) := by show leftOf cb wr = _; unfold leftOf; rw [hcr]
        clear hj hi e hx hx1 hy1
        gi_wp2_with (refine ⟨trivial, ?_⟩; gi_at_call 26; refine CI.out.mono ?_; rintro e w' ⟨rfl, rfl⟩)
        gi_region
        gi_wp2
        refine hR.mono ?_
        rintro e W3 ⟨rfl, hJ3, hk3⟩
        obtain ⟨q1, q2⟩ := HC.out W3 hk3
        have HJ3 := hide hJ3
        clear hJ3 hk3
        gi_wp2
        go_roundw
        case rel => exact ⟨k + 1, y, by omega, HN, hkl, q1, q2, HJ3⟩
        case measure =>
          rw [HM.out]
          unfold leftOf
          rw [q1]
          exact hrest
    · have g0 : ¬ (0 : Int) < (r.size : Int) := by omega
      have hend : Hid (k = (linesB s).length) := by
        show _ = _
        have e := HL.out
        have er : lst r = [] := List.eq_nil_of_length_eq_zero (by rw [lst_size]; omega)
        rw [er] at e
        have := congrArg List.length e
        simp [lnY] at this
        unfold linesB at hk ⊢
        rw [List.length_map] at hk ⊢
        omega
      gi_wp2
      go_end0
      exact ⟨⟨_, rfl⟩, by rw [← hend.out]; exact HK.out⟩
end Go.Proofs.YtdooboibmllfkaaGreatDoor
