/- TEXTS Ans8, LinesI, SExe7, PExe1, PExe2. -/
import Derived.Test.YtdooboibmllfkabGreatDoorExb44
import Derived.Defers
import Derived.Recover
import Derived.Laws.Pointers
import Derived.Test.YtdooboibmllfkabGreatDoorExb18
namespace Go.Proofs.YtdooboibmllfkabGreatDoor
set_option maxRecDepth 100000
open Go.RowKit Go.Sort

theorem assert_nil (W : World) : (Instr.typeAssert .nilIface 20 85 true).run Tryz.prog W = .ok (.tuple #[.agg #[], .bool false]) W := by kernel_rfl
theorem assert_yes (W : World) : (Instr.typeAssert (.iface 85 (.agg #[])) 20 85 true).run Tryz.prog W = .ok (.tuple #[.agg #[], .bool true]) W := by kernel_rfl
set_option maxHeartbeats 2000000 in
theorem catch_idle (p : Addr) (w : World) :
    CallsD Tryz.prog 53 #[.pointer (some p)] .returning w fun e u' w' => e = .returned (.tuple #[]) ∧ u' = .returning ∧ w' = w.alloc (.cells #[] 85) := by
  have t0 := assert_nil
  refine callsD_of_wpS Tryz.func53 rfl fun c₀ cs hu => ?_
  apply wpS_seq
  apply wpS_region
  simp [wpOpsS, go_sem, recoverD, hu, Tryz.ntmps53, Exit.thenS, t0]
  apply wpS_seq
  apply wpS_region
  simp [wpOpsS, go_sem, Exit.thenS]
  refine wpS_cond (t := false) (by simp [Act.eval]) ?_
  simp only [Bool.false_eq_true, if_false]
  refine wpS_of_wp (wp_skip ?_)
  cases c₀
  simp_all [bodyPostS, results, Tryz.results53]
set_option maxHeartbeats 2000000 in
theorem catch_what (p : Addr) (x : ByteArray) (older : List PanicEntry) (w : World) (hc : w.cell? p = some (.string x)) (hz : w.frozen? p = false) :
    CallsD Tryz.prog 53 #[.pointer (some p)] (.panicking ({ v := .iface 85 (.agg #[]), recovered := false } :: older)) w fun e u' w' =>
      e = .returned (.tuple #[]) ∧ u' = .panicking ({ v := .iface 85 (.agg #[]), recovered := true } :: older) ∧ w' = (w.alloc (.cells #[] 85)).setCell p (.string ⟨#[119, 104, 97, 116]⟩) := by
  have t0 := assert_yes
  have hl : p.block < w.heap.size := World.block_lt_of_cell? w _ hc
  have hc2 : (w.alloc (.cells #[] 85)).cell? p = some (.string x) := (World.cell?_alloc_lt _ _ p hl).trans hc
  have hz2 : (w.alloc (.cells #[] 85)).frozen? p = false := (World.frozen?_alloc_old _ _ p (Nat.ne_of_lt hl)).trans hz
  refine callsD_of_wpS Tryz.func53 rfl fun c₀ cs hu => ?_
  apply wpS_seq
  apply wpS_region
  simp [wpOpsS, go_sem, recoverD, hu, Tryz.ntmps53, Exit.thenS, t0]
  apply wpS_seq
  apply wpS_region
  simp [wpOpsS, go_sem, Exit.thenS]
  refine wpS_cond (t := true) (by simp [Act.eval]) ?_
  simp only [if_true]
  apply wpS_region
  simp [wpOpsS, go_sem, hc2, hz2, bodyPostS, results, Tryz.results53]

def AnsPost (b : Nat) (q : ByteArray × ByteArray) (w : World) (e : Ending) (w' : World) : Prop := e = .returned (.string q.2) ∧ Turn b q.1 w w'
theorem grown_cell8 (w : World) (c : Nat) (v : Value) : w.grownBy (w.setCell ⟨c, 0, none⟩ v) (some c) :=
  ⟨rfl, rfl, rfl, by simp [World.setCell], fun k _ hk => Below.heap_setCell _ _ _ _ (fun e => hk (by rw [e]))⟩
theorem ans_turn {b : Nat} {s s' : ByteArray} {w w2 : World} {o : Obj} {x : ByteArray} {T : TypeId} (hB : BenchAt w b s) (ho : o = .cells #[.string x] T (0, 0)) (h : (w.alloc o).grownBy w2 (some b)) (hb2 : BenchAt w2 b s') :
    w2.cell? ⟨w.heap.size, 0, none⟩ = some (.string x) ∧ w2.frozen? ⟨w.heap.size, 0, none⟩ = false ∧ w.heap.size < w2.heap.size ∧ ∀ (W : World), w2.grownBy W (some w.heap.size) → Turn b s' w W := by
  subst ho
  have hl := hB.lt
  have hne : some w.heap.size ≠ some b := by intro e; cases e; omega
  have hnb : some b ≠ some w.heap.size := by intro e; cases e; omega
  have hb := h.block w.heap.size (by simp) hne
  have hs2 : w.heap.size + 1 ≤ w2.heap.size := by have := h.size; simpa using this
  have k1 : ∀ k, k < w.heap.size → some k ≠ some b → w2.heap[k]? = w.heap[k]? := fun k hk hkb => (h.block k (by simp; omega) hkb).trans (Below.heap_alloc w _ k hk)
  refine ⟨(World.cell?_of_block (a := ⟨w.heap.size, 0, none⟩) hb).trans (by simp), (World.frozen?_of_block (a := ⟨w.heap.size, 0, none⟩) hb).trans (by simp), by omega, fun W hW => ?_⟩
  have hs3 := hW.size
  have hbW := hW.block b (by omega) hnb
  refine ⟨⟨(World.cell?_of_block (a := ⟨b, 0, none⟩) hbW).trans hb2.1, (World.frozen?_of_block (a := ⟨b, 0, none⟩) hbW).trans hb2.2⟩, ⟨hW.os.trans h.os, hW.tape.trans h.tape, hW.output.trans h.output, by omega, fun k hk hkb => ?_⟩⟩
  exact (hW.block k (by omega) (by intro e; cases e; omega)).trans (k1 k hk hkb)

set_option maxHeartbeats 2000000 in
theorem answer_some (b : Nat) (s line : ByteArray) (w : World) (q : ByteArray × ByteArray × Bool) (hB : BenchAt w b s) (hE : Env w)
    (hr : ∀ w, BenchAt w b s → Env w → Does 54 #[.pointer (some ⟨b, 0, none⟩), .string line] b q w) :
    Calls Tryz.prog 29 #[.pointer (some ⟨b, 0, none⟩), .string line] w (AnsPost b (q.1, if q.2.2 then q.2.1 else noB) w) := by
  have hmf : ∀ (fn : Fn) (first cap : Array Value) (w : World), (Instr.makeFunc fn first cap).run Tryz.prog w = .ok (.func fn first cap) w := fun _ _ _ _ => rfl
  obtain ⟨o, ho⟩ : ∃ o : Obj, o = .cells #[.string ⟨#[110, 111]⟩] 9 (0, 0) := ⟨_, rfl⟩
  have hbo : Below w.heap.size w (w.alloc o) := (Below.refl _ _).alloc (Nat.le_refl _) _
  have CR := hide (hr (w.alloc o) (hB.below hbo) (hE.below hbo))
  have HA := hide (fun (w2 : World) (h : Turn b q.1 (w.alloc o) w2) => ans_turn hB ho h.kept h.bench)
  obtain ⟨q1, q2, q3⟩ := q
  rw [ho] at CR HA
  unfold Does at CR
  clear ho hbo hr hB hE
  cases q3
  all_goals go_enter_defers Tryz.func29, Tryz.ntmps29
  all_goals go_wp2_with (go_at_call 54; refine CR.out.mono ?_; rintro e w2 ⟨rfl, ht⟩; obtain ⟨hc2, hz2, hl2, hT⟩ := HA.out w2 ht; have HT := hide hT; clear ht hT)
  · have hg1 := grown_cell8 w2 w.heap.size (.string ⟨#[110, 111]⟩)
    have hcc : (w2.setCell ⟨w.heap.size, 0, none⟩ (.string ⟨#[110, 111]⟩)).cell? ⟨w.heap.size, 0, none⟩ = some (.string ⟨#[110, 111]⟩) := World.cell?_setCell_same' _ _ _ (by rw [hc2]; rfl)
    generalize w2.setCell ⟨w.heap.size, 0, none⟩ (.string ⟨#[110, 111]⟩) = W at hg1 hcc ⊢
    have he := (World.cell?_alloc_lt W (.cells #[] 85) ⟨w.heap.size, 0, none⟩ (Nat.lt_of_lt_of_le hl2 hg1.size)).trans hcc
    have hT := HT.out _ (hg1.trans (World.grownBy_alloc W (.cells #[] 85) _))
    refine leaves_cons (by simp) (by rfl) ((catch_idle ⟨w.heap.size, 0, none⟩ _).mono ?_)
    rintro e u' w' ⟨rfl, rfl, rfl⟩
    refine ⟨.string noB, ?_, rfl, hT⟩
    simp [results, Tryz.results29, go_sem, he, noB]
  · have hg1 := (grown_cell8 w2 w.heap.size (.string q2)).trans (grown_cell8 (w2.setCell ⟨w.heap.size, 0, none⟩ (.string q2)) w.heap.size (.string q2))
    have hcc : ((w2.setCell ⟨w.heap.size, 0, none⟩ (.string q2)).setCell ⟨w.heap.size, 0, none⟩ (.string q2)).cell? ⟨w.heap.size, 0, none⟩ = some (.string q2) := World.cell?_setCell_same' _ _ _ (by rw [World.cell?_setCell_same' _ _ _ (by rw [hc2]; rfl)]; rfl)
    generalize (w2.setCell ⟨w.heap.size, 0, none⟩ (.string q2)).setCell ⟨w.heap.size, 0, none⟩ (.string q2) = W at hg1 hcc ⊢
    have he := (World.cell?_alloc_lt W (.cells #[] 85) ⟨w.heap.size, 0, none⟩ (Nat.lt_of_lt_of_le hl2 hg1.size)).trans hcc
    have hT := HT.out _ (hg1.trans (World.grownBy_alloc W (.cells #[] 85) _))
    refine leaves_cons (by simp) (by rfl) ((catch_idle ⟨w.heap.size, 0, none⟩ _).mono ?_)
    rintro e u' w' ⟨rfl, rfl, rfl⟩
    refine ⟨.string q2, ?_, rfl, hT⟩
    simp [results, Tryz.results29, go_sem, he]

set_option maxHeartbeats 2000000 in
theorem answer_none (b : Nat) (s line : ByteArray) (w : World) (hB : BenchAt w b s)
    (hr : ∀ w, Calls Tryz.prog 54 #[.pointer (some ⟨b, 0, none⟩), .string line] w fun e w' => e = .panicked [{ v := .iface 85 (.agg #[]), recovered := false }] ∧ Below w.heap.size w w') :
    Calls Tryz.prog 29 #[.pointer (some ⟨b, 0, none⟩), .string line] w (AnsPost b (s, whatB) w) := by
  have hmf : ∀ (fn : Fn) (first cap : Array Value) (w : World), (Instr.makeFunc fn first cap).run Tryz.prog w = .ok (.func fn first cap) w := fun _ _ _ _ => rfl
  obtain ⟨o, ho⟩ : ∃ o : Obj, o = .cells #[.string ⟨#[110, 111]⟩] 9 (0, 0) := ⟨_, rfl⟩
  have hbo : Below w.heap.size w (w.alloc o) := (Below.refl _ _).alloc (Nat.le_refl _) _
  have CR := hide (hr (w.alloc o))
  have HA := hide (fun (w2 : World) (h : Below (w.alloc o).heap.size (w.alloc o) w2) => ans_turn hB ho (grown_of_below h (some b)) ((hB.below hbo).below h))
  rw [ho] at CR HA
  clear ho hbo hr hB
  go_enter_defers Tryz.func29, Tryz.ntmps29
  go_wp2_with (go_at_call 54; refine CR.out.mono ?_; rintro e w2 ⟨rfl, ht⟩; obtain ⟨hc2, hz2, hl2, hT⟩ := HA.out w2 ht; have HT := hide hT; clear ht hT)
  have hl3 : w.heap.size < (w2.alloc (.cells #[] 85)).heap.size := by simp; omega
  have hcc : ((w2.alloc (.cells #[] 85)).setCell ⟨w.heap.size, 0, none⟩ (.string ⟨#[119, 104, 97, 116]⟩)).cell? ⟨w.heap.size, 0, none⟩ = some (.string ⟨#[119, 104, 97, 116]⟩) := World.cell?_setCell_same' _ _ _ (by rw [World.cell?_alloc_lt w2 _ ⟨w.heap.size, 0, none⟩ hl2, hc2]; rfl)
  have hT := HT.out _ ((World.grownBy_alloc w2 (.cells #[] 85) _).trans (grown_cell8 (w2.alloc (.cells #[] 85)) w.heap.size (.string ⟨#[119, 104, 97, 116]⟩)))
  refine leaves_cons (by simp) (by rfl) ((catch_what ⟨w.heap.size, 0, none⟩ _ [] w2 hc2 hz2).mono ?_)
  rintro e u' w' ⟨rfl, rfl, rfl⟩
  refine ⟨.string whatB, ?_, rfl, hT⟩
  simp [results, Tryz.results29, go_sem, hcc, whatB]

theorem answer_any (b : Nat) (s line : ByteArray) (w : World) (hs : line.size ≤ 600) (hv : vld s = true) (hB : BenchAt w b s) (hE : Env w) :
    Calls Tryz.prog 29 #[.pointer (some ⟨b, 0, none⟩), .string line] w (AnsPost b (ansS s (cmdS s line)) w) := by
  unfold cmdS
  by_cases hat : atL (lst line) = line.size
  · rw [if_pos hat]
    have cut : ∀ w, Calls Tryz.prog 71 #[.string line, .string ⟨#[32]⟩] w fun e w' => e = .returned (.tuple #[.string line, .string ⟨#[]⟩, .bool false]) ∧ Grw w w' := fun w => (cut_none line w hat).mono fun e w' h => ⟨h.1, by rw [h.2]; exact Grw.refl _⟩
    rcases lone_known b s line hv with ⟨hf, hq⟩ | ⟨f, q, hf, hq, ef, hd⟩
    · rw [hq]
      exact answer_none b s line w hB (fun w => run_lone_none b line w line (cut w) hf)
    · rw [hq]
      obtain ⟨q1, q2, q3⟩ := q
      exact answer_some b s line w (q1, q2, q3) hB hE (fun w hB hE => run_lone b s line w hB hE line (cut w) f (q1, q2, q3) hf ef hd)
  · rw [if_neg hat]
    have cut : ∀ w, Calls Tryz.prog 71 #[.string line, .string ⟨#[32]⟩] w fun e w' => e = .returned (.tuple #[.string (line.extract 0 (atL (lst line))), .string (line.extract (atL (lst line) + 1) line.size), .bool true]) ∧ Grw w w' := fun w => cut_yes line w (by omega) hat
    have hz : (line.extract (atL (lst line) + 1) line.size).size ≤ 600 := by rw [ByteArray.size_extract]; omega
    rcases rest_known b s (line.extract 0 (atL (lst line))) (line.extract (atL (lst line) + 1) line.size) hz hv with ⟨hf, hq⟩ | ⟨f, q, hf, hq, ef, hd⟩
    · rw [hq]
      exact answer_none b s line w hB (fun w => run_rest_none b line w _ _ (cut w) hf)
    · rw [hq]
      obtain ⟨q1, q2, q3⟩ := q
      exact answer_some b s line w (q1, q2, q3) hB hE (fun w hB hE => run_rest b s line w hB hE _ _ (cut w) f (q1, q2, q3) hf ef hd)
end Go.Proofs.YtdooboibmllfkabGreatDoor

namespace Go.Proofs.YtdooboibmllfkabGreatDoor
set_option maxRecDepth 100000
open Go.RowKit Go.Sort

attribute [local go_sem] Oper.semAt_some
def leftOf (cb : Nat) (w : World) : Nat := match w.cell? ⟨cb, 0, none⟩ with | some (.string x) => x.size | _ => 0
theorem lnY_cons {r : ByteArray} {k : Nat} (h : Lib.indexByte r.data.toList 10 = (k : Int)) : lnY [] (lst r) = lst (r.extract 0 (k + 1)) :: lnY [] (lst (r.extract (k + 1) r.size)) ∧ k + 1 ≤ r.size := by
  obtain ⟨h1, h2, h3⟩ := index_some h
  have e : lst r = (lst r).take k ++ 10 :: (lst r).drop (k + 1) := h1
  have h4 : k < (lst r).length := h3
  have h5 : 10 ∉ (lst r).take k := h2
  rw [lst_size] at h4
  refine ⟨?_, h4⟩
  have e1 : lst (r.extract 0 (k + 1)) = (lst r).take k ++ [10] := by
    rw [lst_extract, List.drop_zero, Nat.sub_zero]
    conv => lhs; rw [e]
    rw [List.take_append, List.length_take, lst_size, Nat.min_eq_left (Nat.le_of_lt h4), List.take_take, Nat.min_eq_right (Nat.le_succ k), show k + 1 - k = 1 by omega]
    rfl
  have e2 : lst (r.extract (k + 1) r.size) = (lst r).drop (k + 1) := by
    rw [lst_extract, List.take_of_length_le]
    rw [List.length_drop, lst_size]
    exact Nat.le_refl _
  rw [e1, e2]
  conv => lhs; rw [e]
  exact lnY_cut h5
theorem lnY_one {r : ByteArray} (h : Lib.indexByte r.data.toList 10 < 0) (h0 : 0 < r.size) : lnY [] (lst r) = [lst r] :=
  lnY_last (index_none h) (fun e => by rw [← lst_size, e] at h0; exact absurd h0 (Nat.lt_irrefl 0))

theorem linesB_at {s : ByteArray} {k : Nat} {r : List UInt8} {x : ByteArray} {t : List (List UInt8)} (h : lnY [] r = (lnY [] (lst s)).drop k) (e : lnY [] r = lst x :: t) : (linesB s)[k]? = some x := by
  rw [e] at h
  have h1 : (lnY [] (lst s))[k]? = some (lst x) := by
    have := congrArg (·[0]?) h
    simp only [List.getElem?_cons_zero, List.getElem?_drop, Nat.add_zero] at this
    exact this.symm
  unfold linesB
  rw [List.getElem?_map, h1]
  exact congrArg some (ofL_lst x)
theorem linesB_next {s : ByteArray} {k : Nat} {r : List UInt8} {x : List UInt8} {t : List (List UInt8)} (h : lnY [] r = (lnY [] (lst s)).drop k) (e : lnY [] r = x :: t) : t = (lnY [] (lst s)).drop (k + 1) := by
  rw [e] at h
  have := congrArg (List.drop 1) h
  rw [List.drop_drop] at this
  simpa using this
theorem set_cell {w : World} {b : Nat} {v0 : Value} {x : ByteArray} (hc : w.cell? ⟨b, 0, none⟩ = some v0) (hz : w.frozen? ⟨b, 0, none⟩ = false) (W : World) (h : W.heap[b]? = (w.setCell ⟨b, 0, none⟩ (.string x)).heap[b]?) :
    W.cell? ⟨b, 0, none⟩ = some (.string x) ∧ W.frozen? ⟨b, 0, none⟩ = false :=
  ⟨(World.cell?_of_block (a := ⟨b, 0, none⟩) h).trans (World.cell?_setCell_same' _ _ _ (by rw [hc]; rfl)), (World.frozen?_of_block (a := ⟨b, 0, none⟩) h).trans (by rw [World.frozen?_setCell]; exact hz)⟩

set_option maxRecDepth 100000 in
set_option maxHeartbeats 4000000 in
theorem lines_all (cb : Nat) (s : ByteArray) (hs : s.size ≤ 1000) (w : World) (hc : w.cell? ⟨cb, 0, none⟩ = some (.string s)) (hz : w.frozen? ⟨cb, 0, none⟩ = false) (n : Nat) (hn : 1 ≤ n) :
    SeqAll Fence.wide n Tryz.prog 49 #[.pointer (some ⟨cb, 0, none⟩)] (fun x : ByteArray => #[Value.string x]) cb (linesB s) w := fun l J W hW hJ hY h0 => by
  have hcl : cb < w.heap.size := World.block_lt_of_cell? w _ hc
  have hcW : W.cell? ⟨cb, 0, none⟩ = some (.string s) := (hW.cell (p := ⟨cb, 0, none⟩) hcl).trans hc
  have hzW : W.frozen? ⟨cb, 0, none⟩ = false := (World.frozen?_of_block (a := ⟨cb, 0, none⟩) (hW.block _ hcl)).trans hz
  have HJ := hide hJ
  have HY := hide hY
  have mixed : Tryz.prog.follows .mixedOrders = true := by kernel_rfl
  clear hc hz hJ hY
  refine callsIn_of_wp Tryz.func49 rfl trivial ?_ rfl
  simp only [Tryz.ntmps49, List.size_toArray, List.length_cons, List.length_nil, Nat.reduceAdd, Nat.reduceSub, Array.replicate_succ, Array.replicate_zero, List.push_toArray, List.append_toArray, List.nil_append, List.cons_append]
  gi_wp2
  gi_loopw [3] (fun _ wr => ∃ (k : Nat) (r : ByteArray), r.size ≤ 1000 ∧ Hid (lnY [] (lst r) = (lnY [] (lst s)).drop k) ∧ k ≤ (linesB s).length ∧ wr.cell? ⟨cb, 0, none⟩ = some (.string r) ∧ wr.frozen? ⟨cb, 0, none⟩ = false ∧ Hid (J k wr)) (fun _ wr => leftOf cb wr)
  case atStart => exact ⟨0, s, hs, by show _ = _; rw [List.drop_zero], Nat.zero_le _, hcW, hzW, h0⟩
  case round =>
    obtain ⟨k, r, hr, HL, hk, hcr, hzr, HK⟩ := hrel
    by_cases h0 : 0 < r.size
    · have g0 : (0 : Int) < (r.size : Int) := by omega
      have CI := hide (((callsIn_wide (n := n - 1)).2 (Tryz.strings_IndexByte r 10 wr)).mono (R' := fun e w' => e = .returned (.int .i64 (Lib.indexByte r.data.toList 10)) ∧ wr = w') (fun e w' h => ⟨h.1, h.2.symm⟩))
      rcases Int.lt_or_le (Lib.indexByte r.data.toList 10) 0 with hi | hi
      · have e := lnY_one hi h0
        have hx : (linesB s)[k]? = some r := linesB_at HL.out e
        have HN : Hid (lnY [] (lst (⟨#[]⟩ : ByteArray)) = (lnY [] (lst s)).drop (k + 1)) := linesB_next HL.out e
        obtain ⟨hkl, _⟩ := List.getElem?_eq_some_iff.1 hx
        obtain ⟨x, hx2⟩ : ∃ x, x = Lib.indexByte r.data.toList 10 := ⟨_, rfl⟩
        rw [← hx2] at CI hi
        have g1 : ¬ (0 : Int) ≤ x := by omega
        obtain ⟨fn, tmps, assign, body, hyy, hR⟩ := HY.out k r (wr.setCell ⟨cb, 0, none⟩ (.string ⟨#[]⟩)) hx (HJ.out.set k wr _ HK.out)
        have HC := hide (set_cell (x := ⟨#[]⟩) hcr hzr)
        have HM : Hid (leftOf cb wr = r.size) := by show leftOf cb wr = _; unfold leftOf; rw [hcr]
        clear hx2 hi e hx
        gi_wp2_with (refine ⟨trivial, ?_⟩; gi_at_call 50; refine CI.out.mono ?_; rintro e w' ⟨rfl, rfl⟩)
        refine hR.mono ?_
        rintro e W3 ⟨rfl, hJ3, hk3⟩
        obtain ⟨q1, q2⟩ := HC.out W3 hk3
        have HJ3 := hide hJ3
        clear hJ3 hk3
        gi_wp2
        go_roundw
        case rel => exact ⟨k + 1, _, Nat.zero_le _, HN, hkl, q1, q2, HJ3⟩
        case measure =>
          rw [HM.out]
          unfold leftOf
          rw [q1]
          exact h0
      · obtain ⟨j, hj⟩ : ∃ j : Nat, Lib.indexByte r.data.toList 10 = (j : Int) := ⟨(Lib.indexByte r.data.toList 10).toNat, by omega⟩
        obtain ⟨e, hle⟩ := lnY_cons hj
        have hx : (linesB s)[k]? = some (r.extract 0 (j + 1)) := linesB_at HL.out e
        have HN : Hid (lnY [] (lst (r.extract (j + 1) r.size)) = (lnY [] (lst s)).drop (k + 1)) := linesB_next HL.out e
        obtain ⟨hkl, _⟩ := List.getElem?_eq_some_iff.1 hx
        have hrest : (r.extract (j + 1) r.size).size < r.size := by
          rw [← lst_size, lst_extract]
          have := List.length_take_le (r.size - (j + 1)) ((lst r).drop (j + 1))
          rw [List.length_take, List.length_drop, lst_size]
          omega
        rw [hj] at CI
        have g1 : (0 : Int) ≤ (j : Int) := by omega
        have g2 : (j : Int) + 1 ≤ (r.size : Int) := by omega
        have g3 : (0 : Int) ≤ (j : Int) + 1 := by omega
        have wk : IntKind.i64.wrap ((j : Int) + 1) = (j : Int) + 1 := by rw [IntKind.wrap_i64]; omega
        obtain ⟨x, hx1⟩ : ∃ x, x = r.extract 0 (j + 1) := ⟨_, rfl⟩
        obtain ⟨y, hy1⟩ : ∃ y, y = r.extract (j + 1) r.size := ⟨_, rfl⟩
        rw [← hx1] at hx
        rw [← hy1] at HN hrest
        have ex : r.extract 0 (j + 1) = x := hx1.symm
        have ey : r.extract (j + 1) r.size = y := hy1.symm
        obtain ⟨fn, tmps, assign, body, hyy, hR⟩ := HY.out k x (wr.setCell ⟨cb, 0, none⟩ (.string y)).drew hx (HJ.out.drew k _ (HJ.out.set k wr _ HK.out))
        have HC := hide (set_cell (x := y) hcr hzr)
        have HM : Hid (leftOf cb wr = r.size) := by show leftOf cb wr = _; unfold leftOf; rw [hcr]
        clear hj hi e hx hx1 hy1
        gi_wp2_with (refine ⟨trivial, ?_⟩; gi_at_call 50; refine CI.out.mono ?_; rintro e w' ⟨rfl, rfl⟩)
        gi_region
        gi_wp2
        refine hR.mono ?_
        rintro e W3 ⟨rfl, hJ3, hk3⟩
        obtain ⟨q1, q2⟩ := HC.out W3 hk3
        have HJ3 := hide hJ3
        clear hJ3 hk3
        gi_wp2
        go_roundw
        case rel => exact ⟨k + 1, y, by omega, HN, hkl, q1, q2, HJ3⟩
        case measure =>
          rw [HM.out]
          unfold leftOf
          rw [q1]
          exact hrest
    · have g0 : ¬ (0 : Int) < (r.size : Int) := by omega
      have hend : Hid (k = (linesB s).length) := by
        show _ = _
        have e := HL.out
        have er : lst r = [] := List.eq_nil_of_length_eq_zero (by rw [lst_size]; omega)
        rw [er] at e
        have := congrArg List.length e
        simp [lnY] at this
        unfold linesB at hk ⊢
        rw [List.length_map] at hk ⊢
        omega
      gi_wp2
      go_end0
      exact ⟨⟨_, rfl⟩, by rw [← hend.out]; exact HK.out⟩
end Go.Proofs.YtdooboibmllfkabGreatDoor

namespace Go.Proofs.YtdooboibmllfkabGreatDoor
set_option maxRecDepth 100000
open Go.RowKit

theorem saidS_le {l : List Int} {b : Bool} (h : l.length ≤ 1000) : (saidS l b).size ≤ 20000 := by
  unfold saidS
  split
  · have := jns_dc_le l
    have h2 : nlT.size = 1 := rfl
    rw [ByteArray.size_append]
    omega
  · decide
theorem rigS_le {l : List (Int × Int)} {b : Bool} (h : l.length ≤ 1000) : (rigS l b).size ≤ 20000 := by
  unfold rigS
  split
  · have := jns_le 15 (l.map rgT) (fun x hx => by
      obtain ⟨y, _, rfl⟩ := List.mem_map.1 hx
      exact rgT_size y)
    rw [List.length_map] at this
    have h2 : nlT.size = 1 := rfl
    have h3 : (jns (l.map fun p => dcI p.1 ++ colT ++ dcI p.2)).size ≤ l.length * (15 + 1) := this
    rw [ByteArray.size_append]
    omega
  · decide
theorem yesS_le (b : Bool) : (yesS b).size ≤ 20000 := by cases b <;> decide
theorem bareS_le {s word : ByteArray} (h : vld s = true) : (bareS s word).size ≤ 20000 := by
  unfold bareS
  have h1 := rowS_le h
  have h2 : nlT.size = 1 := rfl
  split
  · rw [ByteArray.size_append]; omega
  split
  · exact saidS_le (show 1 ≤ 1000 by decide)
  split
  · exact saidS_le (shR_bd h).1
  split
  · exact saidS_le (rnR_bd h).1
  split
  · exact saidS_le (show 1 ≤ 1000 by decide)
  split
  · exact yesS_le _
  split
  · exact yesS_le _
  split
  · exact rigS_le (Nat.le_trans (rgOf_bd s).2 (by decide))
  · decide
theorem askS_le (s word rest : ByteArray) : (askS s word rest).size ≤ 20000 := by
  unfold askS
  split
  · exact saidS_le (show 1 ≤ 1000 by decide)
  split
  · exact saidS_le (show 1 ≤ 1000 by decide)
  split
  · split
    · rename_i h
      have h1 := csS_le8 h
      have h2 : nlT.size = 1 := rfl
      have h3 : (rowS (csS rest)).size ≤ 120 := by
        unfold rowS
        split
        · decide
        · exact h1
      rw [ByteArray.size_append]
      omega
    · decide
  · decide
theorem lineS_le {s line : ByteArray} (h : vld s = true) : (lineS s line).2.size ≤ 20000 := by
  unfold lineS
  split
  · split
    · exact (show (3 : Nat) ≤ 20000 by decide)
    · exact bareS_le h
  · split
    · split
      · exact (show (3 : Nat) ≤ 20000 by decide)
      · exact (show (3 : Nat) ≤ 20000 by decide)
    · exact askS_le _ _ _

structure ExAt (text : ByteArray) (s o : ByteArray) (f k : Nat) : Prop where
  v : vld s = true
  r : run3 ByteArray.empty ByteArray.empty [] (lst text) = run3 s o (lst (text.extract f k)) ((lst text).drop k)
  z : o.size ≤ 20000 * k
theorem ExAt.start (text : ByteArray) : ExAt text ByteArray.empty ByteArray.empty 0 0 := ⟨rfl, by rw [List.drop_zero, lst_extract]; simp, Nat.zero_le _⟩
theorem ex_cur {text : ByteArray} {f k : Nat} (hk : k < text.size) (hf : f ≤ k) : lst (text.extract f k) ++ [text[k]] = lst (text.extract f (k + 1)) := by
  rw [lst_extract, lst_extract]
  have hl : k - f < ((lst text).drop f).length := by rw [List.length_drop, lst_size]; omega
  rw [show k + 1 - f = k - f + 1 by omega, List.take_succ_eq_append_getElem hl]
  congr 2
  rw [List.getElem_drop]
  have e := lst_at hk
  have hl2 : k < (lst text).length := by rw [lst_size]; exact hk
  rw [List.getElem?_eq_getElem hl2] at e
  simp only [show f + (k - f) = k by omega]
  exact (Option.some.inj e).symm
theorem ex_drop {text : ByteArray} {k : Nat} (hk : k < text.size) : (lst text).drop k = text[k] :: (lst text).drop (k + 1) := by
  have hl : k < (lst text).length := by rw [lst_size]; exact hk
  have e := lst_at hk
  rw [List.getElem?_eq_getElem hl] at e
  rw [List.drop_eq_getElem_cons hl, Option.some.inj e]
theorem ExAt.sign {text s o : ByteArray} {f k : Nat} (h : ExAt text s o f k) (hk : k < text.size) (hf : f ≤ k) (hc : ¬ text[k] = 10) : ExAt text s o f (k + 1) := by
  refine ⟨h.v, ?_, by have := h.z; omega⟩
  rw [h.r, ex_drop hk, ← ex_cur hk hf]
  simp only [run3, if_neg hc]
theorem ExAt.line {text s o : ByteArray} {f k : Nat} (h : ExAt text s o f k) (hk : k < text.size) (hc : text[k] = 10) : ExAt text (lineS s (text.extract f k)).1 (o ++ (lineS s (text.extract f k)).2) (k + 1) (k + 1) := by
  refine ⟨(lineS_ok _ h.v).1, ?_, by rw [ByteArray.size_append]; have := h.z; have := lineS_le (line := text.extract f k) h.v; omega⟩
  rw [h.r, ex_drop hk]
  simp only [run3, if_pos hc]
  rw [ofL_lst, lst_extract text (k + 1) (k + 1), Nat.sub_self, List.take_zero]
theorem ExAt.done {text s o : ByteArray} {f : Nat} (h : ExAt text s o f text.size) : run3 ByteArray.empty ByteArray.empty [] (lst text) = (s, o, lst (text.extract f text.size)) := by
  rw [h.r, List.drop_of_length_le (by rw [lst_size]; exact Nat.le_refl _)]
  rfl

set_option maxHeartbeats 2000000 in
theorem specExecute_any (text : ByteArray) (w : World) :
    Calls Tryz.prog 17 #[.string text] w fun e w' => e = .returned (.string (exS text)) ∧ Below w.heap.size w w' := by
  by_cases hz : 600 < text.size
  · have e : exS text = longT := if_pos hz
    rw [e]
    have d1 : (600 : Int) < (text.size : Int) := by omega
    go_enter Tryz.func17, Tryz.ntmps17
    go_wp2
    go_ret
    exact ⟨rfl, Below.refl _ _⟩
  · have d1 : ¬ (600 : Int) < (text.size : Int) := by omega
    have hz6 : text.size ≤ 600 := by omega
    have e : exS text = endS (run3 ByteArray.empty ByteArray.empty [] (lst text)).1 (run3 ByteArray.empty ByteArray.empty [] (lst text)).2.1 := if_neg hz
    obtain ⟨r, hr⟩ : ∃ r, r = exS text := ⟨_, rfl⟩
    rw [← hr] at e ⊢
    have HR := hide e
    clear hr hz e
    go_enter Tryz.func17, Tryz.ntmps17
    go_wp2
    go_loopw [3, 4, 5, 6, 7, 8] (fun sv ov fv iv _ _ wr => ∃ (s o : ByteArray) (f k : Nat), f ≤ k ∧ k ≤ text.size ∧ sv = .string s ∧ ov = .string o ∧ fv = .int .i64 (f : Int) ∧ iv = .int .i64 (k : Int) ∧ Hid (ExAt text s o f k) ∧ Hid (Below w.heap.size w wr)) (fun _ _ _ iv _ _ _ => text.size - (Go.RowKit.intOf iv).toNat)
    case atStart => exact ⟨ByteArray.empty, ByteArray.empty, 0, 0, Nat.le_refl _, Nat.zero_le _, rfl, rfl, rfl, rfl, ExAt.start text, Below.refl _ _⟩
    case round =>
      obtain ⟨s, o, f, k, hf, hk, rfl, rfl, rfl, rfl, HE, HB⟩ := hrel
      have hoz := HE.out.z
      have ho2 : o.size ≤ 20000000 := by omega
      clear hoz
      by_cases hlt : k < text.size
      · have i0 : (0 : Int) ≤ (k : Int) := by omega
        have i1 : (k : Int) < (text.size : Int) := by omega
        by_cases c : (text[k].toNat : Int) = 10
        · have hc10 : text[k] = 10 := by
            apply UInt8.toNat_inj.1
            show text[k].toNat = 10
            omega
          have HE2 := hide (HE.out.line hlt hc10)
          have t1 : ((text[k].toNat : Int) == 10) = true := by rw [c]; rfl
          have hv := HE.out.v
          have hle := lineS_le (line := text.extract f k) hv
          have hlz : (text.extract f k).size ≤ 600 := by
            rw [← lst_size, lst_extract]
            have := List.length_take_le (k - f) ((lst text).drop f)
            omega
          have CL := hide (fun w => specLine_any s (text.extract f k) w hv hlz)
          obtain ⟨ln, hln⟩ : ∃ ln, ln = text.extract f k := ⟨_, rfl⟩
          rw [← hln] at CL HE2 hle
          have xl : text.extract f k = ln := hln.symm
          obtain ⟨nx, hnx⟩ : ∃ x, x = (lineS s ln).1 := ⟨_, rfl⟩
          obtain ⟨sd, hsd⟩ : ∃ x, x = (lineS s ln).2 := ⟨_, rfl⟩
          rw [← hnx] at CL HE2
          rw [← hsd] at CL HE2 hle
          have f1 : ¬ 9223372036854775807 < o.size + sd.size := by omega
          have j0 : (0 : Int) ≤ (f : Int) := by omega
          have j1 : (f : Int) ≤ (k : Int) := by omega
          have j2 : (k : Int) ≤ (text.size : Int) := by omega
          clear c hc10 hv hlz hln hnx hsd
          go_wp2_with (go_at_call 39; refine (CL.out _).mono ?_; rintro e w1 ⟨rfl, hb1⟩)
          have HB2 := hide (HB.out.trans (hb1.mono HB.out.size))
          clear hb1
          go_roundw
          case rel => exact ⟨nx, _, k + 1, k + 1, Nat.le_refl _, by omega, rfl, rfl, by go_num, by go_num, HE2, HB2⟩
          case measure => simp [Go.RowKit.intOf]; omega
        · have t1 : ((text[k].toNat : Int) == 10) = false := beq_eq_false_iff_ne.2 c
          have HE2 := hide (HE.out.sign hlt hf (fun e => c (by rw [e]; rfl)))
          clear c
          go_wp2_with fail
          go_roundw
          case rel => exact ⟨s, o, f, k + 1, by omega, by omega, rfl, rfl, rfl, by go_num, HE2, HB⟩
          case measure => simp [Go.RowKit.intOf]; omega
      · have hkn : k = text.size := by omega
        have HD : Hid (r = o ++ rowT ++ rowS s ++ nlT) := by
          have h := HE.out
          rw [hkn] at h
          show _ = _
          rw [HR.out, h.done]
          rfl
        have hrl := rowS_le HE.out.v
        have CR := hide (fun w => specRow_any s w)
        obtain ⟨x, hx⟩ : ∃ x, x = rowS s := ⟨_, rfl⟩
        rw [← hx] at HD hrl CR
        have hrt : rowT.size = 4 := rfl
        unfold rowT nlT at HD
        have f1 : ¬ 9223372036854775807 < o.size + 4 := by omega
        have f2 : ¬ 9223372036854775807 < o.size + 4 + x.size := by omega
        have f3 : ¬ 9223372036854775807 < o.size + 4 + x.size + 1 := by omega
        clear hkn hx hrt
        go_wp2_with (go_at_call 40; refine (CR.out _).mono ?_; rintro e w1 ⟨rfl, rfl⟩)
        go_ret
        exact ⟨by rw [HD.out]; rfl, HB.out⟩
end Go.Proofs.YtdooboibmllfkabGreatDoor

namespace Go.Proofs.YtdooboibmllfkabGreatDoor
set_option maxRecDepth 100000
open Go.RowKit

set_option maxHeartbeats 1500000 in
set_option maxRecDepth 100000 in
theorem digits_grw : ∀ (f n : Nat), n < 10 ^ (f + 1) → n < 10000000 → ∀ w : World, Calls Tryz.prog 11 #[.int .i64 (n : Int)] w fun e w' => e = .returned (.string (decS n)) ∧ Grw w w' := by
  intro f
  induction f with
  | zero =>
    intro n h1 h2 w
    have hn : n < 10 := by simpa using h1
    have hconv := conv_dg n hn w
    rw [decS_small hn]
    have d3 : (n : Int) < 10 := by omega
    have mx : max (0 : Int) (n : Int) = (n : Int) := by omega
    have w1 : IntKind.i64.wrap (48 + (n : Int)) = 48 + (n : Int) := by rw [IntKind.wrap_i64]; omega
    go_enter Tryz.func11, Tryz.ntmps11
    go_wp2_with fail
    go_ret
    exact ⟨rfl, Grw.alloc _ _⟩
  | succ f ih =>
    intro n h1 h2 w
    by_cases hn : n < 10
    · have hconv := conv_dg n hn w
      rw [decS_small hn]
      have d3 : (n : Int) < 10 := by omega
      have mx : max (0 : Int) (n : Int) = (n : Int) := by omega
      have w1 : IntKind.i64.wrap (48 + (n : Int)) = 48 + (n : Int) := by rw [IntKind.wrap_i64]; omega
      go_enter Tryz.func11, Tryz.ntmps11
      go_wp2_with fail
      go_ret
      exact ⟨rfl, Grw.alloc _ _⟩
    · rw [decS_great hn h2]
      have hm : n % 10 < 10 := Nat.mod_lt _ (by omega)
      have hq : n / 10 < 10 ^ (f + 1) := by
        rw [Nat.div_lt_iff_lt_mul (by omega), ← Nat.pow_succ]
        exact h1
      have IH := hide (fun w => ih (n / 10) hq (by omega) w)
      have CV := hide (fun w => conv_dg (n % 10) hm w)
      have CG := hide (fun W g hc => conv_dg_at (n % 10) hm W g hc)
      have e1 : Int.tdiv (n : Int) 10 = ((n / 10 : Nat) : Int) := rfl
      have e2 : Int.tmod (n : Int) 10 = ((n % 10 : Nat) : Int) := rfl
      have hx : (decS (n / 10)).size ≤ 7 := (decF_size 6 (n / 10)).2
      obtain ⟨q, hqq⟩ : ∃ q, q = n / 10 := ⟨_, rfl⟩
      obtain ⟨r, hrr⟩ : ∃ r, r = n % 10 := ⟨_, rfl⟩
      have hq2 : q ≤ n := by rw [hqq]; exact Nat.div_le_self _ _
      rw [← hqq] at IH e1 hx ⊢
      rw [← hrr] at CV CG e2 hm ⊢
      obtain ⟨x, hxx⟩ : ∃ x, x = decS q := ⟨_, rfl⟩
      obtain ⟨y, hyy⟩ : ∃ y, y = dg r := ⟨_, rfl⟩
      have hy : y.size = 1 := by rw [hyy]; rfl
      rw [← hxx] at IH hx ⊢
      rw [← hyy] at CV CG ⊢
      clear hqq hrr hxx hyy
      have d3 : ¬ (n : Int) < 10 := by omega
      have w1 : IntKind.i64.wrap (48 + (r : Int)) = 48 + (r : Int) := by rw [IntKind.wrap_i64]; omega
      have w2 : IntKind.i64.wrap (q : Int) = (q : Int) := by rw [IntKind.wrap_i64]; omega
      have w3 : IntKind.u8.wrap (48 + (r : Int)) = 48 + (r : Int) := by rw [IntKind.wrap_u8]; omega
      clear ih h1 hq
      go_enter Tryz.func11, Tryz.ntmps11
      go_wp2_with fail
      have cv0 := CG.out (w.alloc (.cells #[.int .u8 (48 + (r : Int))] 5)).drew w.heap.size (by show (w.alloc (.cells #[.int .u8 (48 + (r : Int))] 5)).cell? ⟨w.heap.size, 0, none⟩ = _; rw [World.cell?_alloc_at _ _ _ _ rfl]; rfl)
      go_region_with (first | (go_at_call 11; with_reducible (refine (IH.out _).mono ?_); rintro e w1 ⟨rfl, hb1⟩; have cv1 := CV.out w1; (first | (have cv2 := CG.out w1 w.heap.size (newcell hb1.below)) | skip)) | fail)
      all_goals go_wp2
      all_goals go_ret
      · exact ⟨rfl, ((Grw.drew w).trans hb1).trans (Grw.alloc _ _)⟩
      · exact ⟨rfl, ((Grw.alloc w _).trans (Grw.drew _)).trans hb1⟩
      · exact ⟨rfl, ((Grw.alloc w _).trans (Grw.drew _)).trans hb1⟩
theorem digits_any (x : Int) (h0 : 0 ≤ x) (h1 : x < 10000000) (w : World) : Calls Tryz.prog 11 #[.int .i64 x] w fun e w' => e = .returned (.string (dcI x)) ∧ Grw w w' := by
  have h := digits_grw 6 x.toNat (by omega) (by omega) w
  rw [show ((x.toNat : Nat) : Int) = x by omega] at h
  exact h

set_option maxHeartbeats 1000000 in
theorem shown_any (s : ByteArray) (w : World) :
    Calls Tryz.prog 12 #[.string s] w fun e w' => e = .returned (.string (rowS s)) ∧ w = w' := by
  by_cases h : s.size = 0
  · have e := size_zero h
    subst e
    go_enter Tryz.func12, Tryz.ntmps12
    go_wp2
    go_ret
    exact ⟨rfl, rfl⟩
  · have e : rowS s = s := if_neg h
    rw [e]
    have hq : s.toList.isEmpty = false := by
      rw [ByteArray.toList_eq]
      cases e : s.data.toList with
      | nil => exact absurd (by rw [← lst_size]; unfold lst; rw [e]; rfl) h
      | cons x l => rfl
    go_enter Tryz.func12, Tryz.ntmps12
    go_wp2
    go_ret
    exact ⟨rfl, rfl⟩

end Go.Proofs.YtdooboibmllfkabGreatDoor

namespace Go.Proofs.YtdooboibmllfkabGreatDoor
set_option maxRecDepth 100000
open Go.RowKit

end Go.Proofs.YtdooboibmllfkabGreatDoor
