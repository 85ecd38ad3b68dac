/- TEXTS ICol6, PHigh, Bench8. -/
import Derived.Test.YtdooboibmllfkaaGreatDoorExa41
import Derived.Test.YtdooboibmllfkaaGreatDoorExa11
import Derived.Test.YtdooboibmllfkaaGreatDoorExa08
import Derived.Test.YtdooboibmllfkaaGreatDoorExa21
import Derived.Test.YtdooboibmllfkaaGreatDoorExa25
import Derived.Test.YtdooboibmllfkaaGreatDoorExa26
import Derived.Test.YtdooboibmllfkaaGreatDoorExa30
import Derived.Test.YtdooboibmllfkaaGreatDoorExa31
import Derived.Test.YtdooboibmllfkaaGreatDoorExa32
import Derived.Test.YtdooboibmllfkaaGreatDoorExa35
import Derived.Test.YtdooboibmllfkaaGreatDoorExa39
namespace Go.Proofs.YtdooboibmllfkaaGreatDoor
set_option maxRecDepth 100000
open Go.RowKit Go.Lib

set_option maxRecDepth 100000 in
set_option maxHeartbeats 1000000 in
theorem implColourMove_any (s : ByteArray) (c : Int) (w : World) (hs : s.size ≤ maxLen) :
    Calls Tryz.prog 145 #[.string s, .int .i64 c] w fun e w' => e = .returned (.tuple #[.string (cmS s c), .bool (cmOk s c)]) ∧ Below w.heap.size w w' := by
  cases h1 : cIn s
  · have CR := hide (fun w => readColours_no s w hs h1)
    have e1 : cmOk s c = false := by unfold cmOk; rw [h1]; rfl
    have e2 : cmS s c = ⟨#[]⟩ := by unfold cmS; rw [e1]; rfl
    rw [e1, e2]
    clear e1 e2 h1 hs
    cases h2 : c3 c
    · have CO := hide (fun w => colourOf_no c w h2)
      clear h2
      go_enter Tryz.func145, Tryz.ntmps145
      go_wp2_with (first | (go_at_call 175; refine (CR.out _).mono ?_; rintro e w' ⟨rfl, rfl⟩) | (go_at_call 176; refine (CO.out _).mono ?_; rintro e w' ⟨rfl, rfl⟩))
      go_ret2
      exact ⟨rfl, Below.refl _ _⟩
    · have CO := hide (fun w => colourOf_c3 c w h2)
      obtain ⟨u, f, hM⟩ := moveAt (cCh c) (cCh_ne h2).2 (cCh_ne h2).1
      rw [hM.val] at CO
      clear h2 hM
      go_enter Tryz.func145, Tryz.ntmps145
      go_wp2_with (first | (go_at_call 175; refine (CR.out _).mono ?_; rintro e w' ⟨rfl, rfl⟩) | (go_at_call 176; refine (CO.out _).mono ?_; rintro e w' ⟨rfl, rfl⟩))
      go_ret2
      exact ⟨rfl, Below.refl _ _⟩
  · have CR := hide (fun w => readColours_yes s w h1)
    cases h2 : c3 c
    · have CO := hide (fun w => colourOf_no c w h2)
      have e1 : cmOk s c = false := by unfold cmOk; rw [h2, h1]; rfl
      have e2 : cmS s c = ⟨#[]⟩ := by unfold cmS; rw [e1]; rfl
      have q0 : ∀ W : World, (binOp .eql 180 .nilIface .nilIface).run Tryz.prog W = .ok (.bool true) W := fun _ => by kernel_rfl
      rw [e1, e2]
      clear e1 e2 h1 h2 hs
      go_enter Tryz.func145, Tryz.ntmps145
      go_wp2_with (first | (go_at_call 175; refine (CR.out _).mono ?_; rintro e w1 ⟨rfl, hb1, _, _⟩; have HB1 := hide hb1; clear hb1) | (go_at_call 176; refine (CO.out _).mono ?_; rintro e w' ⟨rfl, rfl⟩))
      go_ret2
      exact ⟨rfl, HB1.out⟩
    · have CO := hide (fun w => colourOf_c3 c w h2)
      obtain ⟨hsg, h120⟩ := (cIn_iff s).1 h1
      obtain ⟨u, f, hM⟩ := moveAt (cCh c) (cCh_ne h2).2 (cCh_ne h2).1
      rw [hM.val] at CO
      have hmeth := hM.meth
      have hent := hM.ent
      have HM := hide hM
      have HSG := hide hsg
      have e1 : cmOk s c = decide ((cz (mvU (cCh c) (lst s))).length ≤ 120) := by
        unfold cmOk
        rw [h1, h2, mvU_cz (cCh_ne h2).1]
        rfl
      have e2 : cmS s c = if (cz (mvU (cCh c) (lst s))).length ≤ 120 then ofL (cz (mvU (cCh c) (lst s))) else ByteArray.empty := by
        unfold cmS
        rw [e1, mvU_cz (cCh_ne h2).1]
        simp
      have HSM := hide (mvU_sg (cCh_ne h2).2 hsg)
      have q1 : ∀ (W : World), (binOp .eql 180 (.iface u (.agg #[])) .nilIface).run Tryz.prog W = .ok (.bool false) W := fun _ => by kernel_rfl
      have HE1 := hide e1
      have HE2 := hide e2
      obtain ⟨rs, hrs⟩ : ∃ rs, rs = cmS s c := ⟨_, rfl⟩
      obtain ⟨rb, hrb⟩ : ∃ rb, rb = cmOk s c := ⟨_, rfl⟩
      rw [← hrs, ← hrb]
      rw [← hrs] at HE2
      rw [← hrb] at HE1
      clear e1 e2 h1 h2 hs hM hsg hrs hrb
      go_enter Tryz.func145, Tryz.ntmps145
      go_wp2_with fail
      refine (CR.out _).mono ?_
      rintro e w1 ⟨rfl, hb1, hc1, hz1⟩
      have HB1 := hide hb1
      have CM := hide (HM.out.spec w.heap.size s.size s.size (lst s) w1 (lst_size s) h120 HSG.out hc1)
      clear hb1 hc1
      go_wp2_with fail
      refine (CO.out _).mono ?_
      rintro e w' ⟨rfl, rfl⟩
      go_wp2_with fail
      refine CM.out.mono ?_
      rintro e w2 ⟨v2, rfl, ho2, hb2⟩
      have HB2 := hide (HB1.out.trans (hb2.mono HB1.out.size))
      obtain ⟨gb, cq, rfl, hgb1, hgb2, hcq, hcn, hown⟩ := ho2
      have hle := mvU_le (cCh c) (lst s)
      rw [lst_size] at hle
      have CT := hide (textC_any gb (mvU (cCh c) (lst s)).length cq (mvU (cCh c) (lst s)) w2 rfl (by omega) HSM.out (CellsAt.of_owns hown))
      rw [← HE1.out, ← HE2.out] at CT
      obtain ⟨m, hm2⟩ : ∃ m, m = (mvU (cCh c) (lst s)).length := ⟨_, rfl⟩
      rw [← hm2] at CT ⊢
      clear hb2 hgb1 hgb2 hcq hcn hown hle hm2
      go_wp2_with fail
      refine CT.out.mono ?_
      rintro e w3 ⟨rfl, hb3⟩
      have HB3 := hide (HB2.out.trans (hb3.mono HB2.out.size))
      clear hb3
      go_wp2_with fail
      go_ret2
      exact ⟨rfl, HB3.out⟩
def StepAt (s : ByteArray) (k : Nat) (t : ByteArray) (o : Bool) : Prop :=
  (o = true ∧ upto (lst s) k = some (lst t) ∧ (k = 0 ∧ t = s ∨ cIn t = true ∧ cIn s = true)) ∨ (o = false ∧ t = ⟨#[]⟩ ∧ csOk s = false)
theorem StepAt.next {s t : ByteArray} {k : Nat} (h : StepAt s k t true) (hk : k < 3) : StepAt s (k + 1) (cmS t ((k : Int) + 1)) (cmOk t ((k : Int) + 1)) := by
  rcases h with ⟨_, hu, hc⟩ | ⟨h, _⟩
  · have hc3 : c3 ((k : Int) + 1) = true := by unfold c3; simp; omega
    cases hok : cmOk t ((k : Int) + 1)
    · refine .inr ⟨rfl, by unfold cmS; rw [hok]; rfl, ?_⟩
      cases hin : cIn t
      · rcases hc with ⟨_, rfl⟩ | ⟨h, _⟩
        · unfold csOk; rw [hin]; rfl
        · rw [hin] at h; cases h
      · have hn := cmS_no hin hc3 hok
        have h2 : upto (lst s) (k + 1) = none := by
          show (upto (lst s) k).bind _ = none
          rw [hu]
          exact hn
        unfold csOk
        rw [upto_none h2 (by omega)]
        cases cIn s <;> rfl
    · obtain ⟨n1, n2⟩ := cmS_in hok
      refine .inl ⟨rfl, ?_, .inr ⟨n1, ?_⟩⟩
      · show (upto (lst s) k).bind _ = _
        rw [hu]
        exact n2
      · rcases hc with ⟨_, rfl⟩ | ⟨_, h⟩
        · unfold cmOk at hok
          rw [Bool.and_eq_true, Bool.and_eq_true] at hok
          exact hok.1.1
        · exact h
  · cases h
theorem StepAt.size {s t : ByteArray} {k : Nat} {o : Bool} (h : StepAt s k t o) (hs : s.size ≤ maxLen) : t.size ≤ maxLen := by
  rcases h with ⟨_, _, ⟨_, rfl⟩ | ⟨h, _⟩⟩ | ⟨_, rfl, _⟩
  · exact hs
  · have := ((cIn_iff t).1 h).2; unfold maxLen; omega
  · exact Nat.zero_le _
theorem StepAt.done {s t : ByteArray} (h : StepAt s 3 t true) : csOk s = true ∧ csS s = t := by
  rcases h with ⟨_, hu, ⟨h, _⟩ | ⟨_, h⟩⟩ | ⟨h, _⟩
  · omega
  · rw [upto_3] at hu
    exact csS_of h hu
  · cases h
theorem StepAt.no {s t : ByteArray} {k : Nat} (h : StepAt s k t false) : csOk s = false ∧ csS s = t := by
  rcases h with ⟨h, _⟩ | ⟨_, rfl, h⟩
  · cases h
  · exact ⟨h, csS_no h⟩

set_option maxRecDepth 100000 in
set_option maxHeartbeats 1000000 in
theorem implColourStep_any (s : ByteArray) (w : World) (hs : s.size ≤ maxLen) :
    Calls Tryz.prog 111 #[.string s] w fun e w' => e = .returned (.tuple #[.string (csS s), .bool (csOk s)]) ∧ Below w.heap.size w w' := by
  have CM := hide (fun (t : ByteArray) (c : Int) (w : World) (ht : t.size ≤ maxLen) => implColourMove_any t c w ht)
  obtain ⟨a, ha⟩ : ∃ a, a = csS s := ⟨_, rfl⟩
  obtain ⟨b, hb⟩ : ∃ b, b = csOk s := ⟨_, rfl⟩
  rw [← ha, ← hb]
  have HA := hide ha
  have HB := hide hb
  have HS := hide hs
  have H0 : Hid (StepAt s 0 s true) := .inl ⟨rfl, rfl, .inl ⟨rfl, rfl⟩⟩
  clear ha hb hs
  go_enter Tryz.func111, Tryz.ntmps111
  go_wp2_with fail
  go_loopw [0, 4, 5] (fun sv ov cv wr => ∃ (k : Nat) (t : ByteArray) (o : Bool), k ≤ 3 ∧ sv = .string t ∧ ov = .bool o ∧ cv = .int .i64 ((k : Int) + 1) ∧ Hid (StepAt s k t o) ∧ Hid (Below w.heap.size w wr)) (fun _ _ cv _ => 4 - (Go.RowKit.intOf cv).toNat)
  case atStart => exact ⟨0, s, true, Nat.zero_le _, rfl, rfl, rfl, H0, Below.refl _ _⟩
  case round =>
    obtain ⟨k, t, o, hk, rfl, rfl, rfl, HST, HBW⟩ := hrel
    cases o
    · obtain ⟨r1, r2⟩ := HST.out.no
      have e1 : b = false := by rw [HB.out]; exact r1
      have e2 : a = t := by rw [HA.out]; exact r2
      subst e1 e2
      by_cases hlt : k < 3
      · have hkz : ((k : Int) + 1) ≤ 3 := by omega
        go_wp2_with fail
        go_ret2
        exact ⟨rfl, HBW.out⟩
      · have hkz : ¬ ((k : Int) + 1) ≤ 3 := by omega
        go_wp2_with fail
        go_ret2
        exact ⟨rfl, HBW.out⟩
    · by_cases hlt : k < 3
      · have hkz : ((k : Int) + 1) ≤ 3 := by omega
        have CMk := hide (CM.out t ((k : Int) + 1) wr (HST.out.size HS.out))
        have HN := hide (HST.out.next hlt)
        obtain ⟨x, hx⟩ : ∃ x, x = cmS t ((k : Int) + 1) := ⟨_, rfl⟩
        obtain ⟨o, ho⟩ : ∃ o, o = cmOk t ((k : Int) + 1) := ⟨_, rfl⟩
        rw [← hx, ← ho] at CMk HN
        clear hx ho
        go_wp2_with fail
        refine CMk.out.mono ?_
        rintro e w2 ⟨rfl, b2⟩
        have B2 := hide (HBW.out.trans (b2.mono HBW.out.size))
        clear b2
        go_wp2_with fail
        go_roundw
        case rel => exact ⟨k + 1, x, o, by omega, rfl, rfl, by go_num, HN, B2⟩
        case measure => simp [Go.RowKit.intOf]; omega
      · obtain rfl : k = 3 := by omega
        obtain ⟨r1, r2⟩ := HST.out.done
        have e1 : b = true := by rw [HB.out]; exact r1
        have e2 : a = t := by rw [HA.out]; exact r2
        subst e1 e2
        go_wp2_with fail
        go_ret2
        exact ⟨rfl, HBW.out⟩

theorem a51 : cCh (3 - ((0 : Nat) : Int)) = 51 := by decide
theorem a50 : cCh (3 - ((1 : Nat) : Int)) = 50 := by decide
end Go.Proofs.YtdooboibmllfkaaGreatDoor

namespace Go.Proofs.YtdooboibmllfkaaGreatDoor
set_option maxRecDepth 100000
open Go.RowKit

end Go.Proofs.YtdooboibmllfkaaGreatDoor

namespace Go.Proofs.YtdooboibmllfkaaGreatDoor
set_option maxRecDepth 100000
open Go.RowKit Go.Sort

def BenchAt (w : World) (b : Nat) (s : ByteArray) : Prop := w.cell? ⟨b, 0, none⟩ = some (.string s) ∧ w.frozen? ⟨b, 0, none⟩ = false
theorem BenchAt.lt {w : World} {b : Nat} {s : ByteArray} (h : BenchAt w b s) : b < w.heap.size := World.block_lt_of_cell? w _ h.1
theorem BenchAt.below {w w' : World} {b : Nat} {s : ByteArray} (h : BenchAt w b s) (hb : Below w.heap.size w w') : BenchAt w' b s :=
  ⟨(hb.cell (p := ⟨b, 0, none⟩) h.lt).trans h.1, (World.frozen?_of_block (a := ⟨b, 0, none⟩) (hb.block _ h.lt)).trans h.2⟩
theorem grown_of_below {w w' : World} (hb : Below w.heap.size w w') (r : Option Nat) : w.grownBy w' r := ⟨hb.os, hb.tape, hb.output, hb.size, fun k hk _ => hb.block k hk⟩
structure Turn (b : Nat) (s : ByteArray) (w w' : World) : Prop where
  bench : BenchAt w' b s
  kept : w.grownBy w' (some b)
theorem Turn.of_below {b : Nat} {s : ByteArray} {w w' : World} (h : BenchAt w b s) (hb : Below w.heap.size w w') : Turn b s w w' := ⟨h.below hb, grown_of_below hb _⟩
theorem Turn.after {b : Nat} {s : ByteArray} {w w1 w2 : World} (hb : Below w.heap.size w w1) (h : Turn b s w1 w2) : Turn b s w w2 := ⟨h.bench, (grown_of_below hb _).trans h.kept⟩
theorem Turn.store {b : Nat} {s : ByteArray} {w : World} (h : BenchAt w b s) (x : ByteArray) : Turn b x w (w.setCell ⟨b, 0, none⟩ (.string x)) :=
  ⟨⟨World.cell?_setCell_same' _ _ _ (by rw [h.1]; rfl), by rw [World.frozen?_setCell]; exact h.2⟩,
    ⟨rfl, rfl, rfl, by simp [World.setCell], fun k _ hk => Below.heap_setCell _ _ _ _ (fun e => hk (by rw [e]))⟩⟩
theorem Turn.drew {b : Nat} {s : ByteArray} {w w' : World} (h : Turn b s w w') : Turn b s w w'.drew := ⟨h.bench, ⟨h.kept.os, h.kept.tape, h.kept.output, h.kept.size, h.kept.block⟩⟩
theorem becS_ok (s x : ByteArray) (b : Bool) : (becS s x b).2.2 = b := by cases b <;> rfl

set_option maxHeartbeats 1000000 in
theorem become_any (b : Nat) (s x : ByteArray) (ok : Bool) (w : World) (h : BenchAt w b s) :
    Calls Tryz.prog 100 #[.pointer (some ⟨b, 0, none⟩), .string x, .bool ok] w fun e w' => e = .returned (.tuple #[.string (becS s x ok).2.1, .bool ok]) ∧ Turn b (becS s x ok).1 w w' := by
  have hc := h.1
  have hz := h.2
  cases ok
  · go_enter Tryz.func100, Tryz.ntmps100
    go_wp2
    go_ret2
    exact ⟨rfl, Turn.of_below h (Below.refl _ _)⟩
  · have T := hide (Turn.store h x)
    clear h
    go_enter Tryz.func100, Tryz.ntmps100
    go_wp2
    go_ret2
    exact ⟨rfl, T.out⟩

def Does (f : Nat) (args : Array Value) (b : Nat) (r : ByteArray × ByteArray × Bool) (w : World) : Prop :=
  Calls Tryz.prog f args w fun e w' => e = .returned (.tuple #[.string r.2.1, .bool r.2.2]) ∧ Turn b r.1 w w'

section
variable (b : Nat) (s r : ByteArray) (w : World)
set_option maxHeartbeats 1000000 in
theorem set_does (hB : BenchAt w b s) (hr : r.size ≤ 1000) : Does 64 #[.pointer (some ⟨b, 0, none⟩), .string r] b (becS s (if vld r then tidyS r else ByteArray.empty) (vld r)) w := by
  have C := hide (implRowTidy_any r w (by unfold maxLen; omega))
  obtain ⟨x, hx⟩ : ∃ x, x = (if vld r then tidyS r else ByteArray.empty) := ⟨_, rfl⟩
  obtain ⟨k, hk⟩ : ∃ k, k = vld r := ⟨_, rfl⟩
  rw [← hx, ← hk] at C ⊢
  unfold Does
  rw [becS_ok]
  clear hx hk
  go_enter Tryz.func64, Tryz.ntmps64
  go_wp2_with (first | (go_at_call 101; refine C.out.mono ?_; rintro e w1 ⟨rfl, hb1⟩; have D := hide (become_any b s x k w1 (hB.below hb1)); have HB1 := hide hb1; clear hb1) | (go_at_call 100; refine D.out.mono ?_; rintro e w2 ⟨rfl, ht2⟩; have HT := hide ht2; clear ht2))
  go_ret2
  exact ⟨rfl, Turn.after HB1.out HT.out⟩
set_option maxHeartbeats 1000000 in
theorem turned_does (hB : BenchAt w b s) (hv : vld s = true) : Does 72 #[.pointer (some ⟨b, 0, none⟩)] b (turnS s, okB, true) w := by
  have C := hide (implRowTurned_any s w (by have := vld_le s hv; unfold maxLen; omega))
  rw [hv] at C
  obtain ⟨x, hx⟩ : ∃ x, x = turnS s := ⟨_, rfl⟩
  rw [← hx] at C ⊢
  have hc := hB.1
  unfold Does
  clear hx hv
  go_enter Tryz.func72, Tryz.ntmps72
  go_wp2_with (first | (go_at_call 112; refine C.out.mono ?_; rintro e w1 ⟨rfl, hb1⟩; have D := hide (become_any b s x true w1 (hB.below hb1)); have HB1 := hide hb1; clear hb1) | (go_at_call 100; refine D.out.mono ?_; rintro e w2 ⟨rfl, ht2⟩; have HT := hide ht2; clear ht2))
  go_ret2
  exact ⟨rfl, Turn.after HB1.out HT.out⟩
set_option maxHeartbeats 2000000 in
theorem shift_does (hB : BenchAt w b s) (hE : Env w) (hv : vld s = true) (hr : r.size ≤ 1000) : Does 66 #[.pointer (some ⟨b, 0, none⟩), .string r] b (becS s (shS s (numI r)) (shOk s (numI r))) w := by
  have mixed : Tryz.prog.follows .mixedOrders = true := by kernel_rfl
  have CN := hide (fun W (hW : Below w.heap.size w W) => (readNumber_any r W (hE.below hW) hr).mono (R' := fun e w' => e = .returned (.int .i64 (numI r)) ∧ Below w.heap.size w w') (fun e w' h => ⟨h.1, hW.trans (h.2.mono hW.size)⟩))
  have hwf := wf_num r
  obtain ⟨n, hn⟩ : ∃ n, n = numI r := ⟨_, rfl⟩
  rw [← hn] at CN hwf ⊢
  have C := hide (fun W (hW : Below w.heap.size w W) => (implRowShift_any s n W (by have := vld_le s hv; unfold maxLen; omega) hwf).mono (R' := fun e w' => e = .returned (.tuple #[.string (shS s n), .bool (shOk s n)]) ∧ Below w.heap.size w w') (fun e w' h => ⟨h.1, hW.trans (h.2.mono hW.size)⟩))
  obtain ⟨x, hx⟩ : ∃ x, x = shS s n := ⟨_, rfl⟩
  obtain ⟨k, hk⟩ : ∃ k, k = shOk s n := ⟨_, rfl⟩
  rw [← hx, ← hk] at C ⊢
  have D := hide (fun W (hW : Below w.heap.size w W) => (become_any b s x k W (hB.below hW)).mono (R' := fun e w' => e = .returned (.tuple #[.string (becS s x k).2.1, .bool k]) ∧ Turn b (becS s x k).1 w w') (fun e w' h => ⟨h.1, Turn.after hW h.2⟩))
  have HB := hide hB
  have hc := hB.1
  unfold Does
  rw [becS_ok]
  clear hx hk hn hv hB hwf hE
  go_enter Tryz.func66, Tryz.ntmps66
  go_wp2_with fail
  go_region_with (first | (go_at_call 105; refine (CN.out _ (by first | exact HB2.out.drew | exact HB2.out | exact HB1.out.drew | exact HB1.out | exact HB1.out.drew.drew | exact Below.refl _ _ | exact (Below.refl _ _).drew | exact (Below.refl _ _).drew.drew)).mono ?_; rintro e w1 ⟨rfl, hb1⟩; have HB1 := hide hb1; have hc1 := (HB.out.below hb1).1; clear hb1) | (go_at_call 104; refine (C.out _ (by first | exact HB2.out.drew | exact HB2.out | exact HB1.out.drew | exact HB1.out | exact HB1.out.drew.drew | exact Below.refl _ _ | exact (Below.refl _ _).drew | exact (Below.refl _ _).drew.drew)).mono ?_; rintro e w2 ⟨rfl, hb2⟩; have HB2 := hide hb2; clear hb2) | (go_at_call 100; refine (D.out _ (by first | exact HB2.out.drew | exact HB2.out | exact HB1.out.drew | exact HB1.out | exact HB1.out.drew.drew | exact Below.refl _ _ | exact (Below.refl _ _).drew | exact (Below.refl _ _).drew.drew)).mono ?_; rintro e w3 ⟨rfl, ht3⟩; have HT := hide ht3; clear ht3) | fail)
  all_goals (try go_wp2)
  all_goals go_ret2
  all_goals (first | exact ⟨rfl, HT.out⟩ | exact ⟨rfl, HT.out.drew⟩ | exact ⟨rfl, HT.out.drew.drew⟩)
set_option maxHeartbeats 2000000 in
theorem step_does (hB : BenchAt w b s) (hE : Env w) (hv : vld s = true) (hr : r.size ≤ 1000) : Does 67 #[.pointer (some ⟨b, 0, none⟩), .string r] b (becS s (stS s (numI r)) (stOk s (numI r))) w := by
  have mixed : Tryz.prog.follows .mixedOrders = true := by kernel_rfl
  have CN := hide (fun W (hW : Below w.heap.size w W) => (readNumber_any r W (hE.below hW) hr).mono (R' := fun e w' => e = .returned (.int .i64 (numI r)) ∧ Below w.heap.size w w') (fun e w' h => ⟨h.1, hW.trans (h.2.mono hW.size)⟩))
  have hwf := wf_num r
  obtain ⟨n, hn⟩ : ∃ n, n = numI r := ⟨_, rfl⟩
  rw [← hn] at CN hwf ⊢
  have C := hide (fun W (hW : Below w.heap.size w W) => (implStepOf_any s n W (by have := vld_le s hv; unfold maxLen; omega)).mono (R' := fun e w' => e = .returned (.tuple #[.string (stS s n), .bool (stOk s n)]) ∧ Below w.heap.size w w') (fun e w' h => ⟨h.1, hW.trans (h.2.mono hW.size)⟩))
  obtain ⟨x, hx⟩ : ∃ x, x = stS s n := ⟨_, rfl⟩
  obtain ⟨k, hk⟩ : ∃ k, k = stOk s n := ⟨_, rfl⟩
  rw [← hx, ← hk] at C ⊢
  have D := hide (fun W (hW : Below w.heap.size w W) => (become_any b s x k W (hB.below hW)).mono (R' := fun e w' => e = .returned (.tuple #[.string (becS s x k).2.1, .bool k]) ∧ Turn b (becS s x k).1 w w') (fun e w' h => ⟨h.1, Turn.after hW h.2⟩))
  have HB := hide hB
  have hc := hB.1
  unfold Does
  rw [becS_ok]
  clear hx hk hn hv hB hwf hE
  go_enter Tryz.func67, Tryz.ntmps67
  go_wp2_with fail
  go_region_with (first | (go_at_call 105; refine (CN.out _ (by first | exact HB2.out.drew | exact HB2.out | exact HB1.out.drew | exact HB1.out | exact HB1.out.drew.drew | exact Below.refl _ _ | exact (Below.refl _ _).drew | exact (Below.refl _ _).drew.drew)).mono ?_; rintro e w1 ⟨rfl, hb1⟩; have HB1 := hide hb1; have hc1 := (HB.out.below hb1).1; clear hb1) | (go_at_call 106; refine (C.out _ (by first | exact HB2.out.drew | exact HB2.out | exact HB1.out.drew | exact HB1.out | exact HB1.out.drew.drew | exact Below.refl _ _ | exact (Below.refl _ _).drew | exact (Below.refl _ _).drew.drew)).mono ?_; rintro e w2 ⟨rfl, hb2⟩; have HB2 := hide hb2; clear hb2) | (go_at_call 100; refine (D.out _ (by first | exact HB2.out.drew | exact HB2.out | exact HB1.out.drew | exact HB1.out | exact HB1.out.drew.drew | exact Below.refl _ _ | exact (Below.refl _ _).drew | exact (Below.refl _ _).drew.drew)).mono ?_; rintro e w3 ⟨rfl, ht3⟩; have HT := hide ht3; clear ht3) | fail)
  all_goals (try go_wp2)
  all_goals go_ret2
  all_goals (first | exact ⟨rfl, HT.out⟩ | exact ⟨rfl, HT.out.drew⟩ | exact ⟨rfl, HT.out.drew.drew⟩)
set_option maxHeartbeats 2000000 in
theorem back_does (hB : BenchAt w b s) (hE : Env w) (hv : vld s = true) (hr : r.size ≤ 1000) : Does 68 #[.pointer (some ⟨b, 0, none⟩), .string r] b (becS s (bkS s (numI r)) (bkOk s (numI r))) w := by
  have mixed : Tryz.prog.follows .mixedOrders = true := by kernel_rfl
  have CN := hide (fun W (hW : Below w.heap.size w W) => (readNumber_any r W (hE.below hW) hr).mono (R' := fun e w' => e = .returned (.int .i64 (numI r)) ∧ Below w.heap.size w w') (fun e w' h => ⟨h.1, hW.trans (h.2.mono hW.size)⟩))
  have hwf := wf_num r
  obtain ⟨n, hn⟩ : ∃ n, n = numI r := ⟨_, rfl⟩
  rw [← hn] at CN hwf ⊢
  have C := hide (fun W (hW : Below w.heap.size w W) => (implStepBack_any s n W (by have := vld_le s hv; unfold maxLen; omega)).mono (R' := fun e w' => e = .returned (.tuple #[.string (bkS s n), .bool (bkOk s n)]) ∧ Below w.heap.size w w') (fun e w' h => ⟨h.1, hW.trans (h.2.mono hW.size)⟩))
  obtain ⟨x, hx⟩ : ∃ x, x = bkS s n := ⟨_, rfl⟩
  obtain ⟨k, hk⟩ : ∃ k, k = bkOk s n := ⟨_, rfl⟩
  rw [← hx, ← hk] at C ⊢
  have D := hide (fun W (hW : Below w.heap.size w W) => (become_any b s x k W (hB.below hW)).mono (R' := fun e w' => e = .returned (.tuple #[.string (becS s x k).2.1, .bool k]) ∧ Turn b (becS s x k).1 w w') (fun e w' h => ⟨h.1, Turn.after hW h.2⟩))
  have HB := hide hB
  have hc := hB.1
  unfold Does
  rw [becS_ok]
  clear hx hk hn hv hB hwf hE
  go_enter Tryz.func68, Tryz.ntmps68
  go_wp2_with fail
  go_region_with (first | (go_at_call 105; refine (CN.out _ (by first | exact HB2.out.drew | exact HB2.out | exact HB1.out.drew | exact HB1.out | exact HB1.out.drew.drew | exact Below.refl _ _ | exact (Below.refl _ _).drew | exact (Below.refl _ _).drew.drew)).mono ?_; rintro e w1 ⟨rfl, hb1⟩; have HB1 := hide hb1; have hc1 := (HB.out.below hb1).1; clear hb1) | (go_at_call 107; refine (C.out _ (by first | exact HB2.out.drew | exact HB2.out | exact HB1.out.drew | exact HB1.out | exact HB1.out.drew.drew | exact Below.refl _ _ | exact (Below.refl _ _).drew | exact (Below.refl _ _).drew.drew)).mono ?_; rintro e w2 ⟨rfl, hb2⟩; have HB2 := hide hb2; clear hb2) | (go_at_call 100; refine (D.out _ (by first | exact HB2.out.drew | exact HB2.out | exact HB1.out.drew | exact HB1.out | exact HB1.out.drew.drew | exact Below.refl _ _ | exact (Below.refl _ _).drew | exact (Below.refl _ _).drew.drew)).mono ?_; rintro e w3 ⟨rfl, ht3⟩; have HT := hide ht3; clear ht3) | fail)
  all_goals (try go_wp2)
  all_goals go_ret2
  all_goals (first | exact ⟨rfl, HT.out⟩ | exact ⟨rfl, HT.out.drew⟩ | exact ⟨rfl, HT.out.drew.drew⟩)
set_option maxHeartbeats 1000000 in
theorem sizes_does (hB : BenchAt w b s) (hr : r.size ≤ 600) : Does 65 #[.pointer (some ⟨b, 0, none⟩), .string r] b (becS s (szS r).1 (szS r).2) w := by
  have CN := hide (readSizes_any r w hr)
  have HB := hide hB
  clear hB
  unfold Does
  rw [becS_ok]
  go_enter Tryz.func65, Tryz.ntmps65
  go_wp2_with fail
  refine CN.out.mono ?_
  rintro e w1 ⟨v, ok, rfl, hp, hb1⟩
  have HB1 := hide hb1
  clear hb1 CN
  cases ok
  · have HE : Hid (szS r = (ByteArray.empty, false)) := hp
    clear hp
    go_wp2
    go_ret2
    exact ⟨by rw [HE.out]; rfl, by rw [HE.out]; exact Turn.of_below HB.out HB1.out⟩
  · obtain ⟨x, l, hl, hlen, hi⟩ := hp
    have HE : Hid (szS r = (swS (x :: l), swO (x :: l))) := by show _ = _; unfold szS; rw [hl]
    have C := hide (implShapeRow_any v (x :: l) w1 (by omega) hi)
    obtain ⟨y, hy⟩ : ∃ y, y = swS (x :: l) := ⟨_, rfl⟩
    obtain ⟨k, hk⟩ : ∃ k, k = swO (x :: l) := ⟨_, rfl⟩
    rw [← hy, ← hk] at C HE
    clear hl hlen hi hy hk
    go_wp2_with (first | (go_at_call 103; refine C.out.mono ?_; rintro e w2 ⟨rfl, hb2⟩; have HB2 := hide (HB1.out.trans (hb2.mono HB1.out.size)); have D := hide (become_any b s y k w2 (HB.out.below HB2.out)); clear hb2) | (go_at_call 100; refine D.out.mono ?_; rintro e w3 ⟨rfl, ht3⟩; have HT := hide ht3; clear ht3))
    go_ret2
    exact ⟨by rw [HE.out]; rfl, by rw [HE.out]; exact Turn.after HB2.out HT.out⟩
set_option maxHeartbeats 1000000 in
theorem show_does (hB : BenchAt w b s) : Does 73 #[.pointer (some ⟨b, 0, none⟩)] b (s, rowS s, true) w := by
  have C := hide (rowText_any s w)
  have hc := hB.1
  unfold Does
  go_enter Tryz.func73, Tryz.ntmps73
  go_wp2_with (go_at_call 19; refine C.out.mono ?_; rintro e w1 ⟨rfl, rfl⟩)
  go_ret2
  exact ⟨rfl, Turn.of_below hB (Below.refl _ _)⟩
set_option maxHeartbeats 1000000 in
theorem balls_does (hB : BenchAt w b s) (hE : Env w) (hv : vld s = true) : Does 74 #[.pointer (some ⟨b, 0, none⟩)] b (s, dcI (nballs (bits s) : Int), true) w := by
  have C := hide (implRowBalls_any s w (by have := vld_le s hv; unfold maxLen; omega))
  rw [hv, if_pos rfl] at C
  have hn := nballs8 hv
  have CI := hide (fun w' (hb : Below w.heap.size w w') => itoa_any (x := (nballs (bits s) : Int)) (by omega) (by omega) w' (hE.below hb))
  obtain ⟨m, hm⟩ : ∃ m : Int, m = (nballs (bits s) : Int) := ⟨_, rfl⟩
  rw [← hm] at C CI ⊢
  obtain ⟨d, hd⟩ : ∃ d, d = dcI m := ⟨_, rfl⟩
  rw [← hd] at CI ⊢
  have hc := hB.1
  unfold Does
  clear hn hm hd hv
  go_enter Tryz.func74, Tryz.ntmps74
  go_wp2_with (first | (go_at_call 114; refine C.out.mono ?_; rintro e w1 ⟨rfl, hb1⟩; have HB1 := hide hb1; clear hb1) | (go_at_call 113; refine (CI.out _ HB1.out).mono ?_; rintro e w2 ⟨rfl, hg2⟩; have HG := hide hg2.below; clear hg2))
  go_ret2
  exact ⟨rfl, Turn.of_below hB (HB1.out.trans (HG.out.mono HB1.out.size))⟩
set_option maxHeartbeats 1000000 in
theorem shape_does (hB : BenchAt w b s) (hE : Env w) (hv : vld s = true) : Does 75 #[.pointer (some ⟨b, 0, none⟩)] b (s, jns ((shR s).map dcI), true) w := by
  have C := hide (implShapeOf_any s w (by have := vld_le s hv; unfold maxLen; omega))
  rw [hv] at C
  obtain ⟨h1, h2⟩ := shR_bd hv
  have CL := hide (fun v w' hb hi => listText_any (lo := w.heap.size) (shR s) true v w' (hE.below hb) hi h1 h2)
  obtain ⟨l, hl⟩ : ∃ l, l = shR s := ⟨_, rfl⟩
  rw [← hl] at C CL ⊢
  have hc := hB.1
  unfold Does
  clear h1 h2 hl hv
  go_enter Tryz.func75, Tryz.ntmps75
  go_wp2_with (first | (go_at_call 116; refine C.out.mono ?_; rintro e w1 ⟨v, rfl, hi, hb1⟩; have HB1 := hide hb1; have HI := hide hi; clear hb1 hi) | (go_at_call 115; refine (CL.out _ _ HB1.out HI.out).mono ?_; rintro e w2 ⟨rfl, hb2⟩; have HB2 := hide hb2; clear hb2))
  go_ret2
  exact ⟨rfl, Turn.of_below hB (HB1.out.trans (HB2.out.mono HB1.out.size))⟩
set_option maxHeartbeats 1000000 in
theorem runs_does (hB : BenchAt w b s) (hE : Env w) (hv : vld s = true) : Does 76 #[.pointer (some ⟨b, 0, none⟩)] b (s, jns ((rnR s).map dcI), true) w := by
  have C := hide (implShapeRuns_any s w (by have := vld_le s hv; unfold maxLen; omega))
  rw [hv] at C
  obtain ⟨h1, h2⟩ := rnR_bd hv
  have CL := hide (fun v w' hb hi => listText_any (lo := w.heap.size) (rnR s) true v w' (hE.below hb) hi h1 h2)
  obtain ⟨l, hl⟩ : ∃ l, l = rnR s := ⟨_, rfl⟩
  rw [← hl] at C CL ⊢
  have hc := hB.1
  unfold Does
  clear h1 h2 hl hv
  go_enter Tryz.func76, Tryz.ntmps76
  go_wp2_with (first | (go_at_call 117; refine C.out.mono ?_; rintro e w1 ⟨v, rfl, hi, hb1⟩; have HB1 := hide hb1; have HI := hide hi; clear hb1 hi) | (go_at_call 115; refine (CL.out _ _ HB1.out HI.out).mono ?_; rintro e w2 ⟨rfl, hb2⟩; have HB2 := hide hb2; clear hb2))
  go_ret2
  exact ⟨rfl, Turn.of_below hB (HB1.out.trans (HB2.out.mono HB1.out.size))⟩
set_option maxHeartbeats 1000000 in
theorem time_does (hB : BenchAt w b s) (hE : Env w) (hv : vld s = true) : Does 77 #[.pointer (some ⟨b, 0, none⟩)] b (s, dcI (tmR s).1, (tmR s).2) w := by
  have C := hide (implShapeTime_any s w (by have := vld_le s hv; unfold maxLen; omega))
  have hb := tmR_bd s
  have CN := hide (fun w' hb' => numberText_any (x := (tmR s).1) (tmR s).2 (by omega) (by omega) w' (hE.below hb'))
  obtain ⟨m, hm⟩ : ∃ m, m = (tmR s).1 := ⟨_, rfl⟩
  obtain ⟨k, hk⟩ : ∃ k, k = (tmR s).2 := ⟨_, rfl⟩
  rw [← hm, ← hk] at C CN ⊢
  have hc := hB.1
  unfold Does
  clear hb hm hk hv
  go_enter Tryz.func77, Tryz.ntmps77
  go_wp2_with (first | (go_at_call 118; refine C.out.mono ?_; rintro e w1 ⟨rfl, hb1⟩; have HB1 := hide hb1; clear hb1) | (go_at_call 108; refine (CN.out _ HB1.out).mono ?_; rintro e w2 ⟨rfl, hb2⟩; have HB2 := hide hb2; clear hb2))
  go_ret2
  exact ⟨rfl, Turn.of_below hB (HB1.out.trans (HB2.out.mono HB1.out.size))⟩
set_option maxHeartbeats 1000000 in
theorem apart_does (hB : BenchAt w b s) (hv : vld s = true) : Does 78 #[.pointer (some ⟨b, 0, none⟩)] b (s, if apOk s then yesB else notB, true) w := by
  have C := hide (implShapeApart_any s w (by have := vld_le s hv; unfold maxLen; omega))
  obtain ⟨k, hk⟩ : ∃ k, k = apOk s := ⟨_, rfl⟩
  rw [← hk] at C ⊢
  have CH := hide (fun w => holdsText_any k w)
  obtain ⟨x, hx⟩ : ∃ x, x = (if k then yesB else notB) := ⟨_, rfl⟩
  rw [← hx] at CH ⊢
  have hc := hB.1
  unfold Does
  clear hk hx hv
  go_enter Tryz.func78, Tryz.ntmps78
  go_wp2_with (first | (go_at_call 120; refine C.out.mono ?_; rintro e w1 ⟨rfl, hb1⟩; have HB1 := hide hb1; clear hb1) | (go_at_call 119; refine (CH.out _).mono ?_; rintro e w2 ⟨rfl, rfl⟩))
  go_ret2
  exact ⟨rfl, Turn.of_below hB HB1.out⟩
set_option maxHeartbeats 1000000 in
theorem high_does (hB : BenchAt w b s) (hv : vld s = true) : Does 79 #[.pointer (some ⟨b, 0, none⟩)] b (s, if highB s then yesB else notB, true) w := by
  have C := hide (implRowHigh_any s w (by have := vld_le s hv; unfold maxLen; omega))
  obtain ⟨k, hk⟩ : ∃ k, k = highB s := ⟨_, rfl⟩
  rw [← hk] at C ⊢
  have CH := hide (fun w => holdsText_any k w)
  obtain ⟨x, hx⟩ : ∃ x, x = (if k then yesB else notB) := ⟨_, rfl⟩
  rw [← hx] at CH ⊢
  have hc := hB.1
  unfold Does
  clear hk hx hv
  go_enter Tryz.func79, Tryz.ntmps79
  go_wp2_with (first | (go_at_call 121; refine C.out.mono ?_; rintro e w1 ⟨rfl, hb1⟩; have HB1 := hide hb1; clear hb1) | (go_at_call 119; refine (CH.out _).mono ?_; rintro e w2 ⟨rfl, rfl⟩))
  go_ret2
  exact ⟨rfl, Turn.of_below hB HB1.out⟩
set_option maxHeartbeats 2000000 in
theorem energy_does (hB : BenchAt w b s) (hE : Env w) (hv : vld s = true) (hr : r.size ≤ 1000) : Does 69 #[.pointer (some ⟨b, 0, none⟩), .string r] b (s, dcI (tkN s (numI r)), tkOk s (numI r)) w := by
  have mixed : Tryz.prog.follows .mixedOrders = true := by kernel_rfl
  have CN := hide (fun W (hW : Below w.heap.size w W) => (readNumber_any r W (hE.below hW) hr).mono (R' := fun e w' => e = .returned (.int .i64 (numI r)) ∧ Below w.heap.size w w') (fun e w' h => ⟨h.1, hW.trans (h.2.mono hW.size)⟩))
  obtain ⟨n, hn⟩ : ∃ n, n = numI r := ⟨_, rfl⟩
  rw [← hn] at CN ⊢
  have C := hide (fun W (hW : Below w.heap.size w W) => (implStepTaken_any s n W (by have := vld_le s hv; unfold maxLen; omega)).mono (R' := fun e w' => e = .returned (.tuple #[.int .i64 (tkN s n), .bool (tkOk s n)]) ∧ Below w.heap.size w w') (fun e w' h => ⟨h.1, hW.trans (h.2.mono hW.size)⟩))
  have hb := tkN_bd8 n hv
  have D := hide (fun W (hW : Below w.heap.size w W) => (numberText_any (x := tkN s n) (tkOk s n) (by omega) (by omega) W (hE.below hW)).mono (R' := fun e w' => e = .returned (.tuple #[.string (dcI (tkN s n)), .bool (tkOk s n)]) ∧ Below w.heap.size w w') (fun e w' h => ⟨h.1, hW.trans (h.2.mono hW.size)⟩))
  obtain ⟨m, hm⟩ : ∃ m, m = tkN s n := ⟨_, rfl⟩
  obtain ⟨k, hk⟩ : ∃ k, k = tkOk s n := ⟨_, rfl⟩
  rw [← hm, ← hk] at C D ⊢
  obtain ⟨d, hd⟩ : ∃ d, d = dcI m := ⟨_, rfl⟩
  rw [← hd] at D ⊢
  have HB := hide hB
  have hc := hB.1
  unfold Does
  clear hm hk hn hv hB hb hE hd
  go_enter Tryz.func69, Tryz.ntmps69
  go_wp2_with fail
  go_region_with (first | (go_at_call 105; refine (CN.out _ (by first | exact HB2.out.drew | exact HB2.out | exact HB1.out.drew | exact HB1.out | exact HB1.out.drew.drew | exact Below.refl _ _ | exact (Below.refl _ _).drew | exact (Below.refl _ _).drew.drew)).mono ?_; rintro e w1 ⟨rfl, hb1⟩; have HB1 := hide hb1; have hc1 := (HB.out.below hb1).1; clear hb1) | (go_at_call 109; refine (C.out _ (by first | exact HB2.out.drew | exact HB2.out | exact HB1.out.drew | exact HB1.out | exact HB1.out.drew.drew | exact Below.refl _ _ | exact (Below.refl _ _).drew | exact (Below.refl _ _).drew.drew)).mono ?_; rintro e w2 ⟨rfl, hb2⟩; have HB2 := hide hb2; clear hb2) | (go_at_call 108; refine (D.out _ (by first | exact HB2.out.drew | exact HB2.out | exact HB1.out.drew | exact HB1.out | exact HB1.out.drew.drew | exact Below.refl _ _ | exact (Below.refl _ _).drew | exact (Below.refl _ _).drew.drew)).mono ?_; rintro e w3 ⟨rfl, hb3⟩; have HB3 := hide hb3; clear hb3) | fail)
  all_goals (try go_wp2)
  all_goals go_ret2
  all_goals (first | exact ⟨rfl, Turn.of_below HB.out HB3.out⟩ | exact ⟨rfl, Turn.of_below HB.out HB3.out.drew⟩ | exact ⟨rfl, Turn.of_below HB.out HB3.out.drew.drew⟩)
set_option maxHeartbeats 1000000 in
theorem period_does (hB : BenchAt w b s) (hE : Env w) (hr : r.size ≤ 1000) : Does 70 #[.pointer (some ⟨b, 0, none⟩), .string r] b (s, dcI (cpN r), ciIn r) w := by
  have C := hide (implCirclePeriod_any r w (by unfold maxLen; omega))
  have hb := cpN_bd r
  have CT := hide (fun w' hb' => numberText_any (x := cpN r) (ciIn r) (by omega) (by omega) w' (hE.below hb'))
  obtain ⟨m, hm⟩ : ∃ m, m = cpN r := ⟨_, rfl⟩
  obtain ⟨k, hk⟩ : ∃ k, k = ciIn r := ⟨_, rfl⟩
  rw [← hm, ← hk] at C CT ⊢
  unfold Does
  clear hm hk hb
  go_enter Tryz.func70, Tryz.ntmps70
  go_wp2_with (first | (go_at_call 110; refine C.out.mono ?_; rintro e w1 ⟨rfl, hb1⟩; have HB1 := hide hb1; clear hb1) | (go_at_call 108; refine (CT.out _ HB1.out).mono ?_; rintro e w2 ⟨rfl, hb2⟩; have HB2 := hide hb2; clear hb2))
  go_ret2
  exact ⟨rfl, Turn.of_below hB (HB1.out.trans (HB2.out.mono HB1.out.size))⟩
set_option maxHeartbeats 1000000 in
theorem colours_does (hB : BenchAt w b s) (hr : r.size ≤ 1000) : Does 71 #[.pointer (some ⟨b, 0, none⟩), .string r] b (s, rowS (csS r), csOk r) w := by
  have C := hide (implColourStep_any r w (by unfold maxLen; omega))
  obtain ⟨x, hx⟩ : ∃ x, x = csS r := ⟨_, rfl⟩
  obtain ⟨k, hk⟩ : ∃ k, k = csOk r := ⟨_, rfl⟩
  rw [← hx, ← hk] at C ⊢
  have CT := hide (fun w => rowText_any x w)
  unfold Does
  clear hx hk
  go_enter Tryz.func71, Tryz.ntmps71
  go_wp2_with (first | (go_at_call 111; refine C.out.mono ?_; rintro e w1 ⟨rfl, hb1⟩; have HB1 := hide hb1; clear hb1) | (go_at_call 19; refine (CT.out _).mono ?_; rintro e w2 ⟨rfl, rfl⟩))
  go_ret2
  exact ⟨rfl, Turn.of_below hB HB1.out⟩
end
end Go.Proofs.YtdooboibmllfkaaGreatDoor
