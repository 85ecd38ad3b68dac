/- TEXTS Table8, CmpI. -/
import Derived.Test.YtdooboibmllfkabGreatDoorExb25
import Derived.Test.YtdooboibmllfkabGreatDoorExb11
import Derived.Test.YtdooboibmllfkabGreatDoorExb17
namespace Go.Proofs.YtdooboibmllfkabGreatDoor
set_option maxRecDepth 100000
open Go.RowKit

def restL : List (ByteArray × Nat) := [(wSet, 95), (wSizes, 96), (wShift, 97), (wStep, 98), (wBack, 99), (wEnergy, 100), (wPeriod, 101), (wColours, 102)]
def loneL : List (ByteArray × Nat) := [(wTurned, 103), (wShow, 104), (wBalls, 105), (wShape, 106), (wRuns, 107), (wTime, 108), (wApart, 109), (wHigh, 110), (wRigged, 111)]

set_option maxRecDepth 100000 in
set_option maxHeartbeats 2000000 in
theorem restWords_any (w : World) :
    Calls Tryz.prog 72 #[] w fun e w' => e = .returned (.map (some w.heap.size)) ∧ w' = w.alloc (.map (entsL restL 0).toArray 8) := by
  have hmm := @run_makeMap Tryz.prog
  have h0 : (Instr.mapUpdate 109 (.map (some w.heap.size)) (.string ⟨#[115, 101, 116]⟩) (.func (.func 95) #[] #[])).run Tryz.prog (w.alloc (.map #[] 0)) = .ok () (w.alloc (.map #[{ key := .string ⟨#[115, 101, 116]⟩, val := .func (.func 95) #[] #[], born := 0 }] 1)) := run_ins Tryz.underlying109 Tryz.underlying9 _ _ _ _ w (by kernel_rfl)
  have h1 : (Instr.mapUpdate 109 (.map (some w.heap.size)) (.string ⟨#[115, 105, 122, 101, 115]⟩) (.func (.func 96) #[] #[])).run Tryz.prog (w.alloc (.map #[{ key := .string ⟨#[115, 101, 116]⟩, val := .func (.func 95) #[] #[], born := 0 }] 1)) = .ok () (w.alloc (.map #[{ key := .string ⟨#[115, 101, 116]⟩, val := .func (.func 95) #[] #[], born := 0 }, { key := .string ⟨#[115, 105, 122, 101, 115]⟩, val := .func (.func 96) #[] #[], born := 1 }] 2)) := run_ins Tryz.underlying109 Tryz.underlying9 _ _ _ _ w (by kernel_rfl)
  have h2 : (Instr.mapUpdate 109 (.map (some w.heap.size)) (.string ⟨#[115, 104, 105, 102, 116]⟩) (.func (.func 97) #[] #[])).run Tryz.prog (w.alloc (.map #[{ key := .string ⟨#[115, 101, 116]⟩, val := .func (.func 95) #[] #[], born := 0 }, { key := .string ⟨#[115, 105, 122, 101, 115]⟩, val := .func (.func 96) #[] #[], born := 1 }] 2)) = .ok () (w.alloc (.map #[{ key := .string ⟨#[115, 101, 116]⟩, val := .func (.func 95) #[] #[], born := 0 }, { key := .string ⟨#[115, 105, 122, 101, 115]⟩, val := .func (.func 96) #[] #[], born := 1 }, { key := .string ⟨#[115, 104, 105, 102, 116]⟩, val := .func (.func 97) #[] #[], born := 2 }] 3)) := run_ins Tryz.underlying109 Tryz.underlying9 _ _ _ _ w (by kernel_rfl)
  have h3 : (Instr.mapUpdate 109 (.map (some w.heap.size)) (.string ⟨#[115, 116, 101, 112]⟩) (.func (.func 98) #[] #[])).run Tryz.prog (w.alloc (.map #[{ key := .string ⟨#[115, 101, 116]⟩, val := .func (.func 95) #[] #[], born := 0 }, { key := .string ⟨#[115, 105, 122, 101, 115]⟩, val := .func (.func 96) #[] #[], born := 1 }, { key := .string ⟨#[115, 104, 105, 102, 116]⟩, val := .func (.func 97) #[] #[], born := 2 }] 3)) = .ok () (w.alloc (.map #[{ key := .string ⟨#[115, 101, 116]⟩, val := .func (.func 95) #[] #[], born := 0 }, { key := .string ⟨#[115, 105, 122, 101, 115]⟩, val := .func (.func 96) #[] #[], born := 1 }, { key := .string ⟨#[115, 104, 105, 102, 116]⟩, val := .func (.func 97) #[] #[], born := 2 }, { key := .string ⟨#[115, 116, 101, 112]⟩, val := .func (.func 98) #[] #[], born := 3 }] 4)) := run_ins Tryz.underlying109 Tryz.underlying9 _ _ _ _ w (by kernel_rfl)
  have h4 : (Instr.mapUpdate 109 (.map (some w.heap.size)) (.string ⟨#[98, 97, 99, 107]⟩) (.func (.func 99) #[] #[])).run Tryz.prog (w.alloc (.map #[{ key := .string ⟨#[115, 101, 116]⟩, val := .func (.func 95) #[] #[], born := 0 }, { key := .string ⟨#[115, 105, 122, 101, 115]⟩, val := .func (.func 96) #[] #[], born := 1 }, { key := .string ⟨#[115, 104, 105, 102, 116]⟩, val := .func (.func 97) #[] #[], born := 2 }, { key := .string ⟨#[115, 116, 101, 112]⟩, val := .func (.func 98) #[] #[], born := 3 }] 4)) = .ok () (w.alloc (.map #[{ key := .string ⟨#[115, 101, 116]⟩, val := .func (.func 95) #[] #[], born := 0 }, { key := .string ⟨#[115, 105, 122, 101, 115]⟩, val := .func (.func 96) #[] #[], born := 1 }, { key := .string ⟨#[115, 104, 105, 102, 116]⟩, val := .func (.func 97) #[] #[], born := 2 }, { key := .string ⟨#[115, 116, 101, 112]⟩, val := .func (.func 98) #[] #[], born := 3 }, { key := .string ⟨#[98, 97, 99, 107]⟩, val := .func (.func 99) #[] #[], born := 4 }] 5)) := run_ins Tryz.underlying109 Tryz.underlying9 _ _ _ _ w (by kernel_rfl)
  have h5 : (Instr.mapUpdate 109 (.map (some w.heap.size)) (.string ⟨#[101, 110, 101, 114, 103, 121]⟩) (.func (.func 100) #[] #[])).run Tryz.prog (w.alloc (.map #[{ key := .string ⟨#[115, 101, 116]⟩, val := .func (.func 95) #[] #[], born := 0 }, { key := .string ⟨#[115, 105, 122, 101, 115]⟩, val := .func (.func 96) #[] #[], born := 1 }, { key := .string ⟨#[115, 104, 105, 102, 116]⟩, val := .func (.func 97) #[] #[], born := 2 }, { key := .string ⟨#[115, 116, 101, 112]⟩, val := .func (.func 98) #[] #[], born := 3 }, { key := .string ⟨#[98, 97, 99, 107]⟩, val := .func (.func 99) #[] #[], born := 4 }] 5)) = .ok () (w.alloc (.map #[{ key := .string ⟨#[115, 101, 116]⟩, val := .func (.func 95) #[] #[], born := 0 }, { key := .string ⟨#[115, 105, 122, 101, 115]⟩, val := .func (.func 96) #[] #[], born := 1 }, { key := .string ⟨#[115, 104, 105, 102, 116]⟩, val := .func (.func 97) #[] #[], born := 2 }, { key := .string ⟨#[115, 116, 101, 112]⟩, val := .func (.func 98) #[] #[], born := 3 }, { key := .string ⟨#[98, 97, 99, 107]⟩, val := .func (.func 99) #[] #[], born := 4 }, { key := .string ⟨#[101, 110, 101, 114, 103, 121]⟩, val := .func (.func 100) #[] #[], born := 5 }] 6)) := run_ins Tryz.underlying109 Tryz.underlying9 _ _ _ _ w (by kernel_rfl)
  have h6 : (Instr.mapUpdate 109 (.map (some w.heap.size)) (.string ⟨#[112, 101, 114, 105, 111, 100]⟩) (.func (.func 101) #[] #[])).run Tryz.prog (w.alloc (.map #[{ key := .string ⟨#[115, 101, 116]⟩, val := .func (.func 95) #[] #[], born := 0 }, { key := .string ⟨#[115, 105, 122, 101, 115]⟩, val := .func (.func 96) #[] #[], born := 1 }, { key := .string ⟨#[115, 104, 105, 102, 116]⟩, val := .func (.func 97) #[] #[], born := 2 }, { key := .string ⟨#[115, 116, 101, 112]⟩, val := .func (.func 98) #[] #[], born := 3 }, { key := .string ⟨#[98, 97, 99, 107]⟩, val := .func (.func 99) #[] #[], born := 4 }, { key := .string ⟨#[101, 110, 101, 114, 103, 121]⟩, val := .func (.func 100) #[] #[], born := 5 }] 6)) = .ok () (w.alloc (.map #[{ key := .string ⟨#[115, 101, 116]⟩, val := .func (.func 95) #[] #[], born := 0 }, { key := .string ⟨#[115, 105, 122, 101, 115]⟩, val := .func (.func 96) #[] #[], born := 1 }, { key := .string ⟨#[115, 104, 105, 102, 116]⟩, val := .func (.func 97) #[] #[], born := 2 }, { key := .string ⟨#[115, 116, 101, 112]⟩, val := .func (.func 98) #[] #[], born := 3 }, { key := .string ⟨#[98, 97, 99, 107]⟩, val := .func (.func 99) #[] #[], born := 4 }, { key := .string ⟨#[101, 110, 101, 114, 103, 121]⟩, val := .func (.func 100) #[] #[], born := 5 }, { key := .string ⟨#[112, 101, 114, 105, 111, 100]⟩, val := .func (.func 101) #[] #[], born := 6 }] 7)) := run_ins Tryz.underlying109 Tryz.underlying9 _ _ _ _ w (by kernel_rfl)
  have h7 : (Instr.mapUpdate 109 (.map (some w.heap.size)) (.string ⟨#[99, 111, 108, 111, 117, 114, 115]⟩) (.func (.func 102) #[] #[])).run Tryz.prog (w.alloc (.map #[{ key := .string ⟨#[115, 101, 116]⟩, val := .func (.func 95) #[] #[], born := 0 }, { key := .string ⟨#[115, 105, 122, 101, 115]⟩, val := .func (.func 96) #[] #[], born := 1 }, { key := .string ⟨#[115, 104, 105, 102, 116]⟩, val := .func (.func 97) #[] #[], born := 2 }, { key := .string ⟨#[115, 116, 101, 112]⟩, val := .func (.func 98) #[] #[], born := 3 }, { key := .string ⟨#[98, 97, 99, 107]⟩, val := .func (.func 99) #[] #[], born := 4 }, { key := .string ⟨#[101, 110, 101, 114, 103, 121]⟩, val := .func (.func 100) #[] #[], born := 5 }, { key := .string ⟨#[112, 101, 114, 105, 111, 100]⟩, val := .func (.func 101) #[] #[], born := 6 }] 7)) = .ok () (w.alloc (.map #[{ key := .string ⟨#[115, 101, 116]⟩, val := .func (.func 95) #[] #[], born := 0 }, { key := .string ⟨#[115, 105, 122, 101, 115]⟩, val := .func (.func 96) #[] #[], born := 1 }, { key := .string ⟨#[115, 104, 105, 102, 116]⟩, val := .func (.func 97) #[] #[], born := 2 }, { key := .string ⟨#[115, 116, 101, 112]⟩, val := .func (.func 98) #[] #[], born := 3 }, { key := .string ⟨#[98, 97, 99, 107]⟩, val := .func (.func 99) #[] #[], born := 4 }, { key := .string ⟨#[101, 110, 101, 114, 103, 121]⟩, val := .func (.func 100) #[] #[], born := 5 }, { key := .string ⟨#[112, 101, 114, 105, 111, 100]⟩, val := .func (.func 101) #[] #[], born := 6 }, { key := .string ⟨#[99, 111, 108, 111, 117, 114, 115]⟩, val := .func (.func 102) #[] #[], born := 7 }] 8)) := run_ins Tryz.underlying109 Tryz.underlying9 _ _ _ _ w (by kernel_rfl)
  go_enter Tryz.func72, Tryz.ntmps72
  go_wp2
  go_ret
  exact ⟨rfl, rfl⟩
theorem zero_restWords (w : World) : (zeroValue 107).run Tryz.prog w = .ok .nilFunc w := by kernel_rfl
theorem look_restWords (word : ByteArray) (w' : World) {b : Nat} (hb : w'.heap[b]? = some (.map (entsL restL 0).toArray 8)) :
    (Instr.lookup 109 (.map (some b)) (.string word) true).run Tryz.prog w' = .ok (.tuple (match fnd word restL with | some f => #[.func (.func f) #[] #[], .bool true] | none => #[.nilFunc, .bool false])) w' :=
  run_look Tryz.underlying109 Tryz.underlying9 (zero_restWords w') hb word

set_option maxRecDepth 100000 in
set_option maxHeartbeats 2000000 in
theorem loneWords_any (w : World) :
    Calls Tryz.prog 73 #[] w fun e w' => e = .returned (.map (some w.heap.size)) ∧ w' = w.alloc (.map (entsL loneL 0).toArray 9) := by
  have hmm := @run_makeMap Tryz.prog
  have h0 : (Instr.mapUpdate 113 (.map (some w.heap.size)) (.string ⟨#[116, 117, 114, 110, 101, 100]⟩) (.func (.func 103) #[] #[])).run Tryz.prog (w.alloc (.map #[] 0)) = .ok () (w.alloc (.map #[{ key := .string ⟨#[116, 117, 114, 110, 101, 100]⟩, val := .func (.func 103) #[] #[], born := 0 }] 1)) := run_ins Tryz.underlying113 Tryz.underlying9 _ _ _ _ w (by kernel_rfl)
  have h1 : (Instr.mapUpdate 113 (.map (some w.heap.size)) (.string ⟨#[115, 104, 111, 119]⟩) (.func (.func 104) #[] #[])).run Tryz.prog (w.alloc (.map #[{ key := .string ⟨#[116, 117, 114, 110, 101, 100]⟩, val := .func (.func 103) #[] #[], born := 0 }] 1)) = .ok () (w.alloc (.map #[{ key := .string ⟨#[116, 117, 114, 110, 101, 100]⟩, val := .func (.func 103) #[] #[], born := 0 }, { key := .string ⟨#[115, 104, 111, 119]⟩, val := .func (.func 104) #[] #[], born := 1 }] 2)) := run_ins Tryz.underlying113 Tryz.underlying9 _ _ _ _ w (by kernel_rfl)
  have h2 : (Instr.mapUpdate 113 (.map (some w.heap.size)) (.string ⟨#[98, 97, 108, 108, 115]⟩) (.func (.func 105) #[] #[])).run Tryz.prog (w.alloc (.map #[{ key := .string ⟨#[116, 117, 114, 110, 101, 100]⟩, val := .func (.func 103) #[] #[], born := 0 }, { key := .string ⟨#[115, 104, 111, 119]⟩, val := .func (.func 104) #[] #[], born := 1 }] 2)) = .ok () (w.alloc (.map #[{ key := .string ⟨#[116, 117, 114, 110, 101, 100]⟩, val := .func (.func 103) #[] #[], born := 0 }, { key := .string ⟨#[115, 104, 111, 119]⟩, val := .func (.func 104) #[] #[], born := 1 }, { key := .string ⟨#[98, 97, 108, 108, 115]⟩, val := .func (.func 105) #[] #[], born := 2 }] 3)) := run_ins Tryz.underlying113 Tryz.underlying9 _ _ _ _ w (by kernel_rfl)
  have h3 : (Instr.mapUpdate 113 (.map (some w.heap.size)) (.string ⟨#[115, 104, 97, 112, 101]⟩) (.func (.func 106) #[] #[])).run Tryz.prog (w.alloc (.map #[{ key := .string ⟨#[116, 117, 114, 110, 101, 100]⟩, val := .func (.func 103) #[] #[], born := 0 }, { key := .string ⟨#[115, 104, 111, 119]⟩, val := .func (.func 104) #[] #[], born := 1 }, { key := .string ⟨#[98, 97, 108, 108, 115]⟩, val := .func (.func 105) #[] #[], born := 2 }] 3)) = .ok () (w.alloc (.map #[{ key := .string ⟨#[116, 117, 114, 110, 101, 100]⟩, val := .func (.func 103) #[] #[], born := 0 }, { key := .string ⟨#[115, 104, 111, 119]⟩, val := .func (.func 104) #[] #[], born := 1 }, { key := .string ⟨#[98, 97, 108, 108, 115]⟩, val := .func (.func 105) #[] #[], born := 2 }, { key := .string ⟨#[115, 104, 97, 112, 101]⟩, val := .func (.func 106) #[] #[], born := 3 }] 4)) := run_ins Tryz.underlying113 Tryz.underlying9 _ _ _ _ w (by kernel_rfl)
  have h4 : (Instr.mapUpdate 113 (.map (some w.heap.size)) (.string ⟨#[114, 117, 110, 115]⟩) (.func (.func 107) #[] #[])).run Tryz.prog (w.alloc (.map #[{ key := .string ⟨#[116, 117, 114, 110, 101, 100]⟩, val := .func (.func 103) #[] #[], born := 0 }, { key := .string ⟨#[115, 104, 111, 119]⟩, val := .func (.func 104) #[] #[], born := 1 }, { key := .string ⟨#[98, 97, 108, 108, 115]⟩, val := .func (.func 105) #[] #[], born := 2 }, { key := .string ⟨#[115, 104, 97, 112, 101]⟩, val := .func (.func 106) #[] #[], born := 3 }] 4)) = .ok () (w.alloc (.map #[{ key := .string ⟨#[116, 117, 114, 110, 101, 100]⟩, val := .func (.func 103) #[] #[], born := 0 }, { key := .string ⟨#[115, 104, 111, 119]⟩, val := .func (.func 104) #[] #[], born := 1 }, { key := .string ⟨#[98, 97, 108, 108, 115]⟩, val := .func (.func 105) #[] #[], born := 2 }, { key := .string ⟨#[115, 104, 97, 112, 101]⟩, val := .func (.func 106) #[] #[], born := 3 }, { key := .string ⟨#[114, 117, 110, 115]⟩, val := .func (.func 107) #[] #[], born := 4 }] 5)) := run_ins Tryz.underlying113 Tryz.underlying9 _ _ _ _ w (by kernel_rfl)
  have h5 : (Instr.mapUpdate 113 (.map (some w.heap.size)) (.string ⟨#[116, 105, 109, 101]⟩) (.func (.func 108) #[] #[])).run Tryz.prog (w.alloc (.map #[{ key := .string ⟨#[116, 117, 114, 110, 101, 100]⟩, val := .func (.func 103) #[] #[], born := 0 }, { key := .string ⟨#[115, 104, 111, 119]⟩, val := .func (.func 104) #[] #[], born := 1 }, { key := .string ⟨#[98, 97, 108, 108, 115]⟩, val := .func (.func 105) #[] #[], born := 2 }, { key := .string ⟨#[115, 104, 97, 112, 101]⟩, val := .func (.func 106) #[] #[], born := 3 }, { key := .string ⟨#[114, 117, 110, 115]⟩, val := .func (.func 107) #[] #[], born := 4 }] 5)) = .ok () (w.alloc (.map #[{ key := .string ⟨#[116, 117, 114, 110, 101, 100]⟩, val := .func (.func 103) #[] #[], born := 0 }, { key := .string ⟨#[115, 104, 111, 119]⟩, val := .func (.func 104) #[] #[], born := 1 }, { key := .string ⟨#[98, 97, 108, 108, 115]⟩, val := .func (.func 105) #[] #[], born := 2 }, { key := .string ⟨#[115, 104, 97, 112, 101]⟩, val := .func (.func 106) #[] #[], born := 3 }, { key := .string ⟨#[114, 117, 110, 115]⟩, val := .func (.func 107) #[] #[], born := 4 }, { key := .string ⟨#[116, 105, 109, 101]⟩, val := .func (.func 108) #[] #[], born := 5 }] 6)) := run_ins Tryz.underlying113 Tryz.underlying9 _ _ _ _ w (by kernel_rfl)
  have h6 : (Instr.mapUpdate 113 (.map (some w.heap.size)) (.string ⟨#[97, 112, 97, 114, 116]⟩) (.func (.func 109) #[] #[])).run Tryz.prog (w.alloc (.map #[{ key := .string ⟨#[116, 117, 114, 110, 101, 100]⟩, val := .func (.func 103) #[] #[], born := 0 }, { key := .string ⟨#[115, 104, 111, 119]⟩, val := .func (.func 104) #[] #[], born := 1 }, { key := .string ⟨#[98, 97, 108, 108, 115]⟩, val := .func (.func 105) #[] #[], born := 2 }, { key := .string ⟨#[115, 104, 97, 112, 101]⟩, val := .func (.func 106) #[] #[], born := 3 }, { key := .string ⟨#[114, 117, 110, 115]⟩, val := .func (.func 107) #[] #[], born := 4 }, { key := .string ⟨#[116, 105, 109, 101]⟩, val := .func (.func 108) #[] #[], born := 5 }] 6)) = .ok () (w.alloc (.map #[{ key := .string ⟨#[116, 117, 114, 110, 101, 100]⟩, val := .func (.func 103) #[] #[], born := 0 }, { key := .string ⟨#[115, 104, 111, 119]⟩, val := .func (.func 104) #[] #[], born := 1 }, { key := .string ⟨#[98, 97, 108, 108, 115]⟩, val := .func (.func 105) #[] #[], born := 2 }, { key := .string ⟨#[115, 104, 97, 112, 101]⟩, val := .func (.func 106) #[] #[], born := 3 }, { key := .string ⟨#[114, 117, 110, 115]⟩, val := .func (.func 107) #[] #[], born := 4 }, { key := .string ⟨#[116, 105, 109, 101]⟩, val := .func (.func 108) #[] #[], born := 5 }, { key := .string ⟨#[97, 112, 97, 114, 116]⟩, val := .func (.func 109) #[] #[], born := 6 }] 7)) := run_ins Tryz.underlying113 Tryz.underlying9 _ _ _ _ w (by kernel_rfl)
  have h7 : (Instr.mapUpdate 113 (.map (some w.heap.size)) (.string ⟨#[104, 105, 103, 104]⟩) (.func (.func 110) #[] #[])).run Tryz.prog (w.alloc (.map #[{ key := .string ⟨#[116, 117, 114, 110, 101, 100]⟩, val := .func (.func 103) #[] #[], born := 0 }, { key := .string ⟨#[115, 104, 111, 119]⟩, val := .func (.func 104) #[] #[], born := 1 }, { key := .string ⟨#[98, 97, 108, 108, 115]⟩, val := .func (.func 105) #[] #[], born := 2 }, { key := .string ⟨#[115, 104, 97, 112, 101]⟩, val := .func (.func 106) #[] #[], born := 3 }, { key := .string ⟨#[114, 117, 110, 115]⟩, val := .func (.func 107) #[] #[], born := 4 }, { key := .string ⟨#[116, 105, 109, 101]⟩, val := .func (.func 108) #[] #[], born := 5 }, { key := .string ⟨#[97, 112, 97, 114, 116]⟩, val := .func (.func 109) #[] #[], born := 6 }] 7)) = .ok () (w.alloc (.map #[{ key := .string ⟨#[116, 117, 114, 110, 101, 100]⟩, val := .func (.func 103) #[] #[], born := 0 }, { key := .string ⟨#[115, 104, 111, 119]⟩, val := .func (.func 104) #[] #[], born := 1 }, { key := .string ⟨#[98, 97, 108, 108, 115]⟩, val := .func (.func 105) #[] #[], born := 2 }, { key := .string ⟨#[115, 104, 97, 112, 101]⟩, val := .func (.func 106) #[] #[], born := 3 }, { key := .string ⟨#[114, 117, 110, 115]⟩, val := .func (.func 107) #[] #[], born := 4 }, { key := .string ⟨#[116, 105, 109, 101]⟩, val := .func (.func 108) #[] #[], born := 5 }, { key := .string ⟨#[97, 112, 97, 114, 116]⟩, val := .func (.func 109) #[] #[], born := 6 }, { key := .string ⟨#[104, 105, 103, 104]⟩, val := .func (.func 110) #[] #[], born := 7 }] 8)) := run_ins Tryz.underlying113 Tryz.underlying9 _ _ _ _ w (by kernel_rfl)
  have h8 : (Instr.mapUpdate 113 (.map (some w.heap.size)) (.string ⟨#[114, 105, 103, 103, 101, 100]⟩) (.func (.func 111) #[] #[])).run Tryz.prog (w.alloc (.map #[{ key := .string ⟨#[116, 117, 114, 110, 101, 100]⟩, val := .func (.func 103) #[] #[], born := 0 }, { key := .string ⟨#[115, 104, 111, 119]⟩, val := .func (.func 104) #[] #[], born := 1 }, { key := .string ⟨#[98, 97, 108, 108, 115]⟩, val := .func (.func 105) #[] #[], born := 2 }, { key := .string ⟨#[115, 104, 97, 112, 101]⟩, val := .func (.func 106) #[] #[], born := 3 }, { key := .string ⟨#[114, 117, 110, 115]⟩, val := .func (.func 107) #[] #[], born := 4 }, { key := .string ⟨#[116, 105, 109, 101]⟩, val := .func (.func 108) #[] #[], born := 5 }, { key := .string ⟨#[97, 112, 97, 114, 116]⟩, val := .func (.func 109) #[] #[], born := 6 }, { key := .string ⟨#[104, 105, 103, 104]⟩, val := .func (.func 110) #[] #[], born := 7 }] 8)) = .ok () (w.alloc (.map #[{ key := .string ⟨#[116, 117, 114, 110, 101, 100]⟩, val := .func (.func 103) #[] #[], born := 0 }, { key := .string ⟨#[115, 104, 111, 119]⟩, val := .func (.func 104) #[] #[], born := 1 }, { key := .string ⟨#[98, 97, 108, 108, 115]⟩, val := .func (.func 105) #[] #[], born := 2 }, { key := .string ⟨#[115, 104, 97, 112, 101]⟩, val := .func (.func 106) #[] #[], born := 3 }, { key := .string ⟨#[114, 117, 110, 115]⟩, val := .func (.func 107) #[] #[], born := 4 }, { key := .string ⟨#[116, 105, 109, 101]⟩, val := .func (.func 108) #[] #[], born := 5 }, { key := .string ⟨#[97, 112, 97, 114, 116]⟩, val := .func (.func 109) #[] #[], born := 6 }, { key := .string ⟨#[104, 105, 103, 104]⟩, val := .func (.func 110) #[] #[], born := 7 }, { key := .string ⟨#[114, 105, 103, 103, 101, 100]⟩, val := .func (.func 111) #[] #[], born := 8 }] 9)) := run_ins Tryz.underlying113 Tryz.underlying9 _ _ _ _ w (by kernel_rfl)
  go_enter Tryz.func73, Tryz.ntmps73
  go_wp2
  go_ret
  exact ⟨rfl, rfl⟩
theorem zero_loneWords (w : World) : (zeroValue 111).run Tryz.prog w = .ok .nilFunc w := by kernel_rfl
theorem look_loneWords (word : ByteArray) (w' : World) {b : Nat} (hb : w'.heap[b]? = some (.map (entsL loneL 0).toArray 9)) :
    (Instr.lookup 113 (.map (some b)) (.string word) true).run Tryz.prog w' = .ok (.tuple (match fnd word loneL with | some f => #[.func (.func f) #[] #[], .bool true] | none => #[.nilFunc, .bool false])) w' :=
  run_look Tryz.underlying113 Tryz.underlying9 (zero_loneWords w') hb word
end Go.Proofs.YtdooboibmllfkabGreatDoor

namespace Go.Proofs.YtdooboibmllfkabGreatDoor
set_option maxRecDepth 100000
open Go.RowKit

def inR (g x : Int) : Bool := decide (1 ≤ x) && decide (x ≤ g)

set_option maxRecDepth 100000 in
theorem within1_any (b : Nat) (g x : Int) (w : World) (hc : w.cell? ⟨b, 0, none⟩ = some (.int .i64 g)) :
    Calls Tryz.prog 174 #[.int .i64 x, .pointer (some ⟨b, 0, none⟩)] w fun e w' => e = .returned (.bool (!inR g x)) ∧ w = w' := by
  unfold inR
  by_cases h1 : x < 1
  · have e1 : decide (1 ≤ x) = false := by simp; omega
    rw [e1]
    clear e1
    go_enter Tryz.func174, Tryz.ntmps174
    go_wp2
    go_ret
    exact ⟨rfl, rfl⟩
  · have e1 : decide (1 ≤ x) = true := by simp; omega
    rw [e1]
    clear e1
    by_cases h2 : g < x
    · have e2 : decide (x ≤ g) = false := by simp; omega
      rw [e2]
      clear e2
      go_enter Tryz.func174, Tryz.ntmps174
      go_wp2
      go_ret
      exact ⟨rfl, rfl⟩
    · have e2 : decide (x ≤ g) = true := by simp; omega
      rw [e2]
      clear e2
      go_enter Tryz.func174, Tryz.ntmps174
      go_wp2
      go_ret
      exact ⟨rfl, rfl⟩

def outI (g : Int) (l : List Int) (r : Int) : Prop := decide (0 ≤ r) = !(l.all (inR g))

set_option maxRecDepth 100000 in
set_option maxHeartbeats 1000000 in
theorem indexFunc_any (v : Value) (l : List Int) (b : Nat) (g : Int) (w : World) {lo : Nat} (hll : l.length ≤ 1048576) (h : IntsV lo w v l) (hc : w.cell? ⟨b, 0, none⟩ = some (.int .i64 g)) :
    Calls Tryz.prog 193 #[v, .func (.func 174) #[] #[.pointer (some ⟨b, 0, none⟩)]] w fun e w' => ∃ r, e = .returned (.int .i64 r) ∧ outI g l r ∧ w = w' := by
  obtain ⟨a, c, rfl, hf⟩ : ∃ a c, v = .slice a l.length c ∧ (0 < l.length → ∃ g, a = some ⟨g, 0, none⟩ ∧ CellsAt w g (l.map (.int .i64))) := by
    rcases h with ⟨a, c, rfl, rfl⟩ | ⟨g, c, rfl, _, _, _, hc⟩
    · exact ⟨a, c, rfl, fun h => by simp at h⟩
    · exact ⟨_, c, rfl, fun _ => ⟨g, rfl, hc⟩⟩
  obtain ⟨n, hn⟩ : ∃ n, n = l.length := ⟨_, rfl⟩
  have HN := hide hn
  have HF := hide hf
  rw [← hn] at hll HF ⊢
  have HC := hide hc
  clear hn hf h hc
  go_enter Tryz.func193, Tryz.ntmps193
  go_wp2
  go_loop [8] (fun i => ∃ k : Nat, k ≤ n ∧ i = .int .i64 (k : Int) ∧ Hid ((l.take k).all (inR g) = true)) (fun i => n - (Go.RowKit.intOf i).toNat)
  case atStart => exact ⟨0, Nat.zero_le _, rfl, rfl⟩
  case round =>
    obtain ⟨k, hk, rfl, HA⟩ := hrel
    by_cases hlt : k < n
    · obtain ⟨q, rfl, hc⟩ := HF.out (by omega)
      obtain ⟨x, hx⟩ : ∃ x, l[k]? = some x := ⟨_, List.getElem?_eq_getElem (by rw [← HN.out]; exact hlt)⟩
      have hcell := (hc k (.int .i64 x) (by rw [List.getElem?_map, hx]; rfl)).1
      have HAL := hide (all_take_succ l (inR g) k x hx)
      have HMEM := hide (List.mem_of_getElem? hx)
      have CW := hide (within1_any b g x w HC.out)
      clear hc hx
      have i0 : (0 : Int) ≤ (k : Int) := by omega
      have i1 : (k : Int) < (n : Int) := by omega
      cases hsz : inR g x
      · have e1 : outI g l (k : Int) := by
          unfold outI
          have : l.all (inR g) = false := by rw [List.all_eq_false]; exact ⟨x, HMEM.out, by simp [hsz]⟩
          rw [this]; simp
        have E1 := hide e1
        rw [hsz] at CW
        clear e1
        go_wp2_with fail
        refine CW.out.mono ?_
        rintro e w' ⟨rfl, rfl⟩
        go_wp2_with fail
        go_ret
        exact ⟨_, rfl, E1.out, rfl⟩
      · rw [hsz] at CW HAL
        have HAL2 := hide (HAL.out.trans (by rw [HA.out]))
        clear HAL
        go_wp2_with fail
        refine CW.out.mono ?_
        rintro e w' ⟨rfl, rfl⟩
        go_wp2_with fail
        go_round
        case rel => exact ⟨k + 1, by omega, by go_num, HAL2⟩
        case measure => simp [Go.RowKit.intOf]; omega
    · have hkn : k = n := by omega
      have hl2 : l.take k = l := List.take_of_length_le (by rw [← HN.out]; omega)
      rw [hl2] at HA
      have E1 : Hid (outI g l (-1)) := by show decide (0 ≤ (-1 : Int)) = _; rw [HA.out]; rfl
      go_wp2
      go_ret
      exact ⟨_, rfl, E1.out, rfl⟩

set_option maxRecDepth 100000 in
set_option maxHeartbeats 400000 in
theorem containsFunc_any (v : Value) (l : List Int) (b : Nat) (g : Int) (w : World) {lo : Nat} (hll : l.length ≤ 1048576) (h : IntsV lo w v l) (hc : w.cell? ⟨b, 0, none⟩ = some (.int .i64 g)) :
    Calls Tryz.prog 173 #[v, .func (.func 174) #[] #[.pointer (some ⟨b, 0, none⟩)]] w fun e w' => e = .returned (.bool (!(l.all (inR g)))) ∧ w = w' := by
  have C := hide (indexFunc_any v l b g w hll h hc)
  clear h hc
  unfold outI at C
  obtain ⟨b0, hb0⟩ : ∃ b0, b0 = !(l.all (inR g)) := ⟨_, rfl⟩
  rw [← hb0] at C ⊢
  clear hb0
  go_enter Tryz.func173, Tryz.ntmps173
  go_wp2_with fail
  refine C.out.mono ?_
  rintro e w' ⟨r, rfl, hr, rfl⟩
  clear C
  cases b0
  all_goals
    go_wp2_with fail
    go_ret
    exact ⟨rfl, rfl⟩

set_option maxRecDepth 100000 in
set_option maxHeartbeats 400000 in
theorem allWithin_any (v : Value) (l : List Int) (g : Int) (w : World) {lo : Nat} (hll : l.length ≤ 1048576) (h : IntsV lo w v l) :
    Calls Tryz.prog 153 #[v, .int .i64 g] w fun e w' => e = .returned (.bool (l.all (inR g))) ∧ Below w.heap.size w w' := by
  have hb : Below w.heap.size w (w.alloc (.cells #[.int .i64 g] 3)) := (Below.refl _ _).alloc (Nat.le_refl _) _
  have C := hide (containsFunc_any v l w.heap.size g (w.alloc (.cells #[.int .i64 g] 3)) hll (h.below hb (Nat.le_refl _)) (by simp))
  obtain ⟨b, hbb⟩ : ∃ b, b = l.all (inR g) := ⟨_, rfl⟩
  rw [← hbb] at C ⊢
  clear hbb h
  have HB := hide hb
  clear hb
  go_enter Tryz.func153, Tryz.ntmps153
  go_wp2_with fail
  refine C.out.mono ?_
  rintro e w' ⟨rfl, rfl⟩
  cases b
  all_goals
    go_wp2_with fail
    go_ret
    exact ⟨rfl, HB.out⟩

end Go.Proofs.YtdooboibmllfkabGreatDoor
