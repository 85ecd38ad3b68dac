/- TEXTS RngC, SExe6, Cut8, Run8. -/
import Derived.RangeFuncNested
import Derived.RangeFuncBound
import Derived.RangeFuncCalls
import Derived.RangeFuncLeaves
import Derived.Shelf.Abstract
import Derived.Shelf.RegionOpen
import Derived.WalkKit
import Derived.OwnWalkIn
import Derived.TacticsInMore
import Derived.LoopNIn
import Derived.LoopIn
import Derived.Test.YtdooboibmllfkabGreatDoorExb25
import Derived.Test.YtdooboibmllfkabGreatDoorExb16
import Derived.Test.YtdooboibmllfkabGreatDoorExb03
import Derived.Test.YtdooboibmllfkabGreatDoorExb17
import Derived.Test.YtdooboibmllfkabGreatDoorExb43
namespace Go.Proofs.YtdooboibmllfkabGreatDoor
set_option maxRecDepth 100000
open Go.RowKit Go.Shelf

structure IterOk (cb : Nat) (J : Nat → World → Prop) : Prop where
  set : ∀ k A x, J k A → J k (A.setCell ⟨cb, 0, none⟩ (.string x))
  drew : ∀ k A, J k A → J k A.drew
structure LoopOk (D cb : Nat) (I : Nat → World → Prop) : Prop where
  it : IterOk cb I
  put : ∀ k A l o o', I k A → D ≤ l → A.heap[l]? = some o → o.isCells = false → I k (A.putObj l o')
  new : ∀ k A o, I k A → I k (A.alloc o)
def SeqAll {α : Type} (F : Fence) (n : Nat) (P : Program) (g : Nat) (lb : Array Value) (encs : α → Array Value) (cb : Nat) (xs : List α) (w : World) : Prop :=
  ∀ (l : Nat) (J : Nat → World → Prop) (W : World), Below w.heap.size w W → IterOk cb J →
    (∀ k x W1, xs[k]? = some x → J k W1 → YieldAt F (n - 1) P l (encs x) W1 fun e W' => e = .returned (.bool true) ∧ J (k + 1) W' ∧ W'.heap[cb]? = W1.heap[cb]?) →
    J 0 W →
    CallsIn F n P g (#[.func (.yield l) #[] #[]] ++ lb) W fun e W' => (∃ v, e = .returned v) ∧ J xs.length W'
def RoundEnds (D cb : Nat) (I : Nat → World → Prop) (k : Nat) (W : World) : Exit → Act → World → Prop
  | .normal, _, W' => KeepsFrom D W W' ∧ W'.heap[cb]? = W.heap[cb]? ∧ I k W'
  | _, _, _ => False

variable {F : Fence} {n : Nat} {P : Program}
theorem wpIn_range_cell {α : Type} {g : Operand} {ps : Array Tmp} {assign body : Code} {Q : Exit → Act → World → Prop} {a : Act} {w : World}
    (hro : F.round = none) (h1 : 1 ≤ n) {gf : Nat} {lb : Array Value} (hg : a.eval g = .func (.func gf) #[] lb) (hFg : F.fn gf) (eg : ∀ args w, (callFunc gf args).run P w = .ok (.enter gf args) w)
    {encs : α → Array Value} {cb : Nat} {xs : List α} (hcb : cb < w.heap.size) (hseq : SeqAll F (n - 1) P gf lb encs cb xs w) (hps : ∀ x, (encs x).size = ps.size)
    (I : Nat → World → Prop) (hI : LoopOk w.heap.size cb I) (h0 : I 0 w) (Ax : α → Act → World → Prop)
    (hassign : ∀ (l : Nat) (x : α) (k : Nat) (W : World) (K : Act → World → Prop), I k W → (∀ a₁ W', KeepsFrom w.heap.size W W' → W'.heap[cb]? = W.heap[cb]? → I k W' → Ax x a₁ W' → K a₁ W') →
      assign.wpIn (F.inRound l) (n - 1 - 1) P (Exit.then K (fun _ _ _ => False)) { tmps := (ps.zip (encs x)).foldl (fun t (p, v) => t.setIfInBounds p v) a.tmps, defers := [] } W)
    (hAx : ∀ x a₁ A l (o o' : Obj), Ax x a₁ A → w.heap.size ≤ l → A.heap[l]? = some o → o.isCells = false → Ax x a₁ (A.putObj l o'))
    (hbody : ∀ (l k : Nat) (x : α) (W : World) (a₁ : Act), xs[k]? = some x → I k W → Ax x a₁ W → body.wpIn (F.inRound l) (n - 1 - 1) P (RoundEnds w.heap.size cb I (k + 1) W) a₁ W)
    (hdone : ∀ (D : Nat) (W : World), w.heap.size ≤ D → I xs.length W → W.heap[D]? = some (.deferred (some [])) → Q .normal { a with defers := { target := .collected D, args := #[] } :: a.defers } W) :
    (Code.rangeFunc g ps assign body).wpIn F n P Q a w := by
  refine wpIn_rangeFunc ?_
  intro fn hfn
  rw [hro]
  obtain ⟨rec, hrec⟩ : ∃ rec : LoopState → Option Code → Loop, rec = fun st pe => { state := st, pending := pe, fn, tmps := a.tmps, params := ps, assign, body, defers := w.heap.size } := ⟨_, rfl⟩
  let D := w.heap.size
  let W1 := (w.alloc (.deferred (some []))).alloc (.loop (rec .ready none))
  have hD1 : W1.heap[D]? = some (.deferred (some [])) := (Below.heap_alloc _ _ _ (by simp [D])).trans (World.alloc_heap_new w _)
  have hL1 : W1.heap[D + 1]? = some (.loop (rec .ready none)) := by
    have := World.alloc_heap_new (w.alloc (.deferred (some []))) (.loop (rec .ready none))
    rwa [World.size_alloc] at this
  have hb1 : Below D w W1 := ((Below.refl _ w).alloc (Nat.le_refl _) _).alloc (by simp) _
  refine ⟨D + 1, [{ target := .collected D, args := #[] }], W1, { target := .fn (.func gf) lb, args := #[.func (.yield (D + 1)) #[] #[]] }, W1, gf, #[.func (.yield (D + 1)) #[] #[]] ++ lb, W1,
    by subst hrec; exact run_enterLoop_outer _ _ _ _ _, by simp only [resolve, hg]; simp [go_sem], (fun f' hf' => by simp [Target.leads] at hf'; subst hf'; exact hFg), by simp [invoke, go_sem, eg], fun _ => h1, ?_⟩
  refine (hseq (D + 1) (fun k W => I k W ∧ W.heap[D + 1]? = some (.loop (rec .ready none)) ∧ W.heap[D]? = some (.deferred (some []))) W1 hb1 ?_ ?_ ⟨hI.new _ _ _ (hI.new _ _ _ h0), hL1, hD1⟩).mono ?_
  · -- the iterator's own steps
    refine ⟨fun k A x ⟨hi, hl, hd⟩ => ⟨hI.it.set k A x hi, ?_, ?_⟩, fun k A ⟨hi, hl, hd⟩ => ⟨hI.it.drew k A hi, hl, hd⟩⟩
    · rw [Below.heap_setCell _ _ _ _ (show D + 1 ≠ cb by omega)]; exact hl
    · rw [Below.heap_setCell _ _ _ _ (show D ≠ cb by omega)]; exact hd
  · -- one round
    rintro k x W hx ⟨hi, hl, hd⟩
    have hlt := (Array.getElem?_eq_some_iff.1 hl).1
    have hy := run_yield (P := P) (args := encs x) hl (by rw [hrec]; exact hps x)
    rw [hrec] at hy
    refine ⟨fn, _, assign, body, hy, roundIn_of_wpIn hfn (hassign _ x k W _ hi ?_)⟩
    intro a₁ W2 hk2 hc2 hi2 hax
    have hl2 := hk2.same _ _ (by omega) hl rfl
    have hd2 := hk2.same _ _ (Nat.le_refl _) hd rfl
    have hlt2 := (Array.getElem?_eq_some_iff.1 hl2).1
    refine ⟨_, run_beginRound hl2 (by rw [hrec]), ?_⟩
    let W3 := W2.putObj (D + 1) (.loop { rec .ready none with state := .busy })
    have hl3 : W3.heap[D + 1]? = some (.loop { rec .ready none with state := .busy }) := World.putObj_heap_same hlt2
    have hd3 : W3.heap[D]? = some (.deferred (some [])) := (World.putObj_heap_other (by omega)).trans hd2
    have hc3 : W3.heap[cb]? = W2.heap[cb]? := World.putObj_heap_other (by omega)
    refine wpIn_mono (hbody _ k x W3 a₁ hx (hI.put _ _ _ _ _ hi2 (Nat.le_succ _) hl2 rfl) (hAx x a₁ W2 (D + 1) _ _ hax (Nat.le_succ _) hl2 rfl)) ?_
    rintro e a3 W4 hp
    cases e with
    | normal =>
      obtain ⟨hk4, hc4, hi4⟩ := hp
      have hl4 := hk4.same _ _ (Nat.le_succ _) hl3 rfl
      have hd4 := hk4.same _ _ (Nat.le_refl _) hd3 rfl
      have hlt4 := (Array.getElem?_eq_some_iff.1 hl4).1
      have he := run_endRound (P := P) none hl4
      rw [hrec] at he
      refine ⟨_, _, he, rfl, ⟨hI.put _ _ _ _ _ hi4 (Nat.le_succ _) hl4 rfl, by rw [hrec]; exact World.putObj_heap_same hlt4, (World.putObj_heap_other (by omega)).trans hd4⟩, ?_⟩
      exact (World.putObj_heap_other (by omega)).trans (hc4.trans (hc3.trans hc2))
    | _ => exact hp.elim
  · -- behind the iterator
    rintro e W2 ⟨⟨v, rfl⟩, hi, hl, hd⟩
    have he := run_endLoop (P := P) hl (by rw [hrec]; simp)
    rw [hrec] at he
    exact ⟨none, _, he, hdone D _ (Nat.le_refl _) (hI.put _ _ _ _ _ hi (Nat.le_succ _) hl rfl) ((World.putObj_heap_other (by omega)).trans hd)⟩
end Go.Proofs.YtdooboibmllfkabGreatDoor

namespace Go.Proofs.YtdooboibmllfkabGreatDoor
set_option maxRecDepth 100000
open Go.RowKit

theorem lst_at {x : ByteArray} {k : Nat} (hk : k < x.size) : (lst x)[k]? = some x[k] := lst_get x k hk
theorem atL_end {x : ByteArray} (h : ∀ j, j < x.size → (lst x)[j]? ≠ some 32) : atL (lst x) = x.size := by
  rw [atL_all, lst_size]
  intro hm
  obtain ⟨j, hj⟩ := List.getElem?_of_mem hm
  have := (List.getElem?_eq_some_iff.1 hj).1
  rw [lst_size] at this
  exact h j this hj
theorem atL_stop {x : ByteArray} {k : Nat} (hk : k < x.size) (h : ∀ j, j < k → (lst x)[j]? ≠ some 32) (hs : (lst x)[k]? = some 32) : atL (lst x) = k := by
  have hl : k < (lst x).length := by rw [lst_size]; exact hk
  have e : lst x = (lst x).take k ++ 32 :: (lst x).drop (k + 1) := by
    have h1 : (lst x).drop k = (lst x)[k] :: (lst x).drop (k + 1) := List.drop_eq_getElem_cons hl
    rw [List.getElem?_eq_getElem hl] at hs
    rw [Option.some.inj hs] at h1
    rw [← h1, List.take_append_drop]
  rw [e, atL_word _ (by
    intro hm
    obtain ⟨j, hj⟩ := List.getElem?_of_mem hm
    have h2 := (List.getElem?_eq_some_iff.1 hj).1
    rw [List.length_take] at h2
    rw [List.getElem?_take, if_pos (by omega)] at hj
    exact h j (by omega) hj), List.length_take]
  exact Nat.min_eq_left (by omega)
theorem extract_all (x : ByteArray) : x.extract 0 x.size = x := lst_inj (by rw [lst_extract, List.drop_zero, Nat.sub_zero]; exact List.take_of_length_le (by rw [lst_size]; exact Nat.le_refl _))

set_option maxHeartbeats 2000000 in
theorem specLine_any (s line : ByteArray) (w : World) (hv : vld s = true) (hz : line.size ≤ 600) :
    Calls Tryz.prog 39 #[.string s, .string line] w fun e w' => e = .returned (.tuple #[.string (lineS s line).1, .string (lineS s line).2]) ∧ Below w.heap.size w w' := by
  have hs : s.size ≤ maxLen := by have := vld_le s hv; unfold maxLen; omega
  have HV := hide hv
  have CT := hide (fun w => specRowTurned_any s w hs)
  have CB := hide (fun w => specBare_any s line w hv)
  clear hv hs
  go_enter Tryz.func39, Tryz.ntmps39
  go_wp2
  go_loopw [6] (fun i wr => ∃ k : Nat, k ≤ line.size ∧ i = .int .i64 (k : Int) ∧ Hid (∀ j, j < k → (lst line)[j]? ≠ some 32) ∧ w = wr) (fun i _ => line.size - (Go.RowKit.intOf i).toNat)
  case atStart => exact ⟨0, Nat.zero_le _, rfl, fun j hj => absurd hj (Nat.not_lt_zero j), rfl⟩
  case round =>
    obtain ⟨k, hk, rfl, HK, rfl⟩ := hrel
    by_cases hlt : k < line.size
    · have i0 : (0 : Int) ≤ (k : Int) := by omega
      have i1 : (k : Int) < (line.size : Int) := by omega
      have HL := hide (lst_at hlt)
      by_cases c : (line[k].toNat : Int) = 32
      · have hc32 : line[k] = 32 := by
          apply UInt8.toNat_inj.1
          show line[k].toNat = 32
          omega
        have HA : Hid (atL (lst line) = k) := atL_stop hlt HK.out (by rw [HL.out, hc32])
        have t1 : ((line[k].toNat : Int) == 32) = true := by rw [c]; rfl
        have t2 : ((line[k].toNat : Int) != 32) = false := by rw [c]; rfl
        obtain ⟨wd, hwd⟩ : ∃ wd, wd = line.extract 0 k := ⟨_, rfl⟩
        obtain ⟨rs, hrs⟩ : ∃ rs, rs = line.extract (k + 1) line.size := ⟨_, rfl⟩
        have hrz : rs.size ≤ 600 := by
          rw [hrs, ← lst_size, lst_extract]
          have := List.length_take_le (line.size - (k + 1)) ((lst line).drop (k + 1))
          omega
        have CC := hide (fun w => specChange_any s wd rs w HV.out hrz)
        have CA := hide (fun w => specAsk_any s wd rs w HV.out hrz)
        have HLS : Hid (lineS s line = if (chS s wd rs).2.1 then (if (chS s wd rs).2.2 then ((chS s wd rs).1, okT) else (s, noT)) else (s, askS s wd rs)) := by
          show _ = _
          unfold lineS
          rw [HA.out, if_neg (by omega), ← hwd, ← hrs]
        obtain ⟨nx, hnx⟩ : ∃ x, x = (chS s wd rs).1 := ⟨_, rfl⟩
        obtain ⟨b1, hb1⟩ : ∃ x, x = (chS s wd rs).2.1 := ⟨_, rfl⟩
        obtain ⟨b2, hb2⟩ : ∃ x, x = (chS s wd rs).2.2 := ⟨_, rfl⟩
        obtain ⟨an, han⟩ : ∃ x, x = askS s wd rs := ⟨_, rfl⟩
        rw [← hnx, ← hb1, ← hb2] at CC HLS
        rw [← han] at CA HLS
        have xw : line.extract 0 k = wd := hwd.symm
        have xr : line.extract (k + 1) line.size = rs := hrs.symm
        have hke : ((k : Int) == (line.size : Int)) = false := beq_eq_false_iff_ne.2 (by omega)
        clear c hc32 hwd hrs hnx hb1 hb2 han hrz
        cases b1
        · have HLS2 : Hid (lineS s line = (s, an)) := by show _ = _; rw [HLS.out]; rfl
          clear HLS
          go_wp2_with (first | (go_at_call 61; refine (CC.out _).mono ?_; rintro e w1 ⟨rfl, hb1⟩) | (go_at_call 62; refine (CA.out _).mono ?_; rintro e w2 ⟨rfl, hb2⟩))
          go_ret2
          exact ⟨by rw [HLS2.out]; rfl, hb1.trans (hb2.mono hb1.size)⟩
        · cases b2
          · have HLS2 : Hid (lineS s line = (s, noT)) := by show _ = _; rw [HLS.out]; rfl
            clear HLS
            go_wp2_with (go_at_call 61; refine (CC.out _).mono ?_; rintro e w1 ⟨rfl, hb1⟩)
            go_ret2
            exact ⟨by rw [HLS2.out]; rfl, hb1⟩
          · have HLS2 : Hid (lineS s line = (nx, okT)) := by show _ = _; rw [HLS.out]; rfl
            clear HLS
            go_wp2_with (go_at_call 61; refine (CC.out _).mono ?_; rintro e w1 ⟨rfl, hb1⟩)
            go_ret2
            exact ⟨by rw [HLS2.out]; rfl, hb1⟩
      · have t1 : ((line[k].toNat : Int) == 32) = false := beq_eq_false_iff_ne.2 c
        have t2 : ((line[k].toNat : Int) != 32) = true := by rw [bne, t1]; rfl
        have HK2 : Hid (∀ j, j < k + 1 → (lst line)[j]? ≠ some 32) := by
          intro j hj
          by_cases e : j = k
          · subst e
            rw [HL.out]
            intro h
            injection h with h
            exact c (by rw [h]; rfl)
          · exact HK.out j (by omega)
        clear c
        go_wp2_with fail
        go_roundw
        case rel => exact ⟨k + 1, by omega, by go_num, HK2, trivial⟩
        case measure => simp [Go.RowKit.intOf]; omega
    · have hkn : k = line.size := by omega
      have HA : Hid (atL (lst line) = line.size) := atL_end (fun j hj => HK.out j (by omega))
      have hw : line.extract 0 k = line := by rw [hkn]; exact extract_all line
      have hke : ((k : Int) == (line.size : Int)) = true := by rw [hkn]; simp
      have HKN := hide hkn
      by_cases c : line = wTurned
      · have HLS : Hid (lineS s line = (turnS s, okT)) := by
          show _ = _
          unfold lineS
          rw [if_pos HA.out, if_pos c]
        have hq : (line.toList == [116, 117, 114, 110, 101, 100]) = true := by rw [c, ByteArray.toList_eq]; rfl
        clear hkn c
        go_wp2_with (go_at_call 59; refine (CT.out _).mono ?_; rintro e w1 ⟨rfl, rfl⟩)
        go_ret2
        exact ⟨by rw [HLS.out]; rfl, Below.refl _ _⟩
      · have HLS : Hid (lineS s line = (s, bareS s line)) := by
          show _ = _
          unfold lineS
          rw [if_pos HA.out, if_neg c]
        have hq := word_ne [116, 117, 114, 110, 101, 100] c
        obtain ⟨b, hb⟩ : ∃ b, b = bareS s line := ⟨_, rfl⟩
        rw [← hb] at CB HLS
        clear hkn c hb
        go_wp2_with (go_at_call 60; refine (CB.out _).mono ?_; rintro e w1 ⟨rfl, hb⟩)
        go_ret2
        exact ⟨by rw [HLS.out]; rfl, hb⟩
end Go.Proofs.YtdooboibmllfkabGreatDoor

namespace Go.Proofs.YtdooboibmllfkabGreatDoor
set_option maxRecDepth 100000
open Go.RowKit Go.Sort

theorem cut_ix {line : ByteArray} {k : Nat} (h : Lib.indexByte line.data.toList 32 = (k : Int)) : atL (lst line) = k ∧ k < line.size := by
  obtain ⟨h1, h2, h3⟩ := index_some h
  have h4 : k < line.size := by rw [← lst_size]; exact h3
  refine ⟨?_, h4⟩
  have e : lst line = (lst line).take k ++ 32 :: (lst line).drop (k + 1) := h1
  have h5 : 32 ∉ (lst line).take k := h2
  rw [e, atL_word _ h5, List.length_take]
  exact Nat.min_eq_left (Nat.le_of_lt h3)
theorem cut_no {line : ByteArray} (h : Lib.indexByte line.data.toList 32 < 0) : atL (lst line) = line.size := by
  have h5 : 32 ∉ lst line := index_none h
  rw [atL_all h5, lst_size]

set_option maxHeartbeats 1000000 in
theorem liteCut_yes (line : ByteArray) (k : Nat) (w : World) (hz : line.size ≤ 1000) (h : Lib.indexByte line.data.toList 32 = (k : Int)) :
    Calls Tryz.prog 94 #[.string line, .string ⟨#[32]⟩] w fun e w' => e = .returned (.tuple #[.string (line.extract 0 k), .string (line.extract (k + 1) line.size), .bool true]) ∧ Grw w w' := by
  have C := hide (Tryz.stringslite_Index_one line 32 w)
  rw [h] at C
  obtain ⟨_, hk⟩ := cut_ix h
  have g0 : (0 : Int) ≤ (k : Int) := by omega
  have g1 : (k : Int) ≤ (line.size : Int) := by omega
  have g2 : (k : Int) + 1 ≤ (line.size : Int) := by omega
  have g3 : (0 : Int) ≤ (k : Int) + 1 := by omega
  have wk : IntKind.i64.wrap ((k : Int) + 1) = (k : Int) + 1 := by rw [IntKind.wrap_i64]; omega
  have mixed : Tryz.prog.follows .mixedOrders = true := by kernel_rfl
  clear h
  go_enter Tryz.func94, Tryz.ntmps94
  go_wp2_with (go_at_call 125; refine C.out.mono ?_; rintro e w' ⟨rfl, rfl⟩)
  go_region
  all_goals (try go_wp2)
  all_goals (try go_ret3)
  all_goals exact ⟨rfl, by first | exact Grw.refl _ | exact Grw.drew _ | exact (Grw.drew _).trans (Grw.drew _) | exact ((Grw.drew _).trans (Grw.drew _)).trans (Grw.drew _)⟩

set_option maxHeartbeats 1000000 in
theorem liteCut_no (line : ByteArray) (w : World) (h : Lib.indexByte line.data.toList 32 < 0) :
    Calls Tryz.prog 94 #[.string line, .string ⟨#[32]⟩] w fun e w' => e = .returned (.tuple #[.string line, .string ⟨#[]⟩, .bool false]) ∧ w' = w := by
  have C := hide (Tryz.stringslite_Index_one line 32 w)
  obtain ⟨x, hx⟩ : ∃ x, x = Lib.indexByte line.data.toList 32 := ⟨_, rfl⟩
  rw [← hx] at C h
  have g0 : ¬ (0 : Int) ≤ x := by omega
  clear h hx
  go_enter Tryz.func94, Tryz.ntmps94
  go_wp2_with (go_at_call 125; refine C.out.mono ?_; rintro e w' ⟨rfl, rfl⟩)
  go_ret3
  exact ⟨rfl, rfl⟩

theorem cut_yes (line : ByteArray) (w : World) (hz : line.size ≤ 1000) (h : ¬ atL (lst line) = line.size) :
    Calls Tryz.prog 71 #[.string line, .string ⟨#[32]⟩] w fun e w' => e = .returned (.tuple #[.string (line.extract 0 (atL (lst line))), .string (line.extract (atL (lst line) + 1) line.size), .bool true]) ∧ Grw w w' := by
  have hx : ∃ k : Nat, Lib.indexByte line.data.toList 32 = (k : Int) := by
    rcases Int.lt_or_le (Lib.indexByte line.data.toList 32) 0 with h1 | h1
    · exact absurd (cut_no h1) h
    · exact ⟨(Lib.indexByte line.data.toList 32).toNat, by omega⟩
  obtain ⟨k, hk⟩ := hx
  have C := hide (liteCut_yes line k w hz hk)
  rw [(cut_ix hk).1]
  clear hk h
  go_enter Tryz.func71, Tryz.ntmps71
  go_wp2_with (go_at_call 94; refine C.out.mono ?_; rintro e w' ⟨rfl, hg⟩)
  go_ret3
  exact ⟨rfl, hg⟩
theorem cut_none (line : ByteArray) (w : World) (h : atL (lst line) = line.size) :
    Calls Tryz.prog 71 #[.string line, .string ⟨#[32]⟩] w fun e w' => e = .returned (.tuple #[.string line, .string ⟨#[]⟩, .bool false]) ∧ w' = w := by
  have hx : Lib.indexByte line.data.toList 32 < 0 := by
    rcases Int.lt_or_le (Lib.indexByte line.data.toList 32) 0 with h1 | h1
    · exact h1
    · have := cut_ix (line := line) (k := (Lib.indexByte line.data.toList 32).toNat) (by omega)
      omega
  have C := hide (liteCut_no line w hx)
  clear hx h
  go_enter Tryz.func71, Tryz.ntmps71
  go_wp2_with (go_at_call 94; refine C.out.mono ?_; rintro e w' ⟨rfl, rfl⟩)
  go_ret3
  exact ⟨rfl, rfl⟩

attribute [local go_sem] Oper.semAt_some
theorem lines_in (F : Fence) (n : Nat) (hf : F.fn 26) (hro : F.round = none) (s : ByteArray) (w : World) :
    CallsIn F n Tryz.prog 26 #[.string s] w fun e w' => e = .returned (.func (.func 49) #[] #[.pointer (some ⟨w.heap.size, 0, none⟩)]) ∧ w' = w.alloc (.cells #[.string s] 9) := by
  refine callsIn_of_wp Tryz.func26 rfl hf ?_ hro
  simp only [Tryz.ntmps26, List.size_toArray, List.length_cons, List.length_nil, Nat.reduceAdd, Nat.reduceSub, Array.replicate_succ, Array.replicate_zero, List.push_toArray, List.append_toArray, List.nil_append, List.cons_append]
  gi_wp2
  go_ret
  exact ⟨rfl, rfl⟩
end Go.Proofs.YtdooboibmllfkabGreatDoor

namespace Go.Proofs.YtdooboibmllfkabGreatDoor
set_option maxRecDepth 100000
open Go.RowKit Go.Sort

def Known (f? : Option Nat) (r? : Option (ByteArray × ByteArray × Bool)) (args : Array Value) (b : Nat) (s : ByteArray) : Prop :=
  (f? = none ∧ r? = none) ∨ ∃ f r, f? = some f ∧ r? = some r ∧ (∀ args w, (callFunc f args).run Tryz.prog w = .ok (.enter f args) w) ∧ ∀ w, BenchAt w b s → Env w → Does f args b r w
theorem rest_known (b : Nat) (s word : ByteArray) (r : ByteArray) (hr : r.size ≤ 600) (hv : vld s = true) : Known (fnd word restL) (restS s word r) #[.pointer (some ⟨b, 0, none⟩), .string r] b s := by
  unfold Known fnd restL restS
  simp only [fnd]
  by_cases c_set : word = wSet
  · rw [if_pos c_set, if_pos c_set]; exact .inr ⟨_, _, rfl, rfl, enters_of Tryz.func95 (by kernel_rfl) rfl, fun w hB hE => set_does b s r w hB (by omega)⟩
  rw [if_neg c_set, if_neg c_set]
  by_cases c_sizes : word = wSizes
  · rw [if_pos c_sizes, if_pos c_sizes]; exact .inr ⟨_, _, rfl, rfl, enters_of Tryz.func96 (by kernel_rfl) rfl, fun w hB hE => sizes_does b s r w hB hr⟩
  rw [if_neg c_sizes, if_neg c_sizes]
  by_cases c_shift : word = wShift
  · rw [if_pos c_shift, if_pos c_shift]; exact .inr ⟨_, _, rfl, rfl, enters_of Tryz.func97 (by kernel_rfl) rfl, fun w hB hE => shift_does b s r w hB hE hv (by omega)⟩
  rw [if_neg c_shift, if_neg c_shift]
  by_cases c_step : word = wStep
  · rw [if_pos c_step, if_pos c_step]; exact .inr ⟨_, _, rfl, rfl, enters_of Tryz.func98 (by kernel_rfl) rfl, fun w hB hE => step_does b s r w hB hE hv (by omega)⟩
  rw [if_neg c_step, if_neg c_step]
  by_cases c_back : word = wBack
  · rw [if_pos c_back, if_pos c_back]; exact .inr ⟨_, _, rfl, rfl, enters_of Tryz.func99 (by kernel_rfl) rfl, fun w hB hE => back_does b s r w hB hE hv (by omega)⟩
  rw [if_neg c_back, if_neg c_back]
  by_cases c_energy : word = wEnergy
  · rw [if_pos c_energy, if_pos c_energy]; exact .inr ⟨_, _, rfl, rfl, enters_of Tryz.func100 (by kernel_rfl) rfl, fun w hB hE => energy_does b s r w hB hE hv (by omega)⟩
  rw [if_neg c_energy, if_neg c_energy]
  by_cases c_period : word = wPeriod
  · rw [if_pos c_period, if_pos c_period]; exact .inr ⟨_, _, rfl, rfl, enters_of Tryz.func101 (by kernel_rfl) rfl, fun w hB hE => period_does b s r w hB hE (by omega)⟩
  rw [if_neg c_period, if_neg c_period]
  by_cases c_colours : word = wColours
  · rw [if_pos c_colours, if_pos c_colours]; exact .inr ⟨_, _, rfl, rfl, enters_of Tryz.func102 (by kernel_rfl) rfl, fun w hB hE => colours_does b s r w hB (by omega)⟩
  rw [if_neg c_colours, if_neg c_colours]
  exact .inl ⟨rfl, rfl⟩
theorem lone_known (b : Nat) (s word : ByteArray) (hv : vld s = true) : Known (fnd word loneL) (loneS s word) #[.pointer (some ⟨b, 0, none⟩)] b s := by
  unfold Known fnd loneL loneS
  simp only [fnd]
  by_cases c_turned : word = wTurned
  · rw [if_pos c_turned, if_pos c_turned]; exact .inr ⟨_, _, rfl, rfl, enters_of Tryz.func103 (by kernel_rfl) rfl, fun w hB hE => turned_does b s w hB hv⟩
  rw [if_neg c_turned, if_neg c_turned]
  by_cases c_show : word = wShow
  · rw [if_pos c_show, if_pos c_show]; exact .inr ⟨_, _, rfl, rfl, enters_of Tryz.func104 (by kernel_rfl) rfl, fun w hB hE => show_does b s w hB⟩
  rw [if_neg c_show, if_neg c_show]
  by_cases c_balls : word = wBalls
  · rw [if_pos c_balls, if_pos c_balls]; exact .inr ⟨_, _, rfl, rfl, enters_of Tryz.func105 (by kernel_rfl) rfl, fun w hB hE => balls_does b s w hB hE hv⟩
  rw [if_neg c_balls, if_neg c_balls]
  by_cases c_shape : word = wShape
  · rw [if_pos c_shape, if_pos c_shape]; exact .inr ⟨_, _, rfl, rfl, enters_of Tryz.func106 (by kernel_rfl) rfl, fun w hB hE => shape_does b s w hB hE hv⟩
  rw [if_neg c_shape, if_neg c_shape]
  by_cases c_runs : word = wRuns
  · rw [if_pos c_runs, if_pos c_runs]; exact .inr ⟨_, _, rfl, rfl, enters_of Tryz.func107 (by kernel_rfl) rfl, fun w hB hE => runs_does b s w hB hE hv⟩
  rw [if_neg c_runs, if_neg c_runs]
  by_cases c_time : word = wTime
  · rw [if_pos c_time, if_pos c_time]; exact .inr ⟨_, _, rfl, rfl, enters_of Tryz.func108 (by kernel_rfl) rfl, fun w hB hE => time_does b s w hB hE hv⟩
  rw [if_neg c_time, if_neg c_time]
  by_cases c_apart : word = wApart
  · rw [if_pos c_apart, if_pos c_apart]; exact .inr ⟨_, _, rfl, rfl, enters_of Tryz.func109 (by kernel_rfl) rfl, fun w hB hE => apart_does b s w hB hv⟩
  rw [if_neg c_apart, if_neg c_apart]
  by_cases c_high : word = wHigh
  · rw [if_pos c_high, if_pos c_high]; exact .inr ⟨_, _, rfl, rfl, enters_of Tryz.func110 (by kernel_rfl) rfl, fun w hB hE => high_does b s w hB hv⟩
  rw [if_neg c_high, if_neg c_high]
  by_cases c_rigged : word = wRigged
  · rw [if_pos c_rigged, if_pos c_rigged]; exact .inr ⟨_, _, rfl, rfl, enters_of Tryz.func111 (by kernel_rfl) rfl, fun w hB hE => rigged_does b s w hB hE hv⟩
  rw [if_neg c_rigged, if_neg c_rigged]
  exact .inl ⟨rfl, rfl⟩

set_option maxRecDepth 100000 in
set_option maxHeartbeats 4000000 in
theorem run_rest (b : Nat) (s line : ByteArray) (w : World) (hB : BenchAt w b s) (hE : Env w) (word r : ByteArray) (hc : Calls Tryz.prog 71 #[.string line, .string ⟨#[32]⟩] w fun e w' => e = .returned (.tuple #[.string word, .string r, .bool true]) ∧ Grw w w') (f : Nat) (q : ByteArray × ByteArray × Bool) (hf : fnd word restL = some f)
    (ef : ∀ args w, (callFunc f args).run Tryz.prog w = .ok (.enter f args) w) (hd : ∀ w, BenchAt w b s → Env w → Does f #[.pointer (some ⟨b, 0, none⟩), .string r] b q w) :
    Does 54 #[.pointer (some ⟨b, 0, none⟩), .string line] b q w := by
  have HD := hide hd
  have CC := hide hc
  have CW := hide (fun w => restWords_any w)
  have HB := hide hB
  have HE := hide hE
  unfold Does
  obtain ⟨q1, q2, q3⟩ := q
  clear hd hc hB hE
  go_enter Tryz.func54, Tryz.ntmps54
  go_wp2_with fail
  refine CC.out.mono ?_
  rintro e w1 ⟨rfl, hg1⟩
  have HG1 := hide hg1
  clear hg1 CC
  go_wp2_with fail
  refine (CW.out w1).mono ?_
  rintro e w2 ⟨rfl, hw2⟩
  have hb2 : Below w1.heap.size w1 w2 := by rw [hw2]; exact (Below.refl _ _).alloc (Nat.le_refl _) _
  have hl := look_restWords word w2 (b := w1.heap.size) (by rw [hw2]; exact (MapKept.heap_alloc w1 _).1)
  rw [hf] at hl
  have HB2 := hide (HG1.out.below.trans (hb2.mono HG1.out.size))
  have D := hide (HD.out w2 (HB.out.below HB2.out) (HE.out.below HB2.out))
  clear hw2 hb2 CW HG1 HD hf
  go_wp2_with (go_at_fn f; refine D.out.mono ?_; rintro e w3 ⟨rfl, ht3⟩; have HT := hide ht3; clear ht3)
  go_ret2
  exact ⟨rfl, Turn.after HB2.out HT.out⟩

set_option maxRecDepth 100000 in
set_option maxHeartbeats 4000000 in
theorem run_rest_none (b : Nat) (line : ByteArray) (w : World) (word r : ByteArray) (hc : Calls Tryz.prog 71 #[.string line, .string ⟨#[32]⟩] w fun e w' => e = .returned (.tuple #[.string word, .string r, .bool true]) ∧ Grw w w') (hf : fnd word restL = none) :
    Calls Tryz.prog 54 #[.pointer (some ⟨b, 0, none⟩), .string line] w fun e w' => e = .panicked [{ v := .iface 85 (.agg #[]), recovered := false }] ∧ Below w.heap.size w w' := by
  have CC := hide hc
  have CW := hide (fun w => restWords_any w)
  clear hc
  go_enter Tryz.func54, Tryz.ntmps54
  go_wp2_with fail
  refine CC.out.mono ?_
  rintro e w1 ⟨rfl, hg1⟩
  have HG1 := hide hg1
  clear hg1 CC
  go_wp2_with fail
  refine (CW.out w1).mono ?_
  rintro e w2 ⟨rfl, hw2⟩
  have hb2 : Below w1.heap.size w1 w2 := by rw [hw2]; exact (Below.refl _ _).alloc (Nat.le_refl _) _
  have hl := look_restWords word w2 (b := w1.heap.size) (by rw [hw2]; exact (MapKept.heap_alloc w1 _).1)
  rw [hf] at hl
  have HB2 := hide (HG1.out.below.trans (hb2.mono HG1.out.size))
  clear hw2 hb2 CW HG1 hf
  go_wp2
  exact ⟨rfl, rfl, HB2.out⟩

set_option maxRecDepth 100000 in
set_option maxHeartbeats 4000000 in
theorem run_lone (b : Nat) (s line : ByteArray) (w : World) (hB : BenchAt w b s) (hE : Env w) (word : ByteArray) (hc : Calls Tryz.prog 71 #[.string line, .string ⟨#[32]⟩] w fun e w' => e = .returned (.tuple #[.string word, .string ⟨#[]⟩, .bool false]) ∧ Grw w w') (f : Nat) (q : ByteArray × ByteArray × Bool) (hf : fnd word loneL = some f)
    (ef : ∀ args w, (callFunc f args).run Tryz.prog w = .ok (.enter f args) w) (hd : ∀ w, BenchAt w b s → Env w → Does f #[.pointer (some ⟨b, 0, none⟩)] b q w) :
    Does 54 #[.pointer (some ⟨b, 0, none⟩), .string line] b q w := by
  have HD := hide hd
  have CC := hide hc
  have CW := hide (fun w => loneWords_any w)
  have HB := hide hB
  have HE := hide hE
  unfold Does
  obtain ⟨q1, q2, q3⟩ := q
  clear hd hc hB hE
  go_enter Tryz.func54, Tryz.ntmps54
  go_wp2_with fail
  refine CC.out.mono ?_
  rintro e w1 ⟨rfl, hg1⟩
  have HG1 := hide hg1
  clear hg1 CC
  go_wp2_with fail
  refine (CW.out w1).mono ?_
  rintro e w2 ⟨rfl, hw2⟩
  have hb2 : Below w1.heap.size w1 w2 := by rw [hw2]; exact (Below.refl _ _).alloc (Nat.le_refl _) _
  have hl := look_loneWords word w2 (b := w1.heap.size) (by rw [hw2]; exact (MapKept.heap_alloc w1 _).1)
  rw [hf] at hl
  have HB2 := hide (HG1.out.below.trans (hb2.mono HG1.out.size))
  have D := hide (HD.out w2 (HB.out.below HB2.out) (HE.out.below HB2.out))
  clear hw2 hb2 CW HG1 HD hf
  go_wp2_with (go_at_fn f; refine D.out.mono ?_; rintro e w3 ⟨rfl, ht3⟩; have HT := hide ht3; clear ht3)
  go_ret2
  exact ⟨rfl, Turn.after HB2.out HT.out⟩

set_option maxRecDepth 100000 in
set_option maxHeartbeats 4000000 in
theorem run_lone_none (b : Nat) (line : ByteArray) (w : World) (word : ByteArray) (hc : Calls Tryz.prog 71 #[.string line, .string ⟨#[32]⟩] w fun e w' => e = .returned (.tuple #[.string word, .string ⟨#[]⟩, .bool false]) ∧ Grw w w') (hf : fnd word loneL = none) :
    Calls Tryz.prog 54 #[.pointer (some ⟨b, 0, none⟩), .string line] w fun e w' => e = .panicked [{ v := .iface 85 (.agg #[]), recovered := false }] ∧ Below w.heap.size w w' := by
  have CC := hide hc
  have CW := hide (fun w => loneWords_any w)
  clear hc
  go_enter Tryz.func54, Tryz.ntmps54
  go_wp2_with fail
  refine CC.out.mono ?_
  rintro e w1 ⟨rfl, hg1⟩
  have HG1 := hide hg1
  clear hg1 CC
  go_wp2_with fail
  refine (CW.out w1).mono ?_
  rintro e w2 ⟨rfl, hw2⟩
  have hb2 : Below w1.heap.size w1 w2 := by rw [hw2]; exact (Below.refl _ _).alloc (Nat.le_refl _) _
  have hl := look_loneWords word w2 (b := w1.heap.size) (by rw [hw2]; exact (MapKept.heap_alloc w1 _).1)
  rw [hf] at hl
  have HB2 := hide (HG1.out.below.trans (hb2.mono HG1.out.size))
  clear hw2 hb2 CW HG1 hf
  go_wp2
  exact ⟨rfl, rfl, HB2.out⟩
end Go.Proofs.YtdooboibmllfkabGreatDoor
