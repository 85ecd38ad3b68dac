/- TEXTS IExe, DrawR, Draw5, PStep, PExe3, DrawC, DrawE, DrawE2, PExe4. -/
import Derived.Test.YtdooboibmllfkaaGreatDoorExa44
import Derived.Test.YtdooboibmllfkaaGreatDoorExa45
import Derived.Test.YtdooboibmllfkaaGreatDoorExa05
import Derived.Test.YtdooboibmllfkaaGreatDoorExa21
import Derived.Test.YtdooboibmllfkaaGreatDoorExa08
import Derived.Maps.AppendAt
import Derived.Test.YtdooboibmllfkaaGreatDoorExa42
import Derived.Test.YtdooboibmllfkaaGreatDoorExa15
namespace Go.Proofs.YtdooboibmllfkaaGreatDoor
set_option maxRecDepth 100000
open Go.RowKit Go.Sort Go.Shelf

attribute [local go_sem] Oper.semAt_some

theorem writeString_any (B b : Nat) (bs : List Value) (s : ByteArray) (w : World) (h : Lib.IsBuilderF 35 5 B b bs w) (hlen : bs.length + s.size ≤ 140737488355328) (hBw : B ≤ w.heap.size) :
    Calls Tryz.prog 17 #[.pointer (some ⟨b, 0, none⟩), .string s] w fun e w' => e = .returned (.tuple #[.int .i64 s.size, .nilIface]) ∧ (Lib.BuilderAtF 35 5 B b (.pointer (some ⟨b, 0, none⟩)) (bs ++ Lib.strCells s) w' ∧ Below B w w' ∧ Lib.OthersKept 5 (some b) w w') :=
  Any.Builder_WriteString_k (ρ := Tryz.lays156_ren) { Tryz.lays156 with } Tryz.Builder_Extra_156 B b bs s w h hlen hBw
theorem bld_kept {T e : TypeId} {B b c : Nat} {bs : List Value} {W W' : World} (h : Lib.IsBuilderF T e B b bs W) (hg : W.grownBy W' (some c)) (hc : c ≠ b) (hn : c < B ∨ ∀ cs fz, W.heap[c]? ≠ some (.cells cs e fz)) : Lib.IsBuilderF T e B b bs W' := by
  have one : ∀ p, Lib.BuilderAtF T e B b p bs W → Lib.BuilderAtF T e B b p bs W' := by
    rintro p ⟨hB, v, hb, hown, hne⟩
    have hlt : b < W.heap.size := (Array.getElem?_eq_some_iff.1 hb).1
    refine ⟨hB, v, (hg.block b hlt (by intro e; cases e; exact hc rfl)).trans hb, hown.kept hg ?_, hne⟩
    cases ho : v.ownBlock with
    | none => exact .inl rfl
    | some g =>
      right
      intro e
      cases e
      rcases hn with hn | hn
      · have := (hown.lt _ ho).1; omega
      · obtain ⟨cs, fz, hcs⟩ := Lib.ownsRowF_kind hown _ ho
        exact hn cs fz hcs
  exact h.elim (fun h => .inl (one _ h)) (fun h => .inr (one _ h))

structure ExI (text : ByteArray) (w : World) (k : Nat) (W : World) : Prop where
  bench : BenchAt W w.heap.size (exK text k).1
  bld : Lib.IsBuilderF 35 5 (w.heap.size + 1) (w.heap.size + 1) (Lib.byteCells (lst (exK text k).2)) W
  cb : ∃ y, W.heap[w.heap.size + 2]? = some (.cells #[.string y] 9 (0, 0))
  bel : Below w.heap.size w W
theorem ExI.kept {text : ByteArray} {w : World} {k c : Nat} {W W' : World} (h : ExI text w k W) (hg : W.grownBy W' (some c)) (h0 : w.heap.size ≤ c) (h1 : c ≠ w.heap.size) (h2 : c ≠ w.heap.size + 1) (hn : ∀ cs fz, W.heap[c]? ≠ some (.cells cs 5 fz))
    (hcb : ∃ y, W'.heap[w.heap.size + 2]? = some (.cells #[.string y] 9 (0, 0))) : ExI text w k W' := by
  have hl := h.bench.lt
  have hb := hg.block w.heap.size hl (by intro e; cases e; exact h1 rfl)
  exact ⟨⟨(World.cell?_of_block (a := ⟨w.heap.size, 0, none⟩) hb).trans h.bench.1, (World.frozen?_of_block (a := ⟨w.heap.size, 0, none⟩) hb).trans h.bench.2⟩, bld_kept h.bld hg h2 (.inr hn), hcb,
    h.bel.grown hg h.bel.size (fun j e => by cases e; exact h0)⟩
theorem ExI.loop (text : ByteArray) (w : World) (D : Nat) (hD : D = w.heap.size + 3) : LoopOk D (w.heap.size + 2) (ExI text w) := by
  refine ⟨⟨fun k A x h => ?_, fun k A h => ⟨h.bench, h.bld, h.cb, h.bel.drew⟩⟩, fun k A l o o' h hl ho hoc => ?_, fun k A o h => ?_⟩
  · obtain ⟨y, hy⟩ := h.cb
    have hg : A.grownBy (A.setCell ⟨w.heap.size + 2, 0, none⟩ (.string x)) (some (w.heap.size + 2)) := ⟨rfl, rfl, rfl, by simp [World.setCell], fun k _ hk => Below.heap_setCell _ _ _ _ (fun e => hk (by rw [e]))⟩
    exact h.kept hg (by omega) (by omega) (by omega) (fun cs fz e => by rw [hy] at e; injection e with e; injection e with _ e _; revert e; decide) ⟨x, by simp [World.setCell, Array.getElem?_modify, hy]⟩
  · obtain ⟨y, hy⟩ := h.cb
    refine h.kept (grownBy_putObj' A l o') (by omega) (by omega) (by omega) (fun cs fz e => by rw [ho] at e; cases e; cases hoc) ⟨y, ?_⟩
    exact (World.putObj_heap_other (by omega)).trans hy
  · obtain ⟨y, hy⟩ := h.cb
    have hl := (Array.getElem?_eq_some_iff.1 hy).1
    refine h.kept (World.grownBy_alloc A o (some A.heap.size)) (by omega) (by omega) (by omega) (fun cs fz e => by rw [Array.getElem?_eq_none (Nat.le_refl _)] at e; cases e) ⟨y, ?_⟩
    exact (Below.heap_alloc _ o _ hl).trans hy

theorem exK_ok (text : ByteArray) : ∀ k, vld (exK text k).1 = true ∧ (exK text k).2.size ≤ 20000 * k := by
  intro k
  induction k with
  | zero => exact ⟨rfl, Nat.zero_le _⟩
  | succ k ih =>
    cases hx : (linesB text)[k]? with
    | none =>
      have e : exK text (k + 1) = exK text k := by
        unfold exK
        have hn : (lnY [] (lst text)).length ≤ k := by
          unfold linesB at hx
          rw [List.getElem?_map] at hx
          cases hy : (lnY [] (lst text))[k]? with
          | none => simpa using hy
          | some y => rw [hy] at hx; cases hx
        rw [List.take_of_length_le hn, List.take_of_length_le (by omega)]
      rw [e]
      exact ⟨ih.1, by omega⟩
    | some x =>
      rw [exK_step hx]
      unfold wkL
      split
      · have h1 := (lineS_ok (ofL (lst x).dropLast) ih.1).1
        have h2 := lineS_le (line := ofL (lst x).dropLast) ih.1
        refine ⟨h1, ?_⟩
        rw [ByteArray.size_append]
        omega
      · exact ⟨ih.1, by omega⟩
theorem ExI.next {text : ByteArray} {w : World} {k : Nat} {W W1 W2 : World} {x t : ByteArray} {D : Nat} (hD : w.heap.size + 3 ≤ D) (h : ExI text w k W) (hx : (linesB text)[k]? = some x) (hl : (lst x).getLast? = some 10)
    (ht : Turn w.heap.size (ansS (exK text k).1 (cmdS (exK text k).1 (ofL (lst x).dropLast))).1 W W1) (he : t = (ansS (exK text k).1 (cmdS (exK text k).1 (ofL (lst x).dropLast))).2 ++ nlT) :
    Lib.IsBuilderF 35 5 (w.heap.size + 1) (w.heap.size + 1) (Lib.byteCells (lst (exK text k).2)) W1 ∧
    (Lib.BuilderAtF 35 5 (w.heap.size + 1) (w.heap.size + 1) (.pointer (some ⟨w.heap.size + 1, 0, none⟩)) (Lib.byteCells (lst (exK text k).2) ++ Lib.strCells t) W2 → Below (w.heap.size + 1) W1 W2 → Lib.OthersKept 5 (some (w.heap.size + 1)) W1 W2 →
      KeepsFrom D W W2 ∧ W2.heap[w.heap.size + 2]? = W.heap[w.heap.size + 2]? ∧ ExI text w (k + 1) W2) := by
  have hb1 := bld_kept h.bld ht.kept (by omega) (.inl (by omega))
  refine ⟨hb1, fun hB hbel hok => ?_⟩
  obtain ⟨y, hy⟩ := h.cb
  have hl2 := (Array.getElem?_eq_some_iff.1 hy).1
  have hy1 : W1.heap[w.heap.size + 2]? = some (.cells #[.string y] 9 (0, 0)) := (ht.kept.block _ hl2 (fun e => by have := Option.some.inj e; omega)).trans hy
  have hy2 : W2.heap[w.heap.size + 2]? = some (.cells #[.string y] 9 (0, 0)) := hok _ _ hy1 (fun e => by have := Option.some.inj e; omega) (fun c fz e => by cases e)
  have ek : exK text (k + 1) = ((ansS (exK text k).1 (cmdS (exK text k).1 (ofL (lst x).dropLast))).1, (exK text k).2 ++ t) := by
    rw [exK_step hx]
    unfold wkL
    rw [if_pos hl, lineS_cmd _ (exK_ok text k).1, he]
  refine ⟨⟨Nat.le_trans ht.kept.size hbel.size, fun j o hj hjo ho => ?_⟩, hy2.trans hy.symm, ?_⟩
  · have hjl := (Array.getElem?_eq_some_iff.1 hjo).1
    exact hok j o ((ht.kept.block j hjl (by intro e; cases e; omega)).trans hjo) (by intro e; cases e; omega) (fun c fz e => by rw [e] at ho; cases ho)
  · have hwb : w.heap.size < w.heap.size + 1 := Nat.lt_succ_self _
    have hbl := hbel.block w.heap.size hwb
    refine ⟨?_, ?_, ⟨y, hy2⟩, ?_⟩
    · rw [ek]
      exact ⟨(World.cell?_of_block (a := ⟨w.heap.size, 0, none⟩) hbl).trans ht.bench.1, (World.frozen?_of_block (a := ⟨w.heap.size, 0, none⟩) hbl).trans ht.bench.2⟩
    · rw [ek, lst_add, Lib.byteCells_append]
      exact .inr hB
    · exact ((h.bel.grown ht.kept h.bel.size (fun j e => by cases e; exact Nat.le_refl _))).trans (hbel.mono (Nat.le_succ _))

set_option maxHeartbeats 1000000 in
theorem implExecute_long (text : ByteArray) (w : World) (ht : text.size ≤ maxLen) (hz : ¬ text.size ≤ 600) :
    Calls Tryz.prog 7 #[.string text] w fun e w' => e = .returned (.string (exS text)) ∧ Below w.heap.size w w' := by
  have e : exS text = longT := by unfold exS; rw [if_pos (by omega)]
  rw [e]
  unfold maxLen at ht
  clear e
  go_enter Tryz.func7, Tryz.ntmps7
  go_wp2
  go_ret
  exact ⟨rfl, Below.refl _ _⟩

set_option maxRecDepth 100000 in
set_option maxHeartbeats 8000000 in
theorem implExecute_short (text : ByteArray) (w : World) (hz : text.size ≤ 600) (hE : Env w) :
    Calls Tryz.prog 7 #[.string text] w fun e w' => e = .returned (.string (exS text)) ∧ Below w.heap.size w w' := by
  have HEE := hide hE
  clear hE
  obtain ⟨r0, hr0⟩ : ∃ r, r = exS text := ⟨_, rfl⟩
  rw [← hr0]
  have HR0 := hide hr0
  clear hr0
  refine (callsIn_wide (n := 4)).1 ?_
  refine callsIn_of_wp_marks Tryz.func7 rfl trivial ?_ rfl
  simp only [Tryz.ntmps7, List.size_toArray, List.length_cons, List.length_nil, Nat.reduceAdd, Nat.reduceSub, Array.replicate_succ, Array.replicate_zero, List.push_toArray, List.append_toArray, List.nil_append, List.cons_append]
  gi_wp2_with (refine ⟨trivial, ?_⟩; gi_at_call 15; refine (lines_in Fence.wide _ trivial rfl _ _).mono ?_; rintro e w3 ⟨rfl, rfl⟩)
  obtain ⟨W0, hW0⟩ : ∃ W, W = ((w.alloc (.cells #[.string ⟨#[]⟩] 32)).alloc (.cells #[.pointer none, .slice none 0 0] 35)).alloc (.cells #[.string text] 9) := ⟨_, rfl⟩
  rw [← hW0]
  have hD : W0.heap.size = w.heap.size + 3 := by rw [hW0]; simp
  have hb1 : Below w.heap.size w W0 := by rw [hW0]; exact (((Below.refl _ _).alloc (Nat.le_refl _) _).alloc (by simp) _).alloc (by simp; omega) _
  have ch : W0.heap[w.heap.size]? = some (.cells #[.string ⟨#[]⟩] 32 (0, 0)) := by
    rw [hW0]
    exact (Below.heap_alloc _ _ _ (by simp; omega)).trans ((Below.heap_alloc _ _ _ (by simp)).trans (World.alloc_heap_new w _))
  have c0 : W0.cell? ⟨w.heap.size, 0, none⟩ = some (.string ⟨#[]⟩) := by unfold World.cell?; rw [ch]; rfl
  have z0 : W0.frozen? ⟨w.heap.size, 0, none⟩ = false := by unfold World.frozen?; rw [ch]; rfl
  have c2 : W0.heap[w.heap.size + 2]? = some (.cells #[.string text] 9 (0, 0)) := by
    rw [hW0]
    have := World.alloc_heap_new ((w.alloc (.cells #[.string ⟨#[]⟩] 32)).alloc (.cells #[.pointer none, .slice none 0 0] 35)) (.cells #[.string text] 9)
    rw [World.size_alloc, World.size_alloc] at this
    exact this
  have c3 : W0.cell? ⟨w.heap.size + 2, 0, none⟩ = some (.string text) := by unfold World.cell?; rw [c2]; rfl
  have z3 : W0.frozen? ⟨w.heap.size + 2, 0, none⟩ = false := by unfold World.frozen?; rw [c2]; rfl
  have b1 : Lib.IsBuilderF 35 5 (w.heap.size + 1) (w.heap.size + 1) [] W0 := by
    have h0 := Lib.IsBuilderF.of (Lib.fresh_isBuilder 35 5 (w.alloc (.cells #[.string ⟨#[]⟩] 32)))
    rw [World.size_alloc] at h0
    rw [hW0]
    exact bld_kept h0 (World.grownBy_alloc _ (.cells #[.string text] 9) (some (w.heap.size + 2))) (by omega) (.inr (fun cs fz e => by rw [Array.getElem?_eq_none (by simp)] at e; cases e))
  have HI0 : Hid (ExI text w 0 W0) := ⟨⟨c0, z0⟩, b1, ⟨_, c2⟩, hb1⟩
  clear hW0 hb1 c0 z0 c2 b1
  refine wpIn_range_cell rfl (by omega) (gf := 25) (lb := #[.pointer (some ⟨w.heap.size + 2, 0, none⟩)]) rfl trivial (enters_of Tryz.func25 (by kernel_rfl) rfl)
    (encs := fun x : ByteArray => #[Value.string x]) (cb := w.heap.size + 2) (xs := linesB text) (by omega) (lines_all (w.heap.size + 2) text (by omega) W0 c3 z3 3 (by omega)) (fun _ => rfl) (ExI text w) (ExI.loop text w _ hD) HI0.out
    (fun x a₁ _ => a₁ = { tmps := #[.string text, undef, .string ⟨#[]⟩, .pointer (some ⟨w.heap.size, 0, none⟩), .pointer (some ⟨w.heap.size + 1, 0, none⟩), .string x, undef, undef, .string text, .int .i64 (text.size : Int),
      .bool (decide (600 < (text.size : Int))), .string text, .func (.func 25) #[] #[.pointer (some ⟨w.heap.size + 2, 0, none⟩)], .string x, undef, undef, undef, undef, undef, undef, undef, undef, undef, undef, undef, undef, undef, undef, undef, undef, undef], defers := [] })
    ?assign (fun _ _ _ _ _ _ h _ _ _ => h) ?body ?done
  case assign =>
    intro l x k W K hI hK
    gi_wp2
    exact hK _ _ (KeepsFrom.refl _ _) rfl hI rfl
  case body =>
    rintro l' k x W a₁ hx hI rfl
    have hxs : x.size ≤ 600 := Nat.le_trans (linesB_size (List.mem_of_getElem? hx)) hz
    have hsuf : Lib.hasSuffix x.data.toList [10] = decide ((lst x).getLast? = some 10) := suf_one _
    have CS := hide (fun W => Tryz.strings_CutSuffix x ⟨#[10]⟩ W (by omega))
    by_cases hl : (lst x).getLast? = some 10
    · have htr : Lib.trimSuffix x.data.toList [10] = (lst x).dropLast := trim_one hl
      rw [show ((⟨#[10]⟩ : ByteArray).data.toList) = [10] from rfl, hsuf, decide_eq_true hl, htr] at CS
      obtain ⟨hv, hob⟩ := exK_ok text k
      have hEW := HEE.out.below hI.bel
      have hts : (ofL (lst x).dropLast).size ≤ 600 := by
        rw [← lst_size, lst_ofL, List.length_dropLast, lst_size]
        omega
      have et : (⟨((lst x).dropLast).toArray⟩ : ByteArray) = ofL (lst x).dropLast := rfl
      have CS' : Hid (∀ W, Calls Tryz.prog 16 #[.string x, .string ⟨#[10]⟩] W fun e w' => e = .returned (.tuple #[.string (ofL (lst x).dropLast), .bool true]) ∧ w' = W) := CS.out
      have CA := hide (answer_any w.heap.size (exK text k).1 (ofL (lst x).dropLast) W hts hv hI.bench hEW)
      have hsz : (ansS (exK text k).1 (cmdS (exK text k).1 (ofL (lst x).dropLast))).2.size + 1 ≤ 20000 := by
        have := lineS_le (line := ofL (lst x).dropLast) hv
        rw [lineS_cmd _ hv, ByteArray.size_append] at this
        exact this
      have NX := hide (fun (W1 W2 : World) (ht : Turn w.heap.size (ansS (exK text k).1 (cmdS (exK text k).1 (ofL (lst x).dropLast))).1 W W1) => ExI.next (W2 := W2) (D := w.heap.size + 3) (Nat.le_refl _) hI hx hl ht rfl)
      have hkc : k < (linesB text).length := (List.getElem?_eq_some_iff.1 hx).1
      have hct := linesB_count text
      have hln : (Lib.byteCells (lst (exK text k).2)).length ≤ 20000 * 600 := by
        rw [Lib.byteCells_length, lst_size]
        exact Nat.le_trans hob (Nat.mul_le_mul_left _ (by omega))
      have hbw : w.heap.size + 1 ≤ W.heap.size := hI.bench.lt
      unfold AnsPost at CA
      generalize ansS (exK text k).1 (cmdS (exK text k).1 (ofL (lst x).dropLast)) = q at CA hsz NX
      obtain ⟨q1, q2⟩ := q
      generalize ofL (lst x).dropLast = t at CS' CA
      clear CS et hts hob hv hsuf hl hx hI hct hkc hEW
      have hsz' : q2.size + 1 ≤ 20000 := hsz
      have g1 : ¬ 9223372036854775807 < q2.size + 1 := by omega
      have hlw : (Lib.byteCells (lst (exK text k).2)).length + (q2 ++ (⟨#[10]⟩ : ByteArray)).size ≤ 140737488355328 := by
        rw [ByteArray.size_append]
        show _ + (q2.size + 1) ≤ _
        omega
      clear htr
      gi_wp2_with (first
        | (refine ⟨trivial, ?_⟩; gi_at_call 16; refine (CallsIn.inRound l' (callsIn_wide.2 (CS'.out _))).mono ?_; rintro e W1 ⟨rfl, rfl⟩)
        | (refine ⟨trivial, ?_⟩; gi_at_call 18; refine (CallsIn.inRound l' (callsIn_wide.2 CA.out)).mono ?_; rintro e W1 ⟨rfl, ht⟩; have HX := hide (fun W2 => NX.out W1 W2 ht); have hbw1 := ht.kept.size; clear ht)
        | (refine ⟨trivial, ?_⟩; gi_at_call 17; refine (CallsIn.inRound l' (callsIn_wide.2 (writeString_any (w.heap.size + 1) (w.heap.size + 1) _ _ W1 (HX.out W1).1 hlw (by omega)))).mono ?_; rintro e W2 ⟨rfl, hB2, hbel, hok⟩; have fin := (HX.out W2).2 hB2 hbel hok; clear hB2 hbel hok)
        | fail)
      first | exact fin | (rw [hD]; exact fin)
    · rw [show ((⟨#[10]⟩ : ByteArray).data.toList) = [10] from rfl, hsuf, decide_eq_false hl] at CS
      have hI1 : Hid (ExI text w (k + 1) W) := by
        have e : exK text (k + 1) = exK text k := by rw [exK_step hx]; unfold wkL; rw [if_neg hl]
        exact ⟨by rw [e]; exact hI.bench, by rw [e]; exact hI.bld, hI.cb, hI.bel⟩
      obtain ⟨t, ht⟩ : ∃ t : ByteArray, t = ⟨(Lib.trimSuffix x.data.toList [10]).toArray⟩ := ⟨_, rfl⟩
      rw [← ht] at CS
      clear hsuf hl hx hI ht
      gi_wp2_with (refine ⟨trivial, ?_⟩; gi_at_call 16; refine (CallsIn.inRound l' (callsIn_wide.2 (CS.out _))).mono ?_; rintro e W1 ⟨rfl, rfl⟩)
      exact ⟨KeepsFrom.refl _ _, rfl, hI1.out⟩
  case done =>
    rintro D W hD2 hI hK
    obtain ⟨hv, hob⟩ := exK_ok text (linesB text).length
    have hct := linesB_count text
    have HE : Hid (r0 = endS (exK text (linesB text).length).1 (exK text (linesB text).length).2) := by
      show _ = _
      rw [HR0.out]
      unfold exS
      rw [if_neg (by omega), exK_end]
    have hln : (Lib.byteCells (lst (exK text (linesB text).length).2)).length ≤ 20000 * 600 := by
      rw [Lib.byteCells_length, lst_size]
      exact Nat.le_trans hob (Nat.mul_le_mul_left _ (by omega))
    have hrs := rowS_le hv
    obtain ⟨hB, hbl, ⟨y, hcb⟩, hbel⟩ := hI
    have hbc := hB.1
    have hBL := hide hbl
    have HBB := hide hbel
    have HK := hide hK
    have hbw := hB.lt
    generalize exK text (linesB text).length = q at hv hrs hln hBL hbc HE
    obtain ⟨s1, o1⟩ := q
    have hln' : (Lib.byteCells (lst o1)).length ≤ 20000 * 600 := hln
    have CR := hide (fun W => rowText_any s1 W)
    have HE' : Hid (r0 = o1 ++ rowT ++ rowS s1 ++ nlT) := HE
    have hrs' : (rowS s1).size ≤ 120 := hrs
    have hbc' : W.cell? ⟨w.heap.size, 0, none⟩ = some (.string s1) := hbc
    generalize rowS s1 = r at hrs' CR HE'
    have f1 : ¬ 9223372036854775807 < 4 + r.size := by omega
    have f2 : ¬ 9223372036854775807 < 4 + r.size + 1 := by omega
    have hlw : (Lib.byteCells (lst o1)).length + ((⟨#[114, 111, 119, 32]⟩ : ByteArray) ++ r ++ ⟨#[10]⟩).size ≤ 140737488355328 := by
      rw [ByteArray.size_append, ByteArray.size_append]
      show _ + (4 + r.size + 1) ≤ _
      omega
    have CW := hide (writeString_any (w.heap.size + 1) (w.heap.size + 1) _ ((⟨#[114, 111, 119, 32]⟩ : ByteArray) ++ r ++ ⟨#[10]⟩) W hBL.out hlw hbw)
    have HRE : Hid (⟨(lst o1 ++ ((⟨#[114, 111, 119, 32]⟩ : ByteArray) ++ r ++ ⟨#[10]⟩).data.toList).toArray⟩ = r0) := by
      show _ = _
      rw [HE'.out]
      apply lst_inj
      show _ ++ lst _ = _
      simp only [lst_add, List.append_assoc]
      rfl
    have CT := hide (fun W2 (h : Lib.BuilderAtF 35 5 (w.heap.size + 1) (w.heap.size + 1) (.pointer (some ⟨w.heap.size + 1, 0, none⟩)) (Lib.byteCells (lst o1) ++ Lib.strCells ((⟨#[114, 111, 119, 32]⟩ : ByteArray) ++ r ++ ⟨#[10]⟩)) W2) (hs : w.heap.size + 1 ≤ W2.heap.size) =>
      (Tryz.Builder_String_any_k (w.heap.size + 1) (w.heap.size + 1) (lst o1 ++ ((⟨#[114, 111, 119, 32]⟩ : ByteArray) ++ r ++ ⟨#[10]⟩).data.toList) W2 (by rw [Lib.byteCells_append]; exact .inr h) hs).mono
        (R' := fun e w' => e = .returned (.string r0) ∧ Below (w.heap.size + 1) W2 w' ∧ Lib.OthersKept 5 (some (w.heap.size + 1)) W2 w') (fun e w' h => ⟨h.1.trans (by rw [HRE.out]), h.2.2⟩))
    have HD3 : Hid (∀ W2 W3, Lib.OthersKept 5 (some (w.heap.size + 1)) W W2 → Lib.OthersKept 5 (some (w.heap.size + 1)) W2 W3 → W3.heap[D]? = some (.deferred (some []))) := fun W2 W3 k1 k2 => by
      have hne : some D ≠ some (w.heap.size + 1) := fun e => by have := Option.some.inj e; omega
      exact k2 _ _ (k1 _ _ hK hne (fun c fz e => by cases e)) hne (fun c fz e => by cases e)
    clear hB hbl hbel hK hv hct hob c3 z3 HI0 ch hrs hln HE hbc hcb
    gi_wp2_with (first
      | (refine ⟨trivial, ?_⟩; gi_at_call 19; refine (callsIn_wide.2 (CR.out _)).mono ?_; rintro e W1 ⟨rfl, rfl⟩)
      | (refine ⟨trivial, ?_⟩; gi_at_call 17; refine (callsIn_wide.2 CW.out).mono ?_; rintro e W2 ⟨rfl, hB2, hbel2, hok2⟩; have HT := hide (CT.out W2 hB2 (Nat.le_trans hbw hbel2.size)); have HB2 := hide hbel2; have HO2 := hide hok2; clear hB2 hbel2 hok2)
      | (refine ⟨trivial, ?_⟩; gi_at_call 20; refine (callsIn_wide.2 HT.out).mono ?_; rintro e W3 ⟨rfl, hbel3, hok3⟩; have HB3 := hide hbel3; have HK3 := hide (HD3.out W2 W3 HO2.out hok3); clear hbel3 hok3)
      | fail)
    refine ⟨by simp, .inl ⟨_, _, rfl, run_takeDeferred HK3.out, ?_⟩⟩
    refine ⟨_, results_tmp rfl _ _ _, rfl, ?_⟩
    have b3 : Below w.heap.size w W3 := HBB.out.trans ((HB2.out.trans (HB3.out.mono (Nat.le_refl _))).mono (Nat.le_succ _))
    exact b3.trans (belowK_b (w := w) (Nat.le_refl _) W3 D _ _ (by omega) HK3.out rfl rfl)

theorem implExecute_any (text : ByteArray) (w : World) (ht : text.size ≤ maxLen) (hE : Env w) :
    Calls Tryz.prog 7 #[.string text] w fun e w' => e = .returned (.string (exS text)) ∧ Below w.heap.size w w' := by
  by_cases hz : text.size ≤ 600
  · exact implExecute_short text w hz hE
  · exact implExecute_long text w ht hz
end Go.Proofs.YtdooboibmllfkaaGreatDoor

namespace Go.Proofs.YtdooboibmllfkaaGreatDoor
set_option maxRecDepth 100000
open Go.RowKit

theorem Bytes.below {w w' : World} {a : Option Addr} {len : Nat} {z : List Int} (h : Bytes w a len z) (hb : Below w.heap.size w w') : Bytes w' a len z := by
  intro h0
  obtain ⟨b, off, h1, h2, h3⟩ := h h0
  exact ⟨b, off, h1, Nat.lt_of_lt_of_le h2 hb.size, fun j hj => ⟨(hb.cell (p := ⟨b, off + j, none⟩) h2).trans (h3 j hj).1, (h3 j hj).2⟩⟩

theorem grown_cell {w w' : World} {R g j : Nat} {v : Value} (hg : w.grownBy w' (some R)) (hne : g ≠ R) (h : w.cell? ⟨g, j, none⟩ = some v) : w'.cell? ⟨g, j, none⟩ = some v :=
  (World.cell?_of_block (a := ⟨g, j, none⟩) (hg.block g (World.block_lt_of_cell? w _ h) (by intro e; injection e with e; exact hne e))).trans h
end Go.Proofs.YtdooboibmllfkaaGreatDoor

namespace Go.Proofs.YtdooboibmllfkaaGreatDoor
set_option maxRecDepth 100000
open Go.RowKit

end Go.Proofs.YtdooboibmllfkaaGreatDoor

namespace Go.Proofs.YtdooboibmllfkaaGreatDoor
set_option maxRecDepth 100000
open Go.RowKit

end Go.Proofs.YtdooboibmllfkaaGreatDoor

namespace Go.Proofs.YtdooboibmllfkaaGreatDoor
set_option maxRecDepth 100000
open Go.RowKit

end Go.Proofs.YtdooboibmllfkaaGreatDoor

namespace Go.Proofs.YtdooboibmllfkaaGreatDoor
set_option maxRecDepth 100000
open Go.RowKit Go.Lib

def PickedOf (w : World) (R : Nat) (a : Option Addr) (len cap : Nat) (z : List Int) (p : Nat) (m : Nat) (e : Ending) (w' : World) : Prop :=
  ∃ t : ByteArray, e = .returned (.string t) ∧ t.size ≤ m ∧ Rd w' R a len cap z (p + 1) ∧ Below R w w' ∧ w.grownBy w' (some R)

set_option maxHeartbeats 1000000 in
theorem of_any (w : World) (R : Nat) (a : Option Addr) (len cap : Nat) (z : List Int) (p : Nat) (g n c m : Nat) (hrd : Rd w R a len cap z p) (hp : p ≤ 1000) (hn : 1 ≤ n ∧ n ≤ 1000) (hg : g ≠ R) (hc : ∀ j, j < n → ∃ t : ByteArray, t.size ≤ m ∧ w.cell? ⟨g, j, none⟩ = some (.string t)) :
    Calls Tryz.prog 24 #[.pointer (some ⟨R, 0, none⟩), .slice (some ⟨g, 0, none⟩) n c] w (PickedOf w R a len cap z p m) := by
  obtain ⟨n0, n1⟩ := hn
  have HC := hide hc
  have HP := hide (pick2_any w R a len cap z p (n : Int) hrd (by omega) (by omega) (by omega))
  clear hc hrd
  go_enter Tryz.func24, Tryz.ntmps24
  go_wp2_with fail
  refine HP.out.mono ?_
  rintro e w1 ⟨v, rfl, v0, v1, hr, hb, hz, hgr⟩
  obtain ⟨j, rfl⟩ := Int.eq_ofNat_of_zero_le v0
  obtain ⟨t, ht, hcell⟩ := HC.out j (by omega)
  have c1 := grown_cell hgr hg hcell
  have HR := hide hr
  have HB := hide hb
  have HG := hide hgr
  clear hr hb hz hgr hcell
  go_wp2
  go_ret
  exact ⟨t, rfl, ht, HR.out, HB.out, HG.out⟩

end Go.Proofs.YtdooboibmllfkaaGreatDoor

namespace Go.Proofs.YtdooboibmllfkaaGreatDoor
set_option maxRecDepth 100000
open Go.RowKit Go.Lib

inductive AllS : List Value → Prop
  | nil : AllS []
  | cons {x : ByteArray} {l : List Value} (h : x.size ≤ 6) (t : AllS l) : AllS (.string x :: l)
theorem AllS.at {l : List Value} (h : AllS l) : ∀ j, j < l.length → ∃ x : ByteArray, x.size ≤ 6 ∧ l[j]? = some (.string x) := by
  induction h with
  | nil => intro j hj; exact absurd hj (Nat.not_lt_zero j)
  | @cons x l hx _ ih =>
    intro j hj
    cases j with
    | zero => exact ⟨x, hx, rfl⟩
    | succ j =>
      rw [List.length_cons] at hj
      rw [List.getElem?_cons_succ]
      exact ih j (by omega)
theorem of_lit (w : World) (R : Nat) (a : Option Addr) (len cap : Nat) (z : List Int) (p : Nat) (hrd : Rd w R a len cap z p) (hp : p ≤ 1000) (t : TypeId) (l : List Value) (n : Nat) (hn : l.length = n) (h1 : 1 ≤ n ∧ n ≤ 1000) (hs : AllS l) :
    Calls Tryz.prog 24 #[.pointer (some ⟨R, 0, none⟩), .slice (some ⟨w.heap.size, 0, none⟩) n n] (w.alloc (.cells l.toArray t)) (PickedOf (w.alloc (.cells l.toArray t)) R a len cap z p 6) := by
  have hlt := hrd.lt
  refine of_any (w.alloc (.cells l.toArray t)) R a len cap z p w.heap.size n n 6 (hrd.below ((Below.refl (R + 1) w).alloc hlt _) (Nat.lt_succ_self R)) hp h1 (by omega) ?_
  intro j hj
  obtain ⟨x, hx, hj2⟩ := hs.at j (by omega)
  refine ⟨x, hx, ?_⟩
  rw [World.cell?_alloc_at _ _ _ _ rfl, List.getElem?_toArray]
  exact hj2
def DrawnL (w : World) (R : Nat) (a : Option Addr) (len cap : Nat) (z : List Int) (p : Nat) (e : Ending) (w' : World) : Prop :=
  ∃ (s : ByteArray) (q : Nat), e = .returned (.string s) ∧ s.size ≤ 320 ∧ q ≤ p + 80 ∧ Rd w' R a len cap z q ∧ Below R w w'

set_option maxHeartbeats 4000000 in
theorem l92Line_any (w : World) (R : Nat) (a : Option Addr) (len cap : Nat) (z : List Int) (p : Nat) (hrd : Rd w R a len cap z p) (hp : p ≤ 900) :
    Calls Tryz.prog 13 #[.pointer (some ⟨R, 0, none⟩)] w (DrawnL w R a len cap z p) := by
  go_enter Tryz.func13, Tryz.ntmps13
  go_wp2_with fail
  refine (pick2_any w R a len cap z p 12 hrd (by omega) (by omega) (by omega)).mono ?_
  rintro e w1 ⟨v, rfl, hn1, hn2, hr1, hb1, hz1, hg1⟩
  have HR1 := hide hr1
  have HB1 := hide hb1
  have OF := hide (fun l n hn h1 hs => of_lit w1 R a len cap z (p + 1) hr1 (by omega) 9 l n hn h1 hs)
  have OG := hide (fun w p hr hp l n hn h1 hs => of_lit w R a len cap z p hr hp 9 l n hn h1 hs)
  have HBA := hide (fun o => hb1.alloc (by have := hr1.lt; omega) o)
  clear hr1 hb1 hz1 hg1 hrd
  have hv : v = 0 ∨ v = 1 ∨ v = 2 ∨ v = 3 ∨ v = 4 ∨ v = 5 ∨ v = 6 ∨ v = 7 ∨ v = 8 ∨ v = 9 ∨ v = 10 ∨ v = 11 := by omega
  rcases hv with rfl | rfl | rfl | rfl | rfl | rfl | rfl | rfl | rfl | rfl | rfl | rfl
  case' inl | inr.inl =>
    go_wp2_with fail
    refine (l91Row_any w1 R a len cap z (p + 1) HR1.out (by omega)).mono ?_
    rintro e w2 ⟨s, q, rfl, hs, hq, hr2, hb2, hz2⟩
    have HR2 := hide hr2
    have HB2 := hide (HB1.out.trans hb2)
    have f1 : ¬ 9223372036854775807 < 4 + s.size := by omega
    clear hr2 hb2 hz2
    go_wp2_with fail
    go_ret
    exact ⟨_, q, rfl, by rw [ByteArray.size_append]; show 4 + s.size ≤ 320; omega, by omega, HR2.out, HB2.out⟩
  case' inr.inr.inr.inr.inl | inr.inr.inr.inr.inr.inl =>
    go_wp2_with fail
    refine (OF.out _ _ ?g1 ?g2 ?g3).mono ?_
    case g1 => exact Eq.refl _
    case g2 => decide
    case g3 => repeat (first | exact AllS.nil | refine AllS.cons (by decide) ?_)
    rintro e w2 ⟨t, rfl, ht, hr2, hb2, hg2⟩
    have HR2 := hide hr2
    have HB2 := hide ((HBA.out _).trans hb2)
    clear hr2 hb2 hg2
    go_wp2_with fail
    refine (OG.out _ _ HR2.out (by omega) _ _ ?g1 ?g2 ?g3).mono ?_
    case g1 => exact Eq.refl _
    case g2 => decide
    case g3 => repeat (first | exact AllS.nil | refine AllS.cons (by decide) ?_)
    rintro e w3 ⟨u, rfl, hu, hr3, hb3, hg3⟩
    have HR3 := hide hr3
    have HB3 := hide ((HB2.out.alloc (by have := HR2.out.lt; have := HB2.out.size; omega) _).trans hb3)
    have f1 : ¬ 9223372036854775807 < t.size + u.size := by omega
    clear hr3 hb3 hg3
    go_wp2_with fail
    go_ret
    exact ⟨_, p + 3, rfl, by rw [ByteArray.size_append]; omega, by omega, HR3.out, HB3.out⟩
  all_goals
    go_wp2_with fail
    refine (OF.out _ _ ?g1 ?g2 ?g3).mono ?_
    case g1 => exact Eq.refl _
    case g2 => decide
    case g3 => repeat (first | exact AllS.nil | refine AllS.cons (by decide) ?_)
    rintro e w2 ⟨t, rfl, ht, hr2, hb2, hg2⟩
    have HR2 := hide hr2
    have HB2 := hide ((HBA.out _).trans hb2)
    have f1 : ¬ 9223372036854775807 < 6 + t.size := by omega
    have f2 : ¬ 9223372036854775807 < 7 + t.size := by omega
    have f3 : ¬ 9223372036854775807 < 8 + t.size := by omega
    clear hr2 hb2 hg2
    go_wp2_with fail
    go_ret
    refine ⟨_, p + 2, rfl, ?_, by omega, HR2.out, HB2.out⟩
    have k : ∀ c : Nat, c ≤ 8 → c + t.size ≤ 320 := by intro c hc; omega
    first
      | omega
      | (rw [ByteArray.size_append]; exact k _ (by decide))
end Go.Proofs.YtdooboibmllfkaaGreatDoor

namespace Go.Proofs.YtdooboibmllfkaaGreatDoor
set_option maxRecDepth 100000
open Go.RowKit Go.Lib

def DrawnT (w : World) (e : Ending) (w' : World) : Prop := ∃ s : ByteArray, e = .returned (.string s) ∧ s.size ≤ 5000 ∧ Below w.heap.size w w'

set_option maxHeartbeats 2000000 in
theorem DrawExecute_any (a : Option Addr) (len cap : Nat) (z : List Int) (w : World) (hlen : len ≤ 1048576) (hcap : len ≤ cap) (hb : Bytes w a len z) :
    Calls Tryz.prog 6 #[.slice a len cap] w (DrawnT w) := by
  go_enter Tryz.func6, Tryz.ntmps6
  go_wp2_with fail
  refine (l6Open_any a len cap z w hlen hcap hb).mono ?_
  rintro e w1 ⟨rfl, hr, hb1, hz1⟩
  go_wp2_with fail
  refine (pick2_any w1 w.heap.size a _ cap z 0 9 hr (by omega) (by omega) (by omega)).mono ?_
  rintro e w2 ⟨n, rfl, hn1, hn2, hr1, hb2, hz2, hg2⟩
  have HR1 := hide hr1
  have HB1 := hide (hb1.trans hb2)
  clear hr hb1 hr1 hb2 hz1 hz2 hg2
  obtain ⟨R, hRR⟩ : ∃ R, R = w.heap.size := ⟨_, rfl⟩
  rw [← hRR] at HR1 HB1 ⊢
  have HRR := hide hRR
  clear hRR
  go_wp2_with fail
  go_loopw [4, 6] (fun sv i wr => ∃ (x : ByteArray) (k q : Nat), sv = .string x ∧ i = .int .i64 (k : Int) ∧ x.size ≤ 321 * k ∧ (k : Int) ≤ 8 ∧ q ≤ 1 + 80 * k ∧ Hid (Rd wr R a _ cap z q) ∧ Hid (Below R w wr)) (fun _ i => fun _ => (n - Go.RowKit.intOf i).toNat)
  case atStart => exact ⟨_, 0, 1, rfl, rfl, Nat.zero_le _, by omega, by omega, HR1, HB1⟩
  case round =>
    obtain ⟨x, k, q, rfl, rfl, hx, hk, hq, HR, HB⟩ := hrel
    by_cases hlt : (k : Int) < n
    · have LN := hide (l92Line_any wr R a _ cap z q HR.out (by omega))
      go_wp2_with fail
      refine LN.out.mono ?_
      rintro e w3 ⟨t, q2, rfl, ht, hq2, hr2, hb2⟩
      have HR2 := hide hr2
      have HB2 := hide (HB.out.trans hb2)
      have f1 : ¬ 9223372036854775807 < x.size + t.size := by omega
      have f2 : ¬ 9223372036854775807 < x.size + t.size + 1 := by omega
      have f3 : x.size + t.size + 1 ≤ 321 * (k + 1) := by omega
      clear hr2 hb2
      go_wp2_with fail
      go_roundw
      case rel => exact ⟨_, k + 1, q2, rfl, by go_num, by rw [ByteArray.size_append, ByteArray.size_append]; exact f3, by omega, by omega, HR2, HB2⟩
      case measure => simp [Go.RowKit.intOf]; omega
    · go_wp2_with fail
      refine (pick2_any wr R a _ cap z q 24 HR.out (by omega) (by omega) (by omega)).mono ?_
      rintro e w3 ⟨v, rfl, v0, v1, hr2, hb2, hz2, hg2⟩
      have HB2 := hide (HB.out.trans hb2)
      clear hr2 hb2 hz2 hg2
      have CM := hide (fun w => l6Many_any ⟨#[115, 104, 111, 119, 10]⟩ 130 w (by omega) (by decide))
      have f1 : ¬ 9223372036854775807 < x.size + 4 := by omega
      have f2 : x.size ≤ 2568 := by omega
      rcases (show v = 0 ∨ v = 1 ∨ (v ≠ 0 ∧ v ≠ 1) by omega) with rfl | rfl | ⟨h0, h1⟩
      · go_wp2_with fail
        go_ret
        exact ⟨_, rfl, by rw [ByteArray.size_append]; show x.size + 4 ≤ 5000; omega, by rw [← HRR.out]; exact HB2.out⟩
      · go_wp2_with fail
        refine (CM.out _).mono ?_
        rintro e w' ⟨⟨out, rfl, ho⟩, rfl⟩
        have hos : out.size ≤ 650 := by
          have := congrArg List.length ho
          rw [rep_length] at this
          have h2 : out.data.toList.length = out.size := by simp
          rw [h2] at this
          simp at this
          omega
        have f4 : ¬ 9223372036854775807 < x.size + out.size := by omega
        clear ho
        go_wp2_with fail
        go_ret
        exact ⟨_, rfl, by rw [ByteArray.size_append]; omega, by rw [← HRR.out]; exact HB2.out⟩
      · have b0 : (v == 0) = false := by simp [h0]
        have b1 : (v == 1) = false := by simp [h1]
        go_wp2_with fail
        go_ret
        exact ⟨_, rfl, by omega, by rw [← HRR.out]; exact HB2.out⟩
end Go.Proofs.YtdooboibmllfkaaGreatDoor

namespace Go.Proofs.YtdooboibmllfkaaGreatDoor
set_option maxRecDepth 100000
open Go.RowKit

theorem longT_lit : longT = ⟨#[116, 111, 111, 32, 108, 111, 110, 103, 10]⟩ := rfl
theorem ex_long {t : ByteArray} (h : 600 < t.size) : exS t = longT := if_pos h
theorem ex_empty_lit : exS ⟨#[]⟩ = ⟨#[114, 111, 119, 32, 48, 10]⟩ := ex_empty
theorem ends_ne {s o : ByteArray} : (endS s o).size ≠ 0 := by
  rw [endS_last, ByteArray.size_append]
  unfold lastS
  rw [ByteArray.size_append, ByteArray.size_append]
  have : rowT.size = 4 := rfl
  omega

set_option maxHeartbeats 2000000 in
theorem walkFnExecuteNone {w : World} (a : Option Addr) (len cap : Nat) (z : List Int) (hr : IsRow .u8 w a len cap z) (hE : Env w) :
    Calls Tryz.prog 3 #[.slice a len cap] w fun e w' => e = .returned (.bool true) ∧ Below w.heap.size w w' := by
  have hcap := hr.le
  have hmax := hr.max
  unfold maxLen at hmax
  by_cases hbig : 1048576 < len
  · go_enter Tryz.func3, Tryz.ntmps3
    go_wp2
    go_ret
    exact ⟨rfl, Below.refl _ _⟩
  · have D := hide (DrawExecute_any a len cap z w (by omega) hcap hr.bytes)
    clear hr
    go_enter Tryz.func3, Tryz.ntmps3
    go_wp2_with fail
    refine D.out.mono ?_
    rintro e w1 ⟨s, rfl, hs, hb1⟩
    have hs' : s.size ≤ maxLen := by unfold maxLen; omega
    have C1 := hide (fun w => implExecute_any s w hs')
    have C0 := hide (fun w => specExecute_any s w)
    by_cases hz : 600 < s.size
    · rw [ex_long hz, longT_lit] at C0 C1
      have hz1 : (600 : Int) < (s.size : Int) := by omega
      go_wp2_with fail
      refine (C1.out _ (by first | exact hE | exact hE.below hb1 | exact hE.below hb2 | exact hE.below b2 | exact hE.below b3 | exact hE.below b4 | exact hE.below b5 | exact hE.below b6 | exact hE.below b7 | exact hE.below b8 | exact hE.below b9 | exact hE.below b10 | exact hE.below b11 | exact hE.below b12 | exact hE.below b13 | exact hE.below b14)).mono ?_
      rintro e w2 ⟨rfl, hb2⟩
      have b2 := hb1.trans (hb2.mono hb1.size)
      go_wp2_with fail
      refine (C0.out _).mono ?_
      rintro e w3 ⟨rfl, hb3⟩
      go_wp2_with fail
      go_ret
      exact ⟨rfl, b2.trans (hb3.mono b2.size)⟩
    · obtain ⟨h1, h2⟩ := ex_cm (t := s) (by omega)
      have CE := hide (fun w => implExecute_any ⟨#[]⟩ w (Nat.zero_le _))
      rw [ex_empty_lit] at CE
      have hcm := cmpS_le s
      have CC := hide (fun w => implExecute_any (cmpS s) w (by unfold maxLen; omega))
      have CP := hide (fun w => complete_any s w (by omega))
      rw [h2] at CC
      have hne : (exS s).toList.isEmpty = false := by
        rw [ByteArray.toList_eq]
        cases e : (exS s).data.toList with
        | nil =>
          have h3 := ends_ne (s := stR s) (o := stO s)
          rw [← h1] at h3
          exact absurd (by rw [← lst_size]; show (exS s).data.toList.length = 0; rw [e]; rfl) h3
        | cons _ _ => rfl
      obtain ⟨x, hx⟩ : ∃ x, x = exS s := ⟨_, rfl⟩
      obtain ⟨c, hc⟩ : ∃ c, c = cmpS s := ⟨_, rfl⟩
      rw [← hx] at C0 C1 CC hne
      rw [← hc] at CC CP
      clear hx hc h1 h2 hcm
      have hz1 : ¬ (600 : Int) < (s.size : Int) := by omega
      go_wp2_with fail
      refine (C1.out _ (by first | exact hE | exact hE.below hb1 | exact hE.below hb2 | exact hE.below b2 | exact hE.below b3 | exact hE.below b4 | exact hE.below b5 | exact hE.below b6 | exact hE.below b7 | exact hE.below b8 | exact hE.below b9 | exact hE.below b10 | exact hE.below b11 | exact hE.below b12 | exact hE.below b13 | exact hE.below b14)).mono ?_
      rintro e w2 ⟨rfl, hb2⟩
      have b2 := hb1.trans (hb2.mono hb1.size)
      go_wp2_with fail
      refine (C0.out _).mono ?_
      rintro e w3 ⟨rfl, hb3⟩
      have b3 := b2.trans (hb3.mono b2.size)
      go_wp2_with fail
      refine (CE.out _ (by first | exact hE | exact hE.below hb1 | exact hE.below hb2 | exact hE.below b2 | exact hE.below b3 | exact hE.below b4 | exact hE.below b5 | exact hE.below b6 | exact hE.below b7 | exact hE.below b8 | exact hE.below b9 | exact hE.below b10 | exact hE.below b11 | exact hE.below b12 | exact hE.below b13 | exact hE.below b14)).mono ?_
      rintro e w4 ⟨rfl, hb4⟩
      have b4 := b3.trans (hb4.mono b3.size)
      go_wp2_with fail
      refine (CP.out _).mono ?_
      rintro e w5 ⟨rfl, rfl⟩
      go_wp2_with fail
      refine (CC.out _ (by first | exact hE | exact hE.below hb1 | exact hE.below hb2 | exact hE.below b2 | exact hE.below b3 | exact hE.below b4 | exact hE.below b5 | exact hE.below b6 | exact hE.below b7 | exact hE.below b8 | exact hE.below b9 | exact hE.below b10 | exact hE.below b11 | exact hE.below b12 | exact hE.below b13 | exact hE.below b14)).mono ?_
      rintro e w6 ⟨rfl, hb6⟩
      go_wp2_with fail
      go_ret
      exact ⟨by simp, b4.trans (hb6.mono b4.size)⟩
end Go.Proofs.YtdooboibmllfkaaGreatDoor
