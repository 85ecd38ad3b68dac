/- TEXTS IExe, DrawR, Draw5, PStep. -/
import Derived.Test.YtdooboibmllfkabGreatDoorExb45
import Derived.Test.YtdooboibmllfkabGreatDoorExb05
import Derived.Test.YtdooboibmllfkabGreatDoorExb21
import Derived.Test.YtdooboibmllfkabGreatDoorExb08
import Derived.Maps.AppendAt
namespace Go.Proofs.YtdooboibmllfkabGreatDoor
set_option maxRecDepth 100000
open Go.RowKit Go.Sort Go.Shelf

attribute [local go_sem] Oper.semAt_some

theorem writeString_any (B b : Nat) (bs : List Value) (s : ByteArray) (w : World) (h : Lib.IsBuilderF 51 5 B b bs w) (hlen : bs.length + s.size ≤ 140737488355328) (hBw : B ≤ w.heap.size) :
    Calls Tryz.prog 28 #[.pointer (some ⟨b, 0, none⟩), .string s] w fun e w' => e = .returned (.tuple #[.int .i64 s.size, .nilIface]) ∧ (Lib.BuilderAtF 51 5 B b (.pointer (some ⟨b, 0, none⟩)) (bs ++ Lib.strCells s) w' ∧ Below B w w' ∧ Lib.OthersKept 5 (some b) w w') :=
  Any.Builder_WriteString_k (ρ := Tryz.lays156_ren) { Tryz.lays156 with } Tryz.Builder_Extra_156 B b bs s w h hlen hBw
theorem bld_kept {T e : TypeId} {B b c : Nat} {bs : List Value} {W W' : World} (h : Lib.IsBuilderF T e B b bs W) (hg : W.grownBy W' (some c)) (hc : c ≠ b) (hn : c < B ∨ ∀ cs fz, W.heap[c]? ≠ some (.cells cs e fz)) : Lib.IsBuilderF T e B b bs W' := by
  have one : ∀ p, Lib.BuilderAtF T e B b p bs W → Lib.BuilderAtF T e B b p bs W' := by
    rintro p ⟨hB, v, hb, hown, hne⟩
    have hlt : b < W.heap.size := (Array.getElem?_eq_some_iff.1 hb).1
    refine ⟨hB, v, (hg.block b hlt (by intro e; cases e; exact hc rfl)).trans hb, hown.kept hg ?_, hne⟩
    cases ho : v.ownBlock with
    | none => exact .inl rfl
    | some g =>
      right
      intro e
      cases e
      rcases hn with hn | hn
      · have := (hown.lt _ ho).1; omega
      · obtain ⟨cs, fz, hcs⟩ := Lib.ownsRowF_kind hown _ ho
        exact hn cs fz hcs
  exact h.elim (fun h => .inl (one _ h)) (fun h => .inr (one _ h))

structure ExI (text : ByteArray) (w : World) (k : Nat) (W : World) : Prop where
  bench : BenchAt W w.heap.size (exK text k).1
  bld : Lib.IsBuilderF 51 5 (w.heap.size + 1) (w.heap.size + 1) (Lib.byteCells (lst (exK text k).2)) W
  cb : ∃ y, W.heap[w.heap.size + 2]? = some (.cells #[.string y] 9 (0, 0))
  bel : Below w.heap.size w W
theorem ExI.kept {text : ByteArray} {w : World} {k c : Nat} {W W' : World} (h : ExI text w k W) (hg : W.grownBy W' (some c)) (h0 : w.heap.size ≤ c) (h1 : c ≠ w.heap.size) (h2 : c ≠ w.heap.size + 1) (hn : ∀ cs fz, W.heap[c]? ≠ some (.cells cs 5 fz))
    (hcb : ∃ y, W'.heap[w.heap.size + 2]? = some (.cells #[.string y] 9 (0, 0))) : ExI text w k W' := by
  have hl := h.bench.lt
  have hb := hg.block w.heap.size hl (by intro e; cases e; exact h1 rfl)
  exact ⟨⟨(World.cell?_of_block (a := ⟨w.heap.size, 0, none⟩) hb).trans h.bench.1, (World.frozen?_of_block (a := ⟨w.heap.size, 0, none⟩) hb).trans h.bench.2⟩, bld_kept h.bld hg h2 (.inr hn), hcb,
    h.bel.grown hg h.bel.size (fun j e => by cases e; exact h0)⟩
theorem ExI.loop (text : ByteArray) (w : World) (D : Nat) (hD : D = w.heap.size + 3) : LoopOk D (w.heap.size + 2) (ExI text w) := by
  refine ⟨⟨fun k A x h => ?_, fun k A h => ⟨h.bench, h.bld, h.cb, h.bel.drew⟩⟩, fun k A l o o' h hl ho hoc => ?_, fun k A o h => ?_⟩
  · obtain ⟨y, hy⟩ := h.cb
    have hg : A.grownBy (A.setCell ⟨w.heap.size + 2, 0, none⟩ (.string x)) (some (w.heap.size + 2)) := ⟨rfl, rfl, rfl, by simp [World.setCell], fun k _ hk => Below.heap_setCell _ _ _ _ (fun e => hk (by rw [e]))⟩
    exact h.kept hg (by omega) (by omega) (by omega) (fun cs fz e => by rw [hy] at e; injection e with e; injection e with _ e _; revert e; decide) ⟨x, by simp [World.setCell, Array.getElem?_modify, hy]⟩
  · obtain ⟨y, hy⟩ := h.cb
    refine h.kept (grownBy_putObj' A l o') (by omega) (by omega) (by omega) (fun cs fz e => by rw [ho] at e; cases e; cases hoc) ⟨y, ?_⟩
    exact (World.putObj_heap_other (by omega)).trans hy
  · obtain ⟨y, hy⟩ := h.cb
    have hl := (Array.getElem?_eq_some_iff.1 hy).1
    refine h.kept (World.grownBy_alloc A o (some A.heap.size)) (by omega) (by omega) (by omega) (fun cs fz e => by rw [Array.getElem?_eq_none (Nat.le_refl _)] at e; cases e) ⟨y, ?_⟩
    exact (Below.heap_alloc _ o _ hl).trans hy

theorem exK_ok (text : ByteArray) : ∀ k, vld (exK text k).1 = true ∧ (exK text k).2.size ≤ 20000 * k := by
  intro k
  induction k with
  | zero => exact ⟨rfl, Nat.zero_le _⟩
  | succ k ih =>
    cases hx : (linesB text)[k]? with
    | none =>
      have e : exK text (k + 1) = exK text k := by
        unfold exK
        have hn : (lnY [] (lst text)).length ≤ k := by
          unfold linesB at hx
          rw [List.getElem?_map] at hx
          cases hy : (lnY [] (lst text))[k]? with
          | none => simpa using hy
          | some y => rw [hy] at hx; cases hx
        rw [List.take_of_length_le hn, List.take_of_length_le (by omega)]
      rw [e]
      exact ⟨ih.1, by omega⟩
    | some x =>
      rw [exK_step hx]
      unfold wkL
      split
      · have h1 := (lineS_ok (ofL (lst x).dropLast) ih.1).1
        have h2 := lineS_le (line := ofL (lst x).dropLast) ih.1
        refine ⟨h1, ?_⟩
        rw [ByteArray.size_append]
        omega
      · exact ⟨ih.1, by omega⟩
theorem ExI.next {text : ByteArray} {w : World} {k : Nat} {W W1 W2 : World} {x t : ByteArray} {D : Nat} (hD : w.heap.size + 3 ≤ D) (h : ExI text w k W) (hx : (linesB text)[k]? = some x) (hl : (lst x).getLast? = some 10)
    (ht : Turn w.heap.size (ansS (exK text k).1 (cmdS (exK text k).1 (ofL (lst x).dropLast))).1 W W1) (he : t = (ansS (exK text k).1 (cmdS (exK text k).1 (ofL (lst x).dropLast))).2 ++ nlT) :
    Lib.IsBuilderF 51 5 (w.heap.size + 1) (w.heap.size + 1) (Lib.byteCells (lst (exK text k).2)) W1 ∧
    (Lib.BuilderAtF 51 5 (w.heap.size + 1) (w.heap.size + 1) (.pointer (some ⟨w.heap.size + 1, 0, none⟩)) (Lib.byteCells (lst (exK text k).2) ++ Lib.strCells t) W2 → Below (w.heap.size + 1) W1 W2 → Lib.OthersKept 5 (some (w.heap.size + 1)) W1 W2 →
      KeepsFrom D W W2 ∧ W2.heap[w.heap.size + 2]? = W.heap[w.heap.size + 2]? ∧ ExI text w (k + 1) W2) := by
  have hb1 := bld_kept h.bld ht.kept (by omega) (.inl (by omega))
  refine ⟨hb1, fun hB hbel hok => ?_⟩
  obtain ⟨y, hy⟩ := h.cb
  have hl2 := (Array.getElem?_eq_some_iff.1 hy).1
  have hy1 : W1.heap[w.heap.size + 2]? = some (.cells #[.string y] 9 (0, 0)) := (ht.kept.block _ hl2 (fun e => by have := Option.some.inj e; omega)).trans hy
  have hy2 : W2.heap[w.heap.size + 2]? = some (.cells #[.string y] 9 (0, 0)) := hok _ _ hy1 (fun e => by have := Option.some.inj e; omega) (fun c fz e => by cases e)
  have ek : exK text (k + 1) = ((ansS (exK text k).1 (cmdS (exK text k).1 (ofL (lst x).dropLast))).1, (exK text k).2 ++ t) := by
    rw [exK_step hx]
    unfold wkL
    rw [if_pos hl, lineS_cmd _ (exK_ok text k).1, he]
  refine ⟨⟨Nat.le_trans ht.kept.size hbel.size, fun j o hj hjo ho => ?_⟩, hy2.trans hy.symm, ?_⟩
  · have hjl := (Array.getElem?_eq_some_iff.1 hjo).1
    exact hok j o ((ht.kept.block j hjl (by intro e; cases e; omega)).trans hjo) (by intro e; cases e; omega) (fun c fz e => by rw [e] at ho; cases ho)
  · have hwb : w.heap.size < w.heap.size + 1 := Nat.lt_succ_self _
    have hbl := hbel.block w.heap.size hwb
    refine ⟨?_, ?_, ⟨y, hy2⟩, ?_⟩
    · rw [ek]
      exact ⟨(World.cell?_of_block (a := ⟨w.heap.size, 0, none⟩) hbl).trans ht.bench.1, (World.frozen?_of_block (a := ⟨w.heap.size, 0, none⟩) hbl).trans ht.bench.2⟩
    · rw [ek, lst_add, Lib.byteCells_append]
      exact .inr hB
    · exact ((h.bel.grown ht.kept h.bel.size (fun j e => by cases e; exact Nat.le_refl _))).trans (hbel.mono (Nat.le_succ _))

set_option maxHeartbeats 1000000 in
theorem implExecute_long (text : ByteArray) (w : World) (ht : text.size ≤ maxLen) (hz : ¬ text.size ≤ 600) :
    Calls Tryz.prog 10 #[.string text] w fun e w' => e = .returned (.string (exS text)) ∧ Below w.heap.size w w' := by
  have e : exS text = longT := by unfold exS; rw [if_pos (by omega)]
  rw [e]
  unfold maxLen at ht
  clear e
  go_enter Tryz.func10, Tryz.ntmps10
  go_wp2
  go_ret
  exact ⟨rfl, Below.refl _ _⟩

set_option maxRecDepth 100000 in
set_option maxHeartbeats 8000000 in
theorem implExecute_short (text : ByteArray) (w : World) (hz : text.size ≤ 600) (hE : Env w) :
    Calls Tryz.prog 10 #[.string text] w fun e w' => e = .returned (.string (exS text)) ∧ Below w.heap.size w w' := by
  have HEE := hide hE
  clear hE
  obtain ⟨r0, hr0⟩ : ∃ r, r = exS text := ⟨_, rfl⟩
  rw [← hr0]
  have HR0 := hide hr0
  clear hr0
  refine (callsIn_wide (n := 4)).1 ?_
  refine callsIn_of_wp_marks Tryz.func10 rfl trivial ?_ rfl
  simp only [Tryz.ntmps10, List.size_toArray, List.length_cons, List.length_nil, Nat.reduceAdd, Nat.reduceSub, Array.replicate_succ, Array.replicate_zero, List.push_toArray, List.append_toArray, List.nil_append, List.cons_append]
  gi_wp2_with (refine ⟨trivial, ?_⟩; gi_at_call 26; refine (lines_in Fence.wide _ trivial rfl _ _).mono ?_; rintro e w3 ⟨rfl, rfl⟩)
  obtain ⟨W0, hW0⟩ : ∃ W, W = ((w.alloc (.cells #[.string ⟨#[]⟩] 48)).alloc (.cells #[.pointer none, .slice none 0 0] 51)).alloc (.cells #[.string text] 9) := ⟨_, rfl⟩
  rw [← hW0]
  have hD : W0.heap.size = w.heap.size + 3 := by rw [hW0]; simp
  have hb1 : Below w.heap.size w W0 := by rw [hW0]; exact (((Below.refl _ _).alloc (Nat.le_refl _) _).alloc (by simp) _).alloc (by simp; omega) _
  have ch : W0.heap[w.heap.size]? = some (.cells #[.string ⟨#[]⟩] 48 (0, 0)) := by
    rw [hW0]
    exact (Below.heap_alloc _ _ _ (by simp; omega)).trans ((Below.heap_alloc _ _ _ (by simp)).trans (World.alloc_heap_new w _))
  have c0 : W0.cell? ⟨w.heap.size, 0, none⟩ = some (.string ⟨#[]⟩) := by unfold World.cell?; rw [ch]; rfl
  have z0 : W0.frozen? ⟨w.heap.size, 0, none⟩ = false := by unfold World.frozen?; rw [ch]; rfl
  have c2 : W0.heap[w.heap.size + 2]? = some (.cells #[.string text] 9 (0, 0)) := by
    rw [hW0]
    have := World.alloc_heap_new ((w.alloc (.cells #[.string ⟨#[]⟩] 48)).alloc (.cells #[.pointer none, .slice none 0 0] 51)) (.cells #[.string text] 9)
    rw [World.size_alloc, World.size_alloc] at this
    exact this
  have c3 : W0.cell? ⟨w.heap.size + 2, 0, none⟩ = some (.string text) := by unfold World.cell?; rw [c2]; rfl
  have z3 : W0.frozen? ⟨w.heap.size + 2, 0, none⟩ = false := by unfold World.frozen?; rw [c2]; rfl
  have b1 : Lib.IsBuilderF 51 5 (w.heap.size + 1) (w.heap.size + 1) [] W0 := by
    have h0 := Lib.IsBuilderF.of (Lib.fresh_isBuilder 51 5 (w.alloc (.cells #[.string ⟨#[]⟩] 48)))
    rw [World.size_alloc] at h0
    rw [hW0]
    exact bld_kept h0 (World.grownBy_alloc _ (.cells #[.string text] 9) (some (w.heap.size + 2))) (by omega) (.inr (fun cs fz e => by rw [Array.getElem?_eq_none (by simp)] at e; cases e))
  have HI0 : Hid (ExI text w 0 W0) := ⟨⟨c0, z0⟩, b1, ⟨_, c2⟩, hb1⟩
  clear hW0 hb1 c0 z0 c2 b1
  refine wpIn_range_cell rfl (by omega) (gf := 49) (lb := #[.pointer (some ⟨w.heap.size + 2, 0, none⟩)]) rfl trivial (enters_of Tryz.func49 (by kernel_rfl) rfl)
    (encs := fun x : ByteArray => #[Value.string x]) (cb := w.heap.size + 2) (xs := linesB text) (by omega) (lines_all (w.heap.size + 2) text (by omega) W0 c3 z3 3 (by omega)) (fun _ => rfl) (ExI text w) (ExI.loop text w _ hD) HI0.out
    (fun x a₁ _ => a₁ = { tmps := #[.string text, undef, .string ⟨#[]⟩, .pointer (some ⟨w.heap.size, 0, none⟩), .pointer (some ⟨w.heap.size + 1, 0, none⟩), .string x, undef, undef, .string text, .int .i64 (text.size : Int),
      .bool (decide (600 < (text.size : Int))), .string text, .func (.func 49) #[] #[.pointer (some ⟨w.heap.size + 2, 0, none⟩)], .string x, undef, undef, undef, undef, undef, undef, undef, undef, undef, undef, undef, undef, undef, undef, undef, undef, undef], defers := [] })
    ?assign (fun _ _ _ _ _ _ h _ _ _ => h) ?body ?done
  case assign =>
    intro l x k W K hI hK
    gi_wp2
    exact hK _ _ (KeepsFrom.refl _ _) rfl hI rfl
  case body =>
    rintro l' k x W a₁ hx hI rfl
    have hxs : x.size ≤ 600 := Nat.le_trans (linesB_size (List.mem_of_getElem? hx)) hz
    have hsuf : Lib.hasSuffix x.data.toList [10] = decide ((lst x).getLast? = some 10) := suf_one _
    have CS := hide (fun W => Tryz.strings_CutSuffix x ⟨#[10]⟩ W (by omega))
    by_cases hl : (lst x).getLast? = some 10
    · have htr : Lib.trimSuffix x.data.toList [10] = (lst x).dropLast := trim_one hl
      rw [show ((⟨#[10]⟩ : ByteArray).data.toList) = [10] from rfl, hsuf, decide_eq_true hl, htr] at CS
      obtain ⟨hv, hob⟩ := exK_ok text k
      have hEW := HEE.out.below hI.bel
      have hts : (ofL (lst x).dropLast).size ≤ 600 := by
        rw [← lst_size, lst_ofL, List.length_dropLast, lst_size]
        omega
      have et : (⟨((lst x).dropLast).toArray⟩ : ByteArray) = ofL (lst x).dropLast := rfl
      have CS' : Hid (∀ W, Calls Tryz.prog 27 #[.string x, .string ⟨#[10]⟩] W fun e w' => e = .returned (.tuple #[.string (ofL (lst x).dropLast), .bool true]) ∧ w' = W) := CS.out
      have CA := hide (answer_any w.heap.size (exK text k).1 (ofL (lst x).dropLast) W hts hv hI.bench hEW)
      have hsz : (ansS (exK text k).1 (cmdS (exK text k).1 (ofL (lst x).dropLast))).2.size + 1 ≤ 20000 := by
        have := lineS_le (line := ofL (lst x).dropLast) hv
        rw [lineS_cmd _ hv, ByteArray.size_append] at this
        exact this
      have NX := hide (fun (W1 W2 : World) (ht : Turn w.heap.size (ansS (exK text k).1 (cmdS (exK text k).1 (ofL (lst x).dropLast))).1 W W1) => ExI.next (W2 := W2) (D := w.heap.size + 3) (Nat.le_refl _) hI hx hl ht rfl)
      have hkc : k < (linesB text).length := (List.getElem?_eq_some_iff.1 hx).1
      have hct := linesB_count text
      have hln : (Lib.byteCells (lst (exK text k).2)).length ≤ 20000 * 600 := by
        rw [Lib.byteCells_length, lst_size]
        exact Nat.le_trans hob (Nat.mul_le_mul_left _ (by omega))
      have hbw : w.heap.size + 1 ≤ W.heap.size := hI.bench.lt
      unfold AnsPost at CA
      generalize ansS (exK text k).1 (cmdS (exK text k).1 (ofL (lst x).dropLast)) = q at CA hsz NX
      obtain ⟨q1, q2⟩ := q
      generalize ofL (lst x).dropLast = t at CS' CA
      clear CS et hts hob hv hsuf hl hx hI hct hkc hEW
      have hsz' : q2.size + 1 ≤ 20000 := hsz
      have g1 : ¬ 9223372036854775807 < q2.size + 1 := by omega
      have hlw : (Lib.byteCells (lst (exK text k).2)).length + (q2 ++ (⟨#[10]⟩ : ByteArray)).size ≤ 140737488355328 := by
        rw [ByteArray.size_append]
        show _ + (q2.size + 1) ≤ _
        omega
      clear htr
      gi_wp2_with (first
        | (refine ⟨trivial, ?_⟩; gi_at_call 27; refine (CallsIn.inRound l' (callsIn_wide.2 (CS'.out _))).mono ?_; rintro e W1 ⟨rfl, rfl⟩)
        | (refine ⟨trivial, ?_⟩; gi_at_call 29; refine (CallsIn.inRound l' (callsIn_wide.2 CA.out)).mono ?_; rintro e W1 ⟨rfl, ht⟩; have HX := hide (fun W2 => NX.out W1 W2 ht); have hbw1 := ht.kept.size; clear ht)
        | (refine ⟨trivial, ?_⟩; gi_at_call 28; refine (CallsIn.inRound l' (callsIn_wide.2 (writeString_any (w.heap.size + 1) (w.heap.size + 1) _ _ W1 (HX.out W1).1 hlw (by omega)))).mono ?_; rintro e W2 ⟨rfl, hB2, hbel, hok⟩; have fin := (HX.out W2).2 hB2 hbel hok; clear hB2 hbel hok)
        | fail)
      first | exact fin | (rw [hD]; exact fin)
    · rw [show ((⟨#[10]⟩ : ByteArray).data.toList) = [10] from rfl, hsuf, decide_eq_false hl] at CS
      have hI1 : Hid (ExI text w (k + 1) W) := by
        have e : exK text (k + 1) = exK text k := by rw [exK_step hx]; unfold wkL; rw [if_neg hl]
        exact ⟨by rw [e]; exact hI.bench, by rw [e]; exact hI.bld, hI.cb, hI.bel⟩
      obtain ⟨t, ht⟩ : ∃ t : ByteArray, t = ⟨(Lib.trimSuffix x.data.toList [10]).toArray⟩ := ⟨_, rfl⟩
      rw [← ht] at CS
      clear hsuf hl hx hI ht
      gi_wp2_with (refine ⟨trivial, ?_⟩; gi_at_call 27; refine (CallsIn.inRound l' (callsIn_wide.2 (CS.out _))).mono ?_; rintro e W1 ⟨rfl, rfl⟩)
      exact ⟨KeepsFrom.refl _ _, rfl, hI1.out⟩
  case done =>
    rintro D W hD2 hI hK
    obtain ⟨hv, hob⟩ := exK_ok text (linesB text).length
    have hct := linesB_count text
    have HE : Hid (r0 = endS (exK text (linesB text).length).1 (exK text (linesB text).length).2) := by
      show _ = _
      rw [HR0.out]
      unfold exS
      rw [if_neg (by omega), exK_end]
    have hln : (Lib.byteCells (lst (exK text (linesB text).length).2)).length ≤ 20000 * 600 := by
      rw [Lib.byteCells_length, lst_size]
      exact Nat.le_trans hob (Nat.mul_le_mul_left _ (by omega))
    have hrs := rowS_le hv
    obtain ⟨hB, hbl, ⟨y, hcb⟩, hbel⟩ := hI
    have hbc := hB.1
    have hBL := hide hbl
    have HBB := hide hbel
    have HK := hide hK
    have hbw := hB.lt
    generalize exK text (linesB text).length = q at hv hrs hln hBL hbc HE
    obtain ⟨s1, o1⟩ := q
    have hln' : (Lib.byteCells (lst o1)).length ≤ 20000 * 600 := hln
    have CR := hide (fun W => rowText_any s1 W)
    have HE' : Hid (r0 = o1 ++ rowT ++ rowS s1 ++ nlT) := HE
    have hrs' : (rowS s1).size ≤ 120 := hrs
    have hbc' : W.cell? ⟨w.heap.size, 0, none⟩ = some (.string s1) := hbc
    generalize rowS s1 = r at hrs' CR HE'
    have f1 : ¬ 9223372036854775807 < 4 + r.size := by omega
    have f2 : ¬ 9223372036854775807 < 4 + r.size + 1 := by omega
    have hlw : (Lib.byteCells (lst o1)).length + ((⟨#[114, 111, 119, 32]⟩ : ByteArray) ++ r ++ ⟨#[10]⟩).size ≤ 140737488355328 := by
      rw [ByteArray.size_append, ByteArray.size_append]
      show _ + (4 + r.size + 1) ≤ _
      omega
    have CW := hide (writeString_any (w.heap.size + 1) (w.heap.size + 1) _ ((⟨#[114, 111, 119, 32]⟩ : ByteArray) ++ r ++ ⟨#[10]⟩) W hBL.out hlw hbw)
    have HRE : Hid (⟨(lst o1 ++ ((⟨#[114, 111, 119, 32]⟩ : ByteArray) ++ r ++ ⟨#[10]⟩).data.toList).toArray⟩ = r0) := by
      show _ = _
      rw [HE'.out]
      apply lst_inj
      show _ ++ lst _ = _
      simp only [lst_add, List.append_assoc]
      rfl
    have CT := hide (fun W2 (h : Lib.BuilderAtF 51 5 (w.heap.size + 1) (w.heap.size + 1) (.pointer (some ⟨w.heap.size + 1, 0, none⟩)) (Lib.byteCells (lst o1) ++ Lib.strCells ((⟨#[114, 111, 119, 32]⟩ : ByteArray) ++ r ++ ⟨#[10]⟩)) W2) (hs : w.heap.size + 1 ≤ W2.heap.size) =>
      (Tryz.Builder_String_any_k (w.heap.size + 1) (w.heap.size + 1) (lst o1 ++ ((⟨#[114, 111, 119, 32]⟩ : ByteArray) ++ r ++ ⟨#[10]⟩).data.toList) W2 (by rw [Lib.byteCells_append]; exact .inr h) hs).mono
        (R' := fun e w' => e = .returned (.string r0) ∧ Below (w.heap.size + 1) W2 w' ∧ Lib.OthersKept 5 (some (w.heap.size + 1)) W2 w') (fun e w' h => ⟨h.1.trans (by rw [HRE.out]), h.2.2⟩))
    have HD3 : Hid (∀ W2 W3, Lib.OthersKept 5 (some (w.heap.size + 1)) W W2 → Lib.OthersKept 5 (some (w.heap.size + 1)) W2 W3 → W3.heap[D]? = some (.deferred (some []))) := fun W2 W3 k1 k2 => by
      have hne : some D ≠ some (w.heap.size + 1) := fun e => by have := Option.some.inj e; omega
      exact k2 _ _ (k1 _ _ hK hne (fun c fz e => by cases e)) hne (fun c fz e => by cases e)
    clear hB hbl hbel hK hv hct hob c3 z3 HI0 ch hrs hln HE hbc hcb
    gi_wp2_with (first
      | (refine ⟨trivial, ?_⟩; gi_at_call 30; refine (callsIn_wide.2 (CR.out _)).mono ?_; rintro e W1 ⟨rfl, rfl⟩)
      | (refine ⟨trivial, ?_⟩; gi_at_call 28; refine (callsIn_wide.2 CW.out).mono ?_; rintro e W2 ⟨rfl, hB2, hbel2, hok2⟩; have HT := hide (CT.out W2 hB2 (Nat.le_trans hbw hbel2.size)); have HB2 := hide hbel2; have HO2 := hide hok2; clear hB2 hbel2 hok2)
      | (refine ⟨trivial, ?_⟩; gi_at_call 31; refine (callsIn_wide.2 HT.out).mono ?_; rintro e W3 ⟨rfl, hbel3, hok3⟩; have HB3 := hide hbel3; have HK3 := hide (HD3.out W2 W3 HO2.out hok3); clear hbel3 hok3)
      | fail)
    refine ⟨by simp, .inl ⟨_, _, rfl, run_takeDeferred HK3.out, ?_⟩⟩
    refine ⟨_, results_tmp rfl _ _ _, rfl, ?_⟩
    have b3 : Below w.heap.size w W3 := HBB.out.trans ((HB2.out.trans (HB3.out.mono (Nat.le_refl _))).mono (Nat.le_succ _))
    exact b3.trans (belowK_b (w := w) (Nat.le_refl _) W3 D _ _ (by omega) HK3.out rfl rfl)

theorem implExecute_any (text : ByteArray) (w : World) (ht : text.size ≤ maxLen) (hE : Env w) :
    Calls Tryz.prog 10 #[.string text] w fun e w' => e = .returned (.string (exS text)) ∧ Below w.heap.size w w' := by
  by_cases hz : text.size ≤ 600
  · exact implExecute_short text w hz hE
  · exact implExecute_long text w ht hz
end Go.Proofs.YtdooboibmllfkabGreatDoor

namespace Go.Proofs.YtdooboibmllfkabGreatDoor
set_option maxRecDepth 100000
open Go.RowKit

theorem Bytes.below {w w' : World} {a : Option Addr} {len : Nat} {z : List Int} (h : Bytes w a len z) (hb : Below w.heap.size w w') : Bytes w' a len z := by
  intro h0
  obtain ⟨b, off, h1, h2, h3⟩ := h h0
  exact ⟨b, off, h1, Nat.lt_of_lt_of_le h2 hb.size, fun j hj => ⟨(hb.cell (p := ⟨b, off + j, none⟩) h2).trans (h3 j hj).1, (h3 j hj).2⟩⟩

def DrawnRoom (w : World) (R : Nat) (a : Option Addr) (len cap : Nat) (z : List Int) (p : Nat) (e : Ending) (w' : World) : Prop :=
  ∃ (v : Int) (q : Nat), e = .returned (.int .i64 v) ∧ -1 ≤ v ∧ v ≤ 201 ∧ q ≤ p + 2 ∧ Rd w' R a len cap z q ∧ Below R w w' ∧ w.grownBy w' (some R)

theorem grown_cell {w w' : World} {R g j : Nat} {v : Value} (hg : w.grownBy w' (some R)) (hne : g ≠ R) (h : w.cell? ⟨g, j, none⟩ = some v) : w'.cell? ⟨g, j, none⟩ = some v :=
  (World.cell?_of_block (a := ⟨g, j, none⟩) (hg.block g (World.block_lt_of_cell? w _ h) (by intro e; injection e with e; exact hne e))).trans h
theorem lit3 (w : World) (t : TypeId) (p : Nat) (h : p < 3) : ∃ x : Int, -1 ≤ x ∧ x ≤ 201 ∧ (w.alloc (.cells #[.int .i64 0, .int .i64 201, .int .i64 (-1)] t)).cell? ⟨w.heap.size, p, none⟩ = some (.int .i64 x) := by
  rcases (show p = 0 ∨ p = 1 ∨ p = 2 by omega) with rfl | rfl | rfl
  · exact ⟨0, by omega, by omega, by rw [World.cell?_alloc_at _ _ _ _ rfl]; rfl⟩
  · exact ⟨201, by omega, by omega, by rw [World.cell?_alloc_at _ _ _ _ rfl]; rfl⟩
  · exact ⟨-1, by omega, by omega, by rw [World.cell?_alloc_at _ _ _ _ rfl]; rfl⟩
theorem lit6 (w : World) (t : TypeId) (p : Nat) (h : p < 6) : ∃ x : Int, -1 ≤ x ∧ x ≤ 201 ∧ (w.alloc (.cells #[.int .i64 1, .int .i64 2, .int .i64 3, .int .i64 4, .int .i64 5, .int .i64 200] t)).cell? ⟨w.heap.size, p, none⟩ = some (.int .i64 x) := by
  rcases (show p = 0 ∨ p = 1 ∨ p = 2 ∨ p = 3 ∨ p = 4 ∨ p = 5 by omega) with rfl | rfl | rfl | rfl | rfl | rfl
  · exact ⟨1, by omega, by omega, by rw [World.cell?_alloc_at _ _ _ _ rfl]; rfl⟩
  · exact ⟨2, by omega, by omega, by rw [World.cell?_alloc_at _ _ _ _ rfl]; rfl⟩
  · exact ⟨3, by omega, by omega, by rw [World.cell?_alloc_at _ _ _ _ rfl]; rfl⟩
  · exact ⟨4, by omega, by omega, by rw [World.cell?_alloc_at _ _ _ _ rfl]; rfl⟩
  · exact ⟨5, by omega, by omega, by rw [World.cell?_alloc_at _ _ _ _ rfl]; rfl⟩
  · exact ⟨200, by omega, by omega, by rw [World.cell?_alloc_at _ _ _ _ rfl]; rfl⟩

set_option maxHeartbeats 1000000 in
theorem l91Room_any (w : World) (R : Nat) (a : Option Addr) (len cap : Nat) (z : List Int) (p : Nat) (hrd : Rd w R a len cap z p) (hp : p ≤ 1000) :
    Calls Tryz.prog 42 #[.pointer (some ⟨R, 0, none⟩)] w (DrawnRoom w R a len cap z p) := by
  have hlt := hrd.lt
  go_enter Tryz.func42, Tryz.ntmps42
  go_wp2_with fail
  refine (pick2_any w R a len cap z p 24 hrd (by omega) (by omega) (by omega)).mono ?_
  rintro e w1 ⟨v, rfl, hv0, hv1, hr1, hb1, hz1, hg1⟩
  have hR1 : R < w1.heap.size := by omega
  have HB1 := hide hb1
  have HG1 := hide hg1
  clear hrd hg1 hz1 hb1
  by_cases h0 : v = 0
  · subst h0
    go_wp2_with fail
    refine (pick2_any (w1.alloc (.cells #[.int .i64 0, .int .i64 201, .int .i64 (-1)] 3)) R a len cap z (p + 1) 3 (hr1.below ((Below.refl (R + 1) w1).alloc hR1 _) (Nat.lt_succ_self R)) (by omega) (by omega) (by omega)).mono ?_
    rintro e w2 ⟨v, rfl, a0, a1, hr2, hb2, hz2, hg2⟩
    obtain ⟨j, rfl⟩ := Int.eq_ofNat_of_zero_le a0
    obtain ⟨x, x0, x1, hc⟩ := lit3 w1 3 j (by omega)
    have hc2 := grown_cell hg2 (by omega) hc
    have i0 : (0 : Int) ≤ (j : Int) := by omega
    have HB2 := hide ((HB1.out.alloc (by omega) (.cells #[.int .i64 0, .int .i64 201, .int .i64 (-1)] 3)).trans hb2)
    have HR2 := hide hr2
    have HG2 := hide ((HG1.out.trans (World.grownBy_alloc w1 _ _)).trans hg2)
    clear hc hg2 hz2 hb2 hr2 hr1
    go_wp2_with fail
    go_ret
    exact ⟨x, _, rfl, x0, x1, Nat.le_refl _, HR2.out, HB2.out, HG2.out⟩
  · have hv : ((v : Int) == 0) = false := beq_eq_false_iff_ne.2 h0
    go_wp2_with fail
    refine (pick2_any (w1.alloc (.cells #[.int .i64 1, .int .i64 2, .int .i64 3, .int .i64 4, .int .i64 5, .int .i64 200] 3)) R a len cap z (p + 1) 6 (hr1.below ((Below.refl (R + 1) w1).alloc hR1 _) (Nat.lt_succ_self R)) (by omega) (by omega) (by omega)).mono ?_
    rintro e w2 ⟨v', rfl, a0, a1, hr2, hb2, hz2, hg2⟩
    obtain ⟨j, rfl⟩ := Int.eq_ofNat_of_zero_le a0
    obtain ⟨x, x0, x1, hc⟩ := lit6 w1 3 j (by omega)
    have hc2 := grown_cell hg2 (by omega) hc
    have i0 : (0 : Int) ≤ (j : Int) := by omega
    have HB2 := hide ((HB1.out.alloc (by omega) (.cells #[.int .i64 1, .int .i64 2, .int .i64 3, .int .i64 4, .int .i64 5, .int .i64 200] 3)).trans hb2)
    have HR2 := hide hr2
    have HG2 := hide ((HG1.out.trans (World.grownBy_alloc w1 _ _)).trans hg2)
    clear hc hg2 hz2 hb2 hr2 hr1
    go_wp2_with fail
    go_ret
    exact ⟨x, _, rfl, x0, x1, Nat.le_refl _, HR2.out, HB2.out, HG2.out⟩
end Go.Proofs.YtdooboibmllfkabGreatDoor

namespace Go.Proofs.YtdooboibmllfkabGreatDoor
set_option maxRecDepth 100000
open Go.RowKit

def DrawnGiven (w : World) (e : Ending) (w' : World) : Prop := ∃ (s : ByteArray) (n : Int), e = .returned (.tuple #[.string s, .int .i64 n]) ∧ s.size ≤ 300 ∧ -1 ≤ n ∧ n ≤ 201 ∧ Below w.heap.size w w'

set_option maxHeartbeats 400000 in
theorem l91Given_any (a : Option Addr) (len cap : Nat) (z : List Int) (w : World) (hlen : len ≤ 1048576) (hcap : len ≤ cap) (hb : Bytes w a len z) :
    Calls Tryz.prog 18 #[.slice a len cap] w (DrawnGiven w) := by
  go_enter Tryz.func18, Tryz.ntmps18
  go_wp2_with fail
  refine (l6Open_any a len cap z w hlen hcap hb).mono ?_
  rintro e w1 ⟨rfl, hr, hb1, hz1⟩
  go_wp2_with fail
  refine (l91Row_any w1 w.heap.size a _ cap z 0 hr (by omega)).mono ?_
  rintro e w2 ⟨s, q, rfl, hs, hq, hr2, hb2, hz2⟩
  go_wp2_with fail
  refine (l91Room_any w2 w.heap.size a _ cap z q hr2 (by omega)).mono ?_
  rintro e w3 ⟨n, q3, rfl, n0, n1, hq3, hr3, hb3, _⟩
  go_wp2_with fail
  go_ret2
  exact ⟨s, n, rfl, hs, n0, n1, (hb1.trans hb2).trans hb3⟩

theorem DrawStepOf_any (a : Option Addr) (len cap : Nat) (z : List Int) (w : World) (hlen : len ≤ 1048576) (hcap : len ≤ cap) (hb : Bytes w a len z) :
    Calls Tryz.prog 6 #[.slice a len cap] w (DrawnGiven w) := by
  go_enter Tryz.func6, Tryz.ntmps6
  go_wp2_with fail
  refine (l91Given_any a len cap z w hlen hcap hb).mono ?_
  rintro e w1 ⟨s, n, rfl, hs, n0, n1, hb1⟩
  go_wp2_with fail
  go_ret2
  exact ⟨s, n, rfl, hs, n0, n1, hb1⟩
end Go.Proofs.YtdooboibmllfkabGreatDoor

namespace Go.Proofs.YtdooboibmllfkabGreatDoor
set_option maxRecDepth 100000
open Go.RowKit

end Go.Proofs.YtdooboibmllfkabGreatDoor
