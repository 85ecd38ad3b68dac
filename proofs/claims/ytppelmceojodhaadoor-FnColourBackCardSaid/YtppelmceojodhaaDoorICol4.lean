/- THE WALKS of the method move of each colour and of the program's method movedBack. -/
import Derived.Test.YtppelmceojodhaaDoorICol3
namespace Go.Proofs.YtppelmceojodhaaDoor
open Go.RowKit Go.Lib

theorem own_mono {w : World} {B B' e size n : Nat} {v : Value} {xs : List Value} (h : w.ownsRow B e size v n xs) (hB : B' ≤ B) : w.ownsRow B' e size v n xs :=
  ⟨h.1, h.2.imp (fun h => h) (fun ⟨g, cap, cur, a, b, r⟩ => ⟨g, cap, cur, a, Nat.le_trans hB b, r⟩)⟩
theorem OwnC.mono {B B' : Nat} {w : World} {v : Value} {l : List UInt8} (h : OwnC B w v l) (hB : B' ≤ B) : OwnC B' w v l := by
  obtain ⟨g, cp, h1, h2, h3, h4, h5, h6⟩ := h
  exact ⟨g, cp, h1, Nat.le_trans hB h2, h3, h4, h5, own_mono h6 hB⟩

/-- what the method move of a colour does -/
def MoveSpec (f : FuncId) (c : UInt8) : Prop := ∀ (g n cap : Nat) (l : List UInt8) (w : World), l.length = n → n ≤ 120 → (∀ x ∈ l, sg3 x = true) → CellsAt w g (cV l) →
    Calls Tryd.prog f #[.agg #[], .slice (some ⟨g, 0, none⟩) n cap] w fun e w' => ∃ v, e = .returned v ∧ OwnC w.heap.size w' v (mvU c l) ∧ Below w.heap.size w w'

set_option maxHeartbeats 1000000 in
theorem move1_any (c : UInt8) (hcc : c = 49) : MoveSpec 82 c := by
  intro g n cap l w hl hm hsg hcs
  have hc3 : sg3 c = true := by rw [hcc]; rfl
  have hc : c ≠ 48 := by rw [hcc]; decide
  have C := hide (movedC_any g n cap c l (w.alloc (.cells #[] 67)) hl hm hsg hc3 hc (hcs.alloc _))
  rw [show cv c = .iface 67 (.agg #[]) by rw [hcc]; rfl] at C
  clear hsg hcs hcc hc3 hc
  go_enter Tryd.func82, Tryd.ntmps82
  go_wp2_with (go_at_call 83; refine C.out.mono ?_; rintro e w1 ⟨v, rfl, ho1, hb1⟩)
  go_ret
  exact ⟨_, rfl, ho1.mono (by simp), ((Below.refl _ w).alloc (Nat.le_refl _) _).trans (hb1.mono (by simp))⟩
set_option maxHeartbeats 1000000 in
theorem move2_any (c : UInt8) (hcc : c = 50) : MoveSpec 84 c := by
  intro g n cap l w hl hm hsg hcs
  have hc3 : sg3 c = true := by rw [hcc]; rfl
  have hc : c ≠ 48 := by rw [hcc]; decide
  have C := hide (movedC_any g n cap c l (w.alloc (.cells #[] 68)) hl hm hsg hc3 hc (hcs.alloc _))
  rw [show cv c = .iface 68 (.agg #[]) by rw [hcc]; rfl] at C
  clear hsg hcs hcc hc3 hc
  go_enter Tryd.func84, Tryd.ntmps84
  go_wp2_with (go_at_call 83; refine C.out.mono ?_; rintro e w1 ⟨v, rfl, ho1, hb1⟩)
  go_ret
  exact ⟨_, rfl, ho1.mono (by simp), ((Below.refl _ w).alloc (Nat.le_refl _) _).trans (hb1.mono (by simp))⟩
set_option maxHeartbeats 1000000 in
theorem move3_any (c : UInt8) (hcc : c = 51) : MoveSpec 85 c := by
  intro g n cap l w hl hm hsg hcs
  have hc3 : sg3 c = true := by rw [hcc]; rfl
  have hc : c ≠ 48 := by rw [hcc]; decide
  have C := hide (movedC_any g n cap c l (w.alloc (.cells #[] 69)) hl hm hsg hc3 hc (hcs.alloc _))
  rw [show cv c = .iface 69 (.agg #[]) by rw [hcc]; rfl] at C
  clear hsg hcs hcc hc3 hc
  go_enter Tryd.func85, Tryd.ntmps85
  go_wp2_with (go_at_call 83; refine C.out.mono ?_; rintro e w1 ⟨v, rfl, ho1, hb1⟩)
  go_ret
  exact ⟨_, rfl, ho1.mono (by simp), ((Below.refl _ w).alloc (Nat.le_refl _) _).trans (hb1.mono (by simp))⟩

/-- a row of boxes in a block of its own, told by its cells -/
def HasC (B : Nat) (w : World) (v : Value) (l : List UInt8) : Prop := ∃ g cp, v = .slice (some ⟨g, 0, none⟩) l.length cp ∧ B ≤ g ∧ g < w.heap.size ∧ l.length ≤ cp ∧ cp ≤ maxLen ∧ CellsAt w g (cV l)
theorem HasC.mono {B B' : Nat} {w : World} {v : Value} {l : List UInt8} (h : HasC B w v l) (hB : B' ≤ B) : HasC B' w v l := by
  obtain ⟨g, cp, h1, h2, h3⟩ := h
  exact ⟨g, cp, h1, Nat.le_trans hB h2, h3⟩
theorem OwnC.has {B : Nat} {w : World} {v : Value} {l : List UInt8} (h : OwnC B w v l) : HasC B w v l := by
  obtain ⟨g, cp, h1, h2, h3, h4, h5, h6⟩ := h
  subst h1
  exact ⟨g, cp, rfl, h2, h3, h4, h5, CellsAt.of_owns h6⟩
theorem HasC.below {B : Nat} {w w' : World} {v : Value} {l : List UInt8} (h : HasC B w v l) (hb : Below w.heap.size w w') : HasC B w' v l := by
  obtain ⟨g, cp, h1, h2, h3, h4, h5, h6⟩ := h
  exact ⟨g, cp, h1, h2, Nat.lt_of_lt_of_le h3 hb.size, h4, h5, h6.below hb h3⟩

/-- an interface value of a colour: its method is found -/
structure MoveAt (u : TypeId) (f : FuncId) (c : UInt8) : Prop where
  spec : MoveSpec f c
  meth : ∀ W : World, (method 218 u (.agg #[]) "loop.example/boxball/impl.move").run Tryd.prog W = .ok (f, .agg #[]) W
  ent : ∀ args W, (callFunc f args).run Tryd.prog W = .ok (.enter f args) W
  val : cv c = .iface u (.agg #[])
theorem moveAt1 (c : UInt8) (h : c = 49) : MoveAt 67 82 c :=
  ⟨move1_any c h, fun _ => by kernel_rfl, enters_of Tryd.func82 (by kernel_rfl) rfl, by rw [h]; rfl⟩
theorem moveAt2 (c : UInt8) (h : c = 50) : MoveAt 68 84 c :=
  ⟨move2_any c h, fun _ => by kernel_rfl, enters_of Tryd.func84 (by kernel_rfl) rfl, by rw [h]; rfl⟩
theorem moveAt3 (c : UInt8) (h : c = 51) : MoveAt 69 85 c :=
  ⟨move3_any c h, fun _ => by kernel_rfl, enters_of Tryd.func85 (by kernel_rfl) rfl, by rw [h]; rfl⟩
theorem moveAt (c : UInt8) (h3 : sg3 c = true) (hc : c ≠ 48) : ∃ u f, MoveAt u f c := by -- (for 82 and its like)
  rcases (sg3_iff c).1 h3 with h | h | h | h
  · exact absurd h hc
  · exact ⟨_, _, moveAt1 c h⟩
  · exact ⟨_, _, moveAt2 c h⟩
  · exact ⟨_, _, moveAt3 c h⟩

set_option maxRecDepth 100000 in
set_option maxHeartbeats 1000000 in
theorem movedBack_any (c : UInt8) (hc3 : sg3 c = true) (hc : c ≠ 48) (g n cap : Nat) (l : List UInt8) (w : World) (hl : l.length = n) (hm : n ≤ 120) (hsg : ∀ x ∈ l, sg3 x = true) (hcs : CellsAt w g (cV l)) :
    Calls Tryd.prog 33 #[.slice (some ⟨g, 0, none⟩) n cap, cv c] w fun e w' =>
      ∃ v, e = .returned (.tuple #[v, .bool (cbOk c l)]) ∧ (cbOk c l = true → HasC w.heap.size w' v (bkU c l)) ∧ Below w.heap.size w w' := by
  obtain ⟨u, f, hM⟩ := moveAt c hc3 hc
  have CC := hide (cloneC_any g n cap l w hl (by omega) hcs)
  have HL := hide hl
  have HM := hide hM
  have HSR : Hid (∀ x ∈ l.reverse, sg3 x = true) := fun x hx => hsg x (List.mem_reverse.1 hx)
  have hmeth := hM.meth
  have hent := hM.ent
  rw [hM.val]
  obtain ⟨b, hb⟩ : ∃ b, b = cbOk c l := ⟨_, rfl⟩
  rw [← hb]
  have HOK := hide hb
  clear hl hM hsg hcs hc3 hc hb
  go_enter Tryd.func33, Tryd.ntmps33
  go_wp2_with fail
  refine CC.out.mono ?_
  rintro e w1 ⟨v, rfl, ho1, hb1⟩
  obtain ⟨ga, cp, rfl, hga1, hga2, hcp, hcm, hown⟩ := ho1
  rw [HL.out] at hown hcp ⊢
  have RV := hide (reverseC_any ga n cp w.heap.size l w1 HL.out (by omega) hga1 (CellsAt.of_owns hown))
  clear hown
  go_wp2_with fail
  refine RV.out.mono ?_
  rintro e w2 ⟨rfl, hb2, hc2⟩
  have CM := hide (HM.out.spec ga n cp l.reverse w2 (by rw [List.length_reverse]; exact HL.out) hm HSR.out hc2)
  have HB2 := hide (hb1.trans hb2)
  clear hb1 hb2 hc2
  go_wp2_with fail
  refine CM.out.mono ?_
  rintro e w3 ⟨v3, rfl, ho3, hb3⟩
  have HB3 := hide (HB2.out.trans (hb3.mono HB2.out.size))
  clear hb3
  have HZ2 := hide HB2.out.size
  obtain ⟨gb, cq, rfl, hgb1, hgb2, hcq, hcn, hown3⟩ := ho3
  cases b
  · have hno := bkU_no HOK.out.symm
    rw [HL.out] at hno
    obtain ⟨m, hm2⟩ : ∃ m, m = (mvU c l.reverse).length := ⟨_, rfl⟩
    rw [← hm2] at hno ⊢
    clear hown3 hcq hm2
    have t1 : (n : Int) < (m : Int) := by omega
    go_wp2_with fail
    go_ret2
    exact ⟨_, rfl, fun h => absurd h (by simp), HB3.out⟩
  · obtain ⟨k1, k2⟩ := bkU_ok HOK.out.symm
    rw [HL.out] at k1
    rw [k1] at hown3 hcq ⊢
    have RV2 := hide (reverseC_any gb n cq w.heap.size (mvU c l.reverse) w3 k1 (by omega) (Nat.le_trans HZ2.out hgb1) (CellsAt.of_owns hown3))
    rw [k2] at RV2
    have HG := hide (Nat.le_trans HZ2.out hgb1)
    have HBL := hide (show (bkU c l).length = n by rw [bkU_len]; exact HL.out)
    have HGS := hide hgb2
    clear hown3 k1 k2 hgb1 hgb2
    go_wp2_with fail
    refine RV2.out.mono ?_
    rintro e w4 ⟨rfl, hb4, hc4⟩
    have HB4 := hide (HB3.out.trans hb4)
    have HF := hide (show HasC w.heap.size w4 (.slice (some ⟨gb, 0, none⟩) n cq) (bkU c l) from ⟨gb, cq, by rw [HBL.out], HG.out, Nat.lt_of_lt_of_le HGS.out hb4.size, by rw [HBL.out]; exact hcq, hcn, hc4⟩)
    clear hb4 hc4
    go_wp2_with fail
    go_ret2
    exact ⟨_, rfl, HF.out, HB4.out⟩
end Go.Proofs.YtppelmceojodhaaDoor
