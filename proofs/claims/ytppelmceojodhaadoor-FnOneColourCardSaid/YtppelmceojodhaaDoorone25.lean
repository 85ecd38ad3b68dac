/- TEXTS ICol4, ICol5. -/
import Derived.Test.YtppelmceojodhaaDoorone24
import Derived.Lib.ConvBytes
import Derived.Laws.IdiomStrings
/- THE WALKS of the method move of each colour and of the program's method movedBack. -/
namespace Go.Proofs.YtppelmceojodhaaDoor
open Go.RowKit Go.Lib

theorem own_mono {w : World} {B B' e size n : Nat} {v : Value} {xs : List Value} (h : w.ownsRow B e size v n xs) (hB : B' ≤ B) : w.ownsRow B' e size v n xs :=
  ⟨h.1, h.2.imp (fun h => h) (fun ⟨g, cap, cur, a, b, r⟩ => ⟨g, cap, cur, a, Nat.le_trans hB b, r⟩)⟩
theorem OwnC.mono {B B' : Nat} {w : World} {v : Value} {l : List UInt8} (h : OwnC B w v l) (hB : B' ≤ B) : OwnC B' w v l := by
  obtain ⟨g, cp, h1, h2, h3, h4, h5, h6⟩ := h
  exact ⟨g, cp, h1, Nat.le_trans hB h2, h3, h4, h5, own_mono h6 hB⟩

/-- what the method move of a colour does -/
def MoveSpec (f : FuncId) (c : UInt8) : Prop := ∀ (g n cap : Nat) (l : List UInt8) (w : World), l.length = n → n ≤ 120 → (∀ x ∈ l, sg3 x = true) → CellsAt w g (cV l) →
    Calls Tryd.prog f #[.agg #[], .slice (some ⟨g, 0, none⟩) n cap] w fun e w' => ∃ v, e = .returned v ∧ OwnC w.heap.size w' v (mvU c l) ∧ Below w.heap.size w w'

set_option maxHeartbeats 1000000 in
theorem move1_any (c : UInt8) (hcc : c = 49) : MoveSpec 82 c := by
  intro g n cap l w hl hm hsg hcs
  have hc3 : sg3 c = true := by rw [hcc]; rfl
  have hc : c ≠ 48 := by rw [hcc]; decide
  have C := hide (movedC_any g n cap c l (w.alloc (.cells #[] 67)) hl hm hsg hc3 hc (hcs.alloc _))
  rw [show cv c = .iface 67 (.agg #[]) by rw [hcc]; rfl] at C
  clear hsg hcs hcc hc3 hc
  go_enter Tryd.func82, Tryd.ntmps82
  go_wp2_with (go_at_call 83; refine C.out.mono ?_; rintro e w1 ⟨v, rfl, ho1, hb1⟩)
  go_ret
  exact ⟨_, rfl, ho1.mono (by simp), ((Below.refl _ w).alloc (Nat.le_refl _) _).trans (hb1.mono (by simp))⟩
set_option maxHeartbeats 1000000 in
theorem move2_any (c : UInt8) (hcc : c = 50) : MoveSpec 84 c := by
  intro g n cap l w hl hm hsg hcs
  have hc3 : sg3 c = true := by rw [hcc]; rfl
  have hc : c ≠ 48 := by rw [hcc]; decide
  have C := hide (movedC_any g n cap c l (w.alloc (.cells #[] 68)) hl hm hsg hc3 hc (hcs.alloc _))
  rw [show cv c = .iface 68 (.agg #[]) by rw [hcc]; rfl] at C
  clear hsg hcs hcc hc3 hc
  go_enter Tryd.func84, Tryd.ntmps84
  go_wp2_with (go_at_call 83; refine C.out.mono ?_; rintro e w1 ⟨v, rfl, ho1, hb1⟩)
  go_ret
  exact ⟨_, rfl, ho1.mono (by simp), ((Below.refl _ w).alloc (Nat.le_refl _) _).trans (hb1.mono (by simp))⟩
set_option maxHeartbeats 1000000 in
theorem move3_any (c : UInt8) (hcc : c = 51) : MoveSpec 85 c := by
  intro g n cap l w hl hm hsg hcs
  have hc3 : sg3 c = true := by rw [hcc]; rfl
  have hc : c ≠ 48 := by rw [hcc]; decide
  have C := hide (movedC_any g n cap c l (w.alloc (.cells #[] 69)) hl hm hsg hc3 hc (hcs.alloc _))
  rw [show cv c = .iface 69 (.agg #[]) by rw [hcc]; rfl] at C
  clear hsg hcs hcc hc3 hc
  go_enter Tryd.func85, Tryd.ntmps85
  go_wp2_with (go_at_call 83; refine C.out.mono ?_; rintro e w1 ⟨v, rfl, ho1, hb1⟩)
  go_ret
  exact ⟨_, rfl, ho1.mono (by simp), ((Below.refl _ w).alloc (Nat.le_refl _) _).trans (hb1.mono (by simp))⟩

/-- a row of boxes in a block of its own, told by its cells -/
def HasC (B : Nat) (w : World) (v : Value) (l : List UInt8) : Prop := ∃ g cp, v = .slice (some ⟨g, 0, none⟩) l.length cp ∧ B ≤ g ∧ g < w.heap.size ∧ l.length ≤ cp ∧ cp ≤ maxLen ∧ CellsAt w g (cV l)
theorem HasC.mono {B B' : Nat} {w : World} {v : Value} {l : List UInt8} (h : HasC B w v l) (hB : B' ≤ B) : HasC B' w v l := by
  obtain ⟨g, cp, h1, h2, h3⟩ := h
  exact ⟨g, cp, h1, Nat.le_trans hB h2, h3⟩
theorem OwnC.has {B : Nat} {w : World} {v : Value} {l : List UInt8} (h : OwnC B w v l) : HasC B w v l := by
  obtain ⟨g, cp, h1, h2, h3, h4, h5, h6⟩ := h
  subst h1
  exact ⟨g, cp, rfl, h2, h3, h4, h5, CellsAt.of_owns h6⟩
theorem HasC.below {B : Nat} {w w' : World} {v : Value} {l : List UInt8} (h : HasC B w v l) (hb : Below w.heap.size w w') : HasC B w' v l := by
  obtain ⟨g, cp, h1, h2, h3, h4, h5, h6⟩ := h
  exact ⟨g, cp, h1, h2, Nat.lt_of_lt_of_le h3 hb.size, h4, h5, h6.below hb h3⟩

/-- an interface value of a colour: its method is found -/
structure MoveAt (u : TypeId) (f : FuncId) (c : UInt8) : Prop where
  spec : MoveSpec f c
  meth : ∀ W : World, (method 218 u (.agg #[]) "loop.example/boxball/impl.move").run Tryd.prog W = .ok (f, .agg #[]) W
  ent : ∀ args W, (callFunc f args).run Tryd.prog W = .ok (.enter f args) W
  val : cv c = .iface u (.agg #[])
theorem moveAt1 (c : UInt8) (h : c = 49) : MoveAt 67 82 c :=
  ⟨move1_any c h, fun _ => by kernel_rfl, enters_of Tryd.func82 (by kernel_rfl) rfl, by rw [h]; rfl⟩
theorem moveAt2 (c : UInt8) (h : c = 50) : MoveAt 68 84 c :=
  ⟨move2_any c h, fun _ => by kernel_rfl, enters_of Tryd.func84 (by kernel_rfl) rfl, by rw [h]; rfl⟩
theorem moveAt3 (c : UInt8) (h : c = 51) : MoveAt 69 85 c :=
  ⟨move3_any c h, fun _ => by kernel_rfl, enters_of Tryd.func85 (by kernel_rfl) rfl, by rw [h]; rfl⟩
theorem moveAt (c : UInt8) (h3 : sg3 c = true) (hc : c ≠ 48) : ∃ u f, MoveAt u f c := by -- (for 82 and its like)
  rcases (sg3_iff c).1 h3 with h | h | h | h
  · exact absurd h hc
  · exact ⟨_, _, moveAt1 c h⟩
  · exact ⟨_, _, moveAt2 c h⟩
  · exact ⟨_, _, moveAt3 c h⟩

set_option maxRecDepth 100000 in
set_option maxHeartbeats 1000000 in
theorem movedBack_any (c : UInt8) (hc3 : sg3 c = true) (hc : c ≠ 48) (g n cap : Nat) (l : List UInt8) (w : World) (hl : l.length = n) (hm : n ≤ 120) (hsg : ∀ x ∈ l, sg3 x = true) (hcs : CellsAt w g (cV l)) :
    Calls Tryd.prog 33 #[.slice (some ⟨g, 0, none⟩) n cap, cv c] w fun e w' =>
      ∃ v, e = .returned (.tuple #[v, .bool (cbOk c l)]) ∧ (cbOk c l = true → HasC w.heap.size w' v (bkU c l)) ∧ Below w.heap.size w w' := by
  obtain ⟨u, f, hM⟩ := moveAt c hc3 hc
  have CC := hide (cloneC_any g n cap l w hl (by omega) hcs)
  have HL := hide hl
  have HM := hide hM
  have HSR : Hid (∀ x ∈ l.reverse, sg3 x = true) := fun x hx => hsg x (List.mem_reverse.1 hx)
  have hmeth := hM.meth
  have hent := hM.ent
  rw [hM.val]
  obtain ⟨b, hb⟩ : ∃ b, b = cbOk c l := ⟨_, rfl⟩
  rw [← hb]
  have HOK := hide hb
  clear hl hM hsg hcs hc3 hc hb
  go_enter Tryd.func33, Tryd.ntmps33
  go_wp2_with fail
  refine CC.out.mono ?_
  rintro e w1 ⟨v, rfl, ho1, hb1⟩
  obtain ⟨ga, cp, rfl, hga1, hga2, hcp, hcm, hown⟩ := ho1
  rw [HL.out] at hown hcp ⊢
  have RV := hide (reverseC_any ga n cp w.heap.size l w1 HL.out (by omega) hga1 (CellsAt.of_owns hown))
  clear hown
  go_wp2_with fail
  refine RV.out.mono ?_
  rintro e w2 ⟨rfl, hb2, hc2⟩
  have CM := hide (HM.out.spec ga n cp l.reverse w2 (by rw [List.length_reverse]; exact HL.out) hm HSR.out hc2)
  have HB2 := hide (hb1.trans hb2)
  clear hb1 hb2 hc2
  go_wp2_with fail
  refine CM.out.mono ?_
  rintro e w3 ⟨v3, rfl, ho3, hb3⟩
  have HB3 := hide (HB2.out.trans (hb3.mono HB2.out.size))
  clear hb3
  have HZ2 := hide HB2.out.size
  obtain ⟨gb, cq, rfl, hgb1, hgb2, hcq, hcn, hown3⟩ := ho3
  cases b
  · have hno := bkU_no HOK.out.symm
    rw [HL.out] at hno
    obtain ⟨m, hm2⟩ : ∃ m, m = (mvU c l.reverse).length := ⟨_, rfl⟩
    rw [← hm2] at hno ⊢
    clear hown3 hcq hm2
    have t1 : (n : Int) < (m : Int) := by omega
    go_wp2_with fail
    go_ret2
    exact ⟨_, rfl, fun h => absurd h (by simp), HB3.out⟩
  · obtain ⟨k1, k2⟩ := bkU_ok HOK.out.symm
    rw [HL.out] at k1
    rw [k1] at hown3 hcq ⊢
    have RV2 := hide (reverseC_any gb n cq w.heap.size (mvU c l.reverse) w3 k1 (by omega) (Nat.le_trans HZ2.out hgb1) (CellsAt.of_owns hown3))
    rw [k2] at RV2
    have HG := hide (Nat.le_trans HZ2.out hgb1)
    have HBL := hide (show (bkU c l).length = n by rw [bkU_len]; exact HL.out)
    have HGS := hide hgb2
    clear hown3 k1 k2 hgb1 hgb2
    go_wp2_with fail
    refine RV2.out.mono ?_
    rintro e w4 ⟨rfl, hb4, hc4⟩
    have HB4 := hide (HB3.out.trans hb4)
    have HF := hide (show HasC w.heap.size w4 (.slice (some ⟨gb, 0, none⟩) n cq) (bkU c l) from ⟨gb, cq, by rw [HBL.out], HG.out, Nat.lt_of_lt_of_le HGS.out hb4.size, by rw [HBL.out]; exact hcq, hcn, hc4⟩)
    clear hb4 hc4
    go_wp2_with fail
    go_ret2
    exact ⟨_, rfl, HF.out, HB4.out⟩
end Go.Proofs.YtppelmceojodhaaDoor

/- THE WALKS of bytes.TrimRight of zeros and of the program's method text of coloured rows. -/
namespace Go.Proofs.YtppelmceojodhaaDoor
open Go.RowKit Go.Lib

theorem madeU8 (n : Nat) : (madeCells (Value.int .u8 0).cells (n * 1)).toList = bV (List.replicate n 0) := by
  rw [Nat.mul_one]
  show (madeCells #[Value.int .u8 0] n).toList = _
  rw [toList_madeCells_one]
  unfold bV
  rw [List.map_replicate]
  rfl
theorem tl_nz_take {l : List UInt8} {k : Nat} (h : l[k]? = some 48) : tl ((nz l).take (k + 1)) = tl ((nz l).take k) := by
  have hk := (List.getElem?_eq_some_iff.1 h).1
  exact tl_take_pred (nz l) k (by rw [nz_length]; exact hk) (by unfold nz; rw [List.getElem?_map, h]; rfl)
theorem tl_nz_stop {l : List UInt8} {k : Nat} {x : UInt8} (h : l[k]? = some x) (hx : x ≠ 48) : tl ((nz l).take (k + 1)) = k + 1 := by
  have hk := (List.getElem?_eq_some_iff.1 h).1
  exact tl_take_stop (nz l) k (by rw [nz_length]; exact hk) (by unfold nz; rw [List.getElem?_map, h]; simpa using hx)

set_option maxRecDepth 100000 in
set_option maxHeartbeats 1000000 in
theorem trimByte_any (g n cap : Nat) (l : List UInt8) (w : World) (hl : l.length = n) (hn : n ≤ cap) (hm : cap ≤ maxLen) (hc : CellsAt w g (bV l)) :
    Calls Tryd.prog 52 #[.slice (some ⟨g, 0, none⟩) n cap, .int .u8 48] w fun e w' => e = .returned (.slice (some ⟨g, 0, none⟩) (cz l).length cap) ∧ w = w' := by
  unfold maxLen at hm
  rw [cz_length]
  have HL := hide hl
  have HC := hide hc
  clear hl hc
  go_enter Tryd.func52, Tryd.ntmps52
  go_wp2
  go_loop [0] (fun sv => ∃ k : Nat, k ≤ n ∧ sv = .slice (some ⟨g, 0, none⟩) k cap ∧ Hid (tl ((nz l).take k) = tl (nz l))) (fun sv => match sv with | .slice _ k _ => k | _ => 0)
  case atStart => exact ⟨n, Nat.le_refl _, rfl, by rw [List.take_of_length_le (by rw [nz_length, HL.out]; exact Nat.le_refl _)]; rfl⟩
  case round =>
    obtain ⟨k, hk, rfl, HT⟩ := hrel
    by_cases hk0 : k = 0
    · subst hk0
      go_wp2
      go_ret
      exact ⟨ret_slice (by rw [← HT.out]; rfl), rfl⟩
    · obtain ⟨j, rfl⟩ : ∃ j, k = j + 1 := ⟨k - 1, by omega⟩
      obtain ⟨x, hx⟩ : ∃ x, l[j]? = some x := ⟨_, List.getElem?_eq_getElem (by rw [HL.out]; omega)⟩
      have hcell := (HC.out j _ (bV_get hx)).1
      by_cases h48 : x = 48
      · subst h48
        have hT := hide ((tl_nz_take hx).symm.trans HT.out)
        have hb : (((48 : UInt8).toNat : Int) == 48) = true := rfl
        have n1 : ((48 : UInt8).toNat : Int) = 48 := rfl
        rw [n1] at hcell
        clear hx hb n1
        go_wp2
        go_round
        case rel => exact ⟨j, by omega, rfl, hT.out⟩
        case measure => simp
      · have hT := hide ((tl_nz_stop hx h48).symm.trans HT.out)
        have hb : ((x.toNat : Int) == 48) = false := by
          have : ¬ (x.toNat : Int) = 48 := fun h => h48 (UInt8.toNat_inj.1 (by show x.toNat = 48; omega))
          simpa using this
        clear hx h48
        go_wp2
        go_ret
        exact ⟨ret_slice hT.out, rfl⟩

set_option maxRecDepth 100000 in
set_option maxHeartbeats 1000000 in
theorem trimRight_any (g n cap : Nat) (l : List UInt8) (w : World) (hl : l.length = n) (hn : n ≤ cap) (hm : cap ≤ maxLen) (hc : CellsAt w g (bV l)) :
    Calls Tryd.prog 44 #[.slice (some ⟨g, 0, none⟩) n cap, .string ⟨#[48]⟩] w fun e w' => e = .returned (.slice (some ⟨g, 0, none⟩) (cz l).length cap) ∧ w = w' := by
  by_cases h0 : n = 0
  · subst h0
    obtain rfl : l = [] := List.eq_nil_of_length_eq_zero hl
    clear hl hc
    go_enter Tryd.func44, Tryd.ntmps44
    go_wp2
    go_ret
    exact ⟨rfl, rfl⟩
  · have C := hide (trimByte_any g n cap l w hl hn hm hc)
    obtain ⟨t, ht⟩ : ∃ t, t = (cz l).length := ⟨_, rfl⟩
    rw [← ht] at C ⊢
    have hn0 : ((n : Int) == 0) = false := beq_eq_false_iff_ne.2 (by omega)
    clear hl hc ht
    go_enter Tryd.func44, Tryd.ntmps44
    go_wp2_with (go_at_call 52; refine C.out.mono ?_; rintro e w' ⟨rfl, rfl⟩)
    go_ret
    exact ⟨rfl, rfl⟩

set_option maxRecDepth 100000 in
set_option maxHeartbeats 1000000 in
theorem textC_any (g n cap : Nat) (l : List UInt8) (w : World) (hl : l.length = n) (hm : n ≤ 240) (hsg : ∀ x ∈ l, sg3 x = true) (hcs : CellsAt w g (cV l)) :
    Calls Tryd.prog 27 #[.slice (some ⟨g, 0, none⟩) n cap] w fun e w' =>
      e = .returned (.tuple #[.string (if (cz l).length ≤ 120 then ofL (cz l) else ByteArray.empty), .bool (decide ((cz l).length ≤ 120))]) ∧ Below w.heap.size w w' := by
  obtain ⟨i0, hi, hz0, hz1, hz2⟩ := info_parts infoU8
  have CN := hide (fun (x : UInt8) (h : sg3 x = true) (w : World) => numberOf_any x w h)
  have HSG := hide hsg
  have HL := hide hl
  obtain ⟨q, hq⟩ : ∃ q, w.heap.size = q := ⟨_, rfl⟩
  have HCS : Hid (∀ W, Below q w W → CellsAt W g (cV l)) := fun W hW => hcs.below' hW (by omega)
  have HQ := hide hq
  obtain ⟨rs, hrs⟩ : ∃ rs, rs = (if (cz l).length ≤ 120 then ofL (cz l) else ByteArray.empty) := ⟨_, rfl⟩
  obtain ⟨rb, hrb⟩ : ∃ rb, rb = decide ((cz l).length ≤ 120) := ⟨_, rfl⟩
  rw [← hrs, ← hrb]
  have HRS := hide hrs
  have HRB := hide hrb
  clear hsg hl hcs hrs hrb
  go_enter Tryd.func27, Tryd.ntmps27
  go_wp2_with (at_make; refine wpList_make_full _ rfl _ _ 22 rfl w.heap.size 5 i0 (.int .u8 0) 1 Tryd.underlying22 hi hz0 hz1 _ _ _ _ n rfl rfl rfl rfl ?b2 ?b3 ?b4 ?_; rotate_right; intro w1 hown hgrow)
  case b2 => rw [hz2]; omega
  case b3 => unfold maxLen; omega
  case b4 => exact Nat.le_refl _
  rw [madeU8] at hown
  have hb1 : Below w.heap.size w w1 := (Below.refl _ _).grown hgrow (Nat.le_refl _) (fun k e => by cases e)
  have hz : w.heap.size < w1.heap.size := (hown.lt _ rfl).2
  have hc1 := CellsAt.of_owns hown
  rw [hq] at hb1 hz hc1
  have HB1 := hide hb1
  have HC1 := hide hc1
  clear hown hgrow hq hb1 hc1 hi hz0 hz1 hz2
  go_loopw [12] (fun iv wr => ∃ k : Nat, k ≤ n ∧ iv = .int .i64 (k : Int) ∧ Hid (Below q w wr) ∧ q < wr.heap.size ∧ ∃ xs : List UInt8, Hid (xs.length = l.length) ∧ Hid (xs.take k = l.take k) ∧ Hid (CellsAt wr q (bV xs))) (fun iv _ => n - (Go.RowKit.intOf iv).toNat)
  case atStart => exact ⟨0, Nat.zero_le _, rfl, HB1, hz, List.replicate n 0, by show _ = _; rw [List.length_replicate]; exact HL.out.symm, rfl, HC1⟩
  case round =>
    obtain ⟨k, hk, rfl, HB, hzr, xs, HX, HT, HC⟩ := hrel
    by_cases hlt : k < n
    · obtain ⟨x, hx⟩ : ∃ x, l[k]? = some x := ⟨_, List.getElem?_eq_getElem (by rw [HL.out]; exact hlt)⟩
      obtain ⟨y, hy⟩ : ∃ y, xs[k]? = some y := ⟨_, List.getElem?_eq_getElem (by rw [HX.out, HL.out]; exact hlt)⟩
      have hsx := HSG.out x (List.mem_of_getElem? hx)
      have hcell := (HCS.out wr HB.out k _ (cV_get hx)).1
      have NX := hide (CN.out x hsx)
      obtain ⟨o1, o2⟩ := HC.out k _ (bV_get hy)
      obtain ⟨vx, hvx⟩ : ∃ vx, vx = cv x := ⟨_, rfl⟩
      rw [← hvx] at hcell NX
      obtain ⟨nx, hnx⟩ : ∃ nx : Int, nx = (x.toNat : Int) - 48 := ⟨_, rfl⟩
      rw [← hnx] at NX
      have w1 : IntKind.u8.wrap nx = nx := by
        rw [hnx]
        rcases (sg3_iff x).1 hsx with h | h | h | h <;> (rw [h]; rfl)
      have w2 : IntKind.u8.wrap (48 + nx) = (x.toNat : Int) := by
        rw [hnx]
        rcases (sg3_iff x).1 hsx with h | h | h | h <;> (rw [h]; rfl)
      have HN := hide (set_take hx HX.out HT.out)
      have HC2 : Hid (CellsAt (wr.setCell ⟨q, k, none⟩ (.int .u8 (x.toNat : Int))) q (bV (xs.set k x))) := by
        show CellsAt _ _ _
        rw [bV_set]
        exact HC.out.set k (by rw [bV_length, HX.out, HL.out]; exact hlt) _
      have HBS := hide (HB.out.setCell (p := ⟨q, k, none⟩) (Nat.le_refl _) (.int .u8 (x.toNat : Int)))
      have HNX := hide hnx
      have HXL : Hid ((xs.set k x).length = l.length) := by show _ = _; rw [List.length_set]; exact HX.out
      clear hx hy hsx hvx hnx
      go_wp2_with (go_at_call 32; refine (NX.out _).mono ?_; rintro e w' ⟨rfl, rfl⟩)
      go_roundw
      case rel => exact ⟨k + 1, by omega, by go_num, HBS.out, by simpa [World.setCell] using hzr, xs.set k x, HXL, HN, HC2⟩
      case measure => simp [Go.RowKit.intOf]; omega
    · have hxs : xs = l := by
        have := HT.out
        rw [List.take_of_length_le (by rw [HX.out, HL.out]; omega), List.take_of_length_le (by rw [HL.out]; omega)] at this
        exact this
      subst hxs
      have CT := hide (trimRight_any q n n xs wr HL.out (Nat.le_refl _) (by unfold maxLen; omega) HC.out)
      have hzle := cz_le xs
      rw [HL.out] at hzle
      obtain ⟨z, hzz⟩ : ∃ z, z = cz xs := ⟨_, rfl⟩
      have hconv : (convert 22 9 (.slice (some ⟨q, 0, none⟩) z.length n)).run Tryd.prog wr = .ok (.string ⟨z.toArray⟩) wr :=
        run_convert_bytes_back (P := Tryd.prog) wr 22 9 5 ⟨q, 0, none⟩ n z Tryd.underlying22 Tryd.underlying5 Tryd.underlying9 (fun j hj => by
          rw [Addr.add_lit, Nat.zero_add]
          refine (HC.out j _ (bV_get ?_)).1
          obtain ⟨r, hr⟩ := cz_eq xs
          rw [← hzz] at hr
          rw [hr, List.getElem?_append_left hj]
          exact List.getElem?_eq_getElem hj)
      have hof : (⟨z.toArray⟩ : ByteArray) = ofL z := rfl
      rw [hof] at hconv
      rw [← hzz] at CT hzle
      have HRS2 : Hid (rs = if z.length ≤ 120 then ofL z else ByteArray.empty) := by show _ = _; rw [hzz]; exact HRS.out
      have HRB2 : Hid (rb = decide (z.length ≤ 120)) := by show _ = _; rw [hzz]; exact HRB.out
      obtain ⟨t, ht⟩ : ∃ t, t = ofL z := ⟨_, rfl⟩
      rw [← ht] at hconv HRS2
      obtain ⟨m, hm2⟩ : ∃ m, m = z.length := ⟨_, rfl⟩
      rw [← hm2] at hconv CT HRS2 HRB2 hzle
      clear hzz hof ht hm2
      by_cases h120 : m ≤ 120
      · have e1 : rs = t := by rw [HRS2.out, if_pos h120]
        have e2 : rb = true := by rw [HRB2.out]; exact decide_eq_true h120
        subst e1 e2
        go_wp2_with fail
        refine CT.out.mono ?_
        rintro e w' ⟨rfl, rfl⟩
        go_wp2_with fail
        go_ret2
        exact ⟨rfl, by have := HB.out; rw [← HQ.out] at this; exact this⟩
      · have e1 : rs = ⟨#[]⟩ := by rw [HRS2.out, if_neg h120]; rfl
        have e2 : rb = false := by rw [HRB2.out]; exact decide_eq_false h120
        subst e1 e2
        go_wp2_with fail
        refine CT.out.mono ?_
        rintro e w' ⟨rfl, rfl⟩
        go_wp2_with fail
        go_ret2
        exact ⟨rfl, by have := HB.out; rw [← HQ.out] at this; exact this⟩
end Go.Proofs.YtppelmceojodhaaDoor
