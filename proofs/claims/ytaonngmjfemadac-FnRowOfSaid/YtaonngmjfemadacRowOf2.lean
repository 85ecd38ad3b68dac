/- THE WALKS of RowOf, of the model and of the program. -/
import Derived.Test.YtaonngmjfemadacRowOf
namespace Go.Proofs.Ytaonngmjfemadac
open Go.RowKit

theorem l6In_any (n low high : Int) (b : Bool) (w : World) (hb : (decide (low ≤ n) && decide (n ≤ high)) = b) :
    Calls Try.prog 44 #[.int .i64 n, .int .i64 low, .int .i64 high] w fun e w' => e = .returned (.bool b) ∧ w = w' := by
  by_cases h1 : low ≤ n
  · by_cases h2 : n ≤ high
    · obtain rfl : true = b := by rw [← hb]; simp [h1, h2]
      clear hb
      go_enter Try.func44, Try.ntmps44
      go_wp2
      go_ret
      exact ⟨rfl, rfl⟩
    · obtain rfl : false = b := by rw [← hb]; simp [h2]
      clear hb
      go_enter Try.func44, Try.ntmps44
      go_wp2
      go_ret
      exact ⟨rfl, rfl⟩
  · obtain rfl : false = b := by rw [← hb]; simp [h1]
    clear hb
    go_enter Try.func44, Try.ntmps44
    go_wp2
    go_ret
    exact ⟨rfl, rfl⟩

theorem chars_snoc (h : List Bool) (k : Nat) (b : Bool) (hb : h[k]? = some b) : chars (h.take (k + 1)) = chars (h.take k) ++ [if b then 49 else 48] := by
  obtain ⟨hk, he⟩ := List.getElem?_eq_some_iff.1 hb
  rw [List.take_succ_eq_append_getElem hk, he]; simp [chars]
theorem chars_length (h : List Bool) : (chars h).length = h.length := by simp [chars]
theorem chars_sgn (h : List Bool) : allSgn (chars h) = true := by
  unfold allSgn chars
  rw [List.all_map, List.all_eq_true]
  intro b _
  cases b <;> rfl
theorem bits_chars (h : List Bool) (x : ByteArray) (hx : x.data.toList = chars h) : bits x = h := by
  unfold bits
  rw [hx]; unfold chars
  rw [List.map_map]
  have : h.map ((fun x : UInt8 => x == 49) ∘ fun b => if b = true then 49 else 48) = h.map id := by
    apply List.map_congr_left
    intro b _
    cases b <;> rfl
  rw [this, List.map_id]

set_option maxHeartbeats 400000 in
theorem l1Text_any (g n cap : Nat) (h : List Bool) (w : World) (hl : h.length = n) (hm : n ≤ 1000) (hc : CellsAt w g (h.map .bool)) :
    Calls Try.prog 45 #[.slice (some ⟨g, 0, none⟩) n cap] w fun e w' => (∃ x : ByteArray, e = .returned (.string x) ∧ x.data.toList = chars h) ∧ w = w' := by
  have HL := hide hl
  have HC := hide hc
  clear hl hc
  go_enter Try.func45, Try.ntmps45
  go_wp2
  go_loop [3, 4] (fun o i => ∃ (x : ByteArray) (k : Nat), k ≤ n ∧ o = .string x ∧ i = .int .i64 (k : Int) ∧ x.size ≤ k ∧ Hid (x.data.toList = chars (h.take k))) (fun _ i => n - (intOf i).toNat)
  case atStart => exact ⟨⟨#[]⟩, 0, Nat.zero_le _, rfl, rfl, Nat.zero_le _, rfl⟩
  case round =>
    obtain ⟨x, k, hk, rfl, rfl, hxk, HX⟩ := hrel
    by_cases hlt : k < n
    · obtain ⟨b, hb⟩ : ∃ b, h[k]? = some b := ⟨_, List.getElem?_eq_getElem (by rw [HL.out]; exact hlt)⟩
      have hcell := (HC.out k (.bool b) (by simp [hb])).1
      have HS := hide (chars_snoc h k b hb)
      clear hb
      cases b
      all_goals
        go_wp2
        go_round
        case rel =>
          refine ⟨_, k + 1, by omega, rfl, by go_num, ?_, ?_⟩
          · rw [ByteArray.size_append]; exact Nat.add_le_add_right hxk 1
          · show (x ++ _).data.toList = _
            rw [ByteArray.data_append, Array.toList_append, HX.out, HS.out]; rfl
        case measure => simp [intOf]; omega
    · go_wp2
      go_ret
      exact ⟨⟨x, rfl, by rw [HX.out, List.take_of_length_le (by rw [HL.out]; omega)]⟩, rfl⟩

/-- the loop of RowOf, between two rounds -/
def OfRel (w : World) (q b : Nat) (l : List Int) (i : Value) (wr : World) : Prop :=
  ∃ (k : Nat) (h : List Bool), k ≤ l.length ∧ i = .int .i64 (k : Int) ∧ Hid (h.length = 120) ∧ Hid (ofR none120 l = ofR h (l.drop k)) ∧ Hid (CellsAt wr q (h.map .bool)) ∧ Hid (CellsAt wr b (l.map (.int .i64))) ∧ Hid (Below q w wr)

theorem drop_at (l : List Int) (k : Nat) (x : Int) (hx : l[k]? = some x) : l.drop k = x :: l.drop (k + 1) := by
  obtain ⟨hk, he⟩ := List.getElem?_eq_some_iff.1 hx
  rw [List.drop_eq_getElem_cons hk, he]

set_option maxHeartbeats 1000000 in
theorem specRowOf_none (a : Option Addr) (cap : Nat) (w : World) :
    Calls Try.prog 29 #[.slice a 0 cap] w fun e w' => e = .returned (.tuple #[.string (ofS []), .bool (ofOk [])]) ∧ Below w.heap.size w w' := by
  obtain ⟨i0, hi, hz0, hz1, hz2⟩ := info_parts infoB
  have e1 := (ofS_some (l := []) (b := none120) rfl).1
  have e2 := (ofS_some (l := []) (b := none120) rfl).2
  rw [e1, e2]
  clear e1 e2
  go_enter Try.func29, Try.ntmps29
  go_wp2_with (at_make; refine wpList_make_full _ rfl _ _ 39 rfl w.heap.size 4 i0 (.bool false) 1 Try.underlying39 hi hz0 hz1 _ _ _ _ 120 rfl rfl rfl rfl ?b2 ?b3 ?b4 ?_; rotate_right; intro w1 hown hgrow)
  case b2 => rw [hz2]; omega
  case b3 => unfold maxLen; omega
  case b4 => exact Nat.le_refl _
  rw [madeB] at hown
  have hb1 : Below w.heap.size w w1 := (Below.refl _ _).grown hgrow (Nat.le_refl _) (fun k e => by cases e)
  have hc1 := CellsAt.of_owns hown
  clear hown hgrow
  go_loopw [5] (fun i wr => i = .int .i64 0 ∧ Hid (w1 = wr)) (fun _ _ => 0)
  case atStart => exact ⟨rfl, rfl⟩
  case round =>
    obtain ⟨rfl, HQ⟩ := hrel
    have hw := HQ.out
    subst hw
    go_wp2_with fail
    refine (l1Text_any w.heap.size 120 120 none120 w1 rfl (by omega) hc1).mono ?_
    rintro e w2 ⟨⟨x, rfl, hx⟩, rfl⟩
    have hsz : x.size = 120 := by have := congrArg List.length hx; rw [chars_length] at this; exact this
    go_wp2_with fail
    refine (l1Tidy_any x w1 (by rw [hsz]; unfold maxLen; omega) (by rw [hx]; exact chars_sgn _)).mono ?_
    rintro e w2 ⟨rfl, rfl⟩
    rw [← tidyS_eq x (by rw [hx]; exact chars_sgn _), bits_chars none120 x hx]
    go_wp2_with fail
    go_ret2
    exact ⟨rfl, hb1⟩

set_option maxHeartbeats 1000000 in
theorem specRowOf_some (b cap : Nat) (l : List Int) (w : World) (hl : l.length ≤ 1048576) (hc : CellsAt w b (l.map (.int .i64))) (hb : b < w.heap.size) :
    Calls Try.prog 29 #[.slice (some ⟨b, 0, none⟩) l.length cap] w fun e w' => e = .returned (.tuple #[.string (ofS l), .bool (ofOk l)]) ∧ Below w.heap.size w w' := by
  obtain ⟨i0, hi, hz0, hz1, hz2⟩ := info_parts infoB
  have HC := hide hc
  obtain ⟨n, hn⟩ : ∃ n, n = l.length := ⟨_, rfl⟩
  have HN := hide hn
  rw [← hn] at hl ⊢
  clear hc hn
  go_enter Try.func29, Try.ntmps29
  go_wp2_with (at_make; refine wpList_make_full _ rfl _ _ 39 rfl w.heap.size 4 i0 (.bool false) 1 Try.underlying39 hi hz0 hz1 _ _ _ _ 120 rfl rfl rfl rfl ?b2 ?b3 ?b4 ?_; rotate_right; intro w1 hown hgrow)
  case b2 => rw [hz2]; omega
  case b3 => unfold maxLen; omega
  case b4 => exact Nat.le_refl _
  rw [madeB] at hown
  have hb1 : Below w.heap.size w w1 := (Below.refl _ _).grown hgrow (Nat.le_refl _) (fun k e => by cases e)
  have hc1 := CellsAt.of_owns hown
  have HC1 := hide (HC.out.below hb1 hb)
  clear hown hgrow
  obtain ⟨q, hq⟩ : ∃ q, w.heap.size = q := ⟨_, rfl⟩
  rw [hq] at hb1 hc1 hb ⊢
  have HQ := hide hq
  clear hq
  go_loopw [5] (OfRel w q b l) (fun i _ => n - (intOf i).toNat)
  case atStart => exact ⟨0, none120, Nat.zero_le _, rfl, rfl, rfl, hc1, HC1, hb1⟩
  case round =>
    obtain ⟨k, h, hk, rfl, HH, HF, HX, HI, HB⟩ := hrel
    clear hc1 hb1
    rw [← HN.out] at hk
    have hqb : ¬ q = b := by omega
    by_cases hlt : k < n
    · obtain ⟨x, hx⟩ : ∃ x, l[k]? = some x := ⟨_, List.getElem?_eq_getElem (by rw [← HN.out]; exact hlt)⟩
      have hcx := (HI.out k (.int .i64 x) (by simp [hx])).1
      have HD := hide (drop_at l k x hx)
      clear hx
      by_cases hr : 0 ≤ x ∧ x ≤ 119
      · obtain ⟨m, rfl⟩ : ∃ m : Nat, x = (m : Int) := ⟨x.toNat, by omega⟩
        have hm : m < 120 := by omega
        obtain ⟨y, hy⟩ : ∃ y, h[m]? = some y := ⟨_, List.getElem?_eq_getElem (by rw [HH.out]; exact hm)⟩
        obtain ⟨hcy, hfy⟩ := HX.out m (.bool y) (by simp [hy])
        have HY := hide hy
        have m0 : (0 : Int) ≤ (m : Int) := by omega
        have m1 : (m : Int) < 120 := by omega
        have HIN := hide (fun w => l6In_any (m : Int) 0 119 true w (by simp; omega))
        clear hy hr
        cases y
        · have HG := hide (show ofR none120 l = ofR (h.set m true) (l.drop (k + 1)) by rw [HF.out, HD.out, ofR_good h (m : Int) _ ⟨m0, m1, by rw [Int.toNat_natCast]; exact HY.out⟩, Int.toNat_natCast])
          go_wp2_with (go_at_call 44; refine (HIN.out _).mono ?_; rintro e w' ⟨rfl, rfl⟩)
          go_roundw
          case rel =>
            refine ⟨k + 1, h.set m true, by rw [← HN.out]; omega, by go_num, by simp [Hid, HH.out], HG, ?_, HI.out.far _ (by simpa using hqb) _, HB.out.setCell (Nat.le_refl _) _⟩
            have := HX.out.set m (by simp [HH.out]; exact hm) (.bool true)
            rw [List.map_set]; exact this
          case measure => simp [intOf]; omega
        · have HG := ofS_none (show ofR none120 l = none by rw [HF.out, HD.out, ofR_bad h (m : Int) _ (by rw [Int.toNat_natCast, HY.out]; simp)])
          have HG := hide HG
          go_wp2_with (go_at_call 44; refine (HIN.out _).mono ?_; rintro e w' ⟨rfl, rfl⟩)
          go_ret2
          have hq := HQ.out
          subst hq
          exact ⟨by rw [HG.out.1, HG.out.2]; rfl, HB.out⟩
      · have HG := ofS_none (show ofR none120 l = none by rw [HF.out, HD.out, ofR_bad h x _ (by omega)])
        have HIN := hide (fun w => l6In_any x 0 119 false w (by simp; omega))
        have HG := hide HG
        clear hr
        go_wp2_with (go_at_call 44; refine (HIN.out _).mono ?_; rintro e w' ⟨rfl, rfl⟩)
        go_ret2
        have hq := HQ.out
        subst hq
        exact ⟨by rw [HG.out.1, HG.out.2]; rfl, HB.out⟩
    · have HG := ofS_some (show ofR none120 l = some h by rw [HF.out, List.drop_of_length_le (by rw [← HN.out]; omega)]; rfl)
      have HG := hide HG
      go_wp2_with fail
      refine (l1Text_any q 120 120 h wr HH.out (by omega) HX.out).mono ?_
      rintro e w2 ⟨⟨x, rfl, hx⟩, rfl⟩
      have hsz : x.size = 120 := by have := congrArg List.length hx; rw [chars_length, HH.out] at this; exact this
      go_wp2_with fail
      refine (l1Tidy_any x wr (by rw [hsz]; unfold maxLen; omega) (by rw [hx]; exact chars_sgn _)).mono ?_
      rintro e w2 ⟨rfl, rfl⟩
      rw [← tidyS_eq x (by rw [hx]; exact chars_sgn _), bits_chars h x hx]
      go_wp2_with fail
      go_ret2
      have hq := HQ.out
      subst hq
      exact ⟨by rw [HG.out.1, HG.out.2]; rfl, HB.out⟩

set_option maxHeartbeats 1000000 in
theorem implRowOf_none (a : Option Addr) (cap : Nat) (w : World) :
    Calls Try.prog 21 #[.slice a 0 cap] w fun e w' => e = .returned (.tuple #[.string (ofS []), .bool (ofOk [])]) ∧ Below w.heap.size w w' := by
  obtain ⟨i0, hi, hz0, hz1, hz2⟩ := info_parts infoB
  have e1 := (ofS_some (l := []) (b := none120) rfl).1
  have e2 := (ofS_some (l := []) (b := none120) rfl).2
  rw [e1, e2]
  clear e1 e2
  go_enter Try.func21, Try.ntmps21
  go_wp2_with (at_make; refine wpList_make_full _ rfl _ _ 40 rfl w.heap.size 4 i0 (.bool false) 1 Try.underlying40 hi hz0 hz1 _ _ _ _ 120 rfl rfl rfl rfl ?b2 ?b3 ?b4 ?_; rotate_right; intro w1 hown hgrow)
  case b2 => rw [hz2]; omega
  case b3 => unfold maxLen; omega
  case b4 => exact Nat.le_refl _
  rw [madeB] at hown
  have hb1 : Below w.heap.size w w1 := (Below.refl _ _).grown hgrow (Nat.le_refl _) (fun k e => by cases e)
  have hc1 := CellsAt.of_owns hown
  clear hown hgrow
  go_loopw [10] (fun i wr => i = .int .i64 0 ∧ Hid (w1 = wr)) (fun _ _ => 0)
  case atStart => exact ⟨rfl, rfl⟩
  case round =>
    obtain ⟨rfl, HQ⟩ := hrel
    have hw := HQ.out
    subst hw
    go_wp2_with fail
    refine (text_any w.heap.size 120 120 none120 w1 rfl hc1 (Nat.le_refl _) (by unfold maxLen; omega) (by omega)).mono ?_
    rintro e w2 ⟨rfl, hb2⟩
    go_wp2_with fail
    go_ret2
    exact ⟨rfl, hb1.trans (hb2.mono hb1.size)⟩

set_option maxRecDepth 100000 in
set_option maxHeartbeats 1000000 in
theorem implRowOf_some (b cap : Nat) (l : List Int) (w : World) (hl : l.length ≤ 1048576) (hc : CellsAt w b (l.map (.int .i64))) (hb : b < w.heap.size) :
    Calls Try.prog 21 #[.slice (some ⟨b, 0, none⟩) l.length cap] w fun e w' => e = .returned (.tuple #[.string (ofS l), .bool (ofOk l)]) ∧ Below w.heap.size w w' := by
  obtain ⟨i0, hi, hz0, hz1, hz2⟩ := info_parts infoB
  have HC := hide hc
  obtain ⟨n, hn⟩ : ∃ n, n = l.length := ⟨_, rfl⟩
  have HN := hide hn
  rw [← hn] at hl ⊢
  clear hc hn
  go_enter Try.func21, Try.ntmps21
  go_wp2_with (at_make; refine wpList_make_full _ rfl _ _ 40 rfl w.heap.size 4 i0 (.bool false) 1 Try.underlying40 hi hz0 hz1 _ _ _ _ 120 rfl rfl rfl rfl ?b2 ?b3 ?b4 ?_; rotate_right; intro w1 hown hgrow)
  case b2 => rw [hz2]; omega
  case b3 => unfold maxLen; omega
  case b4 => exact Nat.le_refl _
  rw [madeB] at hown
  have hb1 : Below w.heap.size w w1 := (Below.refl _ _).grown hgrow (Nat.le_refl _) (fun k e => by cases e)
  have hc1 := CellsAt.of_owns hown
  have HC1 := hide (HC.out.below hb1 hb)
  clear hown hgrow
  obtain ⟨q, hq⟩ : ∃ q, w.heap.size = q := ⟨_, rfl⟩
  rw [hq] at hb1 hc1 hb ⊢
  have HQ := hide hq
  clear hq
  go_loopw [10] (OfRel w q b l) (fun i _ => n - (intOf i).toNat)
  case atStart => exact ⟨0, none120, Nat.zero_le _, rfl, rfl, rfl, hc1, HC1, hb1⟩
  case round =>
    obtain ⟨k, h, hk, rfl, HH, HF, HX, HI, HB⟩ := hrel
    clear hc1 hb1
    rw [← HN.out] at hk
    have hqb : ¬ q = b := by omega
    by_cases hlt : k < n
    · obtain ⟨x, hx⟩ : ∃ x, l[k]? = some x := ⟨_, List.getElem?_eq_getElem (by rw [← HN.out]; exact hlt)⟩
      have hcx := (HI.out k (.int .i64 x) (by simp [hx])).1
      have HD := hide (drop_at l k x hx)
      clear hx
      by_cases hr : 0 ≤ x ∧ x ≤ 119
      · obtain ⟨m, rfl⟩ : ∃ m : Nat, x = (m : Int) := ⟨x.toNat, by omega⟩
        have hm : m < 120 := by omega
        obtain ⟨y, hy⟩ : ∃ y, h[m]? = some y := ⟨_, List.getElem?_eq_getElem (by rw [HH.out]; exact hm)⟩
        obtain ⟨hcy, hfy⟩ := HX.out m (.bool y) (by simp [hy])
        have HY := hide hy
        have m0 : (0 : Int) ≤ (m : Int) := by omega
        have m1 : (m : Int) < 120 := by omega
        clear hy hr
        cases y
        · have HG := hide (show ofR none120 l = ofR (h.set m true) (l.drop (k + 1)) by rw [HF.out, HD.out, ofR_good h (m : Int) _ ⟨m0, m1, by rw [Int.toNat_natCast]; exact HY.out⟩, Int.toNat_natCast])
          go_wp2
          go_roundw
          case rel =>
            refine ⟨k + 1, h.set m true, by rw [← HN.out]; omega, by go_num, by simp [Hid, HH.out], HG, ?_, HI.out.far _ (by simpa using hqb) _, HB.out.setCell (Nat.le_refl _) _⟩
            have := HX.out.set m (by simp [HH.out]; exact hm) (.bool true)
            rw [List.map_set]; exact this
          case measure => simp [intOf]; omega
        · have HG := hide (ofS_none (show ofR none120 l = none by rw [HF.out, HD.out, ofR_bad h (m : Int) _ (by rw [Int.toNat_natCast, HY.out]; simp)]))
          go_wp2
          go_ret2
          have hq := HQ.out
          subst hq
          exact ⟨by rw [HG.out.1, HG.out.2]; rfl, HB.out⟩
      · have HG := hide (ofS_none (show ofR none120 l = none by rw [HF.out, HD.out, ofR_bad h x _ (by omega)]))
        by_cases hx0 : x < 0
        · clear hr
          go_wp2
          go_ret2
          have hq := HQ.out
          subst hq
          exact ⟨by rw [HG.out.1, HG.out.2]; rfl, HB.out⟩
        · have hx1 : 120 ≤ x := by omega
          clear hr
          go_wp2
          go_ret2
          have hq := HQ.out
          subst hq
          exact ⟨by rw [HG.out.1, HG.out.2]; rfl, HB.out⟩
    · have HG := hide (ofS_some (show ofR none120 l = some h by rw [HF.out, List.drop_of_length_le (by rw [← HN.out]; omega)]; rfl))
      go_wp2_with fail
      refine (text_any q 120 120 h wr HH.out HX.out (Nat.le_refl _) (by unfold maxLen; omega) (by omega)).mono ?_
      rintro e w2 ⟨rfl, hb2⟩
      go_wp2_with fail
      go_ret2
      have hq := HQ.out
      subst hq
      exact ⟨by rw [HG.out.1, HG.out.2]; rfl, HB.out.trans (hb2.mono HB.out.size)⟩

theorem specRowOf_any {lo : Nat} (v : Value) (l : List Int) (w : World) (hl : l.length ≤ 1048576) (h : IntsV lo w v l) :
    Calls Try.prog 29 #[v] w fun e w' => e = .returned (.tuple #[.string (ofS l), .bool (ofOk l)]) ∧ Below w.heap.size w w' := by
  rcases h with ⟨a, cap, rfl, rfl⟩ | ⟨g, cap, rfl, _, _, hlt, hc⟩
  · exact specRowOf_none a cap w
  · exact specRowOf_some g cap l w hl hc hlt
theorem implRowOf_any {lo : Nat} (v : Value) (l : List Int) (w : World) (hl : l.length ≤ 1048576) (h : IntsV lo w v l) :
    Calls Try.prog 21 #[v] w fun e w' => e = .returned (.tuple #[.string (ofS l), .bool (ofOk l)]) ∧ Below w.heap.size w w' := by
  rcases h with ⟨a, cap, rfl, rfl⟩ | ⟨g, cap, rfl, _, _, hlt, hc⟩
  · exact implRowOf_none a cap w
  · exact implRowOf_some g cap l w hl hc hlt
end Go.Proofs.Ytaonngmjfemadac
