import Derived.Test.YtlfiipkbkhpmnacShape1
/- THE WALK of the model's ShapeEnergy. -/
namespace Go.Proofs.Ytlfiipkbkhpmnac
open Go.RowKit

/-- a size in its range -/
def szOk (x : Int) : Bool := decide (1 ≤ x) && decide (x ≤ 200)
/-- what ShapeEnergy answers -/
def enOk (l : List Int) (room : Int) : Bool := roomOk room && decide (l.length ≤ 100) && l.all szOk
def enSum (l : List Int) (room : Int) : Int := (l.map fun x => min x room).sum
def enN (l : List Int) (room : Int) : Int := if enOk l room then enSum l room else 0

theorem enSum_take (l : List Int) (room x : Int) (k : Nat) (h : l[k]? = some x) : enSum (l.take (k + 1)) room = enSum (l.take k) room + min x room := by
  obtain ⟨hk, e⟩ := List.getElem?_eq_some_iff.1 h
  unfold enSum
  rw [List.take_succ_eq_append_getElem hk, List.map_append, List.sum_append, e]; simp
theorem enSum_bd (l : List Int) (room : Int) (hr : roomOk room = true) (hl : l.all szOk = true) : 0 ≤ enSum l room ∧ enSum l room ≤ 200 * (l.length : Int) := by
  unfold roomOk at hr
  simp at hr
  induction l with
  | nil => exact ⟨Int.le_refl _, by simp [enSum]⟩
  | cons x t ih =>
    rw [List.all_cons, Bool.and_eq_true] at hl
    obtain ⟨i1, i2⟩ := ih hl.2
    have h1 := hl.1
    unfold szOk at h1
    simp at h1
    have e : enSum (x :: t) room = min x room + enSum t room := by unfold enSum; simp
    rw [e, List.length_cons]
    omega
theorem all_take_succ (l : List Int) (p : Int → Bool) (k : Nat) (x : Int) (h : l[k]? = some x) : (l.take (k + 1)).all p = ((l.take k).all p && p x) := by
  obtain ⟨hk, e⟩ := List.getElem?_eq_some_iff.1 h
  rw [List.take_succ_eq_append_getElem hk, List.all_append, e]; simp

end Go.Proofs.Ytlfiipkbkhpmnac

/- THE WALK of the model's ShapeTime. -/
namespace Go.Proofs.Ytlfiipkbkhpmnac
open Go.RowKit

/-- from a text on, with n steps behind: how many steps until it is apart -/
def tmF : Nat → ByteArray → Nat → Int × Bool
  | 0, _, _ => (0, false)
  | f + 1, s, n => if apOk s then ((n : Int), true) else if stOk s 200 then tmF f (stS s 200) (n + 1) else (0, false)
/-- what ShapeTime answers -/
def tmR (s : ByteArray) : Int × Bool := if vld s then tmF 61 s 0 else (0, false)

set_option maxRecDepth 100000 in
set_option maxHeartbeats 2000000 in
theorem specShapeTime_any (s : ByteArray) (w : World) (hs : s.size ≤ maxLen) :
    Calls Try.prog 18 #[.string s] w fun e w' => e = .returned (.tuple #[.int .i64 (tmR s).1, .bool (tmR s).2]) ∧ Below w.heap.size w w' := by
  unfold tmR
  cases hv : vld s
  · go_enter Try.func18, Try.ntmps18
    go_wp2_with (go_at_call 27; refine (specRowValid_any _ _ hs).mono ?_; rintro e w' ⟨rfl, rfl⟩)
    go_ret2
    exact ⟨rfl, Below.refl _ _⟩
  · rw [if_pos rfl]
    have h120 := vld_le s hv
    obtain ⟨R, hR⟩ : ∃ R, R = tmF 61 s 0 := ⟨_, rfl⟩
    rw [← hR]
    have HR := hide hR
    clear hR
    go_enter Try.func18, Try.ntmps18
    go_wp2_with (go_at_call 27; refine (specRowValid_any _ _ hs).mono ?_; rintro e w' ⟨rfl, rfl⟩)
    go_loopw [0, 4] (fun sv n wr => ∃ (x : ByteArray) (k : Nat), k ≤ 61 ∧ sv = .string x ∧ n = .int .i64 (k : Int) ∧ x.size ≤ 120 ∧ Hid (R = tmF (61 - k) x k) ∧ Hid (Below w.heap.size w wr)) (fun _ n _ => 61 - (intOf n).toNat)
    case atStart => exact ⟨s, 0, Nat.zero_le _, rfl, rfl, h120, HR, Below.refl _ _⟩
    case round =>
      obtain ⟨x, k, hk, rfl, rfl, hx, HE, HBW⟩ := hrel
      have hxm : x.size ≤ maxLen := by unfold maxLen; omega
      by_cases hlt : k ≤ 60
      · have hE : R = if apOk x then ((k : Int), true) else if stOk x 200 then tmF (61 - (k + 1)) (stS x 200) (k + 1) else (0, false) := by
          rw [HE.out, show 61 - k = (61 - (k + 1)) + 1 by omega]; rfl
        have HE2 := hide hE
        have CA := hide (fun w => specShapeApart_any x w hxm)
        have CS := hide (fun w => specStepOf_any x 200 w hxm)
        have hsz := stS_size x 200
        obtain ⟨y, hy⟩ : ∃ y, y = stS x 200 := ⟨_, rfl⟩
        obtain ⟨a, ha⟩ : ∃ a, a = apOk x := ⟨_, rfl⟩
        obtain ⟨b, hb⟩ : ∃ b, b = stOk x 200 := ⟨_, rfl⟩
        rw [← hy, ← ha, ← hb] at HE2
        rw [← ha] at CA
        rw [← hy, ← hb] at CS
        rw [← hy] at hsz
        clear hy ha hb hE HE
        cases a
        · go_wp2_with fail
          refine (CA.out _).mono ?_
          rintro e w1 ⟨rfl, hb1⟩
          have g1 := HBW.out.trans (hb1.mono HBW.out.size)
          clear CA hb1
          cases b
          · have HE3 := hide (HE2.out.trans rfl)
            clear HE2
            go_wp2_with fail
            refine (CS.out _).mono ?_
            rintro e w2 ⟨rfl, hb2⟩
            go_wp2_with fail
            go_ret2
            exact ⟨by rw [HE3.out]; rfl, g1.trans (hb2.mono g1.size)⟩
          · have HE3 := hide (HE2.out.trans rfl)
            clear HE2
            go_wp2_with fail
            refine (CS.out _).mono ?_
            rintro e w2 ⟨rfl, hb2⟩
            have g2 := g1.trans (hb2.mono g1.size)
            clear CS hb2
            go_wp2_with fail
            go_roundw
            case rel => exact ⟨y, k + 1, by omega, rfl, by go_num, hsz, HE3, g2⟩
            case measure => simp [intOf]; omega
        · have HE3 := hide (HE2.out.trans rfl)
          clear HE2 CS
          go_wp2_with fail
          refine (CA.out _).mono ?_
          rintro e w1 ⟨rfl, hb1⟩
          go_wp2_with fail
          go_ret2
          exact ⟨by rw [HE3.out]; rfl, HBW.out.trans (hb1.mono HBW.out.size)⟩
      · have hk61 : k = 61 := by omega
        have HE2 := hide (HE.out.trans (by rw [hk61]; rfl : _ = ((0 : Int), false)))
        go_wp2
        go_ret2
        exact ⟨by rw [HE2.out]; rfl, HBW.out⟩
end Go.Proofs.Ytlfiipkbkhpmnac
