/- TEXTS Draw6, OwnSet, DrawW. -/
import Derived.Test.Ytlgceccbjkkeiaawav40
import Derived.Test.Ytlgceccbjkkeiaawav20
import Derived.Test.Ytlgceccbjkkeiaawav01
import Derived.Test.Ytlgceccbjkkeiaawav21
/- THE WALKS of the drawing of rows and sizes for chapter 3. -/
namespace Go.Proofs.Ytlgceccbjkkeiaa
open Go.RowKit

set_option maxRecDepth 100000 in
set_option maxHeartbeats 400000 in
theorem l1Tidy_len (s : ByteArray) (w : World) (hs : s.size ≤ maxLen) :
    Calls Try.prog 50 #[.string s] w fun e w' => (∃ t : ByteArray, e = .returned (.string t) ∧ t.size ≤ s.size) ∧ w = w' := by
  unfold maxLen at hs
  go_enter Try.func50, Try.ntmps50
  go_wp2
  go_loop [3] (fun i => ∃ k : Nat, k ≤ s.size ∧ i = .int .i64 (k : Int)) (fun i => (Go.RowKit.intOf i).toNat)
  case atStart => exact ⟨s.size, Nat.le_refl _, rfl⟩
  case round =>
    obtain ⟨k, hk, rfl⟩ := hrel
    by_cases hk0 : k = 0
    · subst hk0
      go_wp2
      go_ret
      exact ⟨⟨_, rfl, by simp⟩, rfl⟩
    · obtain ⟨j, rfl⟩ : ∃ j, k = j + 1 := ⟨k - 1, by omega⟩
      have hj : j < s.size := by omega
      cases hb : ((s[j].toNat : Int) == 48)
      · go_wp2
        go_ret
        exact ⟨⟨_, rfl, by simp; omega⟩, rfl⟩
      · go_wp2
        go_round
        case rel => exact ⟨j, by omega, rfl⟩
        case measure => simp [Go.RowKit.intOf]

/-- what the drawing of sizes leaves -/
def DrawnSizes (w : World) (R : Nat) (a : Option Addr) (len cap : Nat) (z : List Int) (p : Nat) (e : Ending) (w' : World) : Prop :=
  ∃ (v : Value) (l : List Int) (q : Nat), e = .returned v ∧ l.length ≤ 5 ∧ q ≤ p + 10 ∧ IntsV (R + 1) w' v l ∧ Rd w' R a len cap z q ∧ Below R w w'
theorem lit021 (w : World) (t : TypeId) (p : Nat) (h : p < 3) : ∃ x : Int, (w.alloc (.cells #[.int .i64 0, .int .i64 21, .int .i64 201] t)).cell? ⟨w.heap.size, p, none⟩ = some (.int .i64 x) := by
  rcases (show p = 0 ∨ p = 1 ∨ p = 2 by omega) with rfl | rfl | rfl
  · exact ⟨0, by rw [World.cell?_alloc_at _ _ _ _ rfl]; rfl⟩
  · exact ⟨21, by rw [World.cell?_alloc_at _ _ _ _ rfl]; rfl⟩
  · exact ⟨201, by rw [World.cell?_alloc_at _ _ _ _ rfl]; rfl⟩

/-- what the drawing of a list and a room leaves -/
def DrawnListRoom (w : World) (e : Ending) (w' : World) : Prop := ∃ (v : Value) (l : List Int) (n : Int), e = .returned (.tuple #[v, .int .i64 n]) ∧ l.length ≤ 5 ∧ IntsV w.heap.size w' v l ∧ -1 ≤ n ∧ n ≤ 201 ∧ Below w.heap.size w w'
/-- what the drawing of a list leaves -/
def DrawnInts (w : World) (e : Ending) (w' : World) : Prop := ∃ (v : Value) (l : List Int), e = .returned v ∧ l.length ≤ 5 ∧ IntsV w.heap.size w' v l ∧ Below w.heap.size w w'
end Go.Proofs.Ytlgceccbjkkeiaa

/- One cell of a row of one's own is set. -/
namespace Go.Proofs.Ytlgceccbjkkeiaa
open Go.RowKit
theorem own_set {w : World} {B e size n k : Nat} {a : Option Addr} {g c : Nat} {xs : List Value} (h : w.ownsRow B e size (.slice a n c) n xs) (ha : a = some ⟨g, 0, none⟩) (u : Value) : (w.setCell ⟨g, k, none⟩ u).ownsRow B e size (.slice a n c) n (xs.set k u) := by
  refine ⟨by rw [List.length_set]; exact h.1, ?_⟩
  rcases h.2 with ⟨h1, _⟩ | ⟨g', cap, cur, h1, h2, h3, h4, h5, h6, h7⟩
  · injection h1 with h1; rw [ha] at h1; cases h1
  · injection h1 with h1 _ h8
    rw [ha] at h1
    injection h1 with h1
    injection h1 with h1
    subst h1
    refine .inr ⟨g, cap, cur.set! k u, by rw [ha, h8], h2, ?_, h4, h5, by simpa using h6, ?_⟩
    · show (w.heap.modify g _)[g]? = _
      obtain ⟨hlt, hg⟩ := Array.getElem?_eq_some_iff.1 h3
      rw [Array.getElem?_eq_getElem (by rw [Array.size_modify]; exact hlt), Array.getElem_modify_self, hg]
      rfl
    · rw [← h7]
      simp [List.take_set]
end Go.Proofs.Ytlgceccbjkkeiaa

/- THE WALK of the drawing of waves. -/
namespace Go.Proofs.Ytlgceccbjkkeiaa
open Go.RowKit

/-- between two picks: runs and gaps that are drawn, the reader -/
structure WvSt (w0 : World) (R : Nat) (a : Option Addr) (len cap : Nat) (z : List Int) (X Y : List Int) (q : Nat) (u v : Value) (wr : World) : Prop where
  o1 : wr.ownsRow (R + 1) 3 1 u X.length (X.map (.int .i64))
  o2 : wr.ownsRow (R + 1) 3 1 v Y.length (Y.map (.int .i64))
  ap : ∀ x, u.ownBlock = some x → v.ownBlock ≠ some x
  rd : Rd wr R a len cap z q
  bw : Below R w0 wr
  sz : R + 1 ≤ wr.heap.size
theorem WvSt.pick {w0 wr w1 : World} {R q : Nat} {a : Option Addr} {len cap : Nat} {z X Y : List Int} {u v : Value} (h : WvSt w0 R a len cap z X Y q u v wr) (hr : Rd w1 R a len cap z (q + 1)) (hb : Below R wr w1) (hz : w1.heap.size = wr.heap.size) (hg : wr.grownBy w1 (some R)) :
    WvSt w0 R a len cap z X Y (q + 1) u v w1 :=
  ⟨h.o1.kept hg (own_ne h.o1), h.o2.kept hg (own_ne h.o2), h.ap, hr, h.bw.trans hb, by have := h.sz; omega⟩
theorem WvSt.appU {w0 wr w1 : World} {R q : Nat} {a : Option Addr} {len cap : Nat} {z X Y : List Int} {u v u' : Value} {x : Int} (h : WvSt w0 R a len cap z X Y q u v wr) {o : Obj}
    (hown : w1.ownsRow (R + 1) 3 1 u' (X.length + 1) (X.map (.int .i64) ++ [.int .i64 x])) (hg : (wr.alloc o).grownBy w1 u.ownBlock) (hat : u'.ownBlock = u.ownBlock ∨ u'.ownBlock = some (wr.alloc o).heap.size) :
    WvSt w0 R a len cap z (X ++ [x]) Y q u' v w1 := by
  obtain ⟨p1, p2⟩ := rows_next h.o2 h.ap hg hat
  have hsg := hg.size
  have h8 := h.sz
  rw [World.size_alloc] at hsg
  refine ⟨?_, p1, p2, ?_, ?_, by omega⟩
  · rw [List.map_append, List.length_append]; exact hown
  · have h9 := h.rd.below ((Below.refl (R + 1) wr).alloc h8 o) (Nat.lt_succ_self R)
    exact h9.below ((Below.refl (R + 1) _).grown hg (by rw [World.size_alloc]; omega) (fun b e => (h.o1.lt b e).1)) (Nat.lt_succ_self R)
  · exact (h.bw.alloc (by omega) o).grown hg (by rw [World.size_alloc]; omega) (fun b e => by have := (h.o1.lt b e).1; omega)
theorem WvSt.swap {w0 wr : World} {R q : Nat} {a : Option Addr} {len cap : Nat} {z X Y : List Int} {u v : Value} (h : WvSt w0 R a len cap z X Y q u v wr) : WvSt w0 R a len cap z Y X q v u wr :=
  ⟨h.o2, h.o1, fun x hx hy => h.ap x hy hx, h.rd, h.bw, h.sz⟩
theorem WvSt.setU {w0 wr : World} {R q g n c j : Nat} {a : Option Addr} {len cap : Nat} {z X Y : List Int} {v : Value} (h : WvSt w0 R a len cap z X Y q (.slice (some ⟨g, 0, none⟩) n c) v wr) (x : Int) :
    WvSt w0 R a len cap z (X.set j x) Y q (.slice (some ⟨g, 0, none⟩) n c) v (wr.setCell ⟨g, j, none⟩ (.int .i64 x)) := by
  have hg0 := (h.o1.lt g rfl).1
  have h8 := h.sz
  have hgr : wr.grownBy (wr.setCell ⟨g, j, none⟩ (.int .i64 x)) (some g) := ⟨rfl, rfl, rfl, by show wr.heap.size ≤ (World.setCell _ _ _).heap.size; simp [World.setCell], fun i _ hi => heap_setCell_other wr ⟨g, j, none⟩ i _ (fun e => hi (by simp [e]))⟩
  have hn : n = X.length := by
    rcases h.o1.2 with ⟨e, _⟩ | ⟨g', cap', cur, e, _⟩
    · cases e
    · injection e
  subst hn
  refine ⟨?_, h.o2.kept hgr (by
    cases hv : v.ownBlock with
    | none => exact .inl rfl
    | some y => exact .inr (fun e => h.ap g rfl (by rw [hv]; exact e))), h.ap, ?_, ?_, ?_⟩
  · rw [List.map_set, List.length_set]; exact own_set h.o1 rfl _
  · exact h.rd.below ((Below.refl (R + 1) wr).setCell (p := ⟨g, j, none⟩) hg0 _) (Nat.lt_succ_self R)
  · exact h.bw.setCell (p := ⟨g, j, none⟩) (show R ≤ g by omega) _
  · show R + 1 ≤ (World.setCell _ _ _).heap.size; simp [World.setCell]; omega
/-- what the drawing of a wave leaves -/
def DrawnWave (w : World) (e : Ending) (w' : World) : Prop := ∃ (st : Int) (u v : Value) (X Y : List Int), e = .returned (.tuple #[.int .i64 st, u, v]) ∧ X.length ≤ 5 ∧ Y.length ≤ 5 ∧ IntsV w.heap.size w' u X ∧ IntsV w.heap.size w' v Y ∧ Below w.heap.size w w'
theorem WvSt.drawn {w wr : World} {q : Nat} {a : Option Addr} {len cap : Nat} {z X Y : List Int} {u v : Value} (h : WvSt w w.heap.size a len cap z X Y q u v wr) (hk : X.length ≤ 5) (hm : Y.length ≤ 5) (st : Int) : DrawnWave w (.returned (.tuple #[.int .i64 st, u, v])) wr :=
  ⟨st, u, v, X, Y, rfl, hk, hm, (IntsV.of_owns h.o1).mono (Nat.le_succ _), (IntsV.of_owns h.o2).mono (Nat.le_succ _), h.bw⟩

set_option maxRecDepth 100000 in
set_option maxHeartbeats 4000000 in
theorem l92Wave_any (a : Option Addr) (len cap : Nat) (z : List Int) (w : World) (hlen : len ≤ 1048576) (hcap : len ≤ cap) (hb : Bytes w a len z) :
    Calls Try.prog 28 #[.slice a len cap] w (DrawnWave w) := by
  obtain ⟨i0, hi, hz0, hz1, hz2⟩ := info_parts infoI
  go_enter Try.func28, Try.ntmps28
  go_wp2_with fail
  refine (l6Open_any a len cap z w hlen hcap hb).mono ?_
  rintro e w1 ⟨rfl, hr1, hb1, hz1'⟩
  go_wp2_with fail
  refine (pick2_any w1 w.heap.size a _ cap z 0 4 hr1 (by omega) (by omega) (by omega)).mono ?_
  rintro e w2 ⟨n, rfl, n0, n1, hr2, hb2, hz2', hg2⟩
  have hsz2 : w.heap.size + 1 ≤ w2.heap.size := by omega
  have S0 : Hid (WvSt w w.heap.size a (min len 2000) cap z [] [] 1 (.slice (some ⟨w2.heap.size, 0, none⟩) 0 0) (.slice (some ⟨w2.heap.size + 1, 0, none⟩) 0 0) ((w2.alloc (.cells #[] 3)).alloc (.cells #[] 3))) := hide (by
    have h0 := World.ownsRow_lit (base := w.heap.size + 1) (e := 3) (size := 1) w2 #[] 0 hsz2 (by unfold maxLen; omega) rfl
    have h1 := World.ownsRow_lit (base := w.heap.size + 1) (e := 3) (size := 1) (w2.alloc (.cells #[] 3)) #[] 0 (by rw [World.size_alloc]; omega) (by unfold maxLen; omega) rfl
    rw [World.size_alloc] at h1
    refine ⟨h0.alloc _, h1, ?_, ?_, ?_, ?_⟩
    · intro x hx hy
      simp [Value.ownBlock] at hx hy
      omega
    · exact hr2.below (((Below.refl (w.heap.size + 1) w2).alloc hsz2 _).alloc (by rw [World.size_alloc]; omega) _) (Nat.lt_succ_self _)
    · exact ((hb1.trans hb2).alloc (by omega) _).alloc (by rw [World.size_alloc]; omega) _
    · rw [World.size_alloc, World.size_alloc]; omega)
  clear hb1 hb2 hr1 hr2 hg2 hz1' hz2' hsz2
  go_wp2_with fail
  go_loopw [7, 8, 9] (fun u v i wr => ∃ (k q : Nat) (X Y : List Int), (k : Int) ≤ 1 + n ∧ i = .int .i64 (k : Int) ∧ q ≤ 1 + 2 * k ∧ Hid (X.length = k ∧ Y.length = k - 1) ∧ Hid (WvSt w w.heap.size a (min len 2000) cap z X Y q u v wr)) (fun _ _ i _ => (1 + n - Go.RowKit.intOf i).toNat)
  case atStart => exact ⟨0, 1, [], [], by omega, rfl, by omega, hide ⟨rfl, rfl⟩, S0⟩
  case round =>
    obtain ⟨k, q, X, Y, hk, rfl, hq, HL, S⟩ := hrel
    clear S0
    by_cases hlt : (k : Int) < 1 + n
    · go_wp2_with fail
      refine (pick2_any wr w.heap.size a _ cap z q 4 S.out.rd (by omega) (by omega) (by omega)).mono ?_
      rintro e w3 ⟨x, rfl, x0, x1, hr3, hb3, hz3, hg3⟩
      have S1 := hide (S.out.pick hr3 hb3 hz3 hg3)
      have l1 : X.length ≤ 5 := by rw [HL.out.1]; omega
      have l2 : Y.length ≤ 5 := by rw [HL.out.2]; omega
      have sz3 : w.heap.size + 1 ≤ w3.heap.size := S1.out.sz
      clear hr3 hb3 hz3 hg3
      by_cases hk0 : 0 < k
      · have i0' : (0 : Int) < (k : Int) := by omega
        go_wp2_with (at_builtin; refine wpList_append_own_at _ rfl _ _ 23 rfl (w.heap.size + 1) 3 i0 (.int .i64 0) 1 8 Try.underlying23 hi hz0 hz1 hz2 rfl (by decide) _ _ _ rfl (S1.out.o1.alloc _) ⟨w3.heap.size, 0, none⟩ 1 1 [.int .i64 (1 + x)] rfl rfl (cell_one_new _ _ _) (one_of_int _) (by unfold maxLen; omega) (by omega) (by rw [World.size_alloc]; omega) ?_; intro u' w4 hown' hgrow _ hat; have S2 := hide (S1.out.appU hown' hgrow hat); clear hown' hgrow hat)
        refine (pick2_any w4 w.heap.size a _ cap z (q + 1) 5 S2.out.rd (by omega) (by omega) (by omega)).mono ?_
        rintro e w5 ⟨y, rfl, y0, y1, hr5, hb5, hz5, hg5⟩
        have S3 := hide (S2.out.pick hr5 hb5 hz5 hg5)
        have sz5 : w.heap.size + 1 ≤ w5.heap.size := S3.out.sz
        clear hr5 hb5 hz5 hg5
        go_wp2_with (at_builtin; refine wpList_append_own_at _ rfl _ _ 23 rfl (w.heap.size + 1) 3 i0 (.int .i64 0) 1 8 Try.underlying23 hi hz0 hz1 hz2 rfl (by decide) _ _ _ rfl (S3.out.o2.alloc _) ⟨w5.heap.size, 0, none⟩ 1 1 [.int .i64 (1 + y)] rfl rfl (cell_one_new _ _ _) (one_of_int _) (by unfold maxLen; omega) (by omega) (by rw [World.size_alloc]; omega) ?_; intro v' w6 hown' hgrow _ hat; have S4 := hide (S3.out.swap.appU hown' hgrow hat).swap; clear hown' hgrow hat)
        go_roundw
        case rel => exact ⟨k + 1, q + 2, X ++ [1 + x], Y ++ [1 + y], by omega, by go_num, by omega, hide (by rw [List.length_append, List.length_append, HL.out.1, HL.out.2]; exact ⟨rfl, by show k - 1 + 1 = _; omega⟩), S4⟩
        case measure => simp [Go.RowKit.intOf]; omega
      · have i0' : ¬ (0 : Int) < (k : Int) := by omega
        go_wp2_with (at_builtin; refine wpList_append_own_at _ rfl _ _ 23 rfl (w.heap.size + 1) 3 i0 (.int .i64 0) 1 8 Try.underlying23 hi hz0 hz1 hz2 rfl (by decide) _ _ _ rfl (S1.out.o1.alloc _) ⟨w3.heap.size, 0, none⟩ 1 1 [.int .i64 (1 + x)] rfl rfl (cell_one_new _ _ _) (one_of_int _) (by unfold maxLen; omega) (by omega) (by rw [World.size_alloc]; omega) ?_; intro u' w4 hown' hgrow _ hat; have S2 := hide (S1.out.appU hown' hgrow hat); clear hown' hgrow hat)
        go_roundw
        case rel => exact ⟨k + 1, q + 1, X ++ [1 + x], Y, by omega, by go_num, by omega, hide (by rw [List.length_append, HL.out.1, HL.out.2]; exact ⟨rfl, by omega⟩), S2⟩
        case measure => simp [Go.RowKit.intOf]; omega
    · have hkn : (k : Int) = 1 + n := by omega
      have l1 : X.length ≤ 4 := by rw [HL.out.1]; omega
      have l2 : Y.length ≤ 4 := by rw [HL.out.2]; omega
      go_wp2_with fail
      refine (pick2_any wr w.heap.size a _ cap z q 24 S.out.rd (by omega) (by omega) (by omega)).mono ?_
      rintro e w3 ⟨x, rfl, x0, x1, hr3, hb3, hz3, hg3⟩
      have S1 := hide (S.out.pick hr3 hb3 hz3 hg3)
      have sz3 : w.heap.size + 1 ≤ w3.heap.size := S1.out.sz
      clear hr3 hb3 hz3 hg3
      obtain ⟨m, rfl⟩ := Int.eq_ofNat_of_zero_le n0
      obtain ⟨g, c, rfl, hg0, hgc, hcm⟩ := ownsRow_form S1.out.o1 (by rw [HL.out.1]; omega)
      have hkm : k = m + 1 := by omega
      have hXl : X.length = m + 1 := by rw [HL.out.1]; exact hkm
      have hcl := CellsAt.of_owns S1.out.o1
      have ST := hide (fun (j : Nat) (v : Int) => S1.out.setU (j := j) v)
      have CEL : Hid (∀ j, j < m + 1 → ∃ v, w3.cell? ⟨g, j, none⟩ = some v ∧ w3.frozen? ⟨g, j, none⟩ = false) := hide (fun j hj => by
        obtain ⟨v, hv⟩ : ∃ v, (X.map (Value.int .i64))[j]? = some v := ⟨_, List.getElem?_eq_getElem (by rw [List.length_map]; omega)⟩
        exact ⟨v, hcl j v hv⟩)
      rw [hXl] at ST S1 ⊢
      by_cases h0 : x = 0
      · subst h0
        obtain ⟨v0, c0, f0⟩ := CEL.out 0 (by omega)
        have S2 := hide (ST.out 0 0)
        have i2 : (0 : Int) < ((m + 1 : Nat) : Int) := by omega
        clear hcl
        go_wp2_with fail
        refine (pick2_any _ w.heap.size a _ cap z (q + 1) 8 S2.out.rd (by omega) (by omega) (by omega)).mono ?_
        rintro e w9 ⟨y, rfl, y0, y1, hr9, hb9, hz9, hg9⟩
        have S9 := hide (S2.out.pick hr9 hb9 hz9 hg9)
        clear hr9 hb9 hz9 hg9
        go_wp2_with fail
        go_ret3
        exact S9.out.drawn (by rw [List.length_set]; omega) (by omega) _
      by_cases h1 : x = 1
      · subst h1
        clear hcl
        go_wp2_with (at_builtin; refine wpList_append_own_at _ rfl _ _ 23 rfl (w.heap.size + 1) 3 i0 (.int .i64 0) 1 8 Try.underlying23 hi hz0 hz1 hz2 rfl (by decide) _ _ _ rfl (S1.out.o2.alloc _) ⟨w3.heap.size, 0, none⟩ 1 1 [.int .i64 1] rfl rfl (cell_one_new _ _ _) (one_of_int _) (by unfold maxLen; omega) (by omega) (by rw [World.size_alloc]; omega) ?_; intro v' w6 hown' hgrow _ hat; have S4 := hide (S1.out.swap.appU hown' hgrow hat).swap; clear hown' hgrow hat)
        refine (pick2_any w6 w.heap.size a _ cap z (q + 1) 8 S4.out.rd (by omega) (by omega) (by omega)).mono ?_
        rintro e w9 ⟨y, rfl, y0, y1, hr9, hb9, hz9, hg9⟩
        have S9 := hide (S4.out.pick hr9 hb9 hz9 hg9)
        clear hr9 hb9 hz9 hg9
        go_wp2_with fail
        go_ret3
        exact S9.out.drawn (by omega) (by rw [List.length_append]; show _ + 1 ≤ 5; omega) _
      by_cases h2 : x = 2
      · subst h2
        obtain ⟨v0, c0, f0⟩ := CEL.out m (by omega)
        have S2 := hide (ST.out m 121)
        have wk : IntKind.i64.wrap (1 + (m : Int) - 1) = (m : Int) := by rw [IntKind.wrap_i64]; omega
        have i1 : (0 : Int) ≤ (m : Int) := by omega
        have i2 : (m : Int) < ((m + 1 : Nat) : Int) := by omega
        clear hcl
        go_wp2_with fail
        refine (pick2_any _ w.heap.size a _ cap z (q + 1) 8 S2.out.rd (by omega) (by omega) (by omega)).mono ?_
        rintro e w9 ⟨y, rfl, y0, y1, hr9, hb9, hz9, hg9⟩
        have S9 := hide (S2.out.pick hr9 hb9 hz9 hg9)
        clear hr9 hb9 hz9 hg9
        go_wp2_with fail
        go_ret3
        exact S9.out.drawn (by rw [List.length_set]; omega) (by omega) _
      have d0 : ((x : Int) == 0) = false := beq_eq_false_iff_ne.2 h0
      have d1 : ((x : Int) == 1) = false := beq_eq_false_iff_ne.2 h1
      have d2 : ((x : Int) == 2) = false := beq_eq_false_iff_ne.2 h2
      clear hcl
      go_wp2_with fail
      refine (pick2_any _ w.heap.size a _ cap z (q + 1) 8 S1.out.rd (by omega) (by omega) (by omega)).mono ?_
      rintro e w9 ⟨y, rfl, y0, y1, hr9, hb9, hz9, hg9⟩
      have S9 := hide (S1.out.pick hr9 hb9 hz9 hg9)
      clear hr9 hb9 hz9 hg9
      go_wp2_with fail
      go_ret3
      exact S9.out.drawn (by omega) (by omega) _
set_option maxHeartbeats 400000 in
theorem DrawWaveIn_any (a : Option Addr) (len cap : Nat) (z : List Int) (w : World) (hlen : len ≤ 1048576) (hcap : len ≤ cap) (hb : Bytes w a len z) :
    Calls Try.prog 8 #[.slice a len cap] w (DrawnWave w) := by
  have C := hide (l92Wave_any a len cap z w hlen hcap hb)
  go_enter Try.func8, Try.ntmps8
  go_wp2_with fail
  refine C.out.mono ?_
  rintro e w' ⟨st, u, v, X, Y, rfl, h1, h2, h3, h4, h5⟩
  go_wp2_with fail
  go_ret3
  exact ⟨st, u, v, X, Y, rfl, h1, h2, h3, h4, h5⟩
set_option maxHeartbeats 400000 in
theorem DrawWaveRow_any (a : Option Addr) (len cap : Nat) (z : List Int) (w : World) (hlen : len ≤ 1048576) (hcap : len ≤ cap) (hb : Bytes w a len z) :
    Calls Try.prog 19 #[.slice a len cap] w (DrawnWave w) := by
  have C := hide (l92Wave_any a len cap z w hlen hcap hb)
  go_enter Try.func19, Try.ntmps19
  go_wp2_with fail
  refine C.out.mono ?_
  rintro e w' ⟨st, u, v, X, Y, rfl, h1, h2, h3, h4, h5⟩
  go_wp2_with fail
  go_ret3
  exact ⟨st, u, v, X, Y, rfl, h1, h2, h3, h4, h5⟩
set_option maxHeartbeats 400000 in
theorem DrawWaveNext_any (a : Option Addr) (len cap : Nat) (z : List Int) (w : World) (hlen : len ≤ 1048576) (hcap : len ≤ cap) (hb : Bytes w a len z) :
    Calls Try.prog 21 #[.slice a len cap] w (DrawnWave w) := by
  have C := hide (l92Wave_any a len cap z w hlen hcap hb)
  go_enter Try.func21, Try.ntmps21
  go_wp2_with fail
  refine C.out.mono ?_
  rintro e w' ⟨st, u, v, X, Y, rfl, h1, h2, h3, h4, h5⟩
  go_wp2_with fail
  go_ret3
  exact ⟨st, u, v, X, Y, rfl, h1, h2, h3, h4, h5⟩
set_option maxHeartbeats 400000 in
theorem DrawWaveSum_any (a : Option Addr) (len cap : Nat) (z : List Int) (w : World) (hlen : len ≤ 1048576) (hcap : len ≤ cap) (hb : Bytes w a len z) :
    Calls Try.prog 25 #[.slice a len cap] w (DrawnWave w) := by
  have C := hide (l92Wave_any a len cap z w hlen hcap hb)
  go_enter Try.func25, Try.ntmps25
  go_wp2_with fail
  refine C.out.mono ?_
  rintro e w' ⟨st, u, v, X, Y, rfl, h1, h2, h3, h4, h5⟩
  go_wp2_with fail
  go_ret3
  exact ⟨st, u, v, X, Y, rfl, h1, h2, h3, h4, h5⟩
set_option maxHeartbeats 400000 in
theorem DrawWaveOf_any (a : Option Addr) (len cap : Nat) (z : List Int) (w : World) (hlen : len ≤ 1048576) (hcap : len ≤ cap) (hb : Bytes w a len z) :
    Calls Try.prog 12 #[.slice a len cap] w (DrawnRow w) := by
  go_enter Try.func12, Try.ntmps12
  go_wp2_with fail
  refine (l6Open_any a len cap z w hlen hcap hb).mono ?_
  rintro e w1 ⟨rfl, hr, hb1, hz1⟩
  go_wp2_with fail
  refine (l91Row_any w1 w.heap.size a _ cap z 0 hr (by omega)).mono ?_
  rintro e w2 ⟨s, q, rfl, hs, hq, hr2, hb2, hz2⟩
  go_wp2_with fail
  go_ret
  exact ⟨s, rfl, hs, hb1.trans hb2⟩
end Go.Proofs.Ytlgceccbjkkeiaa
