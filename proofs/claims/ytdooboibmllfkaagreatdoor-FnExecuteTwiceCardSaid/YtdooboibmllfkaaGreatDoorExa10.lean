/- TEXTS Elim5, Shape1. -/
import Derived.Test.YtdooboibmllfkaaGreatDoorExa09
import Derived.Maps.AppendAt
namespace Go.Proofs.YtdooboibmllfkaaGreatDoor
set_option maxRecDepth 100000

def so (K : Nat) : Nat → List Bool → List Bool
  | _, [] => []
  | u, b :: t => ot K b u :: so K (nx K b u) t
def nb : List (Nat × Nat) → List (Nat × Nat)
  | [] => []
  | [p] => [(p.1, p.2 - p.1)]
  | p :: q :: ps => (p.1, p.2 - p.1 + q.1) :: nb (q :: ps)
end Go.Proofs.YtdooboibmllfkaaGreatDoor

namespace Go.Proofs.YtdooboibmllfkaaGreatDoor
set_option maxRecDepth 100000

def insK (x : Int) (l : List Int) : Nat → Nat
  | 0 => 0
  | k + 1 => if x < l.getD k 0 then insK x l k else k + 1
def ins (x : Int) (l : List Int) : List Int := l.take (insK x l l.length) ++ [x] ++ l.drop (insK x l l.length)
def isr (l : List Int) : List Int := l.foldl (fun a x => ins x a) []
def Rise (l : List Int) : Prop := l.Pairwise (· ≤ ·)
theorem insK_le (x : Int) (l : List Int) : ∀ k, insK x l k ≤ k := by
  intro k
  induction k with
  | zero => exact Nat.le_refl _
  | succ k ih => unfold insK; split <;> omega
theorem insK_behind (x : Int) (l : List Int) : ∀ k, ∀ j, insK x l k ≤ j → j < k → x < l.getD j 0 := by
  intro k
  induction k with
  | zero => intro j _ h; omega
  | succ k ih =>
    intro j h1 h2
    unfold insK at h1
    split at h1
    · by_cases hj : j = k
      · subst hj; assumption
      · exact ih j h1 (by omega)
    · omega
theorem insK_ahead (x : Int) (l : List Int) : ∀ k, 0 < insK x l k → l.getD (insK x l k - 1) 0 ≤ x := by
  intro k
  induction k with
  | zero => intro h; unfold insK at h; omega
  | succ k ih =>
    intro h
    unfold insK at h ⊢
    split
    · rename_i hc; rw [if_pos hc] at h; exact ih h
    · rename_i hc; show l.getD (k + 1 - 1) 0 ≤ x; rw [Nat.add_sub_cancel]; omega
theorem ins_length (x : Int) (l : List Int) : (ins x l).length = l.length + 1 := by
  have := insK_le x l l.length
  unfold ins
  simp only [List.length_append, List.length_take, List.length_drop, List.length_cons, List.length_nil]
  omega
theorem ins_sum (x : Int) (l : List Int) : (ins x l).sum = l.sum + x := by
  unfold ins
  have := congrArg List.sum (List.take_append_drop (insK x l l.length) l)
  rw [List.sum_append] at this
  rw [List.sum_append, List.sum_append]
  simp only [List.sum_cons, List.sum_nil]
  omega
theorem ins_mem (x y : Int) (l : List Int) : y ∈ ins x l ↔ y = x ∨ y ∈ l := by
  have : y ∈ l ↔ y ∈ l.take (insK x l l.length) ∨ y ∈ l.drop (insK x l l.length) := by rw [← List.mem_append, List.take_append_drop]
  rw [this]
  unfold ins
  simp only [List.mem_append, List.mem_cons, List.not_mem_nil, or_false]
  constructor
  · rintro ((h | h) | h)
    · exact .inr (.inl h)
    · exact .inl h
    · exact .inr (.inr h)
  · rintro (h | h | h)
    · exact .inl (.inr h)
    · exact .inl (.inl h)
    · exact .inr h
theorem ins_rise {x : Int} {l : List Int} (h : Rise l) : Rise (ins x l) := by
  unfold Rise at *
  have hk := insK_le x l l.length
  have hp := h
  rw [← List.take_append_drop (insK x l l.length) l, List.pairwise_append] at hp
  obtain ⟨h1, h2, h3⟩ := hp
  have hfar : ∀ y ∈ l.drop (insK x l l.length), x ≤ y := by
    intro y hy
    obtain ⟨i, hi, rfl⟩ := List.getElem_of_mem hy
    rw [List.length_drop] at hi
    have := insK_behind x l l.length (insK x l l.length + i) (by omega) (by omega)
    rw [List.getD_eq_getElem?_getD, List.getElem?_eq_getElem (by omega)] at this
    rw [List.getElem_drop]
    simp only [Option.getD_some] at this
    omega
  have hnear : ∀ y ∈ l.take (insK x l l.length), y ≤ x := by
    intro y hy
    obtain ⟨i, hi, rfl⟩ := List.getElem_of_mem hy
    rw [List.length_take] at hi
    rw [List.getElem_take]
    have ha := insK_ahead x l l.length (by omega)
    rw [List.getD_eq_getElem?_getD, List.getElem?_eq_getElem (by omega)] at ha
    simp only [Option.getD_some] at ha
    by_cases e : i = insK x l l.length - 1
    · subst e; exact ha
    · have := (List.pairwise_iff_getElem.1 h) i (insK x l l.length - 1) (by omega) (by omega) (by omega)
      omega
  unfold ins
  rw [List.append_assoc, List.pairwise_append]
  refine ⟨h1, ?_, ?_⟩
  · rw [List.singleton_append, List.pairwise_cons]; exact ⟨hfar, h2⟩
  · intro a ha b hb
    rw [List.singleton_append, List.mem_cons] at hb
    rcases hb with rfl | hb
    · exact hnear a ha
    · exact h3 a ha b hb
theorem isr_snoc (l : List Int) (x : Int) : isr (l ++ [x]) = ins x (isr l) := by unfold isr; rw [List.foldl_append]; rfl
theorem foldl_ins : ∀ (l a : List Int), Rise a → Rise (l.foldl (fun a x => ins x a) a) ∧ (l.foldl (fun a x => ins x a) a).length = a.length + l.length ∧ (l.foldl (fun a x => ins x a) a).sum = a.sum + l.sum ∧ ∀ y, y ∈ l.foldl (fun a x => ins x a) a ↔ y ∈ a ∨ y ∈ l := by
  intro l
  induction l with
  | nil => intro a h; exact ⟨h, by simp, by simp, by simp⟩
  | cons x t ih =>
    intro a h
    obtain ⟨i1, i2, i3, i4⟩ := ih (ins x a) (ins_rise h)
    rw [List.foldl_cons]
    refine ⟨i1, ?_, ?_, ?_⟩
    · rw [i2, ins_length, List.length_cons]; omega
    · rw [i3, ins_sum, List.sum_cons]; omega
    · intro y; rw [i4, ins_mem, List.mem_cons]; constructor
      · rintro ((h | h) | h)
        · exact .inr (.inl h)
        · exact .inl h
        · exact .inr (.inr h)
      · rintro (h | h | h)
        · exact .inl (.inr h)
        · exact .inl (.inl h)
        · exact .inr h
theorem isr_facts (l : List Int) : Rise (isr l) ∧ (isr l).length = l.length ∧ (isr l).sum = l.sum ∧ ∀ y, y ∈ isr l ↔ y ∈ l := by
  obtain ⟨h1, h2, h3, h4⟩ := foldl_ins l [] List.Pairwise.nil
  exact ⟨h1, by simpa [isr] using h2, by simpa [isr] using h3, by intro y; have := h4 y; simpa [isr] using this⟩

def szP (l : List Int) : List (Nat × Nat) := l.map fun x => (x.toNat, x.toNat)
def szB (l : List Int) : List Bool := wb (szP l)
theorem wb_app : ∀ a b : List (Nat × Nat), wb (a ++ b) = wb a ++ wb b := by
  intro a b
  induction a with
  | nil => rfl
  | cons p t ih => rw [List.cons_append]; show List.replicate p.1 true ++ (List.replicate p.2 false ++ wb (t ++ b)) = List.replicate p.1 true ++ (List.replicate p.2 false ++ wb t) ++ wb b; rw [ih]; simp
theorem szB_snoc (l : List Int) (x : Int) : szB (l ++ [x]) = szB l ++ (List.replicate x.toNat true ++ List.replicate x.toNat false) := by
  unfold szB szP
  rw [List.map_append, wb_app]
  show _ ++ (List.replicate x.toNat true ++ (List.replicate x.toNat false ++ [])) = _
  rw [List.append_nil]
theorem szB_length : ∀ l : List Int, (∀ x ∈ l, x ≤ 20) → (szB l).length ≤ 40 * l.length := by
  intro l
  induction l with
  | nil => intro _; exact Nat.le_refl _
  | cons x t ih =>
    intro h
    have := ih (fun y hy => h y (List.mem_cons_of_mem _ hy))
    have hx := h x (List.mem_cons_self ..)
    show (List.replicate x.toNat true ++ (List.replicate x.toNat false ++ szB t)).length ≤ _
    rw [List.length_append, List.length_append, List.length_replicate, List.length_replicate, List.length_cons]
    omega
end Go.Proofs.YtdooboibmllfkaaGreatDoor

namespace Go.Proofs.YtdooboibmllfkaaGreatDoor
set_option maxRecDepth 100000

theorem order_one {r : Int → Int → Prop} (ha : ∀ a b, r a b → r b a → a = b) : ∀ A B : List Int, A.Pairwise r → B.Pairwise r → A.Perm B → A = B := by
  intro A
  induction A with
  | nil => intro B _ _ hp; exact (List.nil_perm.1 hp).symm
  | cons a A ih =>
    intro B hA hB hp
    cases B with
    | nil => exact absurd hp.symm (by simp)
    | cons b B =>
      have e : a = b := by
        by_cases e : a = b
        · exact e
        · have h1 : a ∈ b :: B := hp.mem_iff.1 (List.mem_cons_self ..)
          have h2 : b ∈ a :: A := hp.mem_iff.2 (List.mem_cons_self ..)
          rw [List.mem_cons] at h1 h2
          rcases h1 with h1 | h1
          · exact h1
          · rcases h2 with h2 | h2
            · exact h2.symm
            · exact ha a b ((List.pairwise_cons.1 hA).1 b h2) ((List.pairwise_cons.1 hB).1 a h1)
      subst e
      rw [ih B (List.pairwise_cons.1 hA).2 (List.pairwise_cons.1 hB).2 ((List.perm_cons a).1 hp)]

def manyL (c : Int → Nat) (ks : List Int) : List Int := ks.flatMap fun x => List.replicate (c x) x
theorem manyL_snoc (c : Int → Nat) (ks : List Int) (x : Int) : manyL c (ks ++ [x]) = manyL c ks ++ List.replicate (c x) x := by
  unfold manyL; rw [List.flatMap_append]; simp
theorem manyL_count (c : Int → Nat) (y : Int) : ∀ ks : List Int, ks.Nodup → (manyL c ks).count y = if y ∈ ks then c y else 0 := by
  intro ks
  induction ks with
  | nil => intro _; rfl
  | cons k ks ih =>
    intro h
    rw [List.nodup_cons] at h
    have e : manyL c (k :: ks) = List.replicate (c k) k ++ manyL c ks := by unfold manyL; rw [List.flatMap_cons]
    rw [e, List.count_append, ih h.2, List.count_replicate]
    by_cases e1 : k = y
    · subst e1
      simp [h.1]
    · have e2 : ¬ y = k := fun h => e1 h.symm
      simp [e1, e2]
theorem manyL_order {r : Int → Int → Prop} (hr : ∀ a, r a a) (c : Int → Nat) : ∀ ks : List Int, ks.Pairwise r → (manyL c ks).Pairwise r := by
  intro ks
  induction ks with
  | nil => intro _; exact List.Pairwise.nil
  | cons k ks ih =>
    intro h
    rw [List.pairwise_cons] at h
    have e : manyL c (k :: ks) = List.replicate (c k) k ++ manyL c ks := by unfold manyL; rw [List.flatMap_cons]
    rw [e, List.pairwise_append]
    refine ⟨List.pairwise_replicate.2 (.inr (hr k)), ih h.2, ?_⟩
    intro a ha b hb
    rw [List.mem_replicate] at ha
    unfold manyL at hb
    rw [List.mem_flatMap] at hb
    obtain ⟨x, hx, hb⟩ := hb
    rw [List.mem_replicate] at hb
    rw [ha.2, hb.2]
    exact h.1 x hx
theorem manyL_all {r : Int → Int → Prop} (hr : ∀ a, r a a) (ha : ∀ a b, r a b → r b a → a = b) {L ks : List Int} (hL : L.Pairwise r) (hk : ks.Pairwise r) (hn : ks.Nodup) (hm : ∀ x, x ∈ ks ↔ x ∈ L) :
    manyL (fun x => L.count x) ks = L := by
  refine order_one ha _ _ (manyL_order hr _ ks hk) hL ?_
  rw [List.perm_iff_count]
  intro y
  rw [manyL_count _ y ks hn]
  by_cases h : y ∈ ks
  · rw [if_pos h]
  · rw [if_neg h, List.count_eq_zero_of_not_mem (fun h2 => h ((hm y).2 h2))]
theorem manyL_le (c : Int → Nat) : ∀ a b : List Int, (manyL c a).length ≤ (manyL c (a ++ b)).length := by
  intro a b
  unfold manyL
  rw [List.flatMap_append, List.length_append]; omega
theorem ins_perm (x : Int) (l : List Int) : (ins x l).Perm (x :: l) := by
  unfold ins
  have h : (l.take (insK x l l.length) ++ l.drop (insK x l l.length)) = l := List.take_append_drop _ _
  have p : (l.take (insK x l l.length) ++ [x] ++ l.drop (insK x l l.length)).Perm (x :: (l.take (insK x l l.length) ++ l.drop (insK x l l.length))) := by
    rw [List.append_assoc]
    exact List.perm_middle
  rwa [h] at p
theorem isr_perm (l : List Int) : (isr l).Perm l := by
  have h : ∀ (l a : List Int), (l.foldl (fun a x => ins x a) a).Perm (a ++ l) := by
    intro l
    induction l with
    | nil => intro a; simp
    | cons x t ih =>
      intro a
      rw [List.foldl_cons]
      refine (ih (ins x a)).trans ?_
      refine ((ins_perm x a).append_right t).trans ?_
      exact List.perm_middle.symm
  simpa [isr] using h l []
end Go.Proofs.YtdooboibmllfkaaGreatDoor

namespace Go.Proofs.YtdooboibmllfkaaGreatDoor
set_option maxRecDepth 100000
open Go.RowKit

def ni (l : List Nat) : List Int := l.map fun (x : Nat) => (x : Int)
theorem ni_length (l : List Nat) : (ni l).length = l.length := by simp [ni]
theorem ni_snoc (l : List Nat) (x : Nat) : ni (l ++ [x]) = ni l ++ [(x : Int)] := by simp [ni]
theorem ni_getElem (l : List Nat) (k : Nat) : (ni l)[k]? = l[k]?.map fun (x : Nat) => (x : Int) := by simp [ni]
theorem bits_drop (s : ByteArray) (k : Nat) (h : k < s.size) : (bits s).drop k = (s[k] == 49) :: (bits s).drop (k + 1) := by
  have hb : k < (bits s).length := by rw [length_bits]; exact h
  have e := bits_getElem s k h
  rw [List.getElem?_eq_getElem hb] at e
  simp only [Option.some.injEq] at e
  rw [List.drop_eq_getElem_cons hb, e]

def RunRel (s : ByteArray) (B : Nat) (w : World) (u v c d i : Value) (wr : World) : Prop :=
  ∃ (k n g : Nat) (R G : List Nat), k ≤ s.size ∧ i = .int .i64 (k : Int) ∧ c = .int .i64 (n : Int) ∧ d = .int .i64 (g : Int) ∧ n ≤ k ∧ g ≤ k ∧ R.length ≤ k ∧ G.length ≤ k ∧
    Hid (wr.ownsRow B 3 1 u R.length ((ni R).map (.int .i64))) ∧ Hid (wr.ownsRow B 3 1 v G.length ((ni G).map (.int .i64))) ∧ Hid (∀ x, u.ownBlock = some x → v.ownBlock ≠ some x) ∧
    Hid (rr (bits s) = rrF ((bits s).drop k) R G n g) ∧ Hid (Below B w wr) ∧ B ≤ wr.heap.size
theorem apart_ne {u v : Value} (h : ∀ x, u.ownBlock = some x → v.ownBlock ≠ some x) : (u.ownBlock = none ∨ u.ownBlock ≠ v.ownBlock) ∧ (v.ownBlock = none ∨ v.ownBlock ≠ u.ownBlock) := by
  cases hu : u.ownBlock with
  | none => refine ⟨.inl rfl, ?_⟩; cases hv : v.ownBlock with
            | none => exact .inl rfl
            | some y => exact .inr (fun e => by cases e)
  | some x => exact ⟨.inr (fun e => h x hu e.symm), .inr (fun e => h x hu e)⟩
theorem own_slice {w : World} {B e n : Nat} {v : Value} {xs : List Value} (h : w.ownsRow B e 1 v n xs) : ∃ a c, v = .slice a n c := by
  rcases h.2 with ⟨rfl, rfl⟩ | ⟨g, cap, cur, rfl, _⟩
  · exact ⟨_, _, rfl⟩
  · exact ⟨_, _, rfl⟩
theorem rows_next {B e m : Nat} {u v u' : Value} {ys : List Value} {wr w1 : World} {o : Obj} (hv : wr.ownsRow B e 1 v m ys) (ha : ∀ x, u.ownBlock = some x → v.ownBlock ≠ some x)
    (hg : (wr.alloc o).grownBy w1 u.ownBlock) (hat : u'.ownBlock = u.ownBlock ∨ u'.ownBlock = some (wr.alloc o).heap.size) : w1.ownsRow B e 1 v m ys ∧ ∀ x, u'.ownBlock = some x → v.ownBlock ≠ some x := by
  refine ⟨(hv.alloc o).kept hg (apart_ne ha).2, ?_⟩
  intro x hx hvx
  rcases hat with h | h
  · exact ha x (h ▸ hx) hvx
  · rw [h] at hx
    injection hx with hx
    have := (hv.lt x hvx).2
    rw [World.size_alloc] at hx
    omega

set_option maxHeartbeats 2000000 in
theorem l3Runs_any (s : ByteArray) (w : World) (hs : s.size ≤ 120) :
    Calls Tryz.prog 83 #[.string s] w fun e w' => ∃ u v, e = .returned (.tuple #[u, v]) ∧ IntsV w.heap.size w' u (ni (rr (bits s)).1) ∧ IntsV w.heap.size w' v (ni (rr (bits s)).2) ∧ Below w.heap.size w w' := by
  obtain ⟨i0, hi, hz0, hz1, hz2⟩ := info_parts infoI
  obtain ⟨B, hB⟩ : ∃ B, w.heap.size = B := ⟨_, rfl⟩
  have h0 := World.ownsRow_lit (base := B) (e := 3) (size := 1) w #[] 0 (by omega) (by unfold maxLen; omega) rfl
  have h1 := World.ownsRow_lit (base := B) (e := 3) (size := 1) (w.alloc (.cells #[] 3)) #[] 0 (by simp; omega) (by unfold maxLen; omega) rfl
  have hb0 := ((Below.refl B w).alloc (by omega) (.cells #[] 3)).alloc (by simp; omega) (.cells #[] 3)
  have h0' := h0.alloc (.cells #[] 3)
  rw [hB] at h0' ⊢
  have HB := hide hB
  clear hB
  have H0 := hide h0'
  have H1 := hide h1
  clear h0 h1 h0'
  go_enter Tryz.func83, Tryz.ntmps83
  go_wp2
  go_loopw [4, 5, 6, 7, 8] (RunRel s B w) (fun _ _ _ _ i _ => s.size - (Go.RowKit.intOf i).toNat)
  case atStart =>
    refine ⟨0, 0, 0, [], [], Nat.zero_le _, rfl, rfl, rfl, Nat.le_refl _, Nat.le_refl _, Nat.le_refl _, Nat.le_refl _, ?_, ?_, ?_, rfl, hb0, by simp [← HB.out]; omega⟩
    · have := H0.out
      rw [← HB.out] at this ⊢
      exact this
    · have := H1.out
      rw [World.size_alloc] at this
      rw [← HB.out] at this ⊢
      exact this
    · intro x hx hy
      simp [Value.ownBlock] at hx hy
      omega
  case round =>
    obtain ⟨k, n, g, R, G, hk, rfl, rfl, rfl, hn, hg, hR, hG, HU, HV, HA, HR, HBW, hsz⟩ := hrel
    clear H0 H1 hb0
    by_cases hlt : k < s.size
    · have HD := hide (bits_drop s k hlt)
      rw [bit_int] at HD
      cases hb : ((s[k].toNat : Int) == 49)
      · rw [hb] at HD
        by_cases hc : 0 < n
        · have HR2 := hide (show rr (bits s) = rrF ((bits s).drop (k + 1)) (R ++ [n]) G 0 (g + 1) by rw [HR.out, HD.out, rrF_false, if_neg (by omega)])
          clear HD HR
          go_wp2_with (at_builtin; refine wpList_append_own_at _ rfl _ _ 79 rfl B 3 i0 (.int .i64 0) 1 8 Tryz.underlying79 hi hz0 hz1 hz2 rfl (by decide) _ _ _ rfl (HU.out.alloc _) ⟨wr.heap.size, 0, none⟩ 1 1 [.int .i64 (n : Int)] rfl rfl (cell_one_new _ _ _) (one_of_int _) (by unfold maxLen; omega) (by omega) (by simp; omega) ?_; intro v' w1 hown' hgrow _ hat)
          go_roundw
          case rel =>
            obtain ⟨r1, r2⟩ := rows_next HV.out HA.out hgrow hat
            have hsg := hgrow.size
            rw [World.size_alloc] at hsg
            refine ⟨k + 1, 0, g + 1, R ++ [n], G, by omega, by go_num, rfl, by go_num, by omega, by omega, by simp; omega, by omega, ?_, r1, r2, HR2, (HBW.out.alloc hsz _).grown hgrow (by simp; omega) (fun b e => (HU.out.lt b e).1), by omega⟩
            rw [List.length_append, ni_snoc, List.map_append]; exact hown'
          case measure => simp [Go.RowKit.intOf]; omega
        · obtain rfl : n = 0 := by omega
          have HR2 := hide (show rr (bits s) = rrF ((bits s).drop (k + 1)) R G 0 (g + 1) by rw [HR.out, HD.out, rrF_false, if_pos rfl])
          clear HD HR
          go_wp2
          go_roundw
          case rel => exact ⟨k + 1, 0, g + 1, R, G, by omega, by go_num, rfl, by go_num, by omega, by omega, by omega, by omega, HU, HV, HA, HR2, HBW, hsz⟩
          case measure => simp [Go.RowKit.intOf]; omega
      · rw [hb] at HD
        obtain ⟨a4, c4, rfl⟩ := own_slice HU.out
        by_cases hc : n = 0 ∧ 0 < R.length
        · obtain ⟨rfl, hR0⟩ := hc
          have HR2 := hide (show rr (bits s) = rrF ((bits s).drop (k + 1)) R (G ++ [g]) 1 0 by rw [HR.out, HD.out, rrF_true, if_pos ⟨rfl, fun e => by rw [e] at hR0; simp at hR0⟩])
          have hRi : (0 : Int) < (R.length : Int) := by omega
          clear HD HR
          go_wp2_with (at_builtin; refine wpList_append_own_at _ rfl _ _ 79 rfl B 3 i0 (.int .i64 0) 1 8 Tryz.underlying79 hi hz0 hz1 hz2 rfl (by decide) _ _ _ rfl (HV.out.alloc _) ⟨wr.heap.size, 0, none⟩ 1 1 [.int .i64 (g : Int)] rfl rfl (cell_one_new _ _ _) (one_of_int _) (by unfold maxLen; omega) (by omega) (by simp; omega) ?_; intro v' w1 hown' hgrow _ hat)
          go_roundw
          case rel =>
            obtain ⟨r1, r2⟩ := rows_next HU.out (fun x hx hy => HA.out x hy hx) hgrow hat
            have hsg := hgrow.size
            rw [World.size_alloc] at hsg
            refine ⟨k + 1, 1, 0, R, G ++ [g], by omega, by go_num, rfl, rfl, by omega, by omega, by omega, by simp; omega, r1, ?_, fun x hx hy => r2 x hy hx, HR2, (HBW.out.alloc hsz _).grown hgrow (by simp; omega) (fun b e => (HV.out.lt b e).1), by omega⟩
            rw [List.length_append, ni_snoc, List.map_append]; exact hown'
          case measure => simp [Go.RowKit.intOf]; omega
        · have HR2 := hide (show rr (bits s) = rrF ((bits s).drop (k + 1)) R G (n + 1) 0 by rw [HR.out, HD.out, rrF_true, if_neg (fun h => hc ⟨h.1, List.length_pos_iff.2 h.2⟩)])
          clear HD HR
          by_cases hn0 : n = 0
          · subst hn0
            have hR0 : R.length = 0 := by omega
            have hRi : ¬ (0 : Int) < (R.length : Int) := by omega
            clear hc
            go_wp2
            go_roundw
            case rel => exact ⟨k + 1, 0 + 1, 0, R, G, by omega, by go_num, rfl, rfl, by omega, by omega, by omega, by omega, HU, HV, HA, HR2, HBW, hsz⟩
            case measure => simp [Go.RowKit.intOf]; omega
          · have hni : ((n : Int) == 0) = false := beq_eq_false_iff_ne.2 (by omega)
            clear hc
            go_wp2
            go_roundw
            case rel => exact ⟨k + 1, n + 1, 0, R, G, by omega, by go_num, by go_num, rfl, by omega, by omega, by omega, by omega, HU, HV, HA, HR2, HBW, hsz⟩
            case measure => simp [Go.RowKit.intOf]; omega
    · have hks : k = s.size := by omega
      have HE : Hid (rr (bits s) = (if n = 0 then R else R ++ [n], G)) := by
        show rr (bits s) = _
        rw [HR.out, hks, List.drop_of_length_le (by rw [length_bits]; exact Nat.le_refl _)]; rfl
      clear HR
      by_cases hc : 0 < n
      · have HE2 := hide (HE.out.trans (by rw [if_neg (by omega)] : _ = (R ++ [n], G)))
        clear HE
        go_wp2_with (at_builtin; refine wpList_append_own_at _ rfl _ _ 79 rfl B 3 i0 (.int .i64 0) 1 8 Tryz.underlying79 hi hz0 hz1 hz2 rfl (by decide) _ _ _ rfl (HU.out.alloc _) ⟨wr.heap.size, 0, none⟩ 1 1 [.int .i64 (n : Int)] rfl rfl (cell_one_new _ _ _) (one_of_int _) (by unfold maxLen; omega) (by omega) (by simp; omega) ?_; intro v' w1 hown' hgrow _ hat)
        go_ret2
        obtain ⟨r1, r2⟩ := rows_next HV.out HA.out hgrow hat
        rw [HE2.out]
        refine ⟨_, _, rfl, IntsV.of_owns (e := 3) (n := R.length + 1) ?_, IntsV.of_owns (e := 3) (n := G.length) r1, (HBW.out.alloc hsz _).grown hgrow (by simp; omega) (fun b e => (HU.out.lt b e).1)⟩
        show w1.ownsRow _ _ _ _ _ ((ni (R ++ [n])).map (.int .i64))
        rw [ni_snoc, List.map_append]; exact hown'
      · obtain rfl : n = 0 := by omega
        have HE2 := hide (HE.out.trans (by rw [if_pos rfl] : _ = (R, G)))
        clear HE
        go_wp2
        go_ret2
        rw [HE2.out]
        exact ⟨_, _, rfl, IntsV.of_owns (e := 3) (n := R.length) HU.out, IntsV.of_owns (e := 3) (n := G.length) HV.out, HBW.out⟩

def rnR (s : ByteArray) : List Int := if vld s then ni (rr (bits s)).1 else []
def apOk (s : ByteArray) : Bool := vld s && apB (rr (bits s)).1 (rr (bits s)).2
theorem rr_len (l : List Bool) : (rr l).1.length ≤ l.length ∧ ((rr l).2 = [] ∨ (rr l).2.length + 1 = (rr l).1.length) ∧ ∀ x ∈ (rr l).1, x ≤ l.length := by
  obtain ⟨h1, h2, h3⟩ := runs_energy l
  refine ⟨by rw [h1]; exact tk_le _ _ _, ?_, ?_⟩
  · obtain ⟨g, ps, hg, rfl⟩ := blocks l
    rw [rr_blocks hg]
    cases ps with
    | nil => exact .inl rfl
    | cons p ps => exact .inr (by simp)
  · intro x hx
    have := mem_le_sum _ x hx
    rw [h2] at this
    have h4 : nballs l ≤ l.length := by unfold nballs; exact List.count_le_length
    omega

set_option maxHeartbeats 400000 in
theorem specShapeRuns_any (s : ByteArray) (w : World) (hs : s.size ≤ maxLen) :
    Calls Tryz.prog 46 #[.string s] w fun e w' => ∃ v, e = .returned (.tuple #[v, .bool (vld s)]) ∧ IntsV w.heap.size w' v (rnR s) ∧ Below w.heap.size w w' := by
  unfold rnR
  cases hv : vld s
  · go_enter Tryz.func46, Tryz.ntmps46
    go_wp2_with (go_at_call 42; refine (specRowValid_any _ _ hs).mono ?_; rintro e w' ⟨rfl, rfl⟩)
    go_ret2
    exact ⟨_, rfl, .inl ⟨_, _, rfl, rfl⟩, (Below.refl _ _).alloc (Nat.le_refl _) _⟩
  · have h120 := vld_le s hv
    have C := hide (fun w => l3Runs_any s w h120)
    go_enter Tryz.func46, Tryz.ntmps46
    go_wp2_with (go_at_call 42; refine (specRowValid_any _ _ hs).mono ?_; rintro e w' ⟨rfl, rfl⟩)
    refine (C.out _).mono ?_
    rintro e w1 ⟨u, v, rfl, hu, hv2, hb⟩
    go_wp2
    go_ret2
    exact ⟨_, rfl, hu, hb⟩

theorem apB_at {R G : List Nat} {k : Nat} (h : k < G.length) (hb : (decide (R.getD k 0 ≤ R.getD (k + 1) 0) && decide (R.getD k 0 ≤ G.getD k 0)) = false) : apB R G = false := by
  unfold apB
  rw [List.all_eq_false]
  exact ⟨k, by simpa using h, by rw [hb]; simp⟩
theorem apB_all {R G : List Nat} (h : ∀ k, k < G.length → (decide (R.getD k 0 ≤ R.getD (k + 1) 0) && decide (R.getD k 0 ≤ G.getD k 0)) = true) : apB R G = true := by
  unfold apB
  rw [List.all_eq_true]
  intro k hk
  exact h k (by simpa using hk)
theorem getD_some {l : List Nat} {k : Nat} (h : k < l.length) : l[k]? = some (l.getD k 0) := by
  rw [List.getD_eq_getElem?_getD, List.getElem?_eq_getElem h]; rfl

set_option maxHeartbeats 2000000 in
theorem specShapeApart_any (s : ByteArray) (w : World) (hs : s.size ≤ maxLen) :
    Calls Tryz.prog 49 #[.string s] w fun e w' => e = .returned (.bool (apOk s)) ∧ Below w.heap.size w w' := by
  unfold apOk
  cases hv : vld s
  · go_enter Tryz.func49, Tryz.ntmps49
    go_wp2_with (go_at_call 42; refine (specRowValid_any _ _ hs).mono ?_; rintro e w' ⟨rfl, rfl⟩)
    go_ret
    exact ⟨rfl, Below.refl _ _⟩
  · have h120 := vld_le s hv
    have C := hide (fun w => l3Runs_any s w h120)
    obtain ⟨l1, l2, l3⟩ := rr_len (bits s)
    rw [length_bits] at l1 l3
    obtain ⟨R, hR⟩ : ∃ R, R = (rr (bits s)).1 := ⟨_, rfl⟩
    obtain ⟨G, hG⟩ : ∃ G, G = (rr (bits s)).2 := ⟨_, rfl⟩
    rw [← hR, ← hG] at C l2 ⊢
    rw [← hR] at l1 l3
    clear hR hG
    have HL3 := hide l3
    clear l3
    go_enter Tryz.func49, Tryz.ntmps49
    go_wp2_with (go_at_call 42; refine (specRowValid_any _ _ hs).mono ?_; rintro e w' ⟨rfl, rfl⟩)
    refine (C.out _).mono ?_
    rintro e w1 ⟨u, v, rfl, hu, hv2, hb⟩
    have HB := hide hb
    clear C hb
    rcases hv2 with ⟨a2, c2, rfl, hnil⟩ | ⟨g2, c2, rfl, _, _, _, hc2⟩
    · have hG0 : G = [] := by have := congrArg List.length hnil; rw [ni_length] at this; exact List.eq_nil_of_length_eq_zero (by simpa using this)
      subst hG0
      go_wp2
      go_loopw [5] (fun i wr => i = .int .i64 0 ∧ Hid (Quiet w1 wr)) (fun _ _ => 0)
      case atStart => exact ⟨rfl, Quiet.refl _⟩
      case round =>
        obtain ⟨rfl, HQ⟩ := hrel
        go_wp2
        go_ret
        exact ⟨rfl, HB.out.trans (HQ.out.2 _)⟩
    · rw [ni_length]
      have HC2 := hide hc2
      clear hc2
      obtain ⟨gl, hgl⟩ : ∃ n, n = G.length := ⟨_, rfl⟩
      have HGL := hide hgl
      have hrl : gl = 0 ∨ gl + 1 = R.length := by
        rcases l2 with h | h
        · left; rw [hgl, h]; rfl
        · right; omega
      rw [← hgl] at ⊢
      clear l2 hgl
      obtain ⟨a1, c1, rfl, hcu⟩ : ∃ a c, u = .slice a R.length c ∧ (0 < gl → ∃ g, a = some ⟨g, 0, none⟩ ∧ CellsAt w1 g ((ni R).map (.int .i64))) := by
        rcases hu with ⟨a, c, rfl, hn⟩ | ⟨g, c, rfl, _, _, _, hc⟩
        · have hR0 : R.length = 0 := by have := congrArg List.length hn; rw [ni_length] at this; simpa using this
          exact ⟨a, c, by rw [hR0], fun h => by omega⟩
        · exact ⟨_, c, by rw [ni_length], fun _ => ⟨g, rfl, hc⟩⟩
      have HCU := hide hcu
      clear hcu
      go_wp2
      go_loopw [5] (fun i wr => ∃ k : Nat, k ≤ gl ∧ i = .int .i64 (k : Int) ∧ Hid (Quiet w1 wr) ∧ Hid (∀ j, j < k → (decide (R.getD j 0 ≤ R.getD (j + 1) 0) && decide (R.getD j 0 ≤ G.getD j 0)) = true)) (fun i _ => gl - (Go.RowKit.intOf i).toNat)
      case atStart => exact ⟨0, Nat.zero_le _, rfl, Quiet.refl _, fun j hj => by omega⟩
      case round =>
        obtain ⟨k, hk, rfl, HQ, HALL⟩ := hrel
        by_cases hlt : k < gl
        · obtain ⟨g1, rfl, hc1⟩ := HCU.out (by omega)
          have hkR : k + 1 < R.length := by omega
          have x1 := getD_some (l := R) (k := k) (by omega)
          have x2 := getD_some (l := R) (k := k + 1) hkR
          have x3 := getD_some (l := G) (k := k) (by have := HGL.out; omega)
          have q1 := ((HQ.out.cells hc1) k (.int .i64 ((R.getD k 0 : Nat) : Int)) (by rw [List.getElem?_map, ni_getElem, x1]; rfl)).1
          have q2 := ((HQ.out.cells hc1) (k + 1) (.int .i64 ((R.getD (k + 1) 0 : Nat) : Int)) (by rw [List.getElem?_map, ni_getElem, x2]; rfl)).1
          have q3 := ((HQ.out.cells HC2.out) k (.int .i64 ((G.getD k 0 : Nat) : Int)) (by rw [List.getElem?_map, ni_getElem, x3]; rfl)).1
          have HBAD := hide (fun h => @apB_at R G k (by have := HGL.out; omega) h)
          have HNEXT : Hid ((decide (R.getD k 0 ≤ R.getD (k + 1) 0) && decide (R.getD k 0 ≤ G.getD k 0)) = true → ∀ j, j < k + 1 → (decide (R.getD j 0 ≤ R.getD (j + 1) 0) && decide (R.getD j 0 ≤ G.getD j 0)) = true) := by
            intro h j hj
            by_cases e : j = k
            · subst e; exact h
            · exact HALL.out j (by omega)
          obtain ⟨x, hx⟩ : ∃ x, x = R.getD k 0 := ⟨_, rfl⟩
          obtain ⟨y, hy⟩ : ∃ x, x = R.getD (k + 1) 0 := ⟨_, rfl⟩
          obtain ⟨z, hz⟩ : ∃ x, x = G.getD k 0 := ⟨_, rfl⟩
          rw [← hx] at q1 HBAD HNEXT
          rw [← hy] at q2 HBAD HNEXT
          rw [← hz] at q3 HBAD HNEXT
          clear hx hy hz x1 x2 x3 hc1
          have i0 : (0 : Int) ≤ (k : Int) := by omega
          have i1 : (k : Int) < (R.length : Int) := by omega
          have i2 : (k : Int) + 1 < (R.length : Int) := by omega
          have i3 : (k : Int) < (gl : Int) := by omega
          have j3 : k ≤ 120 := by omega
          have i4 : (0 : Int) ≤ (k : Int) + 1 := by omega
          by_cases hxy : x ≤ y
          · have d1 : decide ((y : Int) < (x : Int)) = false := by simp; omega
            by_cases hxz : x ≤ z
            · have d2 : decide ((z : Int) < (x : Int)) = false := by simp; omega
              have HN2 := hide (HNEXT.out (by simp; omega))
              have hw : IntKind.i64.wrap ((k : Int) + 1) = (k : Int) + 1 := IntWalk.i64_in _ (by omega)
              clear HNEXT HBAD
              go_wp2
              go_quiet (fail)
              go_wp2
              clear hw
              go_roundw
              case rel => exact ⟨k + 1, by omega, by go_num, HQ.out.trans (Quiet.drewN _), HN2⟩
              case measure => simp [Go.RowKit.intOf]; omega
            · have d2 : (z : Int) < (x : Int) := by omega
              have hb0 := hide (HBAD.out (by simp; omega))
              have hw : IntKind.i64.wrap ((k : Int) + 1) = (k : Int) + 1 := IntWalk.i64_in _ (by omega)
              clear HNEXT HBAD
              go_wp2
              go_quiet (fail)
              go_wp2
              go_ret
              exact ⟨by rw [hb0.out]; rfl, HB.out.trans ((HQ.out.trans (Quiet.drewN _)).2 _)⟩
          · have d1 : (y : Int) < (x : Int) := by omega
            have hb0 := hide (HBAD.out (by simp; omega))
            have hw : IntKind.i64.wrap ((k : Int) + 1) = (k : Int) + 1 := IntWalk.i64_in _ (by omega)
            clear HNEXT HBAD
            go_wp2
            go_quiet (fail)
            go_wp2
            go_ret
            exact ⟨by rw [hb0.out]; rfl, HB.out.trans ((HQ.out.trans (Quiet.drewN _)).2 _)⟩
        · have ha := hide (apB_all (R := R) (G := G) (fun j hj => HALL.out j (by have := HGL.out; omega)))
          go_wp2
          go_ret
          exact ⟨by rw [ha.out]; rfl, HB.out.trans (HQ.out.2 _)⟩
end Go.Proofs.YtdooboibmllfkaaGreatDoor
