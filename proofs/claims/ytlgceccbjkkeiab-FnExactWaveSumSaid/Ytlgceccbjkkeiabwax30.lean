/- TEXTS Shape5. -/
import Derived.Test.Ytlgceccbjkkeiabwax29
import Derived.Test.Ytlgceccbjkkeiabwax22
import Derived.Test.Ytlgceccbjkkeiabwax07
import Derived.Test.Ytlgceccbjkkeiabwax08
import Derived.Test.Ytlgceccbjkkeiabwax05
import Derived.Deep.AppendLies
import Derived.Deep.RegionHeld3
/- THE WALK of the model's ShapeRow. -/
namespace Go.Proofs.Ytlgceccbjkkeiab
open Go.RowKit

/-- an append at a step of a region that draws its order, of no cell or more -/
theorem step_app {P : Program} {w : World} {ops : Array Oper} {o : Oper} {a : Act} {K : Act → World → Prop} {Q : Exit → Act → World → Prop} {E : Prop} (hgd : o.guard = none) (s x : Operand) (t : TypeId)
    (ho : o.op = .call { callee := .builtin .append, args := #[s, x], argTypes := #[t, t] })
    (base : Nat) (e : TypeId) (i : TypeInfo) (z : Value) (size bytes : Nat) (ht : P.underlying t = some (.slice e)) (hi : P.info? e = some i) (hz : i.zero = some z)
    (hsize : i.size = size) (hby : i.bytes = bytes) (hzs : z.cells.size = size) (hsz : 0 < size)
    (v : Value) (n : Nat) (xs : List Value) (hs : a.eval s = v) (hown : w.ownsRow base e size v n xs)
    (ad : Addr) (m c : Nat) (news : List Value) (hx : a.eval x = .slice (some ad) m c) (hl : news.length = m * size) (hnews : ∀ j u, news[j]? = some u → w.cell? (ad.add j) = some u) (h1 : ∀ u ∈ news, u.oneCell' = true)
    (h63 : n + m ≤ maxLen) (hbytes : (n + m) * bytes ≤ 140737488355328) (hbase : base ≤ w.heap.size)
    (h : ∀ v' w', w'.ownsRow base e size v' (n + m) (xs ++ news) → w.grownBy w' v.ownBlock → (v'.ownBlock = v.ownBlock ∨ v'.ownBlock = some w.heap.size) → K (a.put o.dst v') w') :
    if Region.wanted o (yielded ops a.tmps) = true then Oper.wp P o a w K Q else E := by
  have hw : Region.wanted o (yielded ops a.tmps) = true := by simp [Region.wanted, hgd]
  rw [if_pos hw]
  obtain ⟨v', w', hr, h2, h3, _, h5⟩ := run_append_own_at (P := P) w base t o.type e i z size bytes ht hi hz hsize hby hzs hsz v n xs hown ad m c news hl hnews h1 h63 hbytes hbase
  unfold Oper.wp execOp
  simp only [ho, resolve, invoke, builtin, Sem.run_bind, Sem.run_pure, Result.andThen_ok, List.map_toArray, List.map_cons, List.map_nil, hs, hx, hr]
  exact h v' w' h2 h3 h5

/-- the text of numbers of signs -/
def many (c : UInt8) (n : Nat) : ByteArray := ⟨(List.replicate n c).toArray⟩
theorem l6Many_one (c : UInt8) (n : Nat) (w : World) (hn : n ≤ 1000) :
    Calls Try.prog 30 #[.string ⟨#[c]⟩, .int .i64 (n : Int)] w fun e w' => e = .returned (.string (many c n)) ∧ w = w' := by
  refine (l6Many_any ⟨#[c]⟩ n w hn (by show 1 ≤ 1000; omega)).mono ?_
  rintro e w' ⟨⟨out, rfl, ho⟩, hw⟩
  refine ⟨?_, hw⟩
  have hr : rep n ([c] : List UInt8) = List.replicate n c := by
    clear ho
    induction n with
    | zero => rfl
    | succ n ih => rw [rep_succ, ih (by omega), List.replicate_succ]; rfl
  have : out = many c n := by
    unfold many
    apply ByteArray.ext
    apply Array.toList_inj.1
    rw [ho]; exact hr
  rw [this]
/-- a size in its range -/
def s20 (x : Int) : Bool := decide (1 ≤ x) && decide (x ≤ 20)

/-- the loop that puts the numbers in, between two of them -/
def SortRel (l : List Int) (n B : Nat) (w : World) (u i : Value) (wr : World) : Prop :=
  ∃ (k g c : Nat), k ≤ n ∧ i = .int .i64 (k : Int) ∧ u = .slice (some ⟨g, 0, none⟩) k c ∧ k ≤ c ∧ c ≤ maxLen ∧ B ≤ g ∧ g < wr.heap.size ∧
    Hid (CellsAt wr g ((isr (l.take k)).map (.int .i64))) ∧ Hid (Below B w wr) ∧ Hid ((l.take k).all s20 = true)
theorem isr_length (l : List Int) : (isr l).length = l.length := (isr_facts l).2.1
theorem swC_s20 (l : List Int) : swC l = (decide (l.length ≤ 20) && l.all s20) := rfl
theorem at_getD (l : List Int) (j : Nat) (y : Int) (h : l[j]? = some y) : l.getD j 0 = y := by rw [List.getD_eq_getElem?_getD, h]; rfl

/-- what a region that lays cells must keep: a row, a number of a list, what lies below -/
def Keep (w : World) (B g b k : Nat) (x : Int) (cs : List Value) (w0 : World) : Prop :=
  CellsAt w0 g cs ∧ w0.cell? ⟨b, k, none⟩ = some (.int .i64 x) ∧ Below B w w0 ∧ B ≤ w0.heap.size ∧ g < w0.heap.size ∧ b < w0.heap.size
theorem Keep.alloc {w w0 : World} {B g b k : Nat} {x : Int} {cs : List Value} (h : Keep w B g b k x cs w0) (o : Obj) : Keep w B g b k x cs (w0.alloc o) := by
  obtain ⟨h1, h2, h3, h4, h5, h6⟩ := h
  refine ⟨h1.alloc o, ?_, h3.alloc h4 o, by rw [World.size_alloc]; omega, by rw [World.size_alloc]; omega, by rw [World.size_alloc]; omega⟩
  have := ((Below.refl w0.heap.size w0).alloc (Nat.le_refl _) o).cell (p := ⟨b, k, none⟩) h6
  exact this.trans h2
theorem Keep.drew {w w0 : World} {B g b k : Nat} {x : Int} {cs : List Value} (h : Keep w B g b k x cs w0) : Keep w B g b k x cs w0.drew := by
  obtain ⟨h1, h2, h3, h4, h5, h6⟩ := h
  exact ⟨h1, h2, h3.drew, h4, h5, h6⟩
/-- a value that owns neither of two blocks, and what lies below B -/
def Far (B g b : Nat) (v : Value) : Prop := v.ownBlock ≠ some g ∧ v.ownBlock ≠ some b ∧ ∀ r, v.ownBlock = some r → B ≤ r
theorem Far.new {B g b r n c : Nat} (h1 : r ≠ g) (h2 : r ≠ b) (h3 : B ≤ r) : Far B g b (.slice (some ⟨r, 0, none⟩) n c) := by
  refine ⟨fun e => ?_, fun e => ?_, fun q e => ?_⟩ <;> (simp [Value.ownBlock] at e; omega)
theorem Keep.grown {w w0 w1 : World} {B g b k : Nat} {x : Int} {cs : List Value} {v v' : Value} (h : Keep w B g b k x cs w0) (hf : Far B g b v) (hg : w0.grownBy w1 v.ownBlock) (hat : v'.ownBlock = v.ownBlock ∨ v'.ownBlock = some w0.heap.size) :
    Keep w B g b k x cs w1 ∧ Far B g b v' := by
  obtain ⟨h1, h2, h3, h4, h5, h6⟩ := h
  obtain ⟨f1, f2, f3⟩ := hf
  have hsz := hg.size
  refine ⟨⟨?_, ?_, h3.grown hg h4 f3, by omega, by omega, by omega⟩, ?_⟩
  · intro j u hu
    obtain ⟨a, c⟩ := h1 j u hu
    exact ⟨(hg.cell_far ⟨g, j, none⟩ h5 (Ne.symm f1)).trans a, (hg.frozen_far ⟨g, j, none⟩ h5 (Ne.symm f1)).trans c⟩
  · exact (hg.cell_far ⟨b, k, none⟩ h6 (Ne.symm f2)).trans h2
  · rcases hat with e | e
    · exact ⟨by rw [e]; exact f1, by rw [e]; exact f2, by rw [e]; exact f3⟩
    · exact ⟨by rw [e]; intro q; injection q with q; omega, by rw [e]; intro q; injection q with q; omega, by rw [e]; intro r q; injection q with q; omega⟩
theorem Keep.src {w w0 : World} {B g b k m : Nat} {x : Int} {cs : List Value} (h : Keep w B g b k x cs w0) : ∀ j u, (cs.take m)[j]? = some u → w0.cell? ((⟨g, 0, none⟩ : Addr).add j) = some u := (h.1.take m).src
theorem Keep.src2 {w w0 : World} {B g b k m : Nat} {x : Int} {cs : List Value} (h : Keep w B g b k x cs w0) : ∀ j u, (cs.drop m)[j]? = some u → w0.cell? ((⟨g, m, none⟩ : Addr).add j) = some u := by
  intro j u hu
  rw [List.getElem?_drop] at hu
  rw [Addr.add_lit]
  exact (h.1 (m + j) u hu).1
theorem ints_of {L : List Int} : ∀ u ∈ L.map (Value.int .i64), u.oneCell' = true := by intro u hu; obtain ⟨b, _, rfl⟩ := List.mem_map.1 hu; rfl
theorem sort_next {l L : List Int} {k : Nat} {x : Int} (hL : L = isr (l.take k)) (hx : l[k]? = some x) : isr (l.take (k + 1)) = L.take (insK x L L.length) ++ [x] ++ L.drop (insK x L L.length) := by
  obtain ⟨hk, e⟩ := List.getElem?_eq_some_iff.1 hx
  rw [List.take_succ_eq_append_getElem hk, isr_snoc, e, hL]
  rfl

theorem chars_app (a b : List Bool) : chars (a ++ b) = chars a ++ chars b := by unfold chars; rw [List.map_append]
theorem chars_many (n : Nat) : chars (List.replicate n true) = List.replicate n 49 ∧ chars (List.replicate n false) = List.replicate n 48 := by
  unfold chars
  rw [List.map_replicate, List.map_replicate]
  exact ⟨rfl, rfl⟩
theorem many_next {so : ByteArray} {L : List Int} {q zn : Nat} (h : so.data.toList = chars (szB (L.take q))) (hz : L[q]? = some (zn : Int)) :
    (so ++ many 49 zn ++ many 48 zn).data.toList = chars (szB (L.take (q + 1))) := by
  obtain ⟨hk, e⟩ := List.getElem?_eq_some_iff.1 hz
  rw [List.take_succ_eq_append_getElem hk, szB_snoc, chars_app, chars_app, e, Int.toNat_natCast, (chars_many zn).1, (chars_many zn).2, ByteArray.data_append, ByteArray.data_append, Array.toList_append, Array.toList_append, h, List.append_assoc]
  rfl
theorem all_s20 {l : List Int} (h : l.all s20 = true) (x : Int) (hx : x ∈ l) : 1 ≤ x ∧ x ≤ 20 := by
  have := List.all_eq_true.1 h x hx
  unfold s20 at this
  simpa using this

end Go.Proofs.Ytlgceccbjkkeiab
