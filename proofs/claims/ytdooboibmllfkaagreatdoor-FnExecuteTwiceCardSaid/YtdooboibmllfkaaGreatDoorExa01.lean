/- TEXTS Door, Env8, Vars8, Carry, Plain, Valid, Cells, ReadRow. -/
import Derived.Test.YtdooboibmllfkaaGreatDoorChecked
import Derived.Test.YtdooboibmllfkaaGreatDoorRows
import Derived.WalkKit
import Derived.ProofKit
import Derived.OpenShut
import Derived.Below
import Derived.LaidLaws
import Derived.LaidHandle
import Derived.Stop.Joined
import Derived.ChangeVars
import Derived.JoinedOf
import Derived.Lib.LaidTab
import Derived.Lib.ItoaNum
import Derived.LaidMore
import Derived.Lay
import Derived.Stop.LaidErr
import Derived.WalkSpells
import Derived.WalkLawsBesides
namespace Go.Proofs.YtdooboibmllfkaaGreatDoor
set_option maxRecDepth 100000
open Go.ChangeShapes Go.WideShapes Go.RowKit

def EtAt (w : World) : Prop := w.cell? ⟨1, 0, none⟩ = some (.iface 264 (.agg #[.pointer (some ⟨9, 42, none⟩)]))
theorem EtAt.lt {w : World} (h : EtAt w) : 1 < w.heap.size := World.block_lt_of_cell? w _ h
theorem EtAt.below {w w' : World} {B : Nat} (h : EtAt w) (hb : Below B w w') (hB : w.heap.size ≤ B) : EtAt w' :=
  (hb.cell (p := ⟨1, 0, none⟩) (by have := h.lt; show 1 < B; omega)).trans h

abbrev doorList : List (String × DataW Unit) := [("errors.errorType", Rows.laid_errors_errorType)]
theorem doorVar : Tryz.prog.globalNamed "errors.errorType" = some 1 := by kernel_rfl
theorem doorRt : (Tryz.prog.cutTypes.find? (·.1 == "internal/reflectlite.rtype")).map (·.2) = some 264 := by kernel_rfl
theorem doorRow : ((List.range Tryz.prog.types.size).filter fun t => Tryz.prog.rowNamed t [101, 114, 114, 111, 114]) = [42] := by kernel_rfl
theorem et_of_laid {W : World} (h : laidMetH Tryz.prog doorList W) : EtAt W := by
  have h' : laidMet Tryz.prog [] W ∧ handlesMet Tryz.prog doorList W := h
  obtain ⟨name, u, ty, e1, e2, e3, e4, e5⟩ := h'.2 _ (List.mem_singleton.2 rfl)
  have en : name = [101, 114, 114, 111, 114] := (Option.some.inj e1).symm
  subst en
  obtain rfl := Option.some.inj (doorRt.symm.trans e2)
  have hm : ty ∈ (List.range Tryz.prog.types.size).filter fun t => Tryz.prog.rowNamed t [101, 114, 114, 111, 114] := List.mem_filter.2 ⟨List.mem_range.2 e3, e4⟩
  rw [doorRow] at hm
  obtain rfl := List.mem_singleton.1 hm
  have hh : typeHandle Tryz.prog 42 = .pointer (some ⟨9, 42, none⟩) := by kernel_rfl
  rw [hh] at e5
  have := World.var?_cell doorVar e5 0
  simpa [EtAt] using this
noncomputable def doorWorld (os : Os) : World :=
  let w0 := World.holding Tryz.prog os ⟨#[], #[], []⟩
  { w0 with heap := w0.heap.modify 1 fun
      | .cells _ t frozen => .cells #[.iface 264 (.agg #[.pointer (some ⟨9, 42, none⟩)])] t frozen
      | o => o }
end Go.Proofs.YtdooboibmllfkaaGreatDoor

namespace Go.Proofs.YtdooboibmllfkaaGreatDoor
set_option maxRecDepth 100000
open Go.RowKit Go.ChangeShapes Go.WideShapes

structure Env (w : World) : Prop where
  et : EtAt w
  tab : Lib.TabIs Tryz.prog w "internal/strconv.uint64pow10" .u64 Lib.pow10Tab
  es : ∃ tp p, w.var? Tryz.prog "strconv.ErrSyntax" = some #[.iface tp p]
  er : ∃ tp p, w.var? Tryz.prog "strconv.ErrRange" = some #[.iface tp p]
theorem var_kept {n : String} {cs : Array Value} {g : Nat} {w w' : World} (hg : Tryz.prog.globalNamed n = some g) (hl : g < 9) (h : w.var? Tryz.prog n = some cs) (hk : ∀ k, k < w.heap.size → k < 9 → w'.heap[k]? = w.heap[k]?) : w'.var? Tryz.prog n = some cs := by
  unfold World.var? at h ⊢
  rw [hg] at h ⊢
  simp only [Option.bind_some] at h ⊢
  have hlt : g < w.heap.size := by
    rcases Nat.lt_or_ge g w.heap.size with h' | h'
    · exact h'
    · simp [Array.getElem?_eq_none h'] at h
  rw [hk g hlt hl]
  exact h
theorem gPow : Tryz.prog.globalNamed "internal/strconv.uint64pow10" = some 4 := by kernel_rfl
theorem gEs : Tryz.prog.globalNamed "strconv.ErrSyntax" = some 2 := by kernel_rfl
theorem gEr : Tryz.prog.globalNamed "strconv.ErrRange" = some 3 := by kernel_rfl
theorem Env.kept {w w' : World} (h : Env w) (hk : ∀ k, k < w.heap.size → k < 9 → w'.heap[k]? = w.heap[k]?) : Env w' := by
  obtain ⟨h1, h2, ⟨t3, p3, h3⟩, ⟨t4, p4, h4⟩⟩ := h
  exact ⟨(World.cell?_of_block (hk _ (World.block_lt_of_cell? w _ h1) (by decide))).trans h1, var_kept gPow (by decide) h2 hk, ⟨t3, p3, var_kept gEs (by decide) h3 hk⟩, ⟨t4, p4, var_kept gEr (by decide) h4 hk⟩⟩
theorem Env.below {w w' : World} (h : Env w) (hb : Below w.heap.size w w') : Env w' := h.kept (fun k hk _ => hb.block k hk)
theorem Env.turn {w w' : World} {b : Nat} (h : Env w) (hg : w.grownBy w' (some b)) (hb : 9 ≤ b) : Env w' := h.kept (fun k hk h9 => hg.block k hk (by intro e; cases e; omega))
theorem Env.many {w w' : World} (h : Env w) (hb : Below 9 w w') : Env w' := h.kept (fun k _ h9 => hb.block k h9)
end Go.Proofs.YtdooboibmllfkaaGreatDoor

namespace Go.Proofs.YtdooboibmllfkaaGreatDoor
set_option maxRecDepth 100000
open Go.ChangeShapes Go.WideShapes Go.RowKit

abbrev exeList : List (String × DataW Unit) := [("math/bits.deBruijn32tab", Rows.laid_math_bits_deBruijn32tab), ("math/bits.deBruijn64tab", Rows.laid_math_bits_deBruijn64tab), ("internal/strconv.uint64pow10", Rows.laid_internal_strconv_uint64pow10), ("unicode/utf8.acceptRanges", Rows.laid_unicode_utf8_acceptRanges), ("errors.errorType", Rows.laid_errors_errorType), ("strconv.ErrRange", Rows.laid_strconv_ErrRange), ("strconv.ErrSyntax", Rows.laid_strconv_ErrSyntax), ("unicode/utf8.first", Rows.laid_unicode_utf8_first)]
abbrev exeData : List (String × DataW Unit) := [("math/bits.deBruijn32tab", Rows.laid_math_bits_deBruijn32tab), ("math/bits.deBruijn64tab", Rows.laid_math_bits_deBruijn64tab), ("internal/strconv.uint64pow10", Rows.laid_internal_strconv_uint64pow10), ("unicode/utf8.acceptRanges", Rows.laid_unicode_utf8_acceptRanges), ("strconv.ErrRange", Rows.laid_strconv_ErrRange), ("strconv.ErrSyntax", Rows.laid_strconv_ErrSyntax), ("unicode/utf8.first", Rows.laid_unicode_utf8_first)]
theorem exe_some : (exeList.filter fun x => x.2.handleName?.isSome) = doorList := by kernel_rfl
theorem exe_none : (exeList.filter fun x => x.2.handleName?.isNone) = exeData := by kernel_rfl

theorem exeStar : "*" ++ "errors.errorString" = "*errors.errorString" := by decide
theorem exeRow (u : TypeId) (h : Tryz.prog.typeName? 3 u = some "*errors.errorString") : u = 285 :=
  typeName_ptr_named (nm := "errors.errorString") (by rw [exeStar]; kernel_rfl) (by kernel_rfl) (by decide) u (by rw [exeStar]; exact h)
theorem gEsType : (Tryz.prog.globals[2]?).map (·.type) = some 42 := by kernel_rfl
theorem gErType : (Tryz.prog.globals[3]?).map (·.type) = some 42 := by kernel_rfl
theorem gPowType : (Tryz.prog.globals[4]?).map (·.type) = some 255 := by kernel_rfl

set_option maxRecDepth 100000 in
theorem env_of_laid {W : World} (h : laidMetH Tryz.prog exeList W) : Env W := by
  unfold laidMetH at h
  rw [exe_some] at h
  have h' : laidMet Tryz.prog (exeList.filter fun x => x.2.handleName?.isNone) W ∧ handlesMet Tryz.prog doorList W := h
  rw [exe_none] at h'
  obtain ⟨h1, h2⟩ := h'
  have het : EtAt W := et_of_laid (show laidMet Tryz.prog [] W ∧ handlesMet Tryz.prog doorList W from ⟨laidMet_nil _ _, h2⟩)
  have hp := h1.tail.tail
  have hr := hp.tail.tail
  have hs := hr.tail
  obtain ⟨a, s, v1, _⟩ := laid_sentinel hr gEr gErType Tryz.underlying42 exeRow Tryz.underlying285 Tryz.underlying287 rfl rfl Tryz.underlying9 (by kernel_rfl) (by kernel_rfl)
  obtain ⟨a', s', v2, _⟩ := laid_sentinel hs gEs gEsType Tryz.underlying42 exeRow Tryz.underlying285 Tryz.underlying287 rfl rfl Tryz.underlying9 (by kernel_rfl) (by kernel_rfl)
  refine ⟨het, ?_, ⟨_, _, v2⟩, ⟨_, _, v1⟩⟩
  exact Lib.tabIs_of_head (zs := Lib.pow10Tab) gPow gPowType Tryz.underlying255 Tryz.underlying125 (by kernel_rfl) (by kernel_rfl) hp

noncomputable def exeWorld (os : Os) : World := (doorWorld os).layVars Tryz.prog exeData
theorem exeWorld_os (os : Os) : (exeWorld os).os = os := World.layVars_os _ _ _
set_option maxRecDepth 100000 in
theorem exe_shaped (os : Os) (args : Array Value) : ((exeWorld os).forCall (fun _ _ => 0) ⟨#[], args, []⟩).Shaped Tryz.prog :=
  World.shaped_of_ZipB (by kernel_rfl) (by kernel_rfl)
set_option maxRecDepth 100000 in
theorem exe_data (os : Os) : laidMet Tryz.prog exeData (exeWorld os) := by
  have e1 : (exeData.filter fun x => (exeData.map (·.1)).contains x.1) = exeData := List.filter_eq_self.2 fun x hx => List.contains_iff_mem.2 (List.mem_map.2 ⟨x, hx, rfl⟩)
  have e2 : (exeData.filter fun x => !(exeData.map (·.1)).contains x.1) = [] := List.filter_eq_nil_iff.2 fun x hx => by rw [List.contains_iff_mem.2 (List.mem_map.2 ⟨x, hx, rfl⟩)]; simp
  exact laidMet_layVars (w0 := doorWorld os) (exeData.map (·.1)) [] (by rw [e1]; rfl) (by rw [e1]; kernel_rfl) (by rw [e1]; kernel_rfl) (by rw [e2]; exact LaidIn.none)
set_option maxRecDepth 100000 in
theorem exe_met (os : Os) (args : Array Value) : laidMetH Tryz.prog exeList ((exeWorld os).forCall (fun _ _ => 0) ⟨#[], args, []⟩).memory :=
  laidMetH_of_parts (by rw [exe_none]; exact (exe_data os).of_heap (by simp [World.memory, World.forCall, Input.heap])) (by rw [exe_some]; kernel_rfl)
theorem exeOwn : ownKnob Tryz.prog.godebug = none := by kernel_rfl
theorem exeLaidOut : laidOutB Tryz.prog = true := by kernel_rfl
end Go.Proofs.YtdooboibmllfkaaGreatDoor

namespace Go.Proofs.YtdooboibmllfkaaGreatDoor
set_option maxRecDepth 100000

def nx (K : Nat) (b : Bool) (u : Nat) : Nat := if b then (if u < K then u + 1 else u) else u - 1
def ot (K : Nat) (b : Bool) (u : Nat) : Bool := if b then !decide (u < K) else decide (0 < u)
def ld (K : Nat) (f : Nat → Bool) : Nat → Nat
  | 0 => 0
  | i + 1 => nx K (f i) (ld K f i)
def tr (K : Nat) (f : Nat → Bool) (i : Nat) : Bool := ot K (f i) (ld K f i)
def tk (K : Nat) (f : Nat → Bool) : Nat → Nat
  | 0 => 0
  | i + 1 => tk K f i + if f i && decide (ld K f i < K) then 1 else 0
def cn (f : Nat → Bool) : Nat → Nat
  | 0 => 0
  | i + 1 => cn f i + if f i then 1 else 0

theorem ld_zero (K : Nat) (f : Nat → Bool) : ld K f 0 = 0 := rfl
theorem ld_succ (K : Nat) (f : Nat → Bool) (i : Nat) : ld K f (i + 1) = nx K (f i) (ld K f i) := rfl
theorem nx_le (K : Nat) (b : Bool) (u : Nat) (h : u ≤ K) : nx K b u ≤ K := by unfold nx; split <;> (try split) <;> omega
theorem ld_le (K : Nat) (f : Nat → Bool) (i : Nat) : ld K f i ≤ K := by
  induction i with
  | zero => exact Nat.zero_le _
  | succ i ih => exact nx_le K _ _ ih
theorem ld_le_cn (K : Nat) (f : Nat → Bool) (i : Nat) : ld K f i ≤ cn f i := by
  induction i with
  | zero => exact Nat.zero_le _
  | succ i ih => show nx K _ _ ≤ cn f i + _; unfold nx; cases f i <;> simp <;> (try split) <;> omega
theorem cn_le (f : Nat → Bool) (i : Nat) : cn f i ≤ i := by
  induction i with
  | zero => exact Nat.zero_le _
  | succ i ih => show cn f i + _ ≤ _; cases f i <;> simp <;> omega
theorem ld_le_i (K : Nat) (f : Nat → Bool) (i : Nat) : ld K f i ≤ i := Nat.le_trans (ld_le_cn K f i) (cn_le f i)

theorem ld_tail {K : Nat} {f : Nat → Bool} {n : Nat} (h : ∀ i, n ≤ i → f i = false) (j : Nat) : ld K f (n + j) = ld K f n - j := by
  induction j with
  | zero => rfl
  | succ j ih => rw [← Nat.add_assoc, ld_succ, h (n + j) (by omega), ih]; simp [nx]; omega
theorem tk_tail {K : Nat} {f : Nat → Bool} {n : Nat} (h : ∀ i, n ≤ i → f i = false) (j : Nat) : tk K f (n + j) = tk K f n := by
  induction j with
  | zero => rfl
  | succ j ih =>
    have e : tk K f (n + (j + 1)) = tk K f (n + j) + if f (n + j) && decide (ld K f (n + j) < K) then 1 else 0 := rfl
    rw [e, h (n + j) (by omega), ih]; simp
theorem cn_tail {f : Nat → Bool} {n : Nat} (h : ∀ i, n ≤ i → f i = false) (j : Nat) : cn f (n + j) = cn f n := by
  induction j with
  | zero => rfl
  | succ j ih =>
    have e : cn f (n + (j + 1)) = cn f (n + j) + if f (n + j) then 1 else 0 := rfl
    rw [e, h (n + j) (by omega), ih]; simp

theorem nx_back (K : Nat) (b : Bool) (u : Nat) (h : u ≤ K) : nx K (ot K b u) (nx K b u) = u := by
  unfold nx ot; cases b <;> simp <;> (repeat' split) <;> (try simp at *) <;> omega
theorem ot_back (K : Nat) (b : Bool) (u : Nat) (h : u ≤ K) : ot K (ot K b u) (nx K b u) = b := by
  unfold nx ot; cases b <;> by_cases h0 : 0 < u <;> by_cases h1 : u < K <;> simp [h0, h1] <;> omega
def rv (n : Nat) (g : Nat → Bool) (j : Nat) : Bool := if j < n then g (n - 1 - j) else false
theorem ld_back {K : Nat} {f : Nat → Bool} {n : Nat} (h0 : ld K f n = 0) : ∀ j, j ≤ n → ld K (rv n (tr K f)) j = ld K f (n - j) := by
  intro j
  induction j with
  | zero => intro _; exact h0.symm
  | succ j ih =>
    intro hj
    rw [ld_succ, ih (by omega)]
    have e : n - j = (n - 1 - j) + 1 := by omega
    rw [show n - (j + 1) = n - 1 - j by omega]
    show nx K (rv n (tr K f) j) _ = _
    rw [rv, if_pos (by omega), e, ld_succ]
    exact nx_back K _ _ (ld_le K f _)
theorem tr_back {K : Nat} {f : Nat → Bool} {n : Nat} (h0 : ld K f n = 0) (j : Nat) (hj : j < n) : tr K (rv n (tr K f)) j = f (n - 1 - j) := by
  have h1 := ld_back h0 j (by omega)
  unfold tr at h1 ⊢
  rw [h1, rv, if_pos hj, show n - j = (n - 1 - j) + 1 by omega, ld_succ]
  exact ot_back K _ _ (ld_le K f _)
theorem ld_lead {K : Nat} {f g : Nat → Bool} {d : Nat} (h0 : ∀ i, i < d → g i = false) (h : ∀ i, g (d + i) = f i) (i : Nat) : ld K g (d + i) = ld K f i := by
  induction i with
  | zero =>
    have : ∀ j, j ≤ d → ld K g j = 0 := by
      intro j
      induction j with
      | zero => intro _; rfl
      | succ j ih => intro hj; rw [ld_succ, ih (by omega), h0 j (by omega)]; rfl
    exact this d (Nat.le_refl _)
  | succ i ih => rw [← Nat.add_assoc, ld_succ, ld_succ, ih, h i]
theorem tr_lead {K : Nat} {f g : Nat → Bool} {d : Nat} (h0 : ∀ i, i < d → g i = false) (h : ∀ i, g (d + i) = f i) (i : Nat) : tr K g (d + i) = tr K f i := by
  unfold tr; rw [ld_lead h0 h, h]
theorem tr_lead0 {K : Nat} {g : Nat → Bool} {d : Nat} (h0 : ∀ i, i < d → g i = false) (i : Nat) (hi : i < d) : tr K g i = false := by
  unfold tr
  have := ld_lead (K := K) (d := i) (g := g) (f := fun j => g (i + j)) (fun j hj => h0 j (by omega)) (fun j => rfl) 0
  rw [Nat.add_zero] at this
  rw [this, h0 i hi]; rfl
theorem rv_pad {g : Nat → Bool} {n N : Nat} (hn : n ≤ N) (h : ∀ i, n ≤ i → g i = false) : (∀ i, i < N - n → rv N g i = false) ∧ ∀ i, rv N g (N - n + i) = rv n g i := by
  refine ⟨fun i hi => ?_, fun i => ?_⟩
  · unfold rv; rw [if_pos (by omega)]; exact h _ (by omega)
  · unfold rv
    by_cases hi : i < n
    · rw [if_pos (by omega), if_pos hi, show N - 1 - (N - n + i) = n - 1 - i by omega]
    · rw [if_neg (by omega), if_neg hi]
def bkL (K : Nat) (g : Nat → Bool) (n : Nat) : Nat := ld K (rv n g) n
def bkF (K : Nat) (g : Nat → Bool) (n : Nat) : Nat → Bool := rv n (tr K (rv n g))
theorem bkL_pad {K : Nat} {g : Nat → Bool} {n N : Nat} (hn : n ≤ N) (h : ∀ i, n ≤ i → g i = false) : bkL K g N = bkL K g n := by
  obtain ⟨h1, h2⟩ := rv_pad hn h
  have := ld_lead (K := K) h1 h2 n
  rw [show N - n + n = N by omega] at this
  exact this
theorem bkF_pad {K : Nat} {g : Nat → Bool} {n N : Nat} (hn : n ≤ N) (h : ∀ i, n ≤ i → g i = false) (i : Nat) : bkF K g N i = bkF K g n i := by
  obtain ⟨h1, h2⟩ := rv_pad hn h
  unfold bkF
  by_cases hi : i < n
  · have e1 : rv N (tr K (rv N g)) i = tr K (rv N g) (N - 1 - i) := by rw [rv, if_pos (by omega)]
    have e2 : rv n (tr K (rv n g)) i = tr K (rv n g) (n - 1 - i) := by rw [rv, if_pos (by omega)]
    have := tr_lead (K := K) h1 h2 (n - 1 - i)
    rw [show N - n + (n - 1 - i) = N - 1 - i by omega] at this
    rw [e1, e2, this]
  · have e2 : rv n (tr K (rv n g)) i = false := by rw [rv, if_neg hi]
    rw [e2]
    by_cases hi2 : i < N
    · have e1 : rv N (tr K (rv N g)) i = tr K (rv N g) (N - 1 - i) := by rw [rv, if_pos (by omega)]
      rw [e1]; exact tr_lead0 h1 _ (by omega)
    · rw [rv, if_neg hi2]
theorem step_back {K : Nat} {g : Nat → Bool} {n : Nat} (hg : ∀ i, n ≤ i → g i = false) (h0 : bkL K g n = 0) (i : Nat) : tr K (bkF K g n) i = g i := by
  unfold bkL at h0
  unfold bkF
  by_cases hi : i < n
  · rw [tr_back h0 i hi, rv, if_pos (by omega), show n - 1 - (n - 1 - i) = i by omega]
  · have h1 := ld_back h0 n (Nat.le_refl _)
    rw [Nat.sub_self, ld_zero] at h1
    have h2 := ld_tail (K := K) (f := rv n (tr K (rv n g))) (n := n) (fun j hj => by rw [rv, if_neg (by omega)]) (i - n)
    rw [h1, show n + (i - n) = i by omega] at h2
    have h3 : ld K (rv n (tr K (rv n g))) i = 0 := by omega
    have h4 : rv n (tr K (rv n g)) i = false := by rw [rv, if_neg hi]
    unfold tr at h3 h4 ⊢
    rw [h3, h4, hg i (by omega)]; rfl

set_option maxHeartbeats 2000000 in
theorem two_step (K L u v a b : Nat) (x : Bool) (hK : 1 ≤ K) (hL : 1 ≤ L) (hu : u ≤ K) (hv : v ≤ L) (hb : b + min (K - u) v = v + min u (L - v)) (hab : a + b = u + v) :
    ot L (ot K x u) v = ot K (ot L x b) a ∧
    nx L x b + min (K - nx K x u) (nx L (ot K x u) v) = nx L (ot K x u) v + min (nx K x u) (L - nx L (ot K x u) v) ∧
    nx K (ot L x b) a + nx L x b = nx K x u + nx L (ot K x u) v ∧
    (if x && decide (u < K) then 1 else 0) + min u (L - v) = (if ot L x b && decide (a < K) then 1 else 0) + min (nx K x u) (L - nx L (ot K x u) v) := by
  have ha : a ≤ K := by omega
  have hb2 : b ≤ L := by omega
  cases x
  · by_cases h1 : 0 < u <;> by_cases h2 : 0 < b <;> by_cases h3 : v < L <;> by_cases h4 : a < K <;> by_cases h5 : 0 < v <;> by_cases h6 : 0 < a <;>
      simp only [nx, ot, h1, h2, h3, h4, h5, h6, decide_true, decide_false, if_true, Bool.false_eq_true, if_false, Bool.not_true, Bool.not_false, Bool.false_and, Bool.true_and] <;>
      refine ⟨?_, ?_, ?_, ?_⟩ <;> first | rfl | trivial | (exfalso; omega) | omega
  · by_cases h1 : u < K <;> by_cases h2 : b < L <;> by_cases h3 : v < L <;> by_cases h4 : a < K <;> by_cases h5 : 0 < v <;> by_cases h6 : 0 < a <;>
      simp only [nx, ot, h1, h2, h3, h4, h5, h6, decide_true, decide_false, if_true, Bool.false_eq_true, if_false, Bool.not_true, Bool.not_false, Bool.false_and, Bool.true_and] <;>
      refine ⟨?_, ?_, ?_, ?_⟩ <;> first | rfl | trivial | (exfalso; omega) | omega
theorem two (K L : Nat) (f : Nat → Bool) (hK : 1 ≤ K) (hL : 1 ≤ L) (i : Nat) :
    ld L f i + min (K - ld K f i) (ld L (tr K f) i) = ld L (tr K f) i + min (ld K f i) (L - ld L (tr K f) i) ∧
    ld K (tr L f) i + ld L f i = ld K f i + ld L (tr K f) i ∧
    tk K f i = tk K (tr L f) i + min (ld K f i) (L - ld L (tr K f) i) := by
  induction i with
  | zero => simp [ld, tk]
  | succ i ih =>
    obtain ⟨h1, h2, h3⟩ := ih
    obtain ⟨g1, g2, g3, g4⟩ := two_step K L (ld K f i) (ld L (tr K f) i) (ld K (tr L f) i) (ld L f i) (f i) hK hL (ld_le _ _ _) (ld_le _ _ _) h1 h2
    refine ⟨g2, g3, ?_⟩
    show tk K f i + _ = tk K (tr L f) i + (if tr L f i && decide (ld K (tr L f) i < K) then 1 else 0) + min (nx K (f i) (ld K f i)) (L - nx L (tr K f i) (ld L (tr K f) i))
    have e1 : tr L f i = ot L (f i) (ld L f i) := rfl
    have e2 : tr K f i = ot K (f i) (ld K f i) := rfl
    rw [← e1, ← e2] at g4
    omega
theorem three (K : Nat) (f : Nat → Bool) (i : Nat) :
    ld K f i ≤ ld (K + 1) f i ∧ ld (K + 1) f i ≤ ld (K + 2) f i ∧ ld (K + 1) f i ≤ ld K f i + 1 ∧ ld (K + 2) f i ≤ ld (K + 1) f i + 1 ∧
    tk (K + 2) f i + tk K f i + (if ld (K + 1) f i = ld K f i + 1 ∧ ld (K + 2) f i = ld (K + 1) f i then 1 else 0) ≤ 2 * tk (K + 1) f i ∧
    tk K f i + (ld (K + 1) f i - ld K f i) ≤ tk (K + 1) f i := by
  induction i with
  | zero => simp [ld, tk]
  | succ i ih =>
    have l0 := ld_le K f i
    have l1 := ld_le (K + 1) f i
    have l2 := ld_le (K + 2) f i
    obtain ⟨h1, h2, h3, h4, h5, h6⟩ := ih
    show nx K _ _ ≤ nx (K + 1) _ _ ∧ nx (K + 1) _ _ ≤ nx (K + 2) _ _ ∧ nx (K + 1) _ _ ≤ nx K _ _ + 1 ∧ nx (K + 2) _ _ ≤ nx (K + 1) _ _ + 1 ∧ tk (K + 2) f i + _ + (tk K f i + _) + (if nx (K + 1) _ _ = nx K _ _ + 1 ∧ nx (K + 2) _ _ = nx (K + 1) _ _ then 1 else 0) ≤ 2 * (tk (K + 1) f i + _) ∧ tk K f i + _ + (nx (K + 1) _ _ - nx K _ _) ≤ tk (K + 1) f i + _
    generalize ld K f i = u at *
    generalize ld (K + 1) f i = v at *
    generalize ld (K + 2) f i = w at *
    generalize tk K f i = p at *
    generalize tk (K + 1) f i = q at *
    generalize tk (K + 2) f i = r at *
    unfold nx
    by_cases c1 : v = u + 1 ∧ w = v
    · rw [if_pos c1] at h5
      cases f i <;> by_cases g0 : u < K <;> by_cases g1 : v < K + 1 <;> by_cases g2 : w < K + 2 <;> simp [g0, g1, g2] <;> (repeat' split) <;> omega
    · rw [if_neg c1] at h5
      cases f i <;> by_cases g0 : u < K <;> by_cases g1 : v < K + 1 <;> by_cases g2 : w < K + 2 <;> simp [g0, g1, g2] <;> (repeat' split) <;> omega
end Go.Proofs.YtdooboibmllfkaaGreatDoor

namespace Go.Proofs.YtdooboibmllfkaaGreatDoor
set_option maxRecDepth 100000

open Go.RowKit in
theorem hide {p : Prop} (h : p) : Hid p := h
def sgn (c : UInt8) : Bool := c == 48 || c == 49
def allSgn (l : List UInt8) : Bool := l.all sgn
def vld (s : ByteArray) : Bool := allSgn s.data.toList && decide (s.size ≤ 120)

theorem take_snoc (s : ByteArray) (k : Nat) (h : k < s.size) : s.data.toList.take (k + 1) = s.data.toList.take k ++ [s[k]] := by
  rw [List.take_succ_eq_append_getElem (by simpa using h)]; rfl
theorem sgn_of (c : UInt8) : sgn c = decide ((c.toNat : Int) = 48 ∨ (c.toNat : Int) = 49) := by
  unfold sgn
  rw [Bool.eq_iff_iff]
  simp [← UInt8.toNat_inj]
  omega
theorem allSgn_snoc (s : ByteArray) (k : Nat) (h : k < s.size) (g : allSgn (s.data.toList.take k) = true) (hc : (s[k].toNat : Int) = 48 ∨ (s[k].toNat : Int) = 49) :
    allSgn (s.data.toList.take (k + 1)) = true := by
  rw [take_snoc s k h]; unfold allSgn at g ⊢; rw [List.all_append, g]; simp [sgn_of, hc]
theorem vld_bad (s : ByteArray) (k : Nat) (h : k < s.size) (hc : ¬((s[k].toNat : Int) = 48 ∨ (s[k].toNat : Int) = 49)) : vld s = false := by
  unfold vld allSgn
  have : s.data.toList.all sgn = false := by
    rw [List.all_eq_false]
    exact ⟨s[k], by exact List.getElem_mem (l := s.data.toList) (by simpa using h), by rw [sgn_of]; simpa using hc⟩
  rw [this]; rfl
theorem vld_good (s : ByteArray) (k : Nat) (h : k = s.size) (g : allSgn (s.data.toList.take k) = true) : vld s = decide (s.size ≤ 120) := by
  unfold vld
  rw [List.take_of_length_le (by simp [h])] at g
  rw [g]; rfl
end Go.Proofs.YtdooboibmllfkaaGreatDoor

namespace Go.Proofs.YtdooboibmllfkaaGreatDoor
set_option maxRecDepth 100000
open Go.RowKit

theorem ret_bool {a b : Bool} (h : a = b) : Ending.returned (.bool a) = .returned (.bool b) := by rw [h]

set_option maxHeartbeats 400000 in
theorem specRowValid_any (s : ByteArray) (w : World) (hs : s.size ≤ maxLen) :
    Calls Tryz.prog 42 #[.string s] w fun e w' => e = .returned (.bool (vld s)) ∧ w = w' := by
  unfold maxLen at hs
  go_enter Tryz.func42, Tryz.ntmps42
  go_wp2
  go_loop [3] (fun i => ∃ k : Nat, k ≤ s.size ∧ i = .int .i64 k ∧ Hid (allSgn (s.data.toList.take k) = true)) (fun i => s.size - (Go.RowKit.intOf i).toNat)
  case atStart => exact ⟨0, Nat.zero_le _, rfl, rfl⟩
  case round =>
    obtain ⟨k, hk, rfl, HA⟩ := hrel
    by_cases hlt : k < s.size
    · by_cases hc : (s[k].toNat : Int) = 48 ∨ (s[k].toNat : Int) = 49
      · have HC := hide hc
        rcases hc with hc | hc
        · have h1 : ((s[k].toNat : Int) != 48) = false := by simp [hc]
          clear hc
          go_wp2
          go_round
          case rel => exact ⟨k + 1, by omega, by go_num, allSgn_snoc s k hlt HA.out HC.out⟩
          case measure => simp [Go.RowKit.intOf]; omega
        · have h1 : ((s[k].toNat : Int) != 48) = true := by simp [hc]
          have h2 : ((s[k].toNat : Int) != 49) = false := by simp [hc]
          clear hc
          go_wp2
          go_round
          case rel => exact ⟨k + 1, by omega, by go_num, allSgn_snoc s k hlt HA.out HC.out⟩
          case measure => simp [Go.RowKit.intOf]; omega
      · have HC := hide hc
        have h1 : ((s[k].toNat : Int) != 48) = true := by simp; omega
        have h2 : ((s[k].toNat : Int) != 49) = true := by simp; omega
        clear hc
        go_wp2
        go_ret
        exact ⟨ret_bool (vld_bad s k hlt HC.out).symm, rfl⟩
    · go_wp2
      go_ret
      exact ⟨ret_bool (by rw [vld_good s k (by omega) HA.out]; simp; omega), rfl⟩

set_option maxHeartbeats 400000 in
theorem implRowValid_any (s : ByteArray) (w : World) (hs : s.size ≤ maxLen) :
    Calls Tryz.prog 159 #[.string s] w fun e w' => e = .returned (.bool (vld s)) ∧ w = w' := by
  unfold maxLen at hs
  by_cases hbig : 120 < s.size
  · go_enter Tryz.func159, Tryz.ntmps159
    go_wp2
    go_ret
    exact ⟨ret_bool (by simp [vld]; omega), rfl⟩
  · go_enter Tryz.func159, Tryz.ntmps159
    go_wp2
    go_loop [9] (fun i => ∃ k : Nat, k ≤ s.size ∧ i = .int .i64 k ∧ Hid (allSgn (s.data.toList.take k) = true)) (fun i => s.size - (Go.RowKit.intOf i).toNat)
    case atStart => exact ⟨0, Nat.zero_le _, rfl, rfl⟩
    case round =>
      obtain ⟨k, hk, rfl, HA⟩ := hrel
      by_cases hlt : k < s.size
      · by_cases hc : (s[k].toNat : Int) = 48 ∨ (s[k].toNat : Int) = 49
        · have HC := hide hc
          rcases hc with hc | hc
          · have h1 : ((s[k].toNat : Int) != 48) = false := by simp [hc]
            clear hc
            go_wp2
            go_round
            case rel => exact ⟨k + 1, by omega, by go_num, allSgn_snoc s k hlt HA.out HC.out⟩
            case measure => simp [Go.RowKit.intOf]; omega
          · have h1 : ((s[k].toNat : Int) != 48) = true := by simp [hc]
            have h2 : ((s[k].toNat : Int) != 49) = false := by simp [hc]
            clear hc
            go_wp2
            go_round
            case rel => exact ⟨k + 1, by omega, by go_num, allSgn_snoc s k hlt HA.out HC.out⟩
            case measure => simp [Go.RowKit.intOf]; omega
        · have HC := hide hc
          have h1 : ((s[k].toNat : Int) != 48) = true := by simp; omega
          have h2 : ((s[k].toNat : Int) != 49) = true := by simp; omega
          clear hc
          go_wp2
          go_ret
          exact ⟨ret_bool (vld_bad s k hlt HC.out).symm, rfl⟩
      · go_wp2
        go_ret
        exact ⟨ret_bool (by rw [vld_good s k (by omega) HA.out]; simp; omega), rfl⟩
end Go.Proofs.YtdooboibmllfkaaGreatDoor

namespace Go.Proofs.YtdooboibmllfkaaGreatDoor
set_option maxRecDepth 100000
open Go.RowKit

def CellsAt (w : World) (g : Nat) (l : List Value) : Prop := ∀ j v, l[j]? = some v → w.cell? ⟨g, j, none⟩ = some v ∧ w.frozen? ⟨g, j, none⟩ = false

theorem CellsAt.cell {w : World} {g : Nat} {l : List Value} (h : CellsAt w g l) (j : Nat) (v : Value) (hv : l[j]? = some v) : w.cell? ⟨g, j, none⟩ = some v := (h j v hv).1
theorem CellsAt.lt {w : World} {g : Nat} {l : List Value} (h : CellsAt w g l) (hl : 0 < l.length) : g < w.heap.size := by
  have := (h 0 l[0] (by simp [hl])).1
  exact World.block_lt_of_cell? w _ this
theorem CellsAt.below {w w' : World} {g B : Nat} {l : List Value} (h : CellsAt w g l) (hb : Below B w w') (hg : g < B) : CellsAt w' g l := by
  intro j v hv
  obtain ⟨a, b⟩ := h j v hv
  exact ⟨(hb.cell (p := ⟨g, j, none⟩) hg).trans a, (hb.frozen (p := ⟨g, j, none⟩) hg).trans b⟩
theorem CellsAt.below' {w w' : World} {g B : Nat} {l : List Value} (h : CellsAt w g l) (hb : Below B w w') (hB : w.heap.size ≤ B) : CellsAt w' g l := by
  by_cases hl : 0 < l.length
  · exact h.below hb (by have := h.lt hl; omega)
  · have : l = [] := List.eq_nil_of_length_eq_zero (by omega)
    subst this
    intro j v hv; simp at hv
theorem CellsAt.set {w : World} {g : Nat} {l : List Value} (h : CellsAt w g l) (k : Nat) (hk : k < l.length) (u : Value) : CellsAt (w.setCell ⟨g, k, none⟩ u) g (l.set k u) := by
  intro j v hv
  rw [List.getElem?_set] at hv
  by_cases e : k = j
  · subst e
    simp [hk] at hv
    subst hv
    obtain ⟨a, b⟩ := h k l[k] (by simp [hk])
    exact ⟨World.cell?_setCell_same' _ _ _ (by rw [a]; rfl), by rw [World.frozen?_setCell]; exact b⟩
  · simp [e] at hv
    obtain ⟨a, b⟩ := h j v hv
    exact ⟨by rw [World.cell?_setCell_other _ _ _ _ (by intro h; injection h with _ h2; exact e h2)]; exact a, by rw [World.frozen?_setCell]; exact b⟩
theorem CellsAt.far {w : World} {g : Nat} {l : List Value} (h : CellsAt w g l) (p : Addr) (hp : p.block ≠ g) (u : Value) : CellsAt (w.setCell p u) g l := by
  intro j v hv
  obtain ⟨a, b⟩ := h j v hv
  exact ⟨by rw [World.cell?_setCell_other _ _ _ _ (by intro h; exact hp (by rw [h]))]; exact a, by rw [World.frozen?_setCell]; exact b⟩
theorem CellsAt.alloc {w : World} {g : Nat} {l : List Value} (h : CellsAt w g l) (o : Obj) : CellsAt (w.alloc o) g l := h.below' ((Below.refl w.heap.size w).alloc (Nat.le_refl _) o) (Nat.le_refl _)
theorem CellsAt.of_owns {w : World} {base e g n cap : Nat} {xs : List Value} (h : w.ownsRow base e 1 (.slice (some ⟨g, 0, none⟩) n cap) n xs) : CellsAt w g xs := by
  intro j v hv
  have hl : j < n * 1 := by have := h.1; have := (List.getElem?_eq_some_iff.1 hv).1; omega
  exact ⟨by rw [h.cellAt j hl]; exact hv, h.frozenAt j⟩

def bits (s : ByteArray) : List Bool := s.data.toList.map (· == 49)
def tl (l : List Bool) : Nat := (l.reverse.dropWhile (! ·)).length
theorem length_bits (s : ByteArray) : (bits s).length = s.size := by simp [bits]
theorem bits_getElem (s : ByteArray) (k : Nat) (h : k < s.size) : (bits s)[k]? = some (s[k] == 49) := by
  simp [bits, h]; rfl
theorem bit_int (c : UInt8) : (c == 49) = ((c.toNat : Int) == 49) := by
  rw [Bool.eq_iff_iff]; simp [← UInt8.toNat_inj]; omega
theorem bits_step (s : ByteArray) (xs : List Bool) (k : Nat) (h : k < s.size) (hx : xs.length = s.size) (ht : xs.take k = (bits s).take k) :
    (xs.set k (s[k] == 49)).take (k + 1) = (bits s).take (k + 1) := by
  have hb : k < (bits s).length := by rw [length_bits]; exact h
  rw [List.take_succ_eq_append_getElem (by simp; omega), List.take_succ_eq_append_getElem hb, List.take_set_of_le (Nat.le_refl _), ht]
  have e := bits_getElem s k h
  rw [List.getElem?_eq_getElem hb] at e
  simp only [Option.some.injEq] at e
  rw [e]; simp
theorem tl_le (l : List Bool) : tl l ≤ l.length := by
  unfold tl; have := (List.dropWhile_sublist (! ·) (l := l.reverse)).length_le; simpa using this
theorem tl_nil : tl [] = 0 := rfl
theorem tl_snoc (l : List Bool) (b : Bool) : tl (l ++ [b]) = if b then l.length + 1 else tl l := by
  unfold tl; cases b <;> simp
theorem tl_take_pred (l : List Bool) (n : Nat) (hn : n < l.length) (h : l[n]? = some false) : tl (l.take (n + 1)) = tl (l.take n) := by
  rw [List.take_succ_eq_append_getElem hn, tl_snoc]
  have : l[n] = false := by rw [List.getElem?_eq_getElem hn] at h; simpa using h
  simp [this]
theorem tl_take_stop (l : List Bool) (n : Nat) (hn : n < l.length) (h : l[n]? = some true) : tl (l.take (n + 1)) = n + 1 := by
  rw [List.take_succ_eq_append_getElem hn, tl_snoc]
  have : l[n] = true := by rw [List.getElem?_eq_getElem hn] at h; simpa using h
  simp [this]; omega
theorem madeB (n : Nat) : (madeCells (Value.bool false).cells (n * 1)).toList = (List.replicate n false).map Value.bool := by
  rw [Nat.mul_one]; show (madeCells #[Value.bool false] n).toList = _; rw [toList_madeCells_one]; simp
theorem madeI (n : Nat) : (madeCells (Value.int .i64 0).cells (n * 1)).toList = (List.replicate n (0 : Int)).map (Value.int .i64) := by
  rw [Nat.mul_one]; show (madeCells #[Value.int .i64 0] n).toList = _; rw [toList_madeCells_one]; simp
end Go.Proofs.YtdooboibmllfkaaGreatDoor

namespace Go.Proofs.YtdooboibmllfkaaGreatDoor
set_option maxRecDepth 100000
open Go.RowKit

theorem ret_slice {a : Option Addr} {n m c : Nat} (h : n = m) : Ending.returned (.slice a n c) = .returned (.slice a m c) := by rw [h]

set_option maxHeartbeats 400000 in
theorem tidy_g (x : Option Addr) (g n cap : Nat) (l : List Bool) (w : World) (hx : 0 < n → x = some ⟨g, 0, none⟩) (hl : l.length = n) (hc : CellsAt w g (l.map .bool)) (hn : n ≤ cap) (hm : cap ≤ maxLen) :
    Calls Tryz.prog 160 #[.slice x n cap] w fun e w' => e = .returned (.slice x (tl l) cap) ∧ w = w' := by
  unfold maxLen at hm
  have HL := hide hl
  have HC := hide hc
  clear hl hc
  go_enter Tryz.func160, Tryz.ntmps160
  go_wp2
  go_loop [3] (fun i => ∃ k : Nat, k ≤ n ∧ i = .int .i64 k ∧ Hid (tl (l.take k) = tl l)) (fun i => (Go.RowKit.intOf i).toNat)
  case atStart => exact ⟨n, Nat.le_refl _, rfl, by rw [List.take_of_length_le (by rw [HL.out]; exact Nat.le_refl _)]; rfl⟩
  case round =>
    obtain ⟨k, hk, rfl, HT⟩ := hrel
    by_cases hk0 : k = 0
    · subst hk0
      go_wp2
      go_ret
      exact ⟨ret_slice (by rw [← HT.out]; rfl), rfl⟩
    · obtain ⟨j, rfl⟩ : ∃ j, k = j + 1 := ⟨k - 1, by omega⟩
      have hj : j < l.length := by rw [HL.out]; omega
      obtain rfl := hx (by omega)
      cases hb : l[j]? with
      | none => rw [List.getElem?_eq_none_iff] at hb; omega
      | some b =>
        have hcell : w.cell? ⟨g, j, none⟩ = some (.bool b) := (HC.out j (.bool b) (by simp [hb])).1
        have HB := hide hb
        have HJ := hide hj
        clear hb hj
        cases b
        · go_wp2
          go_round
          case rel => exact ⟨j, by omega, rfl, (tl_take_pred l j HJ.out HB.out).symm.trans HT.out⟩
          case measure => simp [Go.RowKit.intOf]
        · go_wp2
          go_ret
          exact ⟨ret_slice (by rw [← HT.out, tl_take_stop l j HJ.out HB.out]), rfl⟩

theorem tidy_any (g n cap : Nat) (l : List Bool) (w : World) (hl : l.length = n) (hc : CellsAt w g (l.map .bool)) (hn : n ≤ cap) (hm : cap ≤ maxLen) :
    Calls Tryz.prog 160 #[.slice (some ⟨g, 0, none⟩) n cap] w fun e w' => e = .returned (.slice (some ⟨g, 0, none⟩) (tl l) cap) ∧ w = w' :=
  tidy_g _ g n cap l w (fun _ => rfl) hl hc hn hm

theorem infoB : (Tryz.prog.info? 4).map (fun i => (i.zero, i.size, i.bytes)) = some (some (.bool false), 1, 1) := by kernel_rfl

theorem vld_len (s : ByteArray) (h : vld s = true) : s.size ≤ 120 := by
  unfold vld at h; simp at h; exact h.2

set_option maxHeartbeats 400000 in
theorem readRow_no (s : ByteArray) (w : World) (hs : s.size ≤ maxLen) (hv : vld s = false) :
    Calls Tryz.prog 132 #[.string s] w fun e w' => e = .returned (.tuple #[.slice none 0 0, .bool false]) ∧ w = w' := by
  go_enter Tryz.func132, Tryz.ntmps132
  go_wp2_with (go_at_call 159; refine (implRowValid_any _ _ hs).mono ?_; rintro e w' ⟨rfl, rfl⟩)
  go_ret2
  exact ⟨rfl, rfl⟩

set_option maxHeartbeats 400000 in
theorem readRow_yes (s : ByteArray) (w : World) (hv : vld s = true) :
    Calls Tryz.prog 132 #[.string s] w fun e w' => e = .returned (.tuple #[.slice (some ⟨w.heap.size, 0, none⟩) (tl (bits s)) s.size, .bool true]) ∧
      Below w.heap.size w w' ∧ CellsAt w' w.heap.size ((bits s).map .bool) ∧ w.heap.size < w'.heap.size := by
  have h120 := vld_len s hv
  have hs : s.size ≤ maxLen := by unfold maxLen; omega
  obtain ⟨i0, hi, hz0, hz1, hz2⟩ := info_parts infoB
  go_enter Tryz.func132, Tryz.ntmps132
  go_wp2_with (first | (go_at_call 159; refine (implRowValid_any _ _ hs).mono ?_; rintro e w' ⟨rfl, rfl⟩) | (at_make; refine wpList_make_full _ rfl _ _ 116 rfl w.heap.size 4 i0 (.bool false) 1 Tryz.underlying116 hi hz0 hz1 _ _ _ _ s.size rfl rfl rfl rfl ?b2 ?b3 ?b4 ?_; rotate_right; intro w1 hown hgrow))
  case b2 => rw [hz2]; omega
  case b3 => exact hs
  case b4 => exact Nat.le_refl _
  rw [madeB] at hown
  have hb1 : Below w.heap.size w w1 := (Below.refl _ _).grown hgrow (Nat.le_refl _) (fun k e => by cases e)
  have hz : w.heap.size < w1.heap.size := (hown.lt _ rfl).2
  have hc1 := CellsAt.of_owns hown
  clear hown hgrow
  obtain ⟨g, hg⟩ : ∃ g, w.heap.size = g := ⟨_, rfl⟩
  rw [hg] at hb1 hz hc1 ⊢
  have HG := hide hg
  clear hg
  go_loopw [14] (fun i wr => ∃ k : Nat, k ≤ s.size ∧ i = .int .i64 k ∧ Below g w wr ∧ g < wr.heap.size ∧ ∃ xs : List Bool, Hid (xs.length = s.size) ∧ Hid (xs.take k = (bits s).take k) ∧ CellsAt wr g (xs.map .bool)) (fun i _ => s.size - (Go.RowKit.intOf i).toNat)
  case atStart => exact ⟨0, Nat.zero_le _, rfl, hb1, hz, List.replicate s.size false, by simp [Hid], rfl, hc1⟩
  case round =>
    obtain ⟨k, hk, rfl, hbr, hzr, xs, HX, HT, hcr⟩ := hrel
    have HC := hide hcr
    clear hcr hc1 hb1 hz
    by_cases hlt : k < s.size
    · obtain ⟨x, hx⟩ : ∃ x, xs[k]? = some x := ⟨_, List.getElem?_eq_getElem (by rw [HX.out]; omega)⟩
      obtain ⟨hcell, hfr⟩ := HC.out k (.bool x) (by simp [hx])
      have HE := hide hx
      clear hx
      go_wp2
      go_roundw
      case rel =>
        refine ⟨k + 1, by omega, by go_num, hbr.setCell (Nat.le_refl _) _, by simpa [World.setCell] using hzr, xs.set k (s[k] == 49), by simp [Hid, HX.out], ?_, ?_⟩
        · exact bits_step s xs k hlt HX.out HT.out
        · have := HC.out.set k (by simp [HX.out, hlt]) (.bool (s[k] == 49))
          rw [← bit_int, List.map_set]; exact this
      case measure => simp [Go.RowKit.intOf]; omega
    · have hxs : xs = bits s := by
        have := HT.out
        rw [List.take_of_length_le (by rw [HX.out]; omega), List.take_of_length_le (by rw [length_bits]; omega)] at this
        exact this
      subst hxs
      go_wp2_with (go_at_call 160; refine (tidy_any _ _ _ _ _ HX.out HC.out (Nat.le_refl _) hs).mono ?_; rintro e w' ⟨rfl, rfl⟩)
      go_ret2
      have hg := HG.out
      subst hg
      exact ⟨rfl, hbr, HC.out, hzr⟩
end Go.Proofs.YtdooboibmllfkaaGreatDoor
