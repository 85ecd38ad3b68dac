/- TEXTS Shape5. -/
import Derived.Test.YtdooboibmllfkabGreatDoorExb11
import Derived.Test.YtdooboibmllfkabGreatDoorExb05
import Derived.Test.YtdooboibmllfkabGreatDoorExb06
import Derived.Deep.AppendLies
import Derived.Deep.RegionHeld3
namespace Go.Proofs.YtdooboibmllfkabGreatDoor
set_option maxRecDepth 100000
open Go.RowKit

theorem step_app {P : Program} {w : World} {ops : Array Oper} {o : Oper} {a : Act} {K : Act → World → Prop} {Q : Exit → Act → World → Prop} {E : Prop} (hgd : o.guard = none) (s x : Operand) (t : TypeId)
    (ho : o.op = .call { callee := .builtin .append, args := #[s, x], argTypes := #[t, t] })
    (base : Nat) (e : TypeId) (i : TypeInfo) (z : Value) (size bytes : Nat) (ht : P.underlying t = some (.slice e)) (hi : P.info? e = some i) (hz : i.zero = some z)
    (hsize : i.size = size) (hby : i.bytes = bytes) (hzs : z.cells.size = size) (hsz : 0 < size)
    (v : Value) (n : Nat) (xs : List Value) (hs : a.eval s = v) (hown : w.ownsRow base e size v n xs)
    (ad : Addr) (m c : Nat) (news : List Value) (hx : a.eval x = .slice (some ad) m c) (hl : news.length = m * size) (hnews : ∀ j u, news[j]? = some u → w.cell? (ad.add j) = some u) (h1 : ∀ u ∈ news, u.oneCell' = true)
    (h63 : n + m ≤ maxLen) (hbytes : (n + m) * bytes ≤ 140737488355328) (hbase : base ≤ w.heap.size)
    (h : ∀ v' w', w'.ownsRow base e size v' (n + m) (xs ++ news) → w.grownBy w' v.ownBlock → (v'.ownBlock = v.ownBlock ∨ v'.ownBlock = some w.heap.size) → K (a.put o.dst v') w') :
    if Region.wanted o (yielded ops a.tmps) = true then Oper.wp P o a w K Q else E := by
  have hw : Region.wanted o (yielded ops a.tmps) = true := by simp [Region.wanted, hgd]
  rw [if_pos hw]
  obtain ⟨v', w', hr, h2, h3, _, h5⟩ := run_append_own_at (P := P) w base t o.type e i z size bytes ht hi hz hsize hby hzs hsz v n xs hown ad m c news hl hnews h1 h63 hbytes hbase
  unfold Oper.wp execOp
  simp only [ho, resolve, invoke, builtin, Sem.run_bind, Sem.run_pure, Result.andThen_ok, List.map_toArray, List.map_cons, List.map_nil, hs, hx, hr]
  exact h v' w' h2 h3 h5

def many (c : UInt8) (n : Nat) : ByteArray := ⟨(List.replicate n c).toArray⟩
theorem l6Many_one (c : UInt8) (n : Nat) (w : World) (hn : n ≤ 1000) :
    Calls Tryz.prog 63 #[.string ⟨#[c]⟩, .int .i64 (n : Int)] w fun e w' => e = .returned (.string (many c n)) ∧ w = w' := by
  refine (l6Many_any ⟨#[c]⟩ n w hn (by show 1 ≤ 1000; omega)).mono ?_
  rintro e w' ⟨⟨out, rfl, ho⟩, hw⟩
  refine ⟨?_, hw⟩
  have hr : rep n ([c] : List UInt8) = List.replicate n c := by
    clear ho
    induction n with
    | zero => rfl
    | succ n ih => rw [rep_succ, ih (by omega), List.replicate_succ]; rfl
  have : out = many c n := by
    unfold many
    apply ByteArray.ext
    apply Array.toList_inj.1
    rw [ho]; exact hr
  rw [this]
def s20 (x : Int) : Bool := decide (1 ≤ x) && decide (x ≤ 20)

def SortRel (l : List Int) (n B : Nat) (w : World) (u i : Value) (wr : World) : Prop :=
  ∃ (k g c : Nat), k ≤ n ∧ i = .int .i64 (k : Int) ∧ u = .slice (some ⟨g, 0, none⟩) k c ∧ k ≤ c ∧ c ≤ maxLen ∧ B ≤ g ∧ g < wr.heap.size ∧
    Hid (CellsAt wr g ((isr (l.take k)).map (.int .i64))) ∧ Hid (Below B w wr) ∧ Hid ((l.take k).all s20 = true)
theorem isr_length (l : List Int) : (isr l).length = l.length := (isr_facts l).2.1
theorem swC_s20 (l : List Int) : swC l = (decide (l.length ≤ 20) && l.all s20) := rfl
def Keep (w : World) (B g b k : Nat) (x : Int) (cs : List Value) (w0 : World) : Prop :=
  CellsAt w0 g cs ∧ w0.cell? ⟨b, k, none⟩ = some (.int .i64 x) ∧ Below B w w0 ∧ B ≤ w0.heap.size ∧ g < w0.heap.size ∧ b < w0.heap.size
theorem Keep.alloc {w w0 : World} {B g b k : Nat} {x : Int} {cs : List Value} (h : Keep w B g b k x cs w0) (o : Obj) : Keep w B g b k x cs (w0.alloc o) := by
  obtain ⟨h1, h2, h3, h4, h5, h6⟩ := h
  refine ⟨h1.alloc o, ?_, h3.alloc h4 o, by rw [World.size_alloc]; omega, by rw [World.size_alloc]; omega, by rw [World.size_alloc]; omega⟩
  have := ((Below.refl w0.heap.size w0).alloc (Nat.le_refl _) o).cell (p := ⟨b, k, none⟩) h6
  exact this.trans h2
theorem Keep.drew {w w0 : World} {B g b k : Nat} {x : Int} {cs : List Value} (h : Keep w B g b k x cs w0) : Keep w B g b k x cs w0.drew := by
  obtain ⟨h1, h2, h3, h4, h5, h6⟩ := h
  exact ⟨h1, h2, h3.drew, h4, h5, h6⟩
def Far (B g b : Nat) (v : Value) : Prop := v.ownBlock ≠ some g ∧ v.ownBlock ≠ some b ∧ ∀ r, v.ownBlock = some r → B ≤ r
theorem Far.new {B g b r n c : Nat} (h1 : r ≠ g) (h2 : r ≠ b) (h3 : B ≤ r) : Far B g b (.slice (some ⟨r, 0, none⟩) n c) := by
  refine ⟨fun e => ?_, fun e => ?_, fun q e => ?_⟩ <;> (simp [Value.ownBlock] at e; omega)
theorem Keep.grown {w w0 w1 : World} {B g b k : Nat} {x : Int} {cs : List Value} {v v' : Value} (h : Keep w B g b k x cs w0) (hf : Far B g b v) (hg : w0.grownBy w1 v.ownBlock) (hat : v'.ownBlock = v.ownBlock ∨ v'.ownBlock = some w0.heap.size) :
    Keep w B g b k x cs w1 ∧ Far B g b v' := by
  obtain ⟨h1, h2, h3, h4, h5, h6⟩ := h
  obtain ⟨f1, f2, f3⟩ := hf
  have hsz := hg.size
  refine ⟨⟨?_, ?_, h3.grown hg h4 f3, by omega, by omega, by omega⟩, ?_⟩
  · intro j u hu
    obtain ⟨a, c⟩ := h1 j u hu
    exact ⟨(hg.cell_far ⟨g, j, none⟩ h5 (Ne.symm f1)).trans a, (hg.frozen_far ⟨g, j, none⟩ h5 (Ne.symm f1)).trans c⟩
  · exact (hg.cell_far ⟨b, k, none⟩ h6 (Ne.symm f2)).trans h2
  · rcases hat with e | e
    · exact ⟨by rw [e]; exact f1, by rw [e]; exact f2, by rw [e]; exact f3⟩
    · exact ⟨by rw [e]; intro q; injection q with q; omega, by rw [e]; intro q; injection q with q; omega, by rw [e]; intro r q; injection q with q; omega⟩
theorem Keep.src {w w0 : World} {B g b k m : Nat} {x : Int} {cs : List Value} (h : Keep w B g b k x cs w0) : ∀ j u, (cs.take m)[j]? = some u → w0.cell? ((⟨g, 0, none⟩ : Addr).add j) = some u := (h.1.take m).src
theorem Keep.src2 {w w0 : World} {B g b k m : Nat} {x : Int} {cs : List Value} (h : Keep w B g b k x cs w0) : ∀ j u, (cs.drop m)[j]? = some u → w0.cell? ((⟨g, m, none⟩ : Addr).add j) = some u := by
  intro j u hu
  rw [List.getElem?_drop] at hu
  rw [Addr.add_lit]
  exact (h.1 (m + j) u hu).1
theorem ints_of {L : List Int} : ∀ u ∈ L.map (Value.int .i64), u.oneCell' = true := by intro u hu; obtain ⟨b, _, rfl⟩ := List.mem_map.1 hu; rfl
theorem sort_next {l L : List Int} {k : Nat} {x : Int} (hL : L = isr (l.take k)) (hx : l[k]? = some x) : isr (l.take (k + 1)) = L.take (insK x L L.length) ++ [x] ++ L.drop (insK x L L.length) := by
  obtain ⟨hk, e⟩ := List.getElem?_eq_some_iff.1 hx
  rw [List.take_succ_eq_append_getElem hk, isr_snoc, e, hL]
  rfl

theorem chars_app (a b : List Bool) : chars (a ++ b) = chars a ++ chars b := by unfold chars; rw [List.map_append]
theorem chars_many (n : Nat) : chars (List.replicate n true) = List.replicate n 49 ∧ chars (List.replicate n false) = List.replicate n 48 := by
  unfold chars
  rw [List.map_replicate, List.map_replicate]
  exact ⟨rfl, rfl⟩
theorem many_next {so : ByteArray} {L : List Int} {q zn : Nat} (h : so.data.toList = chars (szB (L.take q))) (hz : L[q]? = some (zn : Int)) :
    (so ++ many 49 zn ++ many 48 zn).data.toList = chars (szB (L.take (q + 1))) := by
  obtain ⟨hk, e⟩ := List.getElem?_eq_some_iff.1 hz
  rw [List.take_succ_eq_append_getElem hk, szB_snoc, chars_app, chars_app, e, Int.toNat_natCast, (chars_many zn).1, (chars_many zn).2, ByteArray.data_append, ByteArray.data_append, Array.toList_append, Array.toList_append, h, List.append_assoc]
  rfl
theorem done_sz {l : List Int} (hc : swC l = true) {so : ByteArray} (h : so.data.toList = chars (szB (isr l))) (w : World) :
    Calls Tryz.prog 25 #[.string so] w fun e w' => e = .returned (.tuple #[.string (swS l), .bool (swO l)]) ∧ w = w' := by
  have h1 : allSgn so.data.toList = true := by rw [h]; exact chars_sgn _
  have h2 := bits_chars _ so h
  obtain ⟨c1, c2⟩ := swC_iff.1 hc
  have h3 : so.size ≤ 1000 := by
    have e := congrArg List.length h
    rw [chars_length] at e
    have b := szB_length (isr l) (fun x hx => (c2 x (((isr_facts l).2.2.2 x).1 hx)).2)
    rw [isr_length] at b
    have e2 : so.data.toList.length = so.size := rfl
    omega
  have := l1Done_any so w h3 h1
  rw [h2, show tidyS so = ofBits (cut (szB (isr l))) by rw [← tidyS_eq so h1, h2]] at this
  have e1 : swO l = decide (tl (szB (isr l)) ≤ 120) := by unfold swO; rw [hc]; rfl
  have e2 : swS l = if tl (szB (isr l)) ≤ 120 then ofBits (cut (szB (isr l))) else ByteArray.empty := by unfold swS; rw [e1]; simp
  rw [e1, e2]
  exact this
theorem all_s20 {l : List Int} (h : l.all s20 = true) (x : Int) (hx : x ∈ l) : 1 ≤ x ∧ x ≤ 20 := by
  have := List.all_eq_true.1 h x hx
  unfold s20 at this
  simpa using this

set_option maxRecDepth 100000 in
set_option maxHeartbeats 16000000 in
theorem specShapeRow_any (v : Value) (l : List Int) (w : World) {lo : Nat} (hll : l.length ≤ 1048576) (h : IntsV lo w v l) :
    Calls Tryz.prog 119 #[v] w fun e w' => e = .returned (.tuple #[.string (swS l), .bool (swO l)]) ∧ Below w.heap.size w w' := by
  obtain ⟨a, c, rfl, hf⟩ : ∃ a c, v = .slice a l.length c ∧ (0 < l.length → ∃ g, a = some ⟨g, 0, none⟩ ∧ CellsAt w g (l.map (.int .i64))) := by
    rcases h with ⟨a, c, rfl, rfl⟩ | ⟨g, c, rfl, _, _, _, hc⟩
    · exact ⟨a, c, rfl, fun h => by simp at h⟩
    · exact ⟨_, c, rfl, fun _ => ⟨g, rfl, hc⟩⟩
  obtain ⟨B, hB⟩ : ∃ B, w.heap.size = B := ⟨_, rfl⟩
  by_cases hl : l.length ≤ 20
  · obtain ⟨n, hn⟩ : ∃ n, n = l.length := ⟨_, rfl⟩
    have HN := hide hn
    have HF := hide hf
    rw [← hn] at hl hll HF ⊢
    clear hn hf h
    obtain ⟨i0, hi, hz0, hz1, hz2⟩ := info_parts infoI
    rw [hB]
    have hb0 := (Below.refl B w).alloc (by omega) (.cells #[] 3)
    have HB := hide hB
    have HBW0 := hide hb0
    have FAIL : Hid (∀ x, x ∈ l → s20 x = false → swO l = false ∧ swS l = ByteArray.empty) := by
      intro x hx hs
      have : swO l = false := by
        unfold swO
        rw [swC_s20]
        have : l.all s20 = false := by rw [List.all_eq_false]; exact ⟨x, hx, by simp [hs]⟩
        rw [this]; simp
      exact ⟨this, by unfold swS; rw [this]; rfl⟩
    clear hb0
    go_enter Tryz.func119, Tryz.ntmps119
    go_wp2_with fail
    go_loopw [4, 5] (SortRel l n B w) (fun _ i _ => n - (Go.RowKit.intOf i).toNat)
    case atStart => exact ⟨0, B, 0, Nat.zero_le _, rfl, rfl, Nat.le_refl _, Nat.zero_le _, Nat.le_refl _, by simp [hB], (by intro j v hv; simp [isr] at hv), HBW0, rfl⟩
    case round =>
      obtain ⟨k, g, c2, hk, rfl, rfl, hkc, hcm, hgB, hgw, HC, HBW, HA⟩ := hrel
      clear HBW0
      by_cases hlt : k < n
      · obtain ⟨b, rfl, hc⟩ := HF.out (by omega)
        obtain ⟨x, hx⟩ : ∃ x, l[k]? = some x := ⟨_, List.getElem?_eq_getElem (by rw [← HN.out]; exact hlt)⟩
        have hc0 := (hc k (.int .i64 x) (by rw [List.getElem?_map, hx]; rfl)).1
        have hbB : b < B := by have := World.block_lt_of_cell? w _ hc0; simp at this; omega
        have hcell := (HBW.out.cell (p := ⟨b, k, none⟩) hbB).trans hc0
        have HMEM := hide (List.mem_of_getElem? hx)
        have CI := hide (fun w => l6In_any x 1 20 (s20 x) w rfl)
        have ix0 : (0 : Int) ≤ (k : Int) := by omega
        have ix1 : (k : Int) < (n : Int) := by omega
        clear hc hc0
        cases hsz : s20 x
        · obtain ⟨e1, e2⟩ := FAIL.out x HMEM.out hsz
          have E1 := hide e1
          have E2 := hide e2
          rw [hsz] at CI
          clear e1 e2 hx
          go_wp2_with (go_at_call 47; refine (CI.out _).mono ?_; rintro e w' ⟨rfl, rfl⟩)
          go_ret2
          exact ⟨by rw [E1.out, E2.out]; rfl, HBW.out⟩
        · have HX := hide hx
          have HSZ := hide hsz
          rw [hsz] at CI
          unfold s20 at hsz
          simp at hsz
          obtain ⟨x0, x1⟩ := hsz
          clear hx
          go_wp2_with (go_at_call 47; refine (CI.out _).mono ?_; rintro e w' ⟨rfl, rfl⟩)
          obtain ⟨L, hL0⟩ : ∃ L, L = isr (l.take k) := ⟨_, rfl⟩
          have HLL := hide (show L.length = k by rw [hL0, isr_length, List.length_take, ← HN.out]; omega)
          have HL0 := hide hL0
          rw [← hL0] at HC
          clear hL0
          go_loopw [6] (fun j w2 => ∃ m : Nat, m ≤ k ∧ j = .int .i64 (m : Int) ∧ Hid (insK x L k = insK x L m) ∧ Quiet wr w2) (fun j _ => (Go.RowKit.intOf j).toNat)
          case atStart => exact ⟨k, Nat.le_refl _, rfl, rfl, Quiet.refl _⟩
          case round =>
            obtain ⟨m, hm, rfl, HI, HQ⟩ := hrel
            have HQQ := hide HQ
            have HC2 := hide (HQ.cells HC.out)
            have hcl2 := ((HQ.2 (b + 1)).cell (p := ⟨b, k, none⟩) (Nat.lt_succ_self b)).trans hcell
            have HBW2 := hide (HBW.out.trans (HQ.2 B))
            have hgw2 : g < wr.heap.size := by rw [HQ.1]; exact hgw
            have hbw2 : b < wr.heap.size := World.block_lt_of_cell? wr _ hcl2
            have m0 : (0 : Int) ≤ (m : Int) := by omega
            clear HQ
            obtain ⟨y, hy⟩ : ∃ y, y = L.getD (m - 1) 0 := ⟨_, rfl⟩
            have HY := hide hy
            clear hy
            have hst : (m = 0 ∧ decide ((0 : Int) < (m : Int)) = false) ∨ (0 < m ∧ decide ((0 : Int) < (m : Int)) = true ∧ decide (x < y) = false) ∨ (0 < m ∧ x < y) := by
              by_cases h0 : m = 0
              · exact .inl ⟨h0, by simp; omega⟩
              · by_cases h1 : x < y
                · exact .inr (.inr ⟨by omega, h1⟩)
                · exact .inr (.inl ⟨by omega, by simp; omega, by simp; omega⟩)
            rcases hst with ⟨h0, d0⟩ | ⟨h0, d0, d1⟩ | ⟨h0, h1⟩
            · have HSTOP := hide (show insK x L k = m by rw [HI.out, h0]; rfl)
              go_wp2
              go_quiet (fail)
              clear h0 d0
              have keep : Keep w B g b k x (L.map (Value.int .i64)) (wr.drewN nq) := ⟨HC2.out, hcl2, HBW2.out.trans ((Quiet.drewN (w := wr) nq).2 B), by show B ≤ wr.heap.size; omega, hgw2, hbw2⟩
              have KEEP := hide keep
              clear keep HC2 HBW2 hcl2 hgw2 hbw2
              have m1 : (m : Int) ≤ (c2 : Int) := by omega
              have m2 : (m : Int) ≤ (k : Int) := by omega
              have k2 : (k : Int) ≤ (c2 : Int) := by omega
              generalize wr.drewN nq = W at *
              have hWc := KEEP.out.2.1
              have KA := hide (KEEP.out.alloc (.cells #[] 3))
              have KB := hide (KA.out.alloc (.cells #[.int .i64 x] 3))
              have KC := hide ((KEEP.out.alloc (.cells #[.int .i64 x] 3)).alloc (.cells #[] 3))
              have OA := hide (World.ownsRow_lit (base := B) (e := 3) (size := 1) W #[] 0 KEEP.out.2.2.2.1 (by unfold maxLen; omega) rfl)
              have OB := hide (OA.out.alloc (.cells #[.int .i64 x] 3))
              have OC : Hid (((W.alloc (.cells #[.int .i64 x] 3)).alloc (.cells #[] 3)).ownsRow B 3 1 (.slice (some ⟨W.heap.size + 1, 0, none⟩) 0 0) 0 []) := hide (by
                have := World.ownsRow_lit (base := B) (e := 3) (size := 1) (W.alloc (.cells #[.int .i64 x] 3)) #[] 0 (KEEP.out.alloc (.cells #[.int .i64 x] 3)).2.2.2.1 (by unfold maxLen; omega) rfl
                rw [World.size_alloc] at this
                exact this)
              have F0 : Hid (Far B g b (.slice (some ⟨W.heap.size, 0, none⟩) 0 0)) := hide (Far.new (by have := KEEP.out.2.2.2.2.1; omega) (by have := KEEP.out.2.2.2.2.2; omega) KEEP.out.2.2.2.1)
              have F1' : Hid (Far B g b (.slice (some ⟨W.heap.size + 1, 0, none⟩) 0 0)) := hide (Far.new (by have := KEEP.out.2.2.2.2.1; omega) (by have := KEEP.out.2.2.2.2.2; omega) (by have := KEEP.out.2.2.2.1; omega))
              have LCB : Hid (∀ w0 w1 : World, w0.heap = ((W.alloc (.cells #[] 3)).alloc (.cells #[.int .i64 x] 3)).heap → w0.grownBy w1 (Value.slice (some ⟨W.heap.size, 0, none⟩) 0 0).ownBlock → ∀ j u, [Value.int .i64 x][j]? = some u → w1.cell? ((⟨W.heap.size + 1, 0, none⟩ : Addr).add j) = some u) := hide (by
                intro w0 w1 hw hg j u hu
                have h1 := cell_one_new (W.alloc (.cells #[] 3)) (.int .i64 x) 3 j u hu
                rw [World.size_alloc, Addr.add_lit] at h1
                rw [Addr.add_lit]
                have h2 : w0.cell? ⟨W.heap.size + 1, 0 + j, none⟩ = ((W.alloc (.cells #[] 3)).alloc (.cells #[.int .i64 x] 3)).cell? ⟨W.heap.size + 1, 0 + j, none⟩ := World.cell?_of_block (by rw [hw])
                exact (hg.cell_far ⟨W.heap.size + 1, 0 + j, none⟩ (by rw [hw]; show _ < ((W.alloc (.cells #[] 3)).alloc (.cells #[.int .i64 x] 3)).heap.size; simp) (by simp [Value.ownBlock])).trans (h2.trans h1))
              have LCC : Hid (∀ w0 w1 : World, w0.heap = ((W.alloc (.cells #[.int .i64 x] 3)).alloc (.cells #[] 3)).heap → w0.grownBy w1 (Value.slice (some ⟨W.heap.size + 1, 0, none⟩) 0 0).ownBlock → ∀ j u, [Value.int .i64 x][j]? = some u → w1.cell? ((⟨W.heap.size, 0, none⟩ : Addr).add j) = some u) := hide (by
                intro w0 w1 hw hg j u hu
                have h1 := cell_one_new W (.int .i64 x) 3 j u hu
                rw [Addr.add_lit] at h1
                rw [Addr.add_lit]
                have h2 := ((Below.refl (W.heap.size + 1) (W.alloc (.cells #[.int .i64 x] 3))).alloc (by simp) (.cells #[] 3)).cell (p := ⟨W.heap.size, 0 + j, none⟩) (by simp)
                have h3 : w0.cell? ⟨W.heap.size, 0 + j, none⟩ = ((W.alloc (.cells #[.int .i64 x] 3)).alloc (.cells #[] 3)).cell? ⟨W.heap.size, 0 + j, none⟩ := World.cell?_of_block (by rw [hw])
                exact (hg.cell_far ⟨W.heap.size, 0 + j, none⟩ (by rw [hw]; show _ < ((W.alloc (.cells #[.int .i64 x] 3)).alloc (.cells #[] 3)).heap.size; simp; omega) (by simp [Value.ownBlock])).trans (h3.trans (h2.trans h1)))
              have LT : Hid (((L.map (Value.int .i64)).take m).length = m * 1) := hide (by rw [List.length_take, List.length_map, HLL.out]; omega)
              have LD : Hid (((L.map (Value.int .i64)).drop m).length = (k - m) * 1) := hide (by rw [List.length_drop, List.length_map, HLL.out]; omega)
              have OT : Hid (∀ u ∈ (L.map (Value.int .i64)).take m, u.oneCell' = true) := hide (fun u hu => ints_of u (List.mem_of_mem_take hu))
              have OD : Hid (∀ u ∈ (L.map (Value.int .i64)).drop m, u.oneCell' = true) := hide (fun u hu => ints_of u (List.mem_of_mem_drop hu))
              by_cases hcc : c2 = m
              · have hmk : k = m := by omega
                subst hmk
                have hkc3 := hcc.symm
                subst hkc3
                clear hcc
                have LD : Hid (((L.map (Value.int .i64)).drop k).length = 0 * 1) := hide (by rw [List.length_drop, List.length_map, HLL.out]; omega)
                have SD : Hid (∀ w0 : World, ∀ j u, ((L.map (Value.int .i64)).drop k)[j]? = some u → w0.cell? ((⟨g, 0, none⟩ : Addr).add j) = some u) := hide (by
                  intro w0 j u hu
                  have := (List.getElem?_eq_some_iff.1 hu).1
                  rw [LD.out] at this
                  omega)
                go_wp2_with fail
                go_region_held3 (fun w' => w'.cell? ⟨b, k, none⟩ = some (.int .i64 x)) (first | exact K3.out.2.1 | exact K2.out.2.1 | exact K1.out.2.1 | go_keep)
                  (first | (refine step_app (by rfl) (.tmp 45) (.tmp 48) 39 (by rfl) B 3 i0 (.int .i64 0) 1 8 Tryz.underlying39 hi hz0 hz1 hz2 rfl (by decide) (.slice (some ⟨W.heap.size, 0, none⟩) 0 0) 0 [] (by rfl) OA.out.drew ⟨g, 0, none⟩ k k ((L.map (Value.int .i64)).take k) (by rfl) LT.out (KA.out.drew).src OT.out (by unfold maxLen; omega) (by omega) (KA.out.drew).2.2.2.1 ?_; intro v1 w1 hown1 hgrow1 hat1; have KF1 := Keep.grown KA.out.drew F0.out hgrow1 hat1; have K1 := hide KF1.1; have F1 := hide KF1.2; have O1 := hide hown1; clear KF1 hown1 hat1) | (refine step_app (by rfl) (.tmp 45) (.tmp 48) 39 (by rfl) B 3 i0 (.int .i64 0) 1 8 Tryz.underlying39 hi hz0 hz1 hz2 rfl (by decide) (.slice (some ⟨W.heap.size, 0, none⟩) 0 0) 0 [] (by rfl) OB.out.drew ⟨g, 0, none⟩ k k ((L.map (Value.int .i64)).take k) (by rfl) LT.out (KB.out.drew).src OT.out (by unfold maxLen; omega) (by omega) (KB.out.drew).2.2.2.1 ?_; intro v1 w1 hown1 hgrow1 hat1; have KF1 := Keep.grown KB.out.drew F0.out hgrow1 hat1; have K1 := hide KF1.1; have F1 := hide KF1.2; have O1 := hide hown1; clear KF1 hown1 hat1; have LC := LCB.out _ w1 (by rfl) hgrow1) | (refine step_app (by rfl) (.tmp 45) (.tmp 48) 39 (by rfl) B 3 i0 (.int .i64 0) 1 8 Tryz.underlying39 hi hz0 hz1 hz2 rfl (by decide) (.slice (some ⟨W.heap.size + 1, 0, none⟩) 0 0) 0 [] (by rfl) OC.out.drew ⟨g, 0, none⟩ k k ((L.map (Value.int .i64)).take k) (by rfl) LT.out (KC.out.drew).src OT.out (by unfold maxLen; omega) (by omega) (KC.out.drew).2.2.2.1 ?_; intro v1 w1 hown1 hgrow1 hat1; have KF1 := Keep.grown KC.out.drew F1'.out hgrow1 hat1; have K1 := hide KF1.1; have F1 := hide KF1.2; have O1 := hide hown1; clear KF1 hown1 hat1; have LC := LCC.out _ w1 (by rfl) hgrow1) | (refine step_app (by rfl) (.tmp 49) (.tmp 54) 39 (by rfl) B 3 i0 (.int .i64 0) 1 8 Tryz.underlying39 hi hz0 hz1 hz2 rfl (by decide) v1 (0 + k) ([] ++ (L.map (Value.int .i64)).take k) (by rfl) ((O1.out.alloc (.cells #[.int .i64 x] 3))) ⟨w1.heap.size, 0, none⟩ 1 1 [.int .i64 x] (by rfl) rfl (cell_one_new _ _ _) (one_of_int _) (by unfold maxLen; omega) (by omega) ((K1.out.alloc (.cells #[.int .i64 x] 3))).2.2.2.1 ?_; intro v2 w2 hown2 hgrow2 hat2; have KF2 := Keep.grown ((K1.out.alloc (.cells #[.int .i64 x] 3))) F1.out hgrow2 hat2; have K2 := hide KF2.1; have F2 := hide KF2.2; have O2 := hide hown2; clear KF2 hown2 hat2) | (refine step_app (by rfl) (.tmp 49) (.tmp 54) 39 (by rfl) B 3 i0 (.int .i64 0) 1 8 Tryz.underlying39 hi hz0 hz1 hz2 rfl (by decide) v1 (0 + k) ([] ++ (L.map (Value.int .i64)).take k) (by rfl) (O1.out) ⟨W.heap.size + 1, 0, none⟩ 1 1 [.int .i64 x] (by rfl) rfl LC (one_of_int _) (by unfold maxLen; omega) (by omega) (K1.out).2.2.2.1 ?_; intro v2 w2 hown2 hgrow2 hat2; have KF2 := Keep.grown (K1.out) F1.out hgrow2 hat2; have K2 := hide KF2.1; have F2 := hide KF2.2; have O2 := hide hown2; clear KF2 hown2 hat2) | (refine step_app (by rfl) (.tmp 49) (.tmp 54) 39 (by rfl) B 3 i0 (.int .i64 0) 1 8 Tryz.underlying39 hi hz0 hz1 hz2 rfl (by decide) v1 (0 + k) ([] ++ (L.map (Value.int .i64)).take k) (by rfl) (O1.out) ⟨W.heap.size, 0, none⟩ 1 1 [.int .i64 x] (by rfl) rfl LC (one_of_int _) (by unfold maxLen; omega) (by omega) (K1.out).2.2.2.1 ?_; intro v2 w2 hown2 hgrow2 hat2; have KF2 := Keep.grown (K1.out) F1.out hgrow2 hat2; have K2 := hide KF2.1; have F2 := hide KF2.2; have O2 := hide hown2; clear KF2 hown2 hat2) | (refine step_app (by rfl) (.tmp 55) (.tmp 58) 39 (by rfl) B 3 i0 (.int .i64 0) 1 8 Tryz.underlying39 hi hz0 hz1 hz2 rfl (by decide) v2 (0 + k + 1) ([] ++ (L.map (Value.int .i64)).take k ++ [.int .i64 x]) (by rfl) (O2.out) ⟨g, 0, none⟩ 0 0 ((L.map (Value.int .i64)).drop k) (by rfl) LD.out (SD.out w2) OD.out (by unfold maxLen; omega) (by omega) (K2.out).2.2.2.1 ?_; intro v3 w3 hown3 hgrow3 hat3; have KF3 := Keep.grown (K2.out) F2.out hgrow3 hat3; have K3 := hide KF3.1; have F3 := hide KF3.2; have O3 := hide hown3; clear KF3 hown3 hat3))
                all_goals obtain ⟨g3, c3, rfl, q1, q2, q3⟩ := ownsRow_form O3.out (by omega)
                all_goals (have q4 := (O3.out.lt g3 rfl).2)
                all_goals (have HC4 := hide (CellsAt.of_owns O3.out))
                all_goals (have HB4 := hide K3.out.2.2.1)
                all_goals clear O3 K3 F3
                all_goals go_wp2_with fail
                all_goals go_roundw
                all_goals first
                  | (case rel =>
                      refine ⟨k + 1, g3, c3, by omega, by go_num, by rw [show 0 + k + 1 + 0 = k + 1 by omega], by omega, q3, q1, q4, ?_, HB4, ?_⟩
                      · refine hide ?_
                        rw [sort_next HL0.out HX.out, HLL.out, HSTOP.out, List.map_append, List.map_append, List.map_take, List.map_drop]
                        exact HC4.out
                      · refine hide ?_
                        rw [all_take_succ l s20 k x HX.out, HA.out, HSZ.out]; rfl)
                  | (case measure => simp [Go.RowKit.intOf]; omega)
              · have hcc2 : (c2 == m) = false := beq_eq_false_iff_ne.2 hcc
                go_wp2_with fail
                go_region_held3 (fun w' => w'.cell? ⟨b, k, none⟩ = some (.int .i64 x)) (first | exact K3.out.2.1 | exact K2.out.2.1 | exact K1.out.2.1 | go_keep)
                  (first | (refine step_app (by rfl) (.tmp 45) (.tmp 48) 39 (by rfl) B 3 i0 (.int .i64 0) 1 8 Tryz.underlying39 hi hz0 hz1 hz2 rfl (by decide) (.slice (some ⟨W.heap.size, 0, none⟩) 0 0) 0 [] (by rfl) OA.out.drew ⟨g, 0, none⟩ m c2 ((L.map (Value.int .i64)).take m) (by rfl) LT.out (KA.out.drew).src OT.out (by unfold maxLen; omega) (by omega) (KA.out.drew).2.2.2.1 ?_; intro v1 w1 hown1 hgrow1 hat1; have KF1 := Keep.grown KA.out.drew F0.out hgrow1 hat1; have K1 := hide KF1.1; have F1 := hide KF1.2; have O1 := hide hown1; clear KF1 hown1 hat1) | (refine step_app (by rfl) (.tmp 45) (.tmp 48) 39 (by rfl) B 3 i0 (.int .i64 0) 1 8 Tryz.underlying39 hi hz0 hz1 hz2 rfl (by decide) (.slice (some ⟨W.heap.size, 0, none⟩) 0 0) 0 [] (by rfl) OB.out.drew ⟨g, 0, none⟩ m c2 ((L.map (Value.int .i64)).take m) (by rfl) LT.out (KB.out.drew).src OT.out (by unfold maxLen; omega) (by omega) (KB.out.drew).2.2.2.1 ?_; intro v1 w1 hown1 hgrow1 hat1; have KF1 := Keep.grown KB.out.drew F0.out hgrow1 hat1; have K1 := hide KF1.1; have F1 := hide KF1.2; have O1 := hide hown1; clear KF1 hown1 hat1; have LC := LCB.out _ w1 (by rfl) hgrow1) | (refine step_app (by rfl) (.tmp 45) (.tmp 48) 39 (by rfl) B 3 i0 (.int .i64 0) 1 8 Tryz.underlying39 hi hz0 hz1 hz2 rfl (by decide) (.slice (some ⟨W.heap.size + 1, 0, none⟩) 0 0) 0 [] (by rfl) OC.out.drew ⟨g, 0, none⟩ m c2 ((L.map (Value.int .i64)).take m) (by rfl) LT.out (KC.out.drew).src OT.out (by unfold maxLen; omega) (by omega) (KC.out.drew).2.2.2.1 ?_; intro v1 w1 hown1 hgrow1 hat1; have KF1 := Keep.grown KC.out.drew F1'.out hgrow1 hat1; have K1 := hide KF1.1; have F1 := hide KF1.2; have O1 := hide hown1; clear KF1 hown1 hat1; have LC := LCC.out _ w1 (by rfl) hgrow1) | (refine step_app (by rfl) (.tmp 49) (.tmp 54) 39 (by rfl) B 3 i0 (.int .i64 0) 1 8 Tryz.underlying39 hi hz0 hz1 hz2 rfl (by decide) v1 (0 + m) ([] ++ (L.map (Value.int .i64)).take m) (by rfl) ((O1.out.alloc (.cells #[.int .i64 x] 3))) ⟨w1.heap.size, 0, none⟩ 1 1 [.int .i64 x] (by rfl) rfl (cell_one_new _ _ _) (one_of_int _) (by unfold maxLen; omega) (by omega) ((K1.out.alloc (.cells #[.int .i64 x] 3))).2.2.2.1 ?_; intro v2 w2 hown2 hgrow2 hat2; have KF2 := Keep.grown ((K1.out.alloc (.cells #[.int .i64 x] 3))) F1.out hgrow2 hat2; have K2 := hide KF2.1; have F2 := hide KF2.2; have O2 := hide hown2; clear KF2 hown2 hat2) | (refine step_app (by rfl) (.tmp 49) (.tmp 54) 39 (by rfl) B 3 i0 (.int .i64 0) 1 8 Tryz.underlying39 hi hz0 hz1 hz2 rfl (by decide) v1 (0 + m) ([] ++ (L.map (Value.int .i64)).take m) (by rfl) (O1.out) ⟨W.heap.size + 1, 0, none⟩ 1 1 [.int .i64 x] (by rfl) rfl LC (one_of_int _) (by unfold maxLen; omega) (by omega) (K1.out).2.2.2.1 ?_; intro v2 w2 hown2 hgrow2 hat2; have KF2 := Keep.grown (K1.out) F1.out hgrow2 hat2; have K2 := hide KF2.1; have F2 := hide KF2.2; have O2 := hide hown2; clear KF2 hown2 hat2) | (refine step_app (by rfl) (.tmp 49) (.tmp 54) 39 (by rfl) B 3 i0 (.int .i64 0) 1 8 Tryz.underlying39 hi hz0 hz1 hz2 rfl (by decide) v1 (0 + m) ([] ++ (L.map (Value.int .i64)).take m) (by rfl) (O1.out) ⟨W.heap.size, 0, none⟩ 1 1 [.int .i64 x] (by rfl) rfl LC (one_of_int _) (by unfold maxLen; omega) (by omega) (K1.out).2.2.2.1 ?_; intro v2 w2 hown2 hgrow2 hat2; have KF2 := Keep.grown (K1.out) F1.out hgrow2 hat2; have K2 := hide KF2.1; have F2 := hide KF2.2; have O2 := hide hown2; clear KF2 hown2 hat2) | (refine step_app (by rfl) (.tmp 55) (.tmp 58) 39 (by rfl) B 3 i0 (.int .i64 0) 1 8 Tryz.underlying39 hi hz0 hz1 hz2 rfl (by decide) v2 (0 + m + 1) ([] ++ (L.map (Value.int .i64)).take m ++ [.int .i64 x]) (by rfl) (O2.out) ⟨g, m, none⟩ (k - m) (c2 - m) ((L.map (Value.int .i64)).drop m) (by rfl) LD.out (K2.out).src2 OD.out (by unfold maxLen; omega) (by omega) (K2.out).2.2.2.1 ?_; intro v3 w3 hown3 hgrow3 hat3; have KF3 := Keep.grown (K2.out) F2.out hgrow3 hat3; have K3 := hide KF3.1; have F3 := hide KF3.2; have O3 := hide hown3; clear KF3 hown3 hat3) | (refine step_app (by rfl) (.tmp 55) (.tmp 58) 39 (by rfl) B 3 i0 (.int .i64 0) 1 8 Tryz.underlying39 hi hz0 hz1 hz2 rfl (by decide) v2 (0 + m + 1) ([] ++ (L.map (Value.int .i64)).take m ++ [.int .i64 x]) (by rfl) (O2.out.drew) ⟨g, m, none⟩ (k - m) (c2 - m) ((L.map (Value.int .i64)).drop m) (by rfl) LD.out (K2.out.drew).src2 OD.out (by unfold maxLen; omega) (by omega) (K2.out.drew).2.2.2.1 ?_; intro v3 w3 hown3 hgrow3 hat3; have KF3 := Keep.grown (K2.out.drew) F2.out hgrow3 hat3; have K3 := hide KF3.1; have F3 := hide KF3.2; have O3 := hide hown3; clear KF3 hown3 hat3))
                all_goals obtain ⟨g3, c3, rfl, q1, q2, q3⟩ := ownsRow_form O3.out (by omega)
                all_goals (have q4 := (O3.out.lt g3 rfl).2)
                all_goals (have HC4 := hide (CellsAt.of_owns O3.out))
                all_goals (have HB4 := hide K3.out.2.2.1)
                all_goals clear O3 K3 F3
                all_goals go_wp2_with fail
                all_goals go_roundw
                all_goals first
                  | (case rel =>
                      refine ⟨k + 1, g3, c3, by omega, by go_num, by rw [show 0 + m + 1 + (k - m) = k + 1 by omega], by omega, q3, q1, q4, ?_, HB4, ?_⟩
                      · refine hide ?_
                        rw [sort_next HL0.out HX.out, HLL.out, HSTOP.out, List.map_append, List.map_append, List.map_take, List.map_drop]
                        exact HC4.out
                      · refine hide ?_
                        rw [all_take_succ l s20 k x HX.out, HA.out, HSZ.out]; rfl)
                  | (case measure => simp [Go.RowKit.intOf]; omega)
            · have HSTOP := hide (show insK x L k = m by
                rw [HI.out]
                obtain ⟨j, rfl⟩ : ∃ j, m = j + 1 := ⟨m - 1, by omega⟩
                have d1' := of_decide_eq_false d1
                rw [HY.out, Nat.add_sub_cancel] at d1'
                show (if x < L.getD j 0 then insK x L j else j + 1) = j + 1
                rw [if_neg d1'])
              obtain ⟨j, rfl⟩ : ∃ j, m = j + 1 := ⟨m - 1, by omega⟩
              have c1 := (HC2.out j (.int .i64 y) (by rw [List.getElem?_map, HY.out, Nat.add_sub_cancel, List.getD_eq_getElem?_getD, List.getElem?_eq_getElem (by rw [HLL.out]; omega)]; rfl)).1
              have j0 : (0 : Int) ≤ (j : Int) := by omega
              have j1 : (j : Int) < (k : Int) := by omega
              have j2 : (0 : Int) < (j : Int) + 1 := by omega
              clear h0 d0
              go_wp2
              go_quiet (fail)
              clear d1 j0 j1 j2 c1
              try rw [show (j : Int) + 1 = ((j + 1 : Nat) : Int) by omega]
              generalize j + 1 = m at *
              have keep : Keep w B g b k x (L.map (Value.int .i64)) (wr.drewN nq) := ⟨HC2.out, hcl2, HBW2.out.trans ((Quiet.drewN (w := wr) nq).2 B), by show B ≤ wr.heap.size; omega, hgw2, hbw2⟩
              have KEEP := hide keep
              clear keep HC2 HBW2 hcl2 hgw2 hbw2
              have m1 : (m : Int) ≤ (c2 : Int) := by omega
              have m2 : (m : Int) ≤ (k : Int) := by omega
              have k2 : (k : Int) ≤ (c2 : Int) := by omega
              generalize wr.drewN nq = W at *
              have hWc := KEEP.out.2.1
              have KA := hide (KEEP.out.alloc (.cells #[] 3))
              have KB := hide (KA.out.alloc (.cells #[.int .i64 x] 3))
              have KC := hide ((KEEP.out.alloc (.cells #[.int .i64 x] 3)).alloc (.cells #[] 3))
              have OA := hide (World.ownsRow_lit (base := B) (e := 3) (size := 1) W #[] 0 KEEP.out.2.2.2.1 (by unfold maxLen; omega) rfl)
              have OB := hide (OA.out.alloc (.cells #[.int .i64 x] 3))
              have OC : Hid (((W.alloc (.cells #[.int .i64 x] 3)).alloc (.cells #[] 3)).ownsRow B 3 1 (.slice (some ⟨W.heap.size + 1, 0, none⟩) 0 0) 0 []) := hide (by
                have := World.ownsRow_lit (base := B) (e := 3) (size := 1) (W.alloc (.cells #[.int .i64 x] 3)) #[] 0 (KEEP.out.alloc (.cells #[.int .i64 x] 3)).2.2.2.1 (by unfold maxLen; omega) rfl
                rw [World.size_alloc] at this
                exact this)
              have F0 : Hid (Far B g b (.slice (some ⟨W.heap.size, 0, none⟩) 0 0)) := hide (Far.new (by have := KEEP.out.2.2.2.2.1; omega) (by have := KEEP.out.2.2.2.2.2; omega) KEEP.out.2.2.2.1)
              have F1' : Hid (Far B g b (.slice (some ⟨W.heap.size + 1, 0, none⟩) 0 0)) := hide (Far.new (by have := KEEP.out.2.2.2.2.1; omega) (by have := KEEP.out.2.2.2.2.2; omega) (by have := KEEP.out.2.2.2.1; omega))
              have LCB : Hid (∀ w0 w1 : World, w0.heap = ((W.alloc (.cells #[] 3)).alloc (.cells #[.int .i64 x] 3)).heap → w0.grownBy w1 (Value.slice (some ⟨W.heap.size, 0, none⟩) 0 0).ownBlock → ∀ j u, [Value.int .i64 x][j]? = some u → w1.cell? ((⟨W.heap.size + 1, 0, none⟩ : Addr).add j) = some u) := hide (by
                intro w0 w1 hw hg j u hu
                have h1 := cell_one_new (W.alloc (.cells #[] 3)) (.int .i64 x) 3 j u hu
                rw [World.size_alloc, Addr.add_lit] at h1
                rw [Addr.add_lit]
                have h2 : w0.cell? ⟨W.heap.size + 1, 0 + j, none⟩ = ((W.alloc (.cells #[] 3)).alloc (.cells #[.int .i64 x] 3)).cell? ⟨W.heap.size + 1, 0 + j, none⟩ := World.cell?_of_block (by rw [hw])
                exact (hg.cell_far ⟨W.heap.size + 1, 0 + j, none⟩ (by rw [hw]; show _ < ((W.alloc (.cells #[] 3)).alloc (.cells #[.int .i64 x] 3)).heap.size; simp) (by simp [Value.ownBlock])).trans (h2.trans h1))
              have LCC : Hid (∀ w0 w1 : World, w0.heap = ((W.alloc (.cells #[.int .i64 x] 3)).alloc (.cells #[] 3)).heap → w0.grownBy w1 (Value.slice (some ⟨W.heap.size + 1, 0, none⟩) 0 0).ownBlock → ∀ j u, [Value.int .i64 x][j]? = some u → w1.cell? ((⟨W.heap.size, 0, none⟩ : Addr).add j) = some u) := hide (by
                intro w0 w1 hw hg j u hu
                have h1 := cell_one_new W (.int .i64 x) 3 j u hu
                rw [Addr.add_lit] at h1
                rw [Addr.add_lit]
                have h2 := ((Below.refl (W.heap.size + 1) (W.alloc (.cells #[.int .i64 x] 3))).alloc (by simp) (.cells #[] 3)).cell (p := ⟨W.heap.size, 0 + j, none⟩) (by simp)
                have h3 : w0.cell? ⟨W.heap.size, 0 + j, none⟩ = ((W.alloc (.cells #[.int .i64 x] 3)).alloc (.cells #[] 3)).cell? ⟨W.heap.size, 0 + j, none⟩ := World.cell?_of_block (by rw [hw])
                exact (hg.cell_far ⟨W.heap.size, 0 + j, none⟩ (by rw [hw]; show _ < ((W.alloc (.cells #[.int .i64 x] 3)).alloc (.cells #[] 3)).heap.size; simp; omega) (by simp [Value.ownBlock])).trans (h3.trans (h2.trans h1)))
              have LT : Hid (((L.map (Value.int .i64)).take m).length = m * 1) := hide (by rw [List.length_take, List.length_map, HLL.out]; omega)
              have LD : Hid (((L.map (Value.int .i64)).drop m).length = (k - m) * 1) := hide (by rw [List.length_drop, List.length_map, HLL.out]; omega)
              have OT : Hid (∀ u ∈ (L.map (Value.int .i64)).take m, u.oneCell' = true) := hide (fun u hu => ints_of u (List.mem_of_mem_take hu))
              have OD : Hid (∀ u ∈ (L.map (Value.int .i64)).drop m, u.oneCell' = true) := hide (fun u hu => ints_of u (List.mem_of_mem_drop hu))
              by_cases hcc : c2 = m
              · have hmk : k = m := by omega
                subst hmk
                have hkc3 := hcc.symm
                subst hkc3
                clear hcc
                have LD : Hid (((L.map (Value.int .i64)).drop k).length = 0 * 1) := hide (by rw [List.length_drop, List.length_map, HLL.out]; omega)
                have SD : Hid (∀ w0 : World, ∀ j u, ((L.map (Value.int .i64)).drop k)[j]? = some u → w0.cell? ((⟨g, 0, none⟩ : Addr).add j) = some u) := hide (by
                  intro w0 j u hu
                  have := (List.getElem?_eq_some_iff.1 hu).1
                  rw [LD.out] at this
                  omega)
                go_wp2_with fail
                go_region_held3 (fun w' => w'.cell? ⟨b, k, none⟩ = some (.int .i64 x)) (first | exact K3.out.2.1 | exact K2.out.2.1 | exact K1.out.2.1 | go_keep)
                  (first | (refine step_app (by rfl) (.tmp 45) (.tmp 48) 39 (by rfl) B 3 i0 (.int .i64 0) 1 8 Tryz.underlying39 hi hz0 hz1 hz2 rfl (by decide) (.slice (some ⟨W.heap.size, 0, none⟩) 0 0) 0 [] (by rfl) OA.out.drew ⟨g, 0, none⟩ k k ((L.map (Value.int .i64)).take k) (by rfl) LT.out (KA.out.drew).src OT.out (by unfold maxLen; omega) (by omega) (KA.out.drew).2.2.2.1 ?_; intro v1 w1 hown1 hgrow1 hat1; have KF1 := Keep.grown KA.out.drew F0.out hgrow1 hat1; have K1 := hide KF1.1; have F1 := hide KF1.2; have O1 := hide hown1; clear KF1 hown1 hat1) | (refine step_app (by rfl) (.tmp 45) (.tmp 48) 39 (by rfl) B 3 i0 (.int .i64 0) 1 8 Tryz.underlying39 hi hz0 hz1 hz2 rfl (by decide) (.slice (some ⟨W.heap.size, 0, none⟩) 0 0) 0 [] (by rfl) OB.out.drew ⟨g, 0, none⟩ k k ((L.map (Value.int .i64)).take k) (by rfl) LT.out (KB.out.drew).src OT.out (by unfold maxLen; omega) (by omega) (KB.out.drew).2.2.2.1 ?_; intro v1 w1 hown1 hgrow1 hat1; have KF1 := Keep.grown KB.out.drew F0.out hgrow1 hat1; have K1 := hide KF1.1; have F1 := hide KF1.2; have O1 := hide hown1; clear KF1 hown1 hat1; have LC := LCB.out _ w1 (by rfl) hgrow1) | (refine step_app (by rfl) (.tmp 45) (.tmp 48) 39 (by rfl) B 3 i0 (.int .i64 0) 1 8 Tryz.underlying39 hi hz0 hz1 hz2 rfl (by decide) (.slice (some ⟨W.heap.size + 1, 0, none⟩) 0 0) 0 [] (by rfl) OC.out.drew ⟨g, 0, none⟩ k k ((L.map (Value.int .i64)).take k) (by rfl) LT.out (KC.out.drew).src OT.out (by unfold maxLen; omega) (by omega) (KC.out.drew).2.2.2.1 ?_; intro v1 w1 hown1 hgrow1 hat1; have KF1 := Keep.grown KC.out.drew F1'.out hgrow1 hat1; have K1 := hide KF1.1; have F1 := hide KF1.2; have O1 := hide hown1; clear KF1 hown1 hat1; have LC := LCC.out _ w1 (by rfl) hgrow1) | (refine step_app (by rfl) (.tmp 49) (.tmp 54) 39 (by rfl) B 3 i0 (.int .i64 0) 1 8 Tryz.underlying39 hi hz0 hz1 hz2 rfl (by decide) v1 (0 + k) ([] ++ (L.map (Value.int .i64)).take k) (by rfl) ((O1.out.alloc (.cells #[.int .i64 x] 3))) ⟨w1.heap.size, 0, none⟩ 1 1 [.int .i64 x] (by rfl) rfl (cell_one_new _ _ _) (one_of_int _) (by unfold maxLen; omega) (by omega) ((K1.out.alloc (.cells #[.int .i64 x] 3))).2.2.2.1 ?_; intro v2 w2 hown2 hgrow2 hat2; have KF2 := Keep.grown ((K1.out.alloc (.cells #[.int .i64 x] 3))) F1.out hgrow2 hat2; have K2 := hide KF2.1; have F2 := hide KF2.2; have O2 := hide hown2; clear KF2 hown2 hat2) | (refine step_app (by rfl) (.tmp 49) (.tmp 54) 39 (by rfl) B 3 i0 (.int .i64 0) 1 8 Tryz.underlying39 hi hz0 hz1 hz2 rfl (by decide) v1 (0 + k) ([] ++ (L.map (Value.int .i64)).take k) (by rfl) (O1.out) ⟨W.heap.size + 1, 0, none⟩ 1 1 [.int .i64 x] (by rfl) rfl LC (one_of_int _) (by unfold maxLen; omega) (by omega) (K1.out).2.2.2.1 ?_; intro v2 w2 hown2 hgrow2 hat2; have KF2 := Keep.grown (K1.out) F1.out hgrow2 hat2; have K2 := hide KF2.1; have F2 := hide KF2.2; have O2 := hide hown2; clear KF2 hown2 hat2) | (refine step_app (by rfl) (.tmp 49) (.tmp 54) 39 (by rfl) B 3 i0 (.int .i64 0) 1 8 Tryz.underlying39 hi hz0 hz1 hz2 rfl (by decide) v1 (0 + k) ([] ++ (L.map (Value.int .i64)).take k) (by rfl) (O1.out) ⟨W.heap.size, 0, none⟩ 1 1 [.int .i64 x] (by rfl) rfl LC (one_of_int _) (by unfold maxLen; omega) (by omega) (K1.out).2.2.2.1 ?_; intro v2 w2 hown2 hgrow2 hat2; have KF2 := Keep.grown (K1.out) F1.out hgrow2 hat2; have K2 := hide KF2.1; have F2 := hide KF2.2; have O2 := hide hown2; clear KF2 hown2 hat2) | (refine step_app (by rfl) (.tmp 55) (.tmp 58) 39 (by rfl) B 3 i0 (.int .i64 0) 1 8 Tryz.underlying39 hi hz0 hz1 hz2 rfl (by decide) v2 (0 + k + 1) ([] ++ (L.map (Value.int .i64)).take k ++ [.int .i64 x]) (by rfl) (O2.out) ⟨g, 0, none⟩ 0 0 ((L.map (Value.int .i64)).drop k) (by rfl) LD.out (SD.out w2) OD.out (by unfold maxLen; omega) (by omega) (K2.out).2.2.2.1 ?_; intro v3 w3 hown3 hgrow3 hat3; have KF3 := Keep.grown (K2.out) F2.out hgrow3 hat3; have K3 := hide KF3.1; have F3 := hide KF3.2; have O3 := hide hown3; clear KF3 hown3 hat3))
                all_goals obtain ⟨g3, c3, rfl, q1, q2, q3⟩ := ownsRow_form O3.out (by omega)
                all_goals (have q4 := (O3.out.lt g3 rfl).2)
                all_goals (have HC4 := hide (CellsAt.of_owns O3.out))
                all_goals (have HB4 := hide K3.out.2.2.1)
                all_goals clear O3 K3 F3
                all_goals go_wp2_with fail
                all_goals go_roundw
                all_goals first
                  | (case rel =>
                      refine ⟨k + 1, g3, c3, by omega, by go_num, by rw [show 0 + k + 1 + 0 = k + 1 by omega], by omega, q3, q1, q4, ?_, HB4, ?_⟩
                      · refine hide ?_
                        rw [sort_next HL0.out HX.out, HLL.out, HSTOP.out, List.map_append, List.map_append, List.map_take, List.map_drop]
                        exact HC4.out
                      · refine hide ?_
                        rw [all_take_succ l s20 k x HX.out, HA.out, HSZ.out]; rfl)
                  | (case measure => simp [Go.RowKit.intOf]; omega)
              · have hcc2 : (c2 == m) = false := beq_eq_false_iff_ne.2 hcc
                go_wp2_with fail
                go_region_held3 (fun w' => w'.cell? ⟨b, k, none⟩ = some (.int .i64 x)) (first | exact K3.out.2.1 | exact K2.out.2.1 | exact K1.out.2.1 | go_keep)
                  (first | (refine step_app (by rfl) (.tmp 45) (.tmp 48) 39 (by rfl) B 3 i0 (.int .i64 0) 1 8 Tryz.underlying39 hi hz0 hz1 hz2 rfl (by decide) (.slice (some ⟨W.heap.size, 0, none⟩) 0 0) 0 [] (by rfl) OA.out.drew ⟨g, 0, none⟩ m c2 ((L.map (Value.int .i64)).take m) (by rfl) LT.out (KA.out.drew).src OT.out (by unfold maxLen; omega) (by omega) (KA.out.drew).2.2.2.1 ?_; intro v1 w1 hown1 hgrow1 hat1; have KF1 := Keep.grown KA.out.drew F0.out hgrow1 hat1; have K1 := hide KF1.1; have F1 := hide KF1.2; have O1 := hide hown1; clear KF1 hown1 hat1) | (refine step_app (by rfl) (.tmp 45) (.tmp 48) 39 (by rfl) B 3 i0 (.int .i64 0) 1 8 Tryz.underlying39 hi hz0 hz1 hz2 rfl (by decide) (.slice (some ⟨W.heap.size, 0, none⟩) 0 0) 0 [] (by rfl) OB.out.drew ⟨g, 0, none⟩ m c2 ((L.map (Value.int .i64)).take m) (by rfl) LT.out (KB.out.drew).src OT.out (by unfold maxLen; omega) (by omega) (KB.out.drew).2.2.2.1 ?_; intro v1 w1 hown1 hgrow1 hat1; have KF1 := Keep.grown KB.out.drew F0.out hgrow1 hat1; have K1 := hide KF1.1; have F1 := hide KF1.2; have O1 := hide hown1; clear KF1 hown1 hat1; have LC := LCB.out _ w1 (by rfl) hgrow1) | (refine step_app (by rfl) (.tmp 45) (.tmp 48) 39 (by rfl) B 3 i0 (.int .i64 0) 1 8 Tryz.underlying39 hi hz0 hz1 hz2 rfl (by decide) (.slice (some ⟨W.heap.size + 1, 0, none⟩) 0 0) 0 [] (by rfl) OC.out.drew ⟨g, 0, none⟩ m c2 ((L.map (Value.int .i64)).take m) (by rfl) LT.out (KC.out.drew).src OT.out (by unfold maxLen; omega) (by omega) (KC.out.drew).2.2.2.1 ?_; intro v1 w1 hown1 hgrow1 hat1; have KF1 := Keep.grown KC.out.drew F1'.out hgrow1 hat1; have K1 := hide KF1.1; have F1 := hide KF1.2; have O1 := hide hown1; clear KF1 hown1 hat1; have LC := LCC.out _ w1 (by rfl) hgrow1) | (refine step_app (by rfl) (.tmp 49) (.tmp 54) 39 (by rfl) B 3 i0 (.int .i64 0) 1 8 Tryz.underlying39 hi hz0 hz1 hz2 rfl (by decide) v1 (0 + m) ([] ++ (L.map (Value.int .i64)).take m) (by rfl) ((O1.out.alloc (.cells #[.int .i64 x] 3))) ⟨w1.heap.size, 0, none⟩ 1 1 [.int .i64 x] (by rfl) rfl (cell_one_new _ _ _) (one_of_int _) (by unfold maxLen; omega) (by omega) ((K1.out.alloc (.cells #[.int .i64 x] 3))).2.2.2.1 ?_; intro v2 w2 hown2 hgrow2 hat2; have KF2 := Keep.grown ((K1.out.alloc (.cells #[.int .i64 x] 3))) F1.out hgrow2 hat2; have K2 := hide KF2.1; have F2 := hide KF2.2; have O2 := hide hown2; clear KF2 hown2 hat2) | (refine step_app (by rfl) (.tmp 49) (.tmp 54) 39 (by rfl) B 3 i0 (.int .i64 0) 1 8 Tryz.underlying39 hi hz0 hz1 hz2 rfl (by decide) v1 (0 + m) ([] ++ (L.map (Value.int .i64)).take m) (by rfl) (O1.out) ⟨W.heap.size + 1, 0, none⟩ 1 1 [.int .i64 x] (by rfl) rfl LC (one_of_int _) (by unfold maxLen; omega) (by omega) (K1.out).2.2.2.1 ?_; intro v2 w2 hown2 hgrow2 hat2; have KF2 := Keep.grown (K1.out) F1.out hgrow2 hat2; have K2 := hide KF2.1; have F2 := hide KF2.2; have O2 := hide hown2; clear KF2 hown2 hat2) | (refine step_app (by rfl) (.tmp 49) (.tmp 54) 39 (by rfl) B 3 i0 (.int .i64 0) 1 8 Tryz.underlying39 hi hz0 hz1 hz2 rfl (by decide) v1 (0 + m) ([] ++ (L.map (Value.int .i64)).take m) (by rfl) (O1.out) ⟨W.heap.size, 0, none⟩ 1 1 [.int .i64 x] (by rfl) rfl LC (one_of_int _) (by unfold maxLen; omega) (by omega) (K1.out).2.2.2.1 ?_; intro v2 w2 hown2 hgrow2 hat2; have KF2 := Keep.grown (K1.out) F1.out hgrow2 hat2; have K2 := hide KF2.1; have F2 := hide KF2.2; have O2 := hide hown2; clear KF2 hown2 hat2) | (refine step_app (by rfl) (.tmp 55) (.tmp 58) 39 (by rfl) B 3 i0 (.int .i64 0) 1 8 Tryz.underlying39 hi hz0 hz1 hz2 rfl (by decide) v2 (0 + m + 1) ([] ++ (L.map (Value.int .i64)).take m ++ [.int .i64 x]) (by rfl) (O2.out) ⟨g, m, none⟩ (k - m) (c2 - m) ((L.map (Value.int .i64)).drop m) (by rfl) LD.out (K2.out).src2 OD.out (by unfold maxLen; omega) (by omega) (K2.out).2.2.2.1 ?_; intro v3 w3 hown3 hgrow3 hat3; have KF3 := Keep.grown (K2.out) F2.out hgrow3 hat3; have K3 := hide KF3.1; have F3 := hide KF3.2; have O3 := hide hown3; clear KF3 hown3 hat3) | (refine step_app (by rfl) (.tmp 55) (.tmp 58) 39 (by rfl) B 3 i0 (.int .i64 0) 1 8 Tryz.underlying39 hi hz0 hz1 hz2 rfl (by decide) v2 (0 + m + 1) ([] ++ (L.map (Value.int .i64)).take m ++ [.int .i64 x]) (by rfl) (O2.out.drew) ⟨g, m, none⟩ (k - m) (c2 - m) ((L.map (Value.int .i64)).drop m) (by rfl) LD.out (K2.out.drew).src2 OD.out (by unfold maxLen; omega) (by omega) (K2.out.drew).2.2.2.1 ?_; intro v3 w3 hown3 hgrow3 hat3; have KF3 := Keep.grown (K2.out.drew) F2.out hgrow3 hat3; have K3 := hide KF3.1; have F3 := hide KF3.2; have O3 := hide hown3; clear KF3 hown3 hat3))
                all_goals obtain ⟨g3, c3, rfl, q1, q2, q3⟩ := ownsRow_form O3.out (by omega)
                all_goals (have q4 := (O3.out.lt g3 rfl).2)
                all_goals (have HC4 := hide (CellsAt.of_owns O3.out))
                all_goals (have HB4 := hide K3.out.2.2.1)
                all_goals clear O3 K3 F3
                all_goals go_wp2_with fail
                all_goals go_roundw
                all_goals first
                  | (case rel =>
                      refine ⟨k + 1, g3, c3, by omega, by go_num, by rw [show 0 + m + 1 + (k - m) = k + 1 by omega], by omega, q3, q1, q4, ?_, HB4, ?_⟩
                      · refine hide ?_
                        rw [sort_next HL0.out HX.out, HLL.out, HSTOP.out, List.map_append, List.map_append, List.map_take, List.map_drop]
                        exact HC4.out
                      · refine hide ?_
                        rw [all_take_succ l s20 k x HX.out, HA.out, HSZ.out]; rfl)
                  | (case measure => simp [Go.RowKit.intOf]; omega)
            · obtain ⟨j, rfl⟩ : ∃ j, m = j + 1 := ⟨m - 1, by omega⟩
              have c1 := (HC2.out j (.int .i64 y) (by rw [List.getElem?_map, HY.out, Nat.add_sub_cancel, List.getD_eq_getElem?_getD, List.getElem?_eq_getElem (by rw [HLL.out]; omega)]; rfl)).1
              have HN2 := hide (show insK x L k = insK x L j by
                rw [HI.out]
                have d1' := h1
                rw [HY.out, Nat.add_sub_cancel] at d1'
                show (if x < L.getD j 0 then insK x L j else j + 1) = _
                rw [if_pos d1'])
              have j0 : (0 : Int) ≤ (j : Int) := by omega
              have j1 : (j : Int) < (k : Int) := by omega
              have j2 : (0 : Int) < (j : Int) + 1 := by omega
              go_wp2
              go_quiet (fail)
              go_wp2
              go_roundw
              case rel => exact ⟨j, by omega, by go_num, HN2, HQQ.out.trans (Quiet.drewN _)⟩
              case measure => simp [Go.RowKit.intOf]
      · have hkn : k = n := by omega
        subst hkn
        have hlk : l.take k = l := List.take_of_length_le (by rw [← HN.out]; exact Nat.le_refl _)
        rw [hlk] at HC HA
        have hC : swC l = true := by rw [swC_s20, HA.out, ← HN.out]; simp [hl]
        have HDONE := hide (fun (so : ByteArray) (h : so.data.toList = chars (szB (isr l))) => done_sz hC h)
        obtain ⟨L, hL0⟩ : ∃ L, L = isr l := ⟨_, rfl⟩
        have HLL := hide (show L.length = k by rw [hL0, isr_length, ← HN.out])
        have HRG : Hid (∀ (q : Nat) (z : Int), L[q]? = some z → 1 ≤ z ∧ z ≤ 20) := by
          intro q z hz
          rw [hL0] at hz
          exact all_s20 HA.out z (((isr_facts l).2.2.2 z).1 (List.mem_of_getElem? hz))
        rw [← hL0] at HC HDONE
        clear hL0 hlk hC
        have hnlt : ¬ ((k : Int) < (k : Int)) := by omega
        go_wp2_with fail
        go_loopw [7, 8] (fun o i w2 => ∃ (so : ByteArray) (q : Nat), q ≤ k ∧ i = .int .i64 (q : Int) ∧ o = .string so ∧ Hid (so.data.toList = chars (szB (L.take q))) ∧ Quiet wr w2) (fun _ i _ => k - (Go.RowKit.intOf i).toNat)
        case atStart => exact ⟨⟨#[]⟩, 0, Nat.zero_le _, rfl, rfl, rfl, Quiet.refl _⟩
        case round =>
          obtain ⟨so, q, hq, rfl, rfl, HSO, HQ⟩ := hrel
          have HQQ := hide HQ
          by_cases hlq : q < k
          · obtain ⟨z, hz⟩ : ∃ z, L[q]? = some z := ⟨_, List.getElem?_eq_getElem (by rw [HLL.out]; exact hlq)⟩
            obtain ⟨z1, z2⟩ := HRG.out q z hz
            obtain ⟨zn, rfl⟩ := Int.eq_ofNat_of_zero_le (show 0 ≤ z by omega)
            have c1 := ((HQ.cells HC.out) q (.int .i64 (zn : Int)) (by rw [List.getElem?_map, hz]; rfl)).1
            have CM := hide (fun c w => (l6Many_one c zn w (by omega)).mono (R' := fun e w' => e = .returned (.string (many c zn)) ∧ w' = w) (fun e w' h => ⟨h.1, h.2.symm⟩))
            have HNX := hide (many_next HSO.out hz)
            have hso : so.size ≤ 40 * q := by
              have e := congrArg List.length HSO.out
              rw [chars_length] at e
              have b := szB_length (L.take q) (fun x hx => by
                obtain ⟨i, hi⟩ := List.mem_iff_getElem?.1 (List.mem_of_mem_take hx)
                exact (HRG.out i x hi).2)
              rw [List.length_take] at b
              have e2 : so.data.toList.length = so.size := rfl
              omega
            have hso2 : so.size ≤ 800 := by omega
            have hm1 : (many 49 zn).size ≤ 20 := by show (List.replicate zn (49 : UInt8)).toArray.size ≤ 20; simp; omega
            have hm0 : (many 48 zn).size ≤ 20 := by show (List.replicate zn (48 : UInt8)).toArray.size ≤ 20; simp; omega
            clear hso
            have q0 : (0 : Int) ≤ (q : Int) := by omega
            have q1 : (q : Int) < (k : Int) := by omega
            clear hz HQ
            go_wp2
            go_quiet ((go_at_call 63; exact Calls.quiet_of_same (CM.out _ _)))
            go_wp2
            go_roundw
            case rel => exact ⟨_, q + 1, by omega, by go_num, rfl, HNX, HQQ.out.trans (Quiet.drewN _)⟩
            case measure => simp [Go.RowKit.intOf]; omega
          · have hqk : q = k := by omega
            subst hqk
            rw [List.take_of_length_le (by rw [HLL.out]; exact Nat.le_refl _)] at HSO
            have CD := hide (HDONE.out so HSO.out)
            have HBE := hide (HBW.out.trans (HQ.2 B))
            clear HQ
            go_wp2_with (go_at_call 25; refine (CD.out _).mono ?_; rintro e w' ⟨rfl, rfl⟩)
            go_ret2
            exact ⟨rfl, HBE.out⟩
  · have e1 : swO l = false := by
      unfold swO swC
      have : decide (l.length ≤ 20) = false := by simp; omega
      rw [this]; simp
    have e2 : swS l = ByteArray.empty := by unfold swS; rw [e1]; rfl
    rw [e1, e2]
    obtain ⟨g, rfl, hc⟩ := hf (by omega)
    obtain ⟨x, hx⟩ : ∃ x, l[0]? = some x := ⟨_, List.getElem?_eq_getElem (by omega)⟩
    have hcell := (hc 0 (.int .i64 x) (by rw [List.getElem?_map, hx]; rfl)).1
    have hlt := World.block_lt_of_cell? w _ hcell
    have hcell2 := ((Below.refl w.heap.size w).alloc (Nat.le_refl _) (.cells #[] 3)).cell (p := ⟨g, 0, none⟩) hlt |>.trans hcell
    have hb0 := hide ((Below.refl w.heap.size w).alloc (Nat.le_refl _) (.cells #[] 3))
    have h20 : (20 : Int) < (l.length : Int) := by omega
    have h00 : (0 : Int) < (l.length : Int) := by omega
    have CI := hide (fun w => l6In_any x 1 20 (s20 x) w rfl)
    clear e1 e2 h hf hc hx hlt hB
    go_enter Tryz.func119, Tryz.ntmps119
    go_wp2_with fail
    go_loopw [5] (fun i w2 => i = .int .i64 0 ∧ w2 = w.alloc (.cells #[] 3)) (fun _ _ => 0)
    case atStart => exact ⟨rfl, rfl⟩
    case round =>
      obtain ⟨rfl, rfl⟩ := hrel
      cases hs : s20 x
      · rw [hs] at CI
        go_wp2_with (go_at_call 47; refine (CI.out _).mono ?_; rintro e w' ⟨rfl, rfl⟩)
        go_ret2
        exact ⟨rfl, hb0.out⟩
      · rw [hs] at CI
        go_wp2_with (go_at_call 47; refine (CI.out _).mono ?_; rintro e w' ⟨rfl, rfl⟩)
        go_ret2
        exact ⟨rfl, hb0.out⟩
end Go.Proofs.YtdooboibmllfkabGreatDoor
