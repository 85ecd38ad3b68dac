/- TEXTS Sound, Sound2, Chk4, Put4, Put5. -/
import Derived.Test.YtdooboibmllfkaaGreatDoorExa01
import Derived.WalkKit
import Derived.LaidEql
import Derived.Stop.Asserts
import Derived.RowKitTokens
import Derived.Test.YtdooboibmllfkaaGreatDoorExa32
import Derived.Deep.LoopGhost
namespace Go.Proofs.YtdooboibmllfkaaGreatDoor
set_option maxRecDepth 100000
open Go.RowKit Go.Extern.Stop Go.Stop Go.Extern

abbrev hdl (t : Nat) : Value := .pointer (some ⟨9, t, none⟩)
theorem rfValueOfP (t : Addr) (w : World) : (ReflectliteValue.unpack (.iface 199 (.pointer (some t)))).run Tryz.prog w
    = .ok (.agg #[.pointer (some ⟨9, 199, none⟩), .pointer (some ⟨w.heap.size, 0, none⟩), .int .u64 150]) (w.alloc (.cells #[.pointer (some t)] 199)) := by kernel_rfl
theorem rfTypeP (a : Addr) (w : World) : (ReflectliteValue.methodAny (ReflectliteValue.valueError "reflectlite.Value.Type" 0) (fun t _ _ _ => ReflectliteType.toType t) #[.agg #[.pointer (some ⟨9, 199, none⟩), .pointer (some a), .int .u64 150]]).run Tryz.prog w
    = .ok (.iface 264 (.agg #[.pointer (some ⟨9, 199, none⟩)])) w := by kernel_rfl
theorem rfKindM (h : Value) (w : World) : (Go.method 438 264 (.agg #[h]) "Kind").run Tryz.prog w = .ok (287, h) w := by kernel_rfl
theorem rfKindP (w : World) : ((ReflectliteType.abiMethod fun t => (fun a : Nat => Value.int IntKind.u8 (a : Int)) <$> Rtype.kind t) #[.pointer (some ⟨9, 199, none⟩)]).run Tryz.prog w = .ok (.int .u8 22) w := by kernel_rfl
theorem rfKindF (w : World) : ((ReflectliteType.abiMethod fun t => (fun a : Nat => Value.int IntKind.u8 (a : Int)) <$> Rtype.kind t) #[.pointer (some ⟨9, 189, none⟩)]).run Tryz.prog w = .ok (.int .u8 24) w := by kernel_rfl
theorem rfMeth (z : Sem Value) (f : TypeId → Addr → Nat → Nat → Sem Value) (v : Value) :
    ReflectliteValue.method z f #[v] = (do match ← ReflectliteValue.parts v with | none => z | some (t, a, fl) => f t a fl (fl % 32)) := rfl
theorem rfPartsP (a : Addr) (w : World) : (ReflectliteValue.parts (.agg #[.pointer (some ⟨9, 199, none⟩), .pointer (some a), .int .u64 150])).run Tryz.prog w = .ok (some (199, a, 150)) w := by kernel_rfl
theorem rfIsNil (a p : Addr) (W : World) (ha : W.cell? a = some (.pointer (some p))) :
    (ReflectliteValue.method (ReflectliteValue.valueError "reflectlite.Value.IsNil" 0) ReflectliteValue.isNil #[.agg #[.pointer (some ⟨9, 199, none⟩), .pointer (some a), .int .u64 150]]).run Tryz.prog W = .ok (.bool false) W := by
  rw [rfMeth]
  simp only [Sem.run_bind, rfPartsP, Result.andThen]
  simp [ReflectliteValue.isNil, loadVar, isAgg, underlying, Tryz.underlying199, ha, Result.andThen]
theorem rfElemM (h : Value) (w : World) : (Go.method 438 264 (.agg #[h]) "Elem").run Tryz.prog w = .ok (306, .agg #[h]) w := by kernel_rfl
theorem rfImplM (h : Value) (w : World) : (Go.method 438 264 (.agg #[h]) "Implements").run Tryz.prog w = .ok (307, .agg #[h]) w := by kernel_rfl
theorem rfAssM (h : Value) (w : World) : (Go.method 438 264 (.agg #[h]) "AssignableTo").run Tryz.prog w = .ok (304, .agg #[h]) w := by kernel_rfl
theorem rfElemT (w : World) : (ReflectliteType.method ReflectliteType.elem #[.agg #[.pointer (some ⟨9, 199, none⟩)]]).run Tryz.prog w = .ok (.iface 264 (.agg #[.pointer (some ⟨9, 189, none⟩)])) w := by kernel_rfl
theorem rfImpl (w : World) : (ReflectliteType.relation "Implements" ReflectliteType.implements_ #[.agg #[.pointer (some ⟨9, 189, none⟩)], .iface 264 (.agg #[.pointer (some ⟨9, 42, none⟩)])]).run Tryz.prog w = .ok (.bool true) w := by kernel_rfl
theorem rfTypeOf (v : Value) (w : World) : (ReflectliteType.typeOf #[.iface 189 v]).run Tryz.prog w = .ok (.iface 264 (.agg #[.pointer (some ⟨9, 189, none⟩)])) w := by kernel_rfl
theorem rfAss (w : World) : (ReflectliteType.relation "AssignableTo" ReflectliteType.assignableTo #[.agg #[.pointer (some ⟨9, 189, none⟩)], .iface 264 (.agg #[.pointer (some ⟨9, 189, none⟩)])]).run Tryz.prog w = .ok (.bool true) w := by kernel_rfl
theorem rfValueOfF (s : ByteArray) (w : World) : (ReflectliteValue.unpack (.iface 189 (.string s))).run Tryz.prog w
    = .ok (.agg #[.pointer (some ⟨9, 189, none⟩), .pointer (some ⟨w.heap.size, 0, none⟩), .int .u64 152]) (w.alloc (.cells #[.string s] 189)) := by kernel_rfl
theorem rfElemOf (w : World) : (Rtype.elem? 199).run Tryz.prog w = .ok (some 189) w := by kernel_rfl
theorem rfMk (p : Addr) (w : World) : (ReflectliteValue.mk 189 p ReflectliteValue.flagAddr).run Tryz.prog w = .ok (.agg #[.pointer (some ⟨9, 189, none⟩), .pointer (some p), .int .u64 408]) w := by kernel_rfl
theorem rfElemV (a p : Addr) (W : World) (ha : W.cell? a = some (.pointer (some p))) :
    (ReflectliteValue.method (ReflectliteValue.valueError "reflectlite.Value.Elem" 0) ReflectliteValue.elem #[.agg #[.pointer (some ⟨9, 199, none⟩), .pointer (some a), .int .u64 150]]).run Tryz.prog W
      = .ok (.agg #[.pointer (some ⟨9, 189, none⟩), .pointer (some p), .int .u64 408]) W := by
  rw [rfMeth]
  simp only [Sem.run_bind, rfPartsP, Result.andThen]
  simp [ReflectliteValue.elem, loadVar, isAgg, underlying, Tryz.underlying199, ha, Result.andThen, rfElemOf, rfMk]
theorem rfSet0 (v x : Value) : ReflectliteValue.set #[v, x] = (do
    let (some (dst, a, fl), some (src, b, _)) := (← ReflectliteValue.parts v, ← ReflectliteValue.parts x)
      | unsupported (.noEntry "extern/(internal/reflectlite.Value).Set.zeroValue")
    if fl / ReflectliteValue.flagAddr % 2 == 0 then unsupported (.noEntry "extern/(internal/reflectlite.Value).Set.unaddressable")
    let val ← loadVar src b
    if ← Rtype.directlyAssignable dst src then storeVar dst a val
    else if ← Rtype.implements dst src then
      if (← Rtype.kind src) == 20 then
        match val with
        | .nilIface => unsupported (.noEntry "extern/reflectlite: a nil value of one interface type handed on as a value of another")
        | _ => storeVar dst a val
      else storeVar dst a (.iface src val)
    else panicString ("reflectlite.Set: value of type " ++ (← Rtype.spelt src) ++ " is not assignable to type " ++ (← Rtype.spelt dst))
    pure (.tuple #[])) := rfl
theorem rfPartsA (a : Addr) (w : World) : (ReflectliteValue.parts (.agg #[.pointer (some ⟨9, 189, none⟩), .pointer (some a), .int .u64 408])).run Tryz.prog w = .ok (some (189, a, 408)) w := by kernel_rfl
theorem rfPartsF (a : Addr) (w : World) : (ReflectliteValue.parts (.agg #[.pointer (some ⟨9, 189, none⟩), .pointer (some a), .int .u64 152])).run Tryz.prog w = .ok (some (189, a, 152)) w := by kernel_rfl
theorem rfDirect (w : World) : (Rtype.directlyAssignable 189 189).run Tryz.prog w = .ok true w := by kernel_rfl
theorem rfSet (ta b : Addr) (s : ByteArray) (old : Value) (W : World) (hb : W.cell? b = some (.string s)) (ht : W.cell? ta = some old) (hf : W.frozen? ta = false) :
    (ReflectliteValue.set #[.agg #[.pointer (some ⟨9, 189, none⟩), .pointer (some ta), .int .u64 408], .agg #[.pointer (some ⟨9, 189, none⟩), .pointer (some b), .int .u64 152]]).run Tryz.prog W
      = .ok (.tuple #[]) (W.setCell ta (.string s)) := by
  rw [rfSet0]
  simp only [Sem.run_bind, rfPartsA, rfPartsF, Result.andThen]
  simp [ReflectliteValue.flagAddr, loadVar, isAgg, underlying, Tryz.underlying189, hb, Result.andThen, rfDirect, storeVar, Value.cells, storeCells, Addr.add]
  rw [run_store Tryz.prog W ta _ _ (by rfl)]
  simp [ht, hf]

theorem as_nil (t : Value) (w : World) : Calls Tryz.prog 185 #[.nilIface, t] w fun e w' => e = .returned (.bool false) ∧ w' = w := by
  go_enter Tryz.func185, Tryz.ntmps185
  go_wp2
  go_ret
  exact ⟨rfl, rfl⟩

set_option maxHeartbeats 4000000 in
theorem as_hit (s : ByteArray) (t : Addr) (old : Value) (w : World) (hg : w.cell? ⟨1, 0, none⟩ = some (.iface 264 (.agg #[.pointer (some ⟨9, 42, none⟩)]))) (ht0 : w.cell? t = some old) (hf0 : w.frozen? t = false) :
    Calls Tryz.prog 185 #[.iface 189 (.string s), .iface 199 (.pointer (some t))] w fun ev w' => ev = .returned (.bool true) ∧ w' = ((((w.alloc (.cells #[.pointer (some t)] 199)).alloc (.cells #[.pointer (some ⟨9, 199, none⟩), .pointer (some ⟨w.heap.size, 0, none⟩), .int .u64 150] 231)).alloc (.cells #[.pointer (some ⟨9, 199, none⟩), .pointer (some ⟨w.heap.size, 0, none⟩), .int .u64 150] 231)).alloc (.cells #[.string s] 189)).setCell t (.string s) := by
  have h6 := @run_callFunc_extern Tryz.prog 218 _ (fun args => ReflectliteValue.unpack (args.getD 0 (.tuple #[]))) Tryz.func218 (by kernel_rfl) (by kernel_rfl) (by kernel_rfl) (by kernel_rfl)
  have h7 := @run_callFunc_extern Tryz.prog 219 _ (ReflectliteValue.methodAny (ReflectliteValue.valueError "reflectlite.Value.Type" 0) (fun t _ _ _ => ReflectliteType.toType t)) Tryz.func219 (by kernel_rfl) (by kernel_rfl) (by kernel_rfl) (by kernel_rfl)
  have h8 := @run_callFunc_extern Tryz.prog 220 _ (ReflectliteValue.method (ReflectliteValue.valueError "reflectlite.Value.IsNil" 0) ReflectliteValue.isNil) Tryz.func220 (by kernel_rfl) (by kernel_rfl) (by kernel_rfl) (by kernel_rfl)
  have h27 := @run_callFunc_extern Tryz.prog 287 _ (ReflectliteType.abiMethod fun t => do pure (.int .u8 (← Rtype.kind t))) Tryz.func287 (by kernel_rfl) (by kernel_rfl) (by kernel_rfl) (by kernel_rfl)
  have h37 := @run_callFunc_extern Tryz.prog 306 _ (ReflectliteType.method ReflectliteType.elem) Tryz.func306 (by kernel_rfl) (by kernel_rfl) (by kernel_rfl) (by kernel_rfl)
  have h38 := @run_callFunc_extern Tryz.prog 307 _ (ReflectliteType.relation "Implements" ReflectliteType.implements_) Tryz.func307 (by kernel_rfl) (by kernel_rfl) (by kernel_rfl) (by kernel_rfl)
  have h10 := @run_callFunc_extern Tryz.prog 242 _ ReflectliteType.typeOf Tryz.func242 (by kernel_rfl) (by kernel_rfl) (by kernel_rfl) (by kernel_rfl)
  have h35 := @run_callFunc_extern Tryz.prog 304 _ (ReflectliteType.relation "AssignableTo" ReflectliteType.assignableTo) Tryz.func304 (by kernel_rfl) (by kernel_rfl) (by kernel_rfl) (by kernel_rfl)
  have h11 := @run_callFunc_extern Tryz.prog 243 _ (ReflectliteValue.method (ReflectliteValue.valueError "reflectlite.Value.Elem" 0) ReflectliteValue.elem) Tryz.func243 (by kernel_rfl) (by kernel_rfl) (by kernel_rfl) (by kernel_rfl)
  have h12 := @run_callFunc_extern Tryz.prog 244 _ ReflectliteValue.set Tryz.func244 (by kernel_rfl) (by kernel_rfl) (by kernel_rfl) (by kernel_rfl)
  have tO := rfTypeOf
  have mA := rfAssM
  have a25 := rfAss
  have v25 := rfValueOfF
  have f6 := rfValueOfP
  have f7 := rfTypeP
  have mK := rfKindM
  have mE := rfElemM
  have mI := rfImplM
  have k27 := rfKindP
  have k25 := rfKindF
  have e27 := rfElemT
  have i25 := rfImpl
  have n8 := rfIsNil ⟨w.heap.size, 0, none⟩ t ((w.alloc (.cells #[.pointer (some t)] 199)).alloc (.cells #[.pointer (some ⟨9, 199, none⟩), .pointer (some ⟨w.heap.size, 0, none⟩), .int .u64 150] 231)) (by simp)
  have hlt : 1 < w.heap.size := World.block_lt_of_cell? w _ hg
  have hg2 : ((w.alloc (.cells #[.pointer (some t)] 199)).alloc (.cells #[.pointer (some ⟨9, 199, none⟩), .pointer (some ⟨w.heap.size, 0, none⟩), .int .u64 150] 231)).cell? ⟨1, 0, none⟩ = some (.iface 264 (.agg #[.pointer (some ⟨9, 42, none⟩)])) := by
    rw [World.cell?_alloc_lt _ _ ⟨1, 0, none⟩ (by first | (simp; done) | (simp; omega)), World.cell?_alloc_lt _ _ ⟨1, 0, none⟩ hlt]; exact hg
  have htl : t.block < w.heap.size := World.block_lt_of_cell? w _ ht0
  have el := rfElemV ⟨w.heap.size, 0, none⟩ t (((w.alloc (.cells #[.pointer (some t)] 199)).alloc (.cells #[.pointer (some ⟨9, 199, none⟩), .pointer (some ⟨w.heap.size, 0, none⟩), .int .u64 150] 231)).alloc (.cells #[.pointer (some ⟨9, 199, none⟩), .pointer (some ⟨w.heap.size, 0, none⟩), .int .u64 150] 231)) (by rw [World.cell?_alloc_lt _ _ ⟨w.heap.size, 0, none⟩ (by simp; omega)]; simp)
  have st := rfSet t ⟨w.heap.size + 1 + 1 + 1, 0, none⟩ s old ((((w.alloc (.cells #[.pointer (some t)] 199)).alloc (.cells #[.pointer (some ⟨9, 199, none⟩), .pointer (some ⟨w.heap.size, 0, none⟩), .int .u64 150] 231)).alloc (.cells #[.pointer (some ⟨9, 199, none⟩), .pointer (some ⟨w.heap.size, 0, none⟩), .int .u64 150] 231)).alloc (.cells #[.string s] 189))
    (by rw [World.cell?_alloc_at _ _ _ _ (by simp)]; rfl)
    (by rw [World.cell?_alloc_lt _ _ t (by simp; omega), World.cell?_alloc_lt _ _ t (by simp; omega), World.cell?_alloc_lt _ _ t (by simp; omega), World.cell?_alloc_lt _ _ t htl]; exact ht0)
    (by rw [World.frozen?_alloc_old _ _ t (by simp; omega), World.frozen?_alloc_old _ _ t (by simp; omega), World.frozen?_alloc_old _ _ t (by simp; omega), World.frozen?_alloc_old _ _ t (Nat.ne_of_lt htl)]; exact hf0)
  go_enter Tryz.func185, Tryz.ntmps185
  go_wp2
  refine wp_loop_rounds 1 ?_
  rw [rounds_succ]
  go_wp2
  go_ret
  exact ⟨rfl, rfl⟩
end Go.Proofs.YtdooboibmllfkaaGreatDoor

namespace Go.Proofs.YtdooboibmllfkaaGreatDoor
set_option maxRecDepth 100000
open Go.RowKit

def FaultV (ok : Bool) (v : Value) : Prop := if ok then v = .nilIface else ∃ s, v = .iface 189 (.string s)
theorem sound_any (ok : Bool) (v : Value) (w : World) (hE : EtAt w) (hv : FaultV ok v) :
    Calls Tryz.prog 157 #[v] w fun e w' => e = .returned (.bool ok) ∧ Below w.heap.size w w' := by
  have hlt := hE.lt
  cases ok
  · obtain ⟨s, rfl⟩ := hv
    have hgA : (w.alloc (.cells #[.string ByteArray.empty] 189)).cell? ⟨1, 0, none⟩ = some (.iface 264 (.agg #[.pointer (some ⟨9, 42, none⟩)])) := by
      rw [World.cell?_alloc_lt _ _ ⟨1, 0, none⟩ hlt]; exact hE
    have htA : (w.alloc (.cells #[.string ByteArray.empty] 189)).cell? ⟨w.heap.size, 0, none⟩ = some (.string ByteArray.empty) := by simp
    have hfA : (w.alloc (.cells #[.string ByteArray.empty] 189)).frozen? ⟨w.heap.size, 0, none⟩ = false := by simp
    have H := hide (as_hit s ⟨w.heap.size, 0, none⟩ (.string ByteArray.empty) _ hgA htA hfA)
    clear hgA htA hfA hE
    go_enter Tryz.func157, Tryz.ntmps157
    go_wp2_with (go_at_call 185; refine H.out.mono ?_; rintro e w' ⟨rfl, rfl⟩)
    go_ret
    refine ⟨rfl, ?_⟩
    have b2 := fun o => (Below.refl w.heap.size w).alloc (Nat.le_refl _) o
    refine Below.alloc (Below.alloc (Below.alloc (Below.alloc (b2 _) ?_ _) ?_ _) ?_ _) ?_ _
    all_goals (simp; try omega)
  · obtain rfl : v = .nilIface := hv
    go_enter Tryz.func157, Tryz.ntmps157
    go_wp2_with (go_at_call 185; refine (as_nil _ _).mono ?_; rintro e w' ⟨rfl, rfl⟩)
    go_ret
    exact ⟨rfl, (Below.refl w.heap.size w).alloc (Nat.le_refl _) _⟩
end Go.Proofs.YtdooboibmllfkaaGreatDoor

namespace Go.Proofs.YtdooboibmllfkaaGreatDoor
set_option maxRecDepth 100000
open Go.RowKit Go.Sort Go.Shelf

abbrev cmpFn : Value := .func (.func 213) #[] #[]
theorem cmpEnters : ∀ args w, (callFunc 213 args).run Tryz.prog w = .ok (.enter 213 args) w := enters_of Tryz.func213 (by kernel_rfl) rfl
theorem cmp_at (a b : Int × Int) (a1 a2 b1 b2 c : Int) (ha : a = (a1, a2)) (hb : b = (b1, b2)) (hc : c = cpP a b) (W : World) :
    Calls Tryz.prog 213 #[.agg #[.int .i64 a1, .int .i64 a2], .agg #[.int .i64 b1, .int .i64 b2]] W fun e w' => e = .returned (.int .i64 c) ∧ ∃ (q : Nat) (os : Array Obj), w' = grow (W.drewN q) os := by
  subst ha hb hc
  exact compareParts_grw (a1, a2) (b1, b2) W

theorem fault_mk (s : ByteArray) : FaultV false (.iface 189 (.string s)) := ⟨s, rfl⟩

end Go.Proofs.YtdooboibmllfkaaGreatDoor

namespace Go.Proofs.YtdooboibmllfkaaGreatDoor
set_option maxRecDepth 100000
open Go.RowKit Go.Sort Go.Shelf

set_option maxRecDepth 100000 in
set_option maxHeartbeats 4000000 in
theorem search_grw (l : List (Int × Int)) (v : Value) (t : Int × Int) (w : World) {lo : Nat} (hs : pSorted l) (hP : PartsV lo w v l) (hl : l.length ≤ 1000) :
    Calls Tryz.prog 237 #[v, pV t, cmpFn] w fun e w' =>
      (∃ (k : Nat) (fb : Bool), e = .returned (.tuple #[.int .i64 (k : Int), .bool fb]) ∧ k ≤ l.length ∧ l.take k ++ t :: l.drop k = pPut l t) ∧ Grw w w' := by
  have mixed : Tryz.prog.follows .mixedOrders = true := by kernel_rfl
  have eg := cmpEnters
  obtain ⟨n, hn⟩ : ∃ n, l.length = n := ⟨_, rfl⟩
  obtain ⟨a, c, rfl, hf⟩ := hP.form hn
  have HN := hide hn
  have HF := hide hf
  have HSO := hide hs
  rw [hn] at hl ⊢
  clear hP hn hf hs
  obtain ⟨t1, ht1⟩ : ∃ z, z = t.1 := ⟨_, rfl⟩
  obtain ⟨t2, ht2⟩ : ∃ z, z = t.2 := ⟨_, rfl⟩
  have HTE := hide (show t = (t1, t2) by rw [ht1, ht2])
  unfold pV
  rw [← ht1, ← ht2]
  clear ht1 ht2
  -- what stands ahead of the target stands ahead of all behind
  have MONO : Hid (∀ (i j : Nat) (x y : Int × Int), i ≤ j → l[i]? = some x → l[j]? = some y → pLess t y = true → pLess t x = true) := by
    intro i j x y hij hx hy h
    by_cases e : i = j
    · subst e
      rw [hx] at hy
      injection hy with hy
      rw [hy]; exact h
    · obtain ⟨hi, ex⟩ := List.getElem?_eq_some_iff.1 hx
      obtain ⟨hj, ey⟩ := List.getElem?_eq_some_iff.1 hy
      have h1 := List.pairwise_iff_getElem.1 HSO.out i j hi hj (by omega)
      rw [ex, ey] at h1
      have h2 := (pLess_false _ _).1 h1
      have h3 := (pLess_iff _ _).1 h
      rw [pLess_iff]
      omega
  obtain ⟨W0, hW0⟩ : ∃ W0, W0 = w.alloc (.cells #[.int .i64 t1, .int .i64 t2] 98) := ⟨_, rfl⟩
  have hc1 : W0.cell? ⟨w.heap.size, 0, none⟩ = some (.int .i64 t1) := by rw [hW0, World.cell?_alloc_at _ _ _ _ rfl]; rfl
  have hc2 : W0.cell? ⟨w.heap.size, 1, none⟩ = some (.int .i64 t2) := by rw [hW0, World.cell?_alloc_at _ _ _ _ rfl]; rfl
  have HG0 : Hid (Grw w W0) := by rw [hW0]; exact hide (Grw.alloc w _)
  have hz0 : w.heap.size < W0.heap.size := by rw [hW0]; simp
  have HC1 := hide hc1
  have HC2 := hide hc2
  have HZ0 := hide hz0
  clear hc1 hc2 hz0
  go_enter Tryz.func237, Tryz.ntmps237
  go_wp2
  rw [← hW0]
  clear hW0
  go_loopg [9, 10] n (fun kx s9 s10 wr => ∃ lo hi : Nat, s9 = .int .i64 (lo : Int) ∧ s10 = .int .i64 (hi : Int) ∧ lo ≤ hi ∧ hi ≤ n ∧ hi - lo ≤ kx ∧ Hid (Grw W0 wr) ∧
    Hid ((∀ (j : Nat) (x : Int × Int), j < lo → l[j]? = some x → pLess t x = true) ∧ (∀ (j : Nat) (x : Int × Int), hi ≤ j → l[j]? = some x → pLess t x = false)))
  case atStart => exact ⟨0, n, rfl, rfl, Nat.zero_le _, Nat.le_refl _, by omega, Grw.refl _, (⟨fun j x hj => absurd hj (Nat.not_lt_zero _), fun j x hj hx => by have := (List.getElem?_eq_some_iff.1 hx).1; have := HN.out; omega⟩ : (∀ (j : Nat) (x : Int × Int), j < 0 → l[j]? = some x → pLess t x = true) ∧ (∀ (j : Nat) (x : Int × Int), n ≤ j → l[j]? = some x → pLess t x = false))⟩
  case round =>
    obtain ⟨lo, hi, rfl, rfl, hlh, hin, hg, HG, HI⟩ := hrel
    have hzr : w.heap.size < wr.heap.size := Nat.lt_of_lt_of_le HZ0.out HG.out.size
    have e1 : ∀ n os, (grow (wr.drewN n) os).cell? ⟨w.heap.size, 0, none⟩ = some (.int .i64 t1) := fun n os => cell_grown hzr ((HG.out.below.cell (p := ⟨w.heap.size, 0, none⟩) HZ0.out).trans HC1.out) n os
    have e2 : ∀ n os, (grow (wr.drewN n) os).cell? ⟨w.heap.size, 1, none⟩ = some (.int .i64 t2) := fun n os => cell_grown hzr ((HG.out.below.cell (p := ⟨w.heap.size, 1, none⟩) HZ0.out).trans HC2.out) n os
    by_cases hlt : lo < hi
    · obtain ⟨q, rfl, hq0, hq⟩ := HF.out (by omega)
      obtain ⟨m, hm⟩ : ∃ m, m = (lo + hi) / 2 := ⟨_, rfl⟩
      obtain ⟨x, hx⟩ : ∃ x, l[m]? = some x := ⟨_, List.getElem?_eq_getElem (by rw [HN.out]; omega)⟩
      obtain ⟨g1, g2⟩ := encZ_get l m x hx
      have hqr := HG.out.cells (HG0.out.cells hq)
      have hql : q < wr.heap.size := by omega
      have d1 : ∀ n os, (grow (wr.drewN n) os).cell? ⟨q, m * 2, none⟩ = some (.int .i64 x.1) := fun n os => cell_grown hql (hqr _ _ g1).1 n os
      have d2 : ∀ n os, (grow (wr.drewN n) os).cell? ⟨q, m * 2 + 1, none⟩ = some (.int .i64 x.2) := fun n os => cell_grown hql (hqr _ _ g2).1 n os
      have HX := hide hx
      have HM := hide hm
      obtain ⟨x1, hx1⟩ : ∃ z, z = x.1 := ⟨_, rfl⟩
      obtain ⟨x2, hx2⟩ : ∃ z, z = x.2 := ⟨_, rfl⟩
      rw [← hx1] at d1
      rw [← hx2] at d2
      obtain ⟨c0, hc0⟩ : ∃ c, c = cpP x t := ⟨_, rfl⟩
      have CC := hide (fun W => cmp_at x t x1 x2 t1 t2 c0 (by rw [hx1, hx2]) HTE.out hc0 W)
      have HP := hide (show decide (c0 < 0) = pLess t x by rw [hc0]; exact cpP_lt x t)
      have ea : (((lo : Int) + (hi : Int)) / 2).toNat = m := by omega
      have i0 : (0 : Int) ≤ ((lo : Int) + (hi : Int)) / 2 := by omega
      have i1 : ((lo : Int) + (hi : Int)) / 2 < (n : Int) := by omega
      clear hx hm g1 g2 hqr hx1 hx2 hc0
      by_cases hcx : c0 < 0
      · have hd : decide (c0 < 0) = true := decide_eq_true hcx
        have HI2 : Hid ((∀ (j : Nat) (y : Int × Int), j < (lo + hi) / 2 + 1 → l[j]? = some y → pLess t y = true) ∧ (∀ (j : Nat) (y : Int × Int), hi ≤ j → l[j]? = some y → pLess t y = false)) :=
          ⟨fun j y hj hy => MONO.out j m y x (by have := HM.out; omega) hy HX.out (by rw [← HP.out, hd]), HI.out.2⟩
        go_wp2
        refine wp_region_quiet_grown (by assumption) (by kernel_rfl) ?_
        repeat (first | go_big_quiet_skip | quiet_step ((go_at_fn 213; refine Calls.grown_of (CC.out _))))
        refine wpQuiet_nil ?_
        intro _ hw'
        obtain ⟨⟨nq, osq⟩, hw''⟩ := hw'
        subst hw''
        go_wp2
        go_roundg (hi - ((lo + hi) / 2 + 1))
        case measure => omega
        case rel => exact ⟨(lo + hi) / 2 + 1, hi, by rw [show ((lo : Int) + (hi : Int)) / 2 + 1 = (((lo + hi) / 2 + 1 : Nat) : Int) by omega], rfl, by omega, hin, Nat.le_refl _, HG.out.trans (Grw.mk _ _ _), HI2.out⟩
      · have hd : decide (c0 < 0) = false := decide_eq_false hcx
        have HI2 : Hid ((∀ (j : Nat) (y : Int × Int), j < lo → l[j]? = some y → pLess t y = true) ∧ (∀ (j : Nat) (y : Int × Int), (lo + hi) / 2 ≤ j → l[j]? = some y → pLess t y = false)) := by
          refine ⟨HI.out.1, fun j y hj hy => ?_⟩
          cases h : pLess t y
          · rfl
          · have := MONO.out m j x y (by have := HM.out; omega) HX.out hy h
            rw [← HP.out, hd] at this
            cases this
        go_wp2
        refine wp_region_quiet_grown (by assumption) (by kernel_rfl) ?_
        repeat (first | go_big_quiet_skip | quiet_step ((go_at_fn 213; refine Calls.grown_of (CC.out _))))
        refine wpQuiet_nil ?_
        intro _ hw'
        obtain ⟨⟨nq, osq⟩, hw''⟩ := hw'
        subst hw''
        go_wp2
        go_roundg ((lo + hi) / 2 - lo)
        case measure => omega
        case rel => exact ⟨lo, (lo + hi) / 2, rfl, by rw [show ((lo : Int) + (hi : Int)) / 2 = (((lo + hi) / 2 : Nat) : Int) by omega], by omega, by omega, Nat.le_refl _, HG.out.trans (Grw.mk _ _ _), HI2.out⟩
    · obtain rfl : hi = lo := by omega
      have HPUT : Hid (l.take hi ++ t :: l.drop hi = pPut l t) := ins_at HSO.out HI.out.1 HI.out.2
      by_cases hnn : hi < n
      · obtain ⟨q, rfl, hq0, hq⟩ := HF.out (by omega)
        obtain ⟨x, hx⟩ : ∃ x, l[hi]? = some x := ⟨_, List.getElem?_eq_getElem (by rw [HN.out]; omega)⟩
        obtain ⟨g1, g2⟩ := encZ_get l hi x hx
        have hqr := HG.out.cells (HG0.out.cells hq)
        have hql : q < wr.heap.size := by omega
        have d1 : ∀ n os, (grow (wr.drewN n) os).cell? ⟨q, hi * 2, none⟩ = some (.int .i64 x.1) := fun n os => cell_grown hql (hqr _ _ g1).1 n os
        have d2 : ∀ n os, (grow (wr.drewN n) os).cell? ⟨q, hi * 2 + 1, none⟩ = some (.int .i64 x.2) := fun n os => cell_grown hql (hqr _ _ g2).1 n os
        obtain ⟨x1, hx1⟩ : ∃ z, z = x.1 := ⟨_, rfl⟩
        obtain ⟨x2, hx2⟩ : ∃ z, z = x.2 := ⟨_, rfl⟩
        rw [← hx1] at d1
        rw [← hx2] at d2
        obtain ⟨c0, hc0⟩ : ∃ c, c = cpP x t := ⟨_, rfl⟩
        have CC := hide (fun W => cmp_at x t x1 x2 t1 t2 c0 (by rw [hx1, hx2]) HTE.out hc0 W)
        have i0 : (0 : Int) ≤ (hi : Int) := by omega
        have i1 : (hi : Int) < (n : Int) := by omega
        have i2 : decide (hi < n) = true := decide_eq_true hnn
        clear hx g1 g2 hqr hx1 hx2 hc0 hlt hlh hg
        go_wp2
        refine wp_region_quiet_grown (by assumption) (by kernel_rfl) ?_
        repeat (first | go_big_quiet_skip | quiet_step ((go_at_fn 213; refine Calls.grown_of (CC.out _))))
        refine wpQuiet_nil ?_
        intro _ hw'
        obtain ⟨⟨nq, osq⟩, hw''⟩ := hw'
        subst hw''
        go_wp2
        go_ret2
        exact ⟨⟨hi, _, rfl, by omega, HPUT.out⟩, HG0.out.trans (HG.out.trans (Grw.mk _ _ _))⟩
      · have i2 : decide (hi < n) = false := decide_eq_false hnn
        have hni := hide (show hi ≤ n by omega)
        clear hlt hlh hg hnn hin
        go_wp2
        refine wp_region_quiet_grown (by assumption) (by kernel_rfl) ?_
        repeat (first | go_big_quiet_skip | quiet_step (fail))
        refine wpQuiet_nil ?_
        intro _ hw'
        obtain ⟨⟨nq, osq⟩, hw''⟩ := hw'
        subst hw''
        go_wp2
        go_ret2
        exact ⟨⟨hi, _, rfl, hni.out, HPUT.out⟩, HG0.out.trans (HG.out.trans (Grw.mk _ _ _))⟩
end Go.Proofs.YtdooboibmllfkaaGreatDoor

namespace Go.Proofs.YtdooboibmllfkaaGreatDoor
set_option maxRecDepth 100000
open Go.RowKit Go.Sort Go.Shelf

structure RigAt (w : World) (r lo : Nat) (v : Value) (l : List (Int × Int)) (m : Int) : Prop where
  fn : w.cell? ⟨r, 0, none⟩ = some cmpFn
  items : w.cell? ⟨r, 1, none⟩ = some v
  boxes : w.cell? ⟨r, 2, none⟩ = some (.int .i64 m)
  free : ∀ j, w.frozen? ⟨r, j, none⟩ = false
  own : w.ownsRow lo 98 2 v l.length (encZ l)
  ne : v.ownBlock ≠ some r
  lo_le : lo ≤ r
theorem RigAt.lt {w : World} {r lo : Nat} {v : Value} {l : List (Int × Int)} {m : Int} (h : RigAt w r lo v l m) : r < w.heap.size := World.block_lt_of_cell? w _ h.fn
theorem RigAt.below {w w' : World} {r lo B : Nat} {v : Value} {l : List (Int × Int)} {m : Int} (h : RigAt w r lo v l m) (hb : Below B w w') (hB : w.heap.size ≤ B) : RigAt w' r lo v l m := by
  have hl := h.lt
  have hr : r < B := by omega
  exact ⟨(hb.cell (p := ⟨r, 0, none⟩) hr).trans h.fn, (hb.cell (p := ⟨r, 1, none⟩) hr).trans h.items, (hb.cell (p := ⟨r, 2, none⟩) hr).trans h.boxes, fun j => (hb.frozen (p := ⟨r, j, none⟩) hr).trans (h.free j), owns_below2 h.own hb hB, h.ne, h.lo_le⟩
theorem RigAt.parts {w : World} {r lo : Nat} {v : Value} {l : List (Int × Int)} {m : Int} (h : RigAt w r lo v l m) : PartsV lo w v l := PartsV.of_owns h.own
theorem rig_next {w Wb W w2 : World} {r lo : Nat} {v v' : Value} {l l' : List (Int × Int)} {m : Int} {o : Obj} (hR : RigAt w r lo v l m) (hg : Grw w Wb) (hW : W.heap = (Wb.alloc o).heap) (h1 : W.os = Wb.os) (h2 : W.tape = Wb.tape) (h3 : W.output = Wb.output)
    (hgr : W.grownBy w2 v.ownBlock) (ho : w2.ownsRow lo 98 2 v' l'.length (encZ l')) (hn : RowNext W v v') :
    w2.cell? ⟨r, 1, none⟩ = some v ∧ w2.frozen? ⟨r, 1, none⟩ = false ∧ RigAt (w2.setCell ⟨r, 1, none⟩ v') r lo v' l' m ∧ Only r v.ownBlock w (w2.setCell ⟨r, 1, none⟩ v') ∧ RowNext w v v' := by
  have hrl := hR.lt
  have hbw : Below w.heap.size w W := by
    have hb := hg.below
    refine ⟨h1.trans hb.os, h2.trans hb.tape, h3.trans hb.output, ?_, fun k hk => ?_⟩
    · rw [hW, World.size_alloc]; have := hb.size; omega
    · rw [hW]
      exact (Below.heap_alloc Wb o k (by have := hb.size; omega)).trans (hb.block k hk)
  have hsW := hbw.size
  have hr2 : w2.heap[r]? = w.heap[r]? := (hgr.block r (by omega) (Ne.symm hR.ne)).trans (hbw.block r hrl)
  have c : ∀ j, w2.cell? ⟨r, j, none⟩ = w.cell? ⟨r, j, none⟩ := fun j => World.cell?_of_block (a := ⟨r, j, none⟩) hr2
  have f : ∀ j, w2.frozen? ⟨r, j, none⟩ = w.frozen? ⟨r, j, none⟩ := fun j => World.frozen?_of_block (a := ⟨r, j, none⟩) hr2
  have hne' : v'.ownBlock ≠ some r := by
    rcases hn with e | ⟨g, e, hg'⟩
    · rw [e]; exact hR.ne
    · rw [e]; intro h; injection h with h; omega
  have hnn : RowNext w v v' := hn.elim .inl (fun ⟨g, e, hg'⟩ => .inr ⟨g, e, by omega⟩)
  refine ⟨(c 1).trans hR.items, (f 1).trans (hR.free 1), ⟨?_, ?_, ?_, ?_, ?_, hne', hR.lo_le⟩, ?_, hnn⟩
  · rw [World.cell?_setCell_other _ _ _ _ (by intro h; injection h with _ h; omega)]; exact (c 0).trans hR.fn
  · exact World.cell?_setCell_same' _ _ _ (by rw [c 1, hR.items]; rfl)
  · rw [World.cell?_setCell_other _ _ _ _ (by intro h; injection h with _ h; omega)]; exact (c 2).trans hR.boxes
  · intro j; rw [World.frozen?_setCell]; exact (f j).trans (hR.free j)
  · exact owns_far ho (fun g hg' => Below.heap_setCell _ _ _ _ (by intro h; exact hne' (by rw [hg', h])))
  · have o1 : Only r v.ownBlock w W := Only.of_below r _ hbw
    have o2 : Only r v.ownBlock W w2 := Only.of_grown r hgr
    exact (o1.trans o2 (.inl rfl)).trans (Only.setCell r 1 _ v') (.inl rfl)

theorem own_form {w : World} {b e n s : Nat} {v : Value} {xs : List Value} (h : w.ownsRow b e s v (n + 1) xs) : ∃ g c, v = .slice (some ⟨g, 0, none⟩) (n + 1) c := by
  rcases h.2 with ⟨_, h0⟩ | ⟨g, c, _, h1, _⟩
  · omega
  · exact ⟨g, c, h1⟩

set_option maxRecDepth 100000 in
set_option maxHeartbeats 4000000 in
theorem put_any (r lo : Nat) (v : Value) (l : List (Int × Int)) (m : Int) (p : Int × Int) (w : World) (hR : RigAt w r lo v l m) (hs : pSorted l) (hl : l.length ≤ 900) :
    Calls Tryz.prog 214 #[.pointer (some ⟨r, 0, none⟩), pV p] w fun e w' => e = .returned (.tuple #[]) ∧ ∃ v', RigAt w' r lo v' (pPut l p) m ∧ Only r v.ownBlock w w' ∧ RowNext w v v' := by
  obtain ⟨p1, hp1⟩ : ∃ z, z = p.1 := ⟨_, rfl⟩
  obtain ⟨p2, hp2⟩ : ∃ z, z = p.2 := ⟨_, rfl⟩
  have HPE := hide (show p = (p1, p2) by rw [hp1, hp2])
  have hlo := hR.lo_le
  have hrl := hR.lt
  have HR := hide hR
  obtain ⟨W0, hW0⟩ : ∃ W0, W0 = w.alloc (.cells #[.int .i64 p1, .int .i64 p2] 98) := ⟨_, rfl⟩
  have HG0 : Hid (Grw w W0) := by rw [hW0]; exact hide (Grw.alloc w _)
  have c1 : W0.cell? ⟨r, 0, none⟩ = some cmpFn := (HG0.out.below.cell (p := ⟨r, 0, none⟩) hrl).trans hR.fn
  have c2 : W0.cell? ⟨r, 1, none⟩ = some v := (HG0.out.below.cell (p := ⟨r, 1, none⟩) hrl).trans hR.items
  have c3 : W0.cell? ⟨w.heap.size, 0, none⟩ = some (.int .i64 p1) := by rw [hW0, World.cell?_alloc_at _ _ _ _ rfl]; rfl
  have c4 : W0.cell? ⟨w.heap.size, 1, none⟩ = some (.int .i64 p2) := by rw [hW0, World.cell?_alloc_at _ _ _ _ rfl]; rfl
  have hz0 : w.heap.size < W0.heap.size := by rw [hW0]; simp
  have BS := hide (fun (W : World) (h : PartsV lo W v l) => search_grw l v p W hs h (by omega))
  unfold pV at BS ⊢
  rw [← hp1, ← hp2] at BS ⊢
  clear hR hp1 hp2
  go_enter Tryz.func214, Tryz.ntmps214
  go_wp2
  rw [← hW0]
  clear hW0
  go_region_held3 (fun w' => w'.cell? ⟨r, 0, none⟩ = some cmpFn ∧ w'.cell? ⟨r, 1, none⟩ = some v ∧ w'.cell? ⟨w.heap.size, 0, none⟩ = some (.int .i64 p1) ∧ w'.cell? ⟨w.heap.size, 1, none⟩ = some (.int .i64 p2))
    (first | exact ⟨c1, c2, c3, c4⟩ | exact ⟨d1, d2, d3, d4⟩ | go_keep | fail)
    (first
      | (go_at_call 237; refine (BS.out _ ?_).mono ?_; exact HR.out.parts.below (HG0.out.trans (Grw.drew W0)).below (Nat.le_refl _); rintro e w' ⟨⟨kk, fb, rfl, hkk, hput⟩, hgw⟩; have hg2 := ((Grw.drew W0).trans hgw).below; have d1 := (hg2.cell (p := ⟨r, 0, none⟩) (show r < W0.heap.size by omega)).trans c1; have d2 := (hg2.cell (p := ⟨r, 1, none⟩) (show r < W0.heap.size by omega)).trans c2; have d3 := (hg2.cell (p := ⟨w.heap.size, 0, none⟩) hz0).trans c3; have d4 := (hg2.cell (p := ⟨w.heap.size, 1, none⟩) hz0).trans c4)
      | fail)
  have HGB := hide (HG0.out.trans ((Grw.drew W0).trans hgw))
  have HPUT := hide hput
  have hwz : w.heap.size ≤ w'.heap.size := HGB.out.size
  have hob : ∀ g, v.ownBlock = some g → g < w.heap.size := fun g h => (HR.out.own.lt g h).2
  have HOB := hide hob
  have IN := hide (fun (W : World) (hW : W.heap = (w'.alloc (.cells #[.int .i64 p1, .int .i64 p2] 98)).heap) => insert_any v l.length kk l (p1, p2) w'.heap.size W lo hkk (by omega)
    (owns_far HR.out.own (fun g hg => by rw [hW]; exact (Below.heap_alloc w' _ g (by have := HOB.out g hg; omega)).trans (HGB.out.below.block g (HOB.out g hg))))
    (by rw [hW, World.size_alloc]; omega) (by rw [hW]; exact heap_alloc_new w' _) (fun h => by have := HOB.out _ h; omega))
  have hwz1 : w.heap.size < w'.heap.size := Nat.lt_of_lt_of_le hz0 hg2.size
  clear hput hg2 hgw c1 c2 c3 c4 d1 hz0 BS hob hkk
  go_wp2
  have d5 : (w'.alloc (.cells #[.int .i64 p1, .int .i64 p2] 98)).cell? ⟨r, 1, none⟩ = some v := (World.cell?_alloc_lt w' _ ⟨r, 1, none⟩ (show r < w'.heap.size by omega)).trans d2
  go_region_with
    (first
      | (go_at_call 238; refine (IN.out _ ?_).mono ?_; rfl; go_loud (rintro e w2 ⟨v', rfl, ho2, hg2, hn2⟩; obtain ⟨g', c', rfl⟩ := own_form ho2; have FIN := rig_next (l' := pPut l p) HR.out HGB.out (W := (w'.alloc (.cells #[.int .i64 p1, .int .i64 p2] 98)).drew) (o := .cells #[.int .i64 p1, .int .i64 p2] 98) rfl rfl rfl rfl hg2 (by rw [pPut_length, ← HPUT.out, HPE.out]; exact ho2) hn2; have hcell := FIN.1; have hfr := FIN.2.1; have HFIN := hide FIN.2.2; clear FIN ho2 hg2 hn2))
      | fail)
  all_goals (try go_wp2)
  all_goals (refine bodyPost_end (results_none rfl _ _ _) rfl ?_)
  all_goals exact ⟨rfl, _, HFIN.out.1, HFIN.out.2.1, HFIN.out.2.2⟩
end Go.Proofs.YtdooboibmllfkaaGreatDoor
