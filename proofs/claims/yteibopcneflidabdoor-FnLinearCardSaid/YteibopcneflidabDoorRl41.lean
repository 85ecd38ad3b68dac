/- TEXTS Rig8, Spec4. -/
import Derived.Test.YteibopcneflidabDoorRl09
import Derived.Test.YteibopcneflidabDoorRl36
import Derived.Test.YteibopcneflidabDoorRl34
import Derived.Test.YteibopcneflidabDoorRl33
import Derived.Test.YteibopcneflidabDoorRl40
import Derived.Test.YteibopcneflidabDoorRl10
import Derived.Test.YteibopcneflidabDoorRl25
/- WHAT IS TRUE OF RIGGED PARTITIONS AND TEXTS: the facts behind the promises 30 to 33. Pure: no walk. -/
namespace Go.Proofs.YteibopcneflidabDoor
open Go.RowKit

/-- RigRow -/
def rgRow (l : List (Int × Int)) (n : Int) : ByteArray := if rgFits l n then ofBits (cut (kRow n.toNat l).reverse) else ByteArray.empty

theorem high_parts {s : ByteArray} (h : highB s = true) : vld s = true ∧ tl (bits s) = s.size ∧ kHi (rvB s) ∧ s.size ≤ 120 ∧ rgOf s = kRc (rvB s) := by
  obtain ⟨h1, h2⟩ := (highB_iff s).1 h
  obtain ⟨h3, h4⟩ := (levOk_iff s).1 h1
  exact ⟨h3, h4, h2, vld_le s h3, by unfold rgOf; rw [h, if_pos rfl]⟩
/-- P30 -/
theorem rigOf_facts {s : ByteArray} (h : highB s = true) : rgFits (rgOf s) s.size = true ∧ rgRow (rgOf s) s.size = s ∧ (rgOf s).map (fun a => a.1) = shR s := by
  obtain ⟨h1, h2, h3, h4, h5⟩ := high_parts h
  have hf := (rc_in h3 (by rw [rvB_length]; exact h4)).1
  rw [rvB_length] at hf
  rw [h5]
  refine ⟨hf, ?_, ?_⟩
  · unfold rgRow
    rw [hf, if_pos rfl]
    have e := kRow_rc (rvB s) h3
    rw [rvB_length] at e
    rw [Int.toNat_natCast, e]
    unfold rvB
    rw [List.reverse_reverse, ← tidy_ofBits h1, tidyS_self s h2]
  · rw [kShape _ h3]
    unfold rvB shR
    rw [List.reverse_reverse, h1, if_pos rfl]
    rfl
theorem left_none {l : List (Int × Int)} {n : Int} (h : rgFits l n = true) : kLeft n.toNat l = [] := by
  have hp := rgFits_p h
  have hn := ((rgFits_iff l n).1 h).2.1
  have := (kRow_back n.toNat l (by rw [Int.toNat_of_nonneg hn.1]; exact hp)).2.1
  exact this
/-- P31 -/
theorem rigOf_step {s : ByteArray} {K : Int} (h : highB s = true) (hk : stOk s K = true) (hK : 0 ≤ K) :
    highB (stS s K) = true ∧ rgOf (stS s K) = (rgOf s).map (rgAdd K) ∧ rgIn (rgOf s) = true ∧ rgIn ((rgOf s).map (rgAdd K)) = true := by
  obtain ⟨h1, h2, h3, h4, h5⟩ := high_parts h
  have hv := vld_stS hk
  have hb := bx_stS hk
  have hl : kHi (bits s).reverse := h3
  obtain ⟨e1, e2⟩ := kStep hl hb
  have htl : tl (bits (stS s K)) = (stS s K).size := by
    have e : bits (stS s K) = cut (stp K.toNat (bits s)) := bits_stS hk
    rw [← length_bits, e, tl_cut, cut_length]
  have hh : highB (stS s K) = true := (highB_iff _).2 ⟨(levOk_iff _).2 ⟨hv, htl⟩, e2⟩
  obtain ⟨i1, i2⟩ := rc_in h3 (by rw [rvB_length]; exact h4)
  have hin := ((rgFits_iff _ _).1 i1).1
  have hadd : (kRc (bits s).reverse).map (fl4 K.toNat) = (kRc (bits s).reverse).map (rgAdd K) := List.map_congr_left (fun a _ => by
    unfold fl4 rgAdd
    rw [Int.toNat_of_nonneg hK])
  refine ⟨hh, ?_, by rw [h5]; exact hin, ?_⟩
  · rw [(high_parts hh).2.2.2.2, h5]
    unfold rvB
    rw [e1, hadd]
  · rw [h5]
    obtain ⟨g1, g2, g3⟩ := (rgIn_iff _).1 hin
    refine (rgIn_iff _).2 ⟨fun b hb => ?_, add_sorted K g2, by rw [List.length_map]; exact g3⟩
    obtain ⟨a, ha, rfl⟩ := List.mem_map.1 hb
    have := g1 a ha
    have := i2 a ha
    show 1 ≤ a.1 ∧ a.1 ≤ 60 ∧ 0 ≤ a.2 + min a.1 K ∧ a.2 + min a.1 K ≤ 1000
    omega
/-- P32, P33 -/
theorem rigRow_facts {l : List (Int × Int)} {n : Int} (h : rgFits l n = true) : highB (rgRow l n) = true ∧ rgOf (rgRow l n) = l ∧ ((rgRow l n).size : Int) ≤ n := by
  have hp := rgFits_p h
  have hn := ((rgFits_iff l n).1 h).2.1
  obtain ⟨r1, _, r3⟩ := kRow_back n.toNat l (by rw [Int.toNat_of_nonneg hn.1]; exact hp)
  have e0 : rgRow l n = ofBits (cut (kRow n.toNat l).reverse) := by unfold rgRow; rw [h, if_pos rfl]
  have hb : bits (rgRow l n) = cut (kRow n.toNat l).reverse := by rw [e0, bits_ofBits]
  have hlen : (cut (kRow n.toNat l).reverse).length ≤ n.toNat := by
    rw [cut_length]
    have := tl_le (kRow n.toNat l).reverse
    rw [List.length_reverse, kRow_length] at this
    exact this
  have hsz : (rgRow l n).size ≤ n.toNat := by rw [← length_bits, hb]; exact hlen
  have hv : vld (rgRow l n) = true := by rw [e0]; exact vld_ofBits _ (by omega)
  obtain ⟨x1, x2⟩ := kRc_ext (l := (cut (kRow n.toNat l).reverse)) (m := (kRow n.toNat l).reverse) (bx_fun_cut _)
  rw [List.reverse_reverse] at x1 x2
  have hh : highB (rgRow l n) = true := (highB_iff _).2 ⟨(levOk_iff _).2 ⟨hv, by rw [← length_bits, hb, tl_cut, cut_length]⟩, by unfold rvB; rw [hb]; exact x2.2 r3⟩
  refine ⟨hh, ?_, by omega⟩
  rw [(high_parts hh).2.2.2.2]
  unfold rvB
  rw [hb, x1, r1]
end Go.Proofs.YteibopcneflidabDoor

/- THE WALKS of the model's RigIn, RigRoom, RigFits, RigSizes; the program's compareParts. -/
namespace Go.Proofs.YteibopcneflidabDoor
open Go.RowKit Go.Sort Go.Shelf

theorem grw_same {f : FuncId} {args : Array Value} {v : Value} (h : ∀ w, Calls Tryd.prog f args w fun e w' => e = .returned v ∧ w = w') (W : World) :
    Calls Tryd.prog f args W fun e w' => e = .returned v ∧ ∃ (q : Nat) (os : Array Obj), w' = grow (W.drewN q) os :=
  (h W).mono (by rintro e w' ⟨rfl, rfl⟩; exact ⟨rfl, Grw.refl _⟩)

end Go.Proofs.YteibopcneflidabDoor
