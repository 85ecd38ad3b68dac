/- THE WALKS of RowAt, of the model and of the program, and of its exact law. -/
import Derived.Test.YtaonngmjfemadacCollect
namespace Go.Proofs.Ytaonngmjfemadac
open Go.RowKit

def posI (l : List Bool) : List Int := (pos l).map fun (j : Nat) => (j : Int)
def atR (s : ByteArray) : List Int := if vld s then posI (bits s) else []
theorem posI_map (l : List Bool) : (posI l).map (Value.int .i64) = (pos l).map fun (j : Nat) => Value.int .i64 (j : Int) := by unfold posI; rw [List.map_map]; rfl
theorem pos_pad (l : List Bool) (n : Nat) : pos (l ++ List.replicate n false) = pos l := by
  unfold pos posU
  rw [List.length_append, List.length_replicate, List.range_add, List.filter_append]
  have h2 : ((List.range n).map (l.length + ·)).filter (fun j => (l ++ List.replicate n false)[j]?.getD false) = [] := by
    rw [List.filter_eq_nil_iff]
    intro a ha
    obtain ⟨i, hi, rfl⟩ := List.mem_map.1 ha
    rw [List.getElem?_append_right (by omega)]
    simp [List.getElem?_replicate]
    split <;> simp
  rw [h2, List.append_nil]
  apply List.filter_congr
  intro j hj
  rw [List.getElem?_append_left (by simpa using hj)]
theorem pos_cut (l : List Bool) : pos (cut l) = pos l := by
  obtain ⟨n, hn⟩ := cut_eq l
  have h := pos_pad (cut l) n
  rw [← hn] at h
  exact h.symm
theorem pos_len (l : List Bool) : (pos l).length ≤ l.length := posU_le l l.length

set_option maxHeartbeats 400000 in
theorem specRowAt_any (s : ByteArray) (w : World) (hs : s.size ≤ maxLen) :
    Calls Try.prog 20 #[.string s] w fun e w' => ∃ v, e = .returned (.tuple #[v, .bool (vld s)]) ∧ IntsV w.heap.size w' v (atR s) ∧ Below w.heap.size w w' := by
  unfold atR
  cases hv : vld s
  · go_enter Try.func20, Try.ntmps20
    go_wp2_with (go_at_call 11; refine (specRowValid_any _ _ hs).mono ?_; rintro e w' ⟨rfl, rfl⟩)
    go_ret2
    exact ⟨_, rfl, .inl ⟨_, _, rfl, rfl⟩, (Below.refl _ _).alloc (Nat.le_refl _) _⟩
  · have h120 := vld_le s hv
    obtain ⟨i0, hi, hz0, hz1, hz2⟩ := info_parts infoI
    obtain ⟨B, hB⟩ : ∃ B, w.heap.size = B := ⟨_, rfl⟩
    have h0 := World.ownsRow_lit (base := B) (e := 3) (size := 1) w #[] 0 (by omega) (by unfold maxLen; omega) rfl
    have hb0 := (Below.refl B w).alloc (by omega) (.cells #[] 3)
    rw [hB] at h0 ⊢
    have HB := hide hB
    clear hB
    have H0 := hide h0
    clear h0
    go_enter Try.func20, Try.ntmps20
    go_wp2_with (go_at_call 11; refine (specRowValid_any _ _ hs).mono ?_; rintro e w' ⟨rfl, rfl⟩)
    go_loopw [4, 5] (fun v i wr => ∃ k : Nat, k ≤ s.size ∧ i = .int .i64 k ∧ Hid (wr.ownsRow B 3 1 v (posU (bits s) k).length ((posU (bits s) k).map fun (j : Nat) => Value.int .i64 (j : Int))) ∧ Hid (Below B w wr) ∧ B ≤ wr.heap.size) (fun _ i _ => s.size - (intOf i).toNat)
    case atStart =>
      refine ⟨0, Nat.zero_le _, rfl, ?_, hb0, by simp [← HB.out]⟩
      rw [HB.out]; exact H0.out
    case round =>
      obtain ⟨k, hk, rfl, HO, HBW, hsz⟩ := hrel
      by_cases hlt : k < s.size
      · have HG := hide (bits_getElem s k hlt)
        rw [bit_int] at HG
        have hpl := posU_le (bits s) k
        have hone : ∀ u ∈ [Value.int .i64 (k : Int)], u.oneCell' = true := by intro u hu; simp at hu; subst hu; rfl
        have H1 := hide hone
        have HS := hide (posU_succ (bits s) k)
        rw [HG.out] at HS
        clear hone HG
        cases hb : ((s[k].toNat : Int) == 49)
        · rw [hb] at HS
          go_wp2
          go_roundw
          case rel => exact ⟨k + 1, by omega, by go_num, by rw [HS.out]; exact HO, HBW, hsz⟩
          case measure => simp [intOf]; omega
        · rw [hb] at HS
          go_wp2_with (at_builtin; refine wpList_append_own _ rfl _ _ 27 rfl B 3 i0 (.int .i64 0) 1 8 Try.underlying27 hi hz0 hz1 hz2 rfl (by decide) _ _ _ rfl (HO.out.alloc _) ⟨wr.heap.size, 0, none⟩ 1 1 [.int .i64 (k : Int)] rfl rfl (cell_one_new _ _ _) H1.out (by unfold maxLen; omega) (by omega) (by simp; omega) ?_; intro v' w1 hown' hgrow _)
          go_roundw
          case rel =>
            refine ⟨k + 1, by omega, by go_num, ?_, ?_, ?_⟩
            · rw [HS.out]; simpa [Hid] using hown'
            · exact (HBW.out.alloc hsz _).grown hgrow (by simp; omega) (fun b e => (HO.out.lt b e).1)
            · have := hgrow.size; simp at this; omega
          case measure => simp [intOf]; omega
      · go_wp2
        go_ret2
        refine ⟨_, rfl, IntsV.of_owns (e := 3) (n := (pos (bits s)).length) ?_, HBW.out⟩
        have := HO.out
        obtain rfl : k = s.size := by omega
        rw [← length_bits s] at this
        show World.ownsRow _ _ _ _ _ _ ((posI (bits s)).map _)
        rw [posI_map]
        exact this

set_option maxHeartbeats 400000 in
theorem implRowAt_any (s : ByteArray) (w : World) (hs : s.size ≤ maxLen) :
    Calls Try.prog 13 #[.string s] w fun e w' => ∃ v, e = .returned (.tuple #[v, .bool (vld s)]) ∧ IntsV w.heap.size w' v (atR s) ∧ Below w.heap.size w w' := by
  unfold atR
  cases hv : vld s
  · go_enter Try.func13, Try.ntmps13
    go_wp2_with (go_at_call 32; refine (readRow_no _ _ hs hv).mono ?_; rintro e w' ⟨rfl, rfl⟩)
    go_ret2
    exact ⟨_, rfl, .inl ⟨_, _, rfl, rfl⟩, Below.refl _ _⟩
  · have h120 := vld_le s hv
    have hle := tl_le (bits s)
    rw [length_bits] at hle
    have C1 := hide (fun w => readRow_yes s w hv)
    have HC := hide (cut_length (bits s))
    have HM := hide (cut_map (bits s))
    have HN := hide (pos_cut (bits s))
    obtain ⟨t, ht⟩ : ∃ t, t = tl (bits s) := ⟨_, rfl⟩
    rw [← ht] at hle C1 HC HM
    clear ht
    go_enter Try.func13, Try.ntmps13
    go_wp2_with fail
    refine (C1.out _).mono ?_
    rintro e w1 ⟨rfl, hb1, hc1, hz1⟩
    go_wp2_with fail
    refine (balls_any _ t s.size w1).mono ?_
    rintro e w2 ⟨rfl, rfl⟩
    go_wp2_with fail
    have hnew : (w1.alloc (.cells #[.slice (some ⟨w.heap.size, 0, none⟩) t s.size] 40)).cell? ⟨w1.heap.size, 0, none⟩ = some (.slice (some ⟨w.heap.size, 0, none⟩) t s.size) := (Boxed.new w1 40 _).cell
    refine (collect_any w1.heap.size w.heap.size t s.size (cut (bits s)) HC.out (by omega) _ (by simp) hnew ((show CellsAt w1 w.heap.size ((cut (bits s)).map .bool) by rw [HM.out]; exact hc1.take t).alloc _)).mono ?_
    rintro e w3 ⟨v, rfl, ho, hb3⟩
    clear hnew
    rw [HN.out, ← posI_map] at ho
    go_wp2_with fail
    go_ret2
    have hb2 := hb1.alloc (Nat.le_of_lt hz1) (.cells #[.slice (some ⟨w.heap.size, 0, none⟩) t s.size] 40)
    exact ⟨_, rfl, (IntsV.of_owns ho).mono hb2.size, hb2.trans (hb3.mono hb2.size)⟩

theorem atR_len (s : ByteArray) : (atR s).length ≤ 120 := by
  unfold atR
  cases h : vld s
  · simp
  · have := vld_le s h
    have h2 := pos_len (bits s)
    rw [length_bits] at h2
    simp [posI]; omega

end Go.Proofs.Ytaonngmjfemadac
