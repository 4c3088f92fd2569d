/- The document's disk: the list of the sectors that wait. -/
import Derived.Test.YtcbfnbmkogeehaaQ1
namespace Go.Proofs.Ytcbfnbmkogeehaa
open Go.RowKit

/-- The waiting sectors among the first k. -/
def Tl (s : Dk) (k : Nat) : List Nat := (List.range k).filter fun i => s.waits.getD i false
theorem Tl_succ (s : Dk) (k : Nat) : Tl s (k + 1) = Tl s k ++ (if s.waits.getD k false then [k] else []) := by
  unfold Tl
  rw [List.range_succ, List.filter_append]
  congr 1
  simp only [List.filter_cons, List.filter_nil]
theorem Tl_length (s : Dk) (k : Nat) : (Tl s k).length ≤ k := by
  have := List.length_filter_le (fun i => s.waits.getD i false) (List.range k)
  rw [List.length_range] at this
  exact this
theorem Tl_mem (s : Dk) (k : Nat) (hk : s.waits.length ≤ k) (i : Nat) : i ∈ Tl s k ↔ s.waits[i]? = some true := by
  unfold Tl
  rw [List.mem_filter, List.mem_range, List.getD_eq_getElem?_getD]
  constructor
  · rintro ⟨_, h⟩
    cases hq : s.waits[i]? with
    | none => rw [hq] at h; cases h
    | some b => rw [hq] at h; simp at h; rw [h]
  · intro h
    have := (List.getElem?_eq_some_iff.1 h).1
    exact ⟨by omega, by rw [h]; rfl⟩
theorem Tl_rising (s : Dk) (k : Nat) : (Tl s k).Pairwise (· < ·) := List.Pairwise.filter _ List.pairwise_lt_range
/-- A list of the waiting sectors, in memory from B on. -/
def Wq (B : Nat) (s : Dk) (v : Value) (W : World) : Prop := ∃ A c, ∃ l : List Nat, v = .slice A l.length c ∧ l.length ≤ 4096 ∧ (∀ i, i ∈ l ↔ s.waits[i]? = some true) ∧ l.Pairwise (· < ·) ∧
  (0 < l.length → ∃ b, A = some ⟨b, 0, none⟩ ∧ B ≤ b ∧ b < W.heap.size ∧ ∀ j (h : j < l.length), W.cell? ⟨b, j, none⟩ = some (.int .i64 (l[j] : Int)))
set_option maxRecDepth 100000 in
theorem qlist_walk (w : World) (q sb lb wb : Nat) (s : Dk) (h : Rq w q sb lb wb s) :
    Calls Try.prog 29 #[.pointer (some ⟨q, 0, none⟩)] w fun e w' => ∃ v, e = .returned v ∧ Wq w.heap.size s v w' ∧ Below w.heap.size w w' := by
  have h2 : w.cell? ⟨q, 2, none⟩ = some (.slice (some ⟨wb, 0, none⟩) s.last.length s.last.length) := h.blk.cell 2
  have hhi := h.ok.high
  have hwl := h.ok.wt
  obtain ⟨n, hn⟩ : ∃ n, s.last.length = n := ⟨_, rfl⟩
  rw [hn] at h2 hhi hwl
  have H := Lib.hid h
  have HWL := Lib.hid hwl
  clear h hwl hn
  go_enter Try.func29, Try.ntmps29
  go_wp2
  go_loopw [3, 11] (fun v i wr => ∃ k : Nat, k ≤ n ∧ i = .int .i64 k ∧ wr.ownsRow w.heap.size 3 1 v (Tl s k).length ((Tl s k).map iv) ∧ Below w.heap.size w wr) (fun _ i _ => n - (intOf i).toNat)
  case atStart => exact ⟨0, Nat.zero_le _, rfl, World.ownsRow_nil _ _ _ _, Below.refl _ _⟩
  case round =>
    obtain ⟨k, hk, rfl, hown, hb⟩ := hrel
    have HO := Lib.hid hown
    have HB := Lib.hid hb
    clear hown hb
    by_cases hlt : k < n
    · have hkw : k < s.waits.length := by rw [HWL.out]; exact hlt
      have hst := Tl_succ s k
      have hlen := Tl_length s k
      have hcell : wr.cell? ⟨wb, k, none⟩ = some (.bool (s.waits.getD k false)) := by
        have h1 : Blk wr wb 4 ((s.waits.map Value.bool).toArray) := H.out.wt.kept HB.out H.out.wt.lt
        rw [h1.cell]
        simp [List.getD, hkw]
      generalize s.waits.getD k false = b at *
      have HST := Lib.hid hst
      clear hst hkw
      cases b
      · go_wp2
        go_roundw
        case rel => exact ⟨k + 1, by omega, by go_num, by rw [HST.out]; simpa using HO.out, HB.out⟩
        case measure => simp [intOf]; omega
      · have rI : ∀ i, (iv i).cells = #[iv i] := fun _ => rfl
        unfold Value.cells at rI
        go_wp2_with (refine wpList_append_own _ rfl (.tmp 17) (.tmp 19) 47 rfl w.heap.size 3 _ (.int .i64 0) 1 8 Try.underlying47 rfl rfl rfl rfl rfl (by decide) u3 (Tl s k).length _ rfl (HO.out.alloc _) ⟨wr.heap.size, 0, none⟩ 1 1 [iv k] rfl rfl (cells_of_row (Blk.fresh wr 3 _)) (by simp; rfl) (by unfold maxLen; omega) (by omega) (by have := HB.out.size; simp; omega) ?_; intro v' w4 hown4 hgrow4 hiff4; have HO4 := Lib.hid hown4; have HB4 := Lib.hid (Below.grown (HB.out.alloc HB.out.size _) hgrow4 (fun j hj => (HO.out.lt j hj).1) (by have := HB.out.size; simp; omega)); clear hown4 hgrow4 hiff4)
        go_roundw
        case rel => exact ⟨k + 1, by omega, by go_num, by rw [HST.out]; simpa using HO4.out, HB4.out⟩
        case measure => simp [intOf]; omega
    · obtain rfl : n = k := by omega
      go_wp2
      go_ret
      refine ⟨_, rfl, ?_, HB.out⟩
      have hlen := Tl_length s n
      have hmem := Tl_mem s n (by rw [HWL.out]; exact Nat.le_refl _)
      have hris := Tl_rising s n
      have hrow := HO.out
      generalize Tl s n = l at *
      rcases hrow.2 with ⟨e, h0⟩ | ⟨b, cap, cur, e, hbase, hgc, hcap, _, hsz2, htake⟩
      · have hl0 : l = [] := List.eq_nil_of_length_eq_zero h0
        subst hl0
        exact ⟨none, 0, [], e, by decide, hmem, List.Pairwise.nil, fun h => absurd h (by decide)⟩
      · have hblk : Blk wr b 3 cur := hgc
        refine ⟨some ⟨b, 0, none⟩, cap, l, e, by omega, hmem, hris, fun _ => ⟨b, rfl, hbase, hblk.lt, fun j hj => ?_⟩⟩
        rw [hblk.cell]
        have h1 : (cur.toList.take (l.length * 1))[j]? = (l.map iv)[j]? := by rw [htake]
        rw [List.getElem?_take_of_lt (by omega)] at h1
        simpa [hj, iv] using h1
end Go.Proofs.Ytcbfnbmkogeehaa
