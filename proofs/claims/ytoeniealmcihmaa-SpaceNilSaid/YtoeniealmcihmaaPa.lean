/- Repeat, New. -/
import Derived.Laws.MakeOwn
import Derived.Test.YtoeniealmcihmaaP9
import Derived.Test.YtoeniealmcihmaaShelf
namespace Go.Proofs.Ytoeniealmcihmaa
open Go.RowKit

theorem bits_mul1 (n : Nat) (hn : n < 18446744073709551616) (w : World) : Calls Try.prog 21 #[.int .u64 1, .int .u64 n] w fun e w' => e = .returned (.tuple #[.int .u64 0, .int .u64 n]) ∧ w = w' := by
  have h := Try.bits_Mul 1 n (by decide) hn w
  rw [Nat.one_mul, Nat.div_eq_of_lt hn, Nat.mod_eq_of_lt hn] at h
  exact h.mono fun _ _ ⟨h1, h2⟩ => ⟨h1, h2.symm⟩
theorem splice_get {L : List Value} {m k n : Nat} (hL : L.length = n) (hm : ∀ i, i < m → L[i]? = some (.bool true)) (hk : m + k ≤ n) : ∀ i, i < m + k → (splice L m (List.replicate k (.bool true)))[i]? = some (.bool true) := fun i hi => by
  unfold splice
  by_cases h : i < m
  · rw [List.getElem?_append_left (by simp; omega), List.getElem?_take_of_lt h]; exact hm i h
  · rw [List.getElem?_append_right (by simp; omega), List.getElem?_append_left (by simp; omega), List.getElem?_replicate, if_pos (by simp; omega)]
theorem all_true {L : List Value} {n : Nat} (hL : L.length = n) (hm : ∀ i, i < n → L[i]? = some (.bool true)) : L = (List.replicate n true).map Value.bool ++ [] := by
  rw [List.append_nil]
  apply List.ext_getElem?
  intro i
  by_cases h : i < n
  · rw [hm i h, List.getElem?_map, List.getElem?_replicate, if_pos h]; rfl
  · rw [List.getElem?_eq_none (by omega), List.getElem?_eq_none (by simp; omega)]

theorem size4 : (Try.prog.info? 4).map (·.size) = some 1 := by kernel_rfl
set_option maxHeartbeats 2000000 in
theorem repeat_walk (w : World) (a c n : Nat) (h0 : 0 < n) (hn : n ≤ 4096) (hc : w.cell? ⟨a, 0, none⟩ = some (.bool true)) :
    Calls Try.prog 15 #[.slice (some ⟨a, 0, none⟩) 1 c, .int .i64 n] w fun e w' => ∃ lb : Nat, e = .returned (.slice (some ⟨lb, 0, none⟩) n n) ∧ Blk w' lb 4 ((List.replicate n true).map Value.bool ++ []).toArray ∧ w.heap.size ≤ lb ∧ Below w.heap.size w w' := by
  obtain ⟨i0, hi, hz0, hz1, hz2⟩ := info_parts info4
  have hal : a < w.heap.size := World.block_lt_of_cell? w _ hc
  have hmul := bits_mul1 n (by omega) w
  have hmk := fun (w : World) => run_make (P := Try.prog) w 43 4 i0 (.bool false) Try.underlying43 hi hz0 .i64 .i64 (n : Int) (n : Int) (by omega) (Int.le_refl _) (by rw [hz2]; omega) (by omega)
  simp only [Int.toNat_natCast] at hmk
  have hZ : (madeCells (Value.bool false).cells (n * i0.size)).size = n := by rw [size_madeCells, hz1, Nat.mul_one]
  obtain ⟨Z, hZe⟩ : ∃ Z : List Value, madeCells (Value.bool false).cells (n * i0.size) = Z.toArray := ⟨_, (Array.toArray_toList).symm⟩
  rw [hZe] at hmk hZ
  have hZl : Z.length = n := by simpa using hZ
  have HZ := Lib.hid hZl
  have hca : ∀ j v, [Value.bool true][j]? = some v → (w.alloc (.cells Z.toArray 4)).cell? ((⟨a, 0, none⟩ : Addr).add j) = some v := fun j v hv => by
    match j with
    | 0 =>
      simp at hv
      subst hv
      rw [show (⟨a, 0, none⟩ : Addr).add 0 = ⟨a, 0, none⟩ from rfl, World.cell?_of_block (w := w) (Below.heap_alloc w _ a hal)]
      exact hc
    | j + 1 => simp at hv
  have HCA := Lib.hid hca
  have n0 : ¬ ((n : Int) < 0) := by omega
  clear hca hZ hZe hZl hc hi hz0 hz1 hz2
  have C2 := Lib.hid (show [Value.bool true].length = Nat.min 1 n by show 1 = min 1 n; omega)
  have C4 := Lib.hid (show 0 + [Value.bool true].length ≤ Z.length by rw [HZ.out]; simp; omega)
  have C5 := Lib.hid (show ∀ v ∈ [Value.bool true], v.oneCell' = true by simp [Value.oneCell'])
  go_enter Try.func15, Try.ntmps15
  go_wp2_with (first
    | (go_at_call 21; refine hmul.mono ?_; rintro e w' ⟨rfl, rfl⟩)
    | (refine wpList_copy_splice rfl (.tmp 31) (.tmp 32) 43 43 rfl 4 Try.underlying43 size4 (some ⟨w.heap.size, 0, none⟩) (some ⟨a, 0, none⟩) n n 1 c (by rfl) (by rfl) w.heap.size 0 Z 4 (heap_alloc_new w _) [.bool true] C2.out (fun _ => ⟨rfl, _, rfl, HCA.out⟩) C4.out C5.out w.heap.size w ((Below.refl _ w).alloc (Nat.le_refl _) _) (Nat.le_refl _) ?_; intro w1 hr1 hb1; have HB1 := Lib.hid hb1; clear hb1))
  go_loopw [8] (fun i wr => ∃ (m : Nat) (cur : List Value), i = .int .i64 m ∧ 0 < m ∧ m ≤ n ∧ cur.length = n ∧ (∀ i, i < m → cur[i]? = some (.bool true)) ∧ Blk wr w.heap.size 4 cur.toArray ∧ Below w.heap.size w wr) (fun i _ => n - (intOf i).toNat)
  case atStart => 
    refine ⟨1, splice Z 0 (List.replicate 1 (.bool true)), rfl, by omega, by omega, ?_, ?_, hr1.out, HB1.out⟩
    · rw [length_splice _ _ _ (by have := HZ.out; simp; omega)]; exact HZ.out
    · have := splice_get (m := 0) (k := 1) HZ.out (fun i hi => absurd hi (by omega)) (by omega)
      simpa using this
  case round =>
    obtain ⟨m, cur, rfl, hm0, hmn, hcl, hct, hbk, hbl⟩ := hrel
    have HCL := Lib.hid hcl
    have HCT := Lib.hid hct
    have HBK := Lib.hid hbk
    have HBL := Lib.hid hbl
    clear hcl hct hbk hbl
    by_cases hlt : m < n
    · obtain ⟨q, hq⟩ : ∃ q, q = min m (n - m) := ⟨_, rfl⟩
      have hq1 : 0 < q := by omega
      have hq2 : m + q ≤ n := by omega
      have hsrc : ∀ j v, (List.replicate q (Value.bool true))[j]? = some v → wr.drew.cell? ((⟨w.heap.size, 0, none⟩ : Addr).add j) = some v := fun j v hv => by
        have hj : j < q := by have := (List.getElem?_eq_some_iff.1 hv).1; simpa using this
        rw [List.getElem?_replicate, if_pos hj] at hv
        cases hv
        have hadd : (⟨w.heap.size, 0, none⟩ : Addr).add j = ⟨w.heap.size, j, none⟩ := by unfold Addr.add; split <;> simp_all
        rw [hadd, HBK.out.drew.cell, List.getElem?_toArray]
        exact HCT.out j (by omega)
      have C2 := Lib.hid (show (List.replicate q (Value.bool true)).length = Nat.min m (n - m) by rw [List.length_replicate]; exact hq)
      have C3 := Lib.hid hsrc
      have C4 := Lib.hid (show m + (List.replicate q (Value.bool true)).length ≤ cur.length by rw [List.length_replicate, HCL.out]; exact hq2)
      have C5 := Lib.hid (show ∀ v ∈ List.replicate q (Value.bool true), v.oneCell' = true from fun v hv => by rw [(List.mem_replicate.1 hv).2]; rfl)
      have hne : ¬ n = m := by omega
      have HD := Lib.hid (HBK.out.drew : wr.drew.heap[w.heap.size]? = some (.cells cur.toArray 4 (0, 0)))
      clear hq hsrc
      have wq : IntKind.i64.wrap ((m : Int) + (q : Int)) = (m : Int) + (q : Int) := IntWalk.i64_in _ (by omega)
      go_wp2
      go_region_law (refine step_copy_splice rfl (.tmp 41) (.tmp 44) 43 43 rfl 4 Try.underlying43 size4 (some ⟨w.heap.size, m, none⟩) (some ⟨w.heap.size, 0, none⟩) (n - m) (n - m) m n (by kernel_rfl) (by kernel_rfl) w.heap.size m cur 4 HD.out (List.replicate q (Value.bool true)) C2.out (fun _ => ⟨rfl, _, rfl, C3.out⟩) C4.out C5.out w.heap.size wr.drew (Below.refl _ _) (Nat.le_refl _) ?_; intro w1 hr1 hb1; have HB1 := Lib.hid hb1; clear hb1)
      go_simp
      go_roundw
      case rel =>
        refine ⟨_, _, _, _, _, _, _, _, _, _, _, _, _, _, ?_, rfl⟩
        refine ⟨m + q, splice cur m (List.replicate q (Value.bool true)), by go_num, by omega, hq2, ?_, splice_get HCL.out HCT.out hq2, hr1.out, HBL.out.drew.trans HB1.out⟩
        rw [length_splice _ _ _ C4.out]; exact HCL.out
      case measure => simp [intOf]; omega
    · obtain rfl : m = n := by omega
      go_wp2
      go_ret
      refine ⟨w.heap.size, rfl, ?_, Nat.le_refl _, HBL.out⟩
      rw [← all_true HCL.out HCT.out]
      exact HBK.out
end Go.Proofs.Ytoeniealmcihmaa
