/- The document's own answers: numbers, texts and digests as bytes. -/
import Derived.Test.YtjoiimhifogbhaaA13
import Derived.Laws.Concat
namespace Go.Proofs.Ytjoiimhifogbhaa
open Go.RowKit

theorem bstr_append (a b : List UInt8) : bstr a ++ bstr b = bstr (a ++ b) := by
  apply ByteArray.ext
  simp [bstr]
theorem room (a b : List UInt8) (ha : a.length ≤ 8388608) (hb : b.length ≤ 8388608) : ¬ 9223372036854775807 < (bstr a).size + (bstr b).size := by
  rw [bstr_size, bstr_size]; omega
theorem rem8 (x : Nat) (w : World) : (binOp .rem 30 (V8 x) (.int .u64 256)).run Try.prog w = .ok (V8 (x % 256)) w := by
  have h := show (binOp .rem 30 (V8 x) (.int .u64 256)).run Try.prog w = .ok (.int .u64 ((x : Int).tmod 256)) w from rfl
  rw [h, V8]
  have e : ((x : Int).tmod 256) = ((x % 256 : Nat) : Int) := by
    rw [Int.tmod_eq_emod_of_nonneg (by omega)]; omega
  rw [e]
theorem quo8 (x : Nat) (hx : x < 18446744073709551616) (w : World) : (binOp .quo 30 (V8 x) (.int .u64 256)).run Try.prog w = .ok (V8 (x / 256)) w := by
  have h := show (binOp .quo 30 (V8 x) (.int .u64 256)).run Try.prog w = .ok (.int .u64 (IntKind.u64.wrap ((x : Int).tdiv 256))) w from rfl
  rw [h, IntKind.wrap_u64, V8]
  have e : ((x : Int).tdiv 256) % 18446744073709551616 = ((x / 256 : Nat) : Int) := by
    rw [Int.tdiv_eq_ediv_of_nonneg (by omega)]; omega
  rw [e]

set_option maxRecDepth 100000 in
set_option maxHeartbeats 1000000 in
theorem ref_num (w : World) (x n : Nat) (hx : x < 18446744073709551616) (hn : n ≤ 8) :
    Calls Try.prog 7 #[V8 x, .int .i64 (n : Int)] w fun e w' => e = .returned (.string (bstr (be n x))) ∧ Below w.heap.size w w' := by
  have HX := Lib.hid hx
  have HN := Lib.hid hn
  have r6 : ∀ x, (U x).cells = #[U x] := fun _ => rfl
  unfold Value.cells at r6
  clear hx hn
  go_enter Try.func7, Try.ntmps7
  go_wp2
  go_loopw [0, 5, 6] (fun v s i wr => ∃ k : Nat, k ≤ n ∧ i = .int .i64 k ∧ v = V8 (x / 256 ^ k) ∧ s = .string (bstr (be k x)) ∧ Below w.heap.size w wr) (fun _ _ i _ => n - (intOf i).toNat)
  case atStart => exact ⟨0, Nat.zero_le _, rfl, by simp, rfl, Below.refl _ _⟩
  case round =>
    obtain ⟨k, hk, rfl, rfl, rfl, hb⟩ := hrel
    have HB := Lib.hid hb
    have HN' := HN.out
    clear hb
    by_cases hlt : k < n
    · have hy : x / 256 ^ k < 18446744073709551616 := Nat.lt_of_le_of_lt (Nat.div_le_self _ _) HX.out
      have hb1 : be (k + 1) x = [UInt8.ofNat (x / 256 ^ k)] ++ be k x := rfl
      have hb2 : x / 256 ^ (k + 1) = x / 256 ^ k / 256 := by rw [Nat.pow_succ, Nat.div_div_eq_div_mul]
      have hu : UInt8.ofNat (x / 256 ^ k % 256) = UInt8.ofNat (x / 256 ^ k) := by
        apply UInt8.toNat_inj.1; simp
      have hl : (be k x).length = k := be_length k x
      generalize x / 256 ^ k = y at *
      have q1 := rem8 y
      have q2 := cut8 (y % 256)
      rw [hu] at q2
      have q3 := quo8 y hy
      have q4 := one_text wr (UInt8.ofNat y)
      have q5 := room [UInt8.ofNat y] (be k x) (by simp) (by omega)
      have HB1 := Lib.hid hb1
      have HB2 := Lib.hid hb2
      clear hb1 hb2 hu hl hy
      go_wp2
      go_roundw
      case rel => exact ⟨k + 1, by omega, by go_num, by rw [HB2.out], by rw [HB1.out, bstr_append], HB.out.alloc HB.out.size _⟩
      case measure => simp [intOf]; omega
    · obtain rfl : k = n := by omega
      go_wp2
      go_ret
      exact ⟨rfl, HB.out⟩

theorem of_len (x : Nat) (hx : x < 4294967296) (w : World) : (convert 3 30 (.int .i64 (x : Int))).run Try.prog w = .ok (V8 x) w := of_int8 x hx w
theorem ref_text (w : World) (s : ByteArray) (hs : s.size ≤ 1000000) : Calls Try.prog 8 #[.string s] w fun e w' => e = .returned (.string (bstr (textOf s))) ∧ Below w.heap.size w w' := by
  have q1 := of_len s.size (by omega)
  have hn := ref_num w s.size 4 (by omega) (by decide)
  have q2 := room (be 4 s.size) s.data.toList (by rw [be_length]; omega) (by have : s.data.toList.length = s.size := by simp
                                                                             omega)
  rw [bstr_eq] at q2
  have HN := Lib.hid hn
  clear hn
  go_enter Try.func8, Try.ntmps8
  go_wp2_with (go_at_call 7; refine HN.out.mono ?_; rintro e w1 ⟨rfl, hb1⟩; have HB1 := Lib.hid hb1; clear hb1)
  go_ret
  refine ⟨?_, HB1.out⟩
  have h := bstr_append (be 4 s.size) s.data.toList
  rw [bstr_eq] at h
  show Ending.returned (Value.string (bstr (be 4 s.size) ++ s)) = _
  rw [h]; rfl
set_option maxRecDepth 100000 in
set_option maxHeartbeats 1000000 in
theorem ref_digest (w : World) (d : List UInt8) (hd : d.length = 32) : Calls Try.prog 9 #[digV d] w fun e w' => e = .returned (.string (bstr d)) ∧ Below w.heap.size w w' := by
  have HD := Lib.hid hd
  have hi : (Try.prog.info? 33).map (·.size) = some ((d.map U).toArray).size := Row32 _ (by simp [hd])
  have HI := Lib.hid hi
  have r6 : ∀ x, (U x).cells = #[U x] := fun _ => rfl
  unfold Value.cells at r6
  have hblk := Blk.fresh w 33 (d.map U).toArray
  clear hd hi
  unfold digV
  go_enter Try.func9, Try.ntmps9
  go_wp2
  go_loopw [3, 4] (fun s i wr => ∃ k : Nat, k ≤ 32 ∧ i = .int .i64 k ∧ s = .string (bstr (d.take k)) ∧ Below w.heap.size w wr ∧ Blk wr w.heap.size 33 (d.map U).toArray) (fun _ i _ => 32 - (intOf i).toNat)
  case atStart => exact ⟨0, by omega, rfl, rfl, (Below.refl _ w).alloc (Nat.le_refl _) _, hblk⟩
  case round =>
    obtain ⟨k, hk, rfl, rfl, hb, hbk⟩ := hrel
    have HB := Lib.hid hb
    have HBK := Lib.hid hbk
    by_cases hlt : k < 32
    · have hkd : k < d.length := by rw [HD.out]; exact hlt
      have c0 : wr.cell? ⟨w.heap.size, k, none⟩ = some (U d[k]) := by rw [hbk.cell]; simp [hkd]
      have ht : d.take (k + 1) = d.take k ++ [d[k]] := List.take_succ_eq_append_getElem hkd
      have hl : (d.take k).length ≤ 32 := by rw [List.length_take]; omega
      generalize d[k] = b at *
      have q4 := one_text wr b
      have q5 := room (d.take k) [b] (by omega) (by simp)
      have HT := Lib.hid ht
      clear ht hl hb hbk hblk
      go_wp2
      go_roundw
      case rel => exact ⟨k + 1, by omega, by go_num, by rw [HT.out, bstr_append], HB.out.alloc HB.out.size _, HBK.out.more _⟩
      case measure => simp [intOf]; omega
    · obtain rfl : k = 32 := by omega
      clear hb hbk hblk
      go_wp2
      go_ret
      exact ⟨by show Ending.returned (Value.string (bstr (d.take 32))) = _; rw [List.take_of_length_le (by rw [HD.out]; omega)], HB.out⟩
end Go.Proofs.Ytjoiimhifogbhaa
