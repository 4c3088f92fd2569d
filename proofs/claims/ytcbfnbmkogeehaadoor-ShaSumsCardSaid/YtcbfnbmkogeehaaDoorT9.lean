/- Short of one text: its walk. -/
import Derived.Test.YtcbfnbmkogeehaaDoorT8
namespace Go.Proofs.YtcbfnbmkogeehaaDoor
open Go.RowKit

/-- A number of 64 bits as a value. -/
def N8 (n : Nat) : Value := .int .u64 (n : Int)
theorem N8_shl (n : Nat) (hn : n < 72057594037927936) (w : World) : (binOp .shl 27 (N8 n) (.int .u64 8)).run Tryd.prog w = .ok (N8 (n * 256)) w := run_shl64 n hn w
theorem N8_or (n : Nat) (hn : n < 72057594037927936) (b : UInt8) (w : World) : (binOp .or 27 (N8 (n * 256)) (N8 b.toNat)).run Tryd.prog w = .ok (N8 (n * 256 + b.toNat)) w := run_or64 n hn b w
theorem N8_conv (x : UInt8) (w : World) : (convert 5 27 (U x)).run Tryd.prog w = .ok (N8 x.toNat) w := run_conv64 x w
theorem U_all (l : List UInt8) : ((l.map U).toArray).all (·.oneCell') = true := by simp; intro x _; rfl
theorem zero25y (w : World) : (zeroValue 25).run Tryd.prog w = .ok (.agg (Array.replicate 32 (.int .u8 0))) w := by kernel_rfl
attribute [local irreducible] wpList in
set_option maxHeartbeats 2000000 in
theorem short_walk (w : World) (b : Nat) (s : ByteArray) (hs : s.size ≤ maxLen) (hb : Blk w b 9 ([.string s] : List Value).toArray) (hk : Kt w) :
    Calls Tryd.prog 10 #[.slice (some ⟨b, 0, none⟩) 1 1] w fun e w' => e = .returned (.int .u64 (num8 (SUM s.data.toList) 8 : Nat)) ∧ Below w.heap.size w w' := by
  have HS := sum_one w b s hs hb hk
  have hl := SUM_length s.data.toList
  have hi := SUM_row s.data.toList
  have hz := zero25y
  generalize SUM s.data.toList = D at *
  have HL := Lib.hid hl
  have HI := Lib.hid hi
  have HA := Lib.hid (U_all D)
  have HSZ : Hid ((Array.replicate 32 (Value.int .u8 0)).size = (D.map U).toArray.size) := by show _ = _; simp [hl]
  clear hl hi hb hk hs
  go_enter Tryd.func10, Tryd.ntmps10
  go_wp2_with (first | (go_at_call 9; refine HS.mono ?_; rintro e w1 ⟨rfl, hb1⟩; have HB1 := Lib.hid hb1; clear hb1) | (refine wpList_store_row rfl 25 _ _ rfl w1.heap.size _ rfl rfl 25 _ (Blk.fresh w1 25 _) HI.out HSZ.out HA.out ?_))
  have hw : Below w.heap.size w ((w1.alloc (.cells (Array.replicate 32 (.int .u8 0)) 25)).setRow w1.heap.size (D.map U).toArray) := by
    have a := (HB1.out.alloc HB1.out.size (.cells (Array.replicate 32 (.int .u8 0)) 25))
    have c := Ex.setRow w1.heap.size (w1.alloc (.cells (Array.replicate 32 (.int .u8 0)) 25)) (D.map U).toArray
    exact Ex.below a c HB1.out.size a.size
  have hr := (Blk.fresh w1 25 (Array.replicate 32 (Value.int .u8 0))).setRow (D.map U).toArray
  have HW := Lib.hid hw
  have HR := Lib.hid hr
  clear hw hr hz HSZ HI HS HB1
  generalize (w1.alloc (.cells (Array.replicate 32 (.int .u8 0)) 25)).setRow w1.heap.size (D.map U).toArray = w2 at *
  generalize w1.heap.size = ob at *
  go_loopw [4, 11] (fun v i wr => ∃ j : Nat, j ≤ 8 ∧ v = N8 (num8 D j) ∧ i = .int .i64 j ∧ wr = w2) (fun _ i _ => 8 - (intOf i).toNat)
  case atStart => exact ⟨0, Nat.zero_le _, rfl, rfl, rfl⟩
  case round =>
    obtain ⟨j, hj, rfl, rfl, rfl⟩ := hrel
    by_cases hlt : j < 8
    · have hj8 : (j : Int) < 8 := by omega
      have hc : wr.cell? ⟨ob, j, none⟩ = some (U (D.getD j 0)) := by
        rw [HR.out.cell j]
        have h32 := HL.out
        simp [List.getD, show j < D.length by omega]
      have hn := num8_lt8 D j hlt
      have r1 := fun w => N8_shl (num8 D j) hn w
      have r2 := fun w => N8_or (num8 D j) hn (D.getD j 0) w
      have r3 := N8_conv
      have HN : Hid (num8 D (j + 1) = num8 D j * 256 + (D.getD j 0).toNat) := rfl
      clear hn
      generalize num8 D j = n at *
      generalize D.getD j 0 = x at *
      go_wp2
      go_roundw
      case rel => exact ⟨j + 1, by omega, by rw [HN.out], by go_num, trivial⟩
      case measure => simp [intOf]; omega
    · obtain rfl : j = 8 := by omega
      go_wp2
      go_ret
      exact ⟨rfl, HW.out⟩
end Go.Proofs.YtcbfnbmkogeehaaDoor
