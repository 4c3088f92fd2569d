/- The walk of the reference's Hex. -/
import Derived.Test.YtcbfnbmkogeehaaDoorH1
namespace Go.Proofs.YtcbfnbmkogeehaaDoor
open Go.RowKit
/-- A text of these bytes. -/
def S (l : List UInt8) : Value := .string (bstr l)
theorem quo16 (b : UInt8) (w : World) : (binOp .quo 5 (U b) (.int .u8 16)).run Tryd.prog w = .ok (D8 (b.toNat / 16)) w := by
  have h := b.toNat_lt
  show Result.ok (Value.int .u8 (IntKind.u8.wrap ((b.toNat : Int).tdiv 16))) w = _
  rw [IntKind.wrap_u8, Int.tdiv_eq_ediv_of_nonneg (by omega), D8]
  congr 2
  omega
theorem rem16 (b : UInt8) (w : World) : (binOp .rem 5 (U b) (.int .u8 16)).run Tryd.prog w = .ok (D8 (b.toNat % 16)) w := by
  have h := b.toNat_lt
  show Result.ok (Value.int .u8 ((b.toNat : Int).tmod 16)) w = _
  rw [Int.tmod_eq_emod_of_nonneg (by omega), D8]
  congr 2
theorem inc8 (n : Nat) (hn : n < 16) (w : World) : (binOp .add 5 (D8 n) (.int .u8 1)).run Tryd.prog w = .ok (D8 (n + 1)) w := by
  show Result.ok (Value.int .u8 (IntKind.u8.wrap ((n : Int) + 1))) w = _
  rw [IntKind.wrap_u8, D8]
  congr 2
  omega
theorem dig_cut (n : Nat) (hn : n < 16) (w : World) : (Instr.sliceAt 9 (.string ⟨#[48, 49, 50, 51, 52, 53, 54, 55, 56, 57, 97, 98, 99, 100, 101, 102]⟩) (some (D8 n)) (some (D8 (n + 1))) none).run Tryd.prog w = .ok (S [hexD n]) w := by
  have : n = 0 ∨ n = 1 ∨ n = 2 ∨ n = 3 ∨ n = 4 ∨ n = 5 ∨ n = 6 ∨ n = 7 ∨ n = 8 ∨ n = 9 ∨ n = 10 ∨ n = 11 ∨ n = 12 ∨ n = 13 ∨ n = 14 ∨ n = 15 := by omega
  rcases this with h | h | h | h | h | h | h | h | h | h | h | h | h | h | h | h <;> (rw [h]; exact (rfl : _ = _))
theorem cat (a b : List UInt8) (h : a.length + b.length ≤ 100) (w : World) : (binOp .add 9 (S a) (S b)).run Tryd.prog w = .ok (S (a ++ b)) w := by
  have hc : ¬ ((((bstr a).size + (bstr b).size : Nat) : Int) > IntKind.i64.max) := by
    show ¬ (((a.toArray.size + b.toArray.size : Nat) : Int) > 9223372036854775807)
    simp; omega
  show (Op.stringOp .add (bstr a) (bstr b)).run Tryd.prog w = _
  unfold Op.stringOp
  simp only [hc, if_false]
  show Result.ok (Value.string (bstr a ++ bstr b)) w = _
  unfold S
  congr 2
theorem hexOf_append (a b : List UInt8) : hexOf (a ++ b) = hexOf a ++ hexOf b := by simp [hexOf]
set_option maxRecDepth 100000 in
set_option maxHeartbeats 1000000 in
theorem refhex_walk (w : World) (ds : List UInt8) (hds : ds.length = 32) :
    Calls Tryd.prog 13 #[.agg (ds.map U).toArray] w fun e w' => e = .returned (.string (bstr (hexOf ds))) ∧ Below w.heap.size w w' := by
  have HD := Lib.hid hds
  have hbl : Blk (w.alloc (.cells (ds.map U).toArray 25)) w.heap.size 25 (ds.map U).toArray := Blk.fresh _ _ _
  have HBL := Lib.hid hbl
  have HBE : Hid (Below w.heap.size w (w.alloc (.cells (ds.map U).toArray 25))) := (Below.refl _ w).alloc (Nat.le_refl _) _
  clear hds hbl
  go_enter Tryd.func13, Tryd.ntmps13
  go_wp2
  generalize World.alloc _ _ = w1 at *
  go_loopw [3, 4] (fun v i wr => ∃ k N : Nat, k ≤ 32 ∧ i = .int .i64 k ∧ v = S (hexOf (ds.take k)) ∧ wr = w1.drewN N) (fun _ i _ => 32 - (intOf i).toNat)
  case atStart => exact ⟨0, 0, by omega, rfl, rfl, rfl⟩
  case round =>
    obtain ⟨k, N, hk, rfl, rfl, rfl⟩ := hrel
    by_cases hlt : k < 32
    · have hkl : k < ds.length := by rw [HD.out]; exact hlt
      have q0 : w1.cell? ⟨w.heap.size, k, none⟩ = some (U ds[k]) := by rw [HBL.out.cell]; simp [hkl]
      have hex : hexOf (ds.take (k + 1)) = hexOf (ds.take k) ++ [hexD (ds[k].toNat / 16)] ++ [hexD (ds[k].toNat % 16)] := by
        rw [List.take_succ_eq_append_getElem hkl, hexOf_append]; simp [hexOf]
      have hln : (hexOf (ds.take k)).length ≤ 62 := by rw [hexOf_length]; simp; omega
      have HX := Lib.hid hex
      generalize ds[k] = b at *
      generalize hexOf (ds.take k) = t at *
      clear hex
      have k1 : (k : Int) < 32 := by omega
      have r1 := quo16 b
      have r2 := rem16 b
      have r3 := inc8 (b.toNat / 16) (by have := b.toNat_lt; omega)
      have r4 := inc8 (b.toNat % 16) (by omega)
      have r5 := dig_cut (b.toNat / 16) (by have := b.toNat_lt; omega)
      have r6 := dig_cut (b.toNat % 16) (by omega)
      have r7 := cat t [hexD (b.toNat / 16)] (by simp; omega)
      have r8 := cat (t ++ [hexD (b.toNat / 16)]) [hexD (b.toNat % 16)] (by simp; omega)
      go_wp2
      go_quiet (fail)
      go_wp2
      go_roundw
      case rel => exact ⟨k + 1, _, by omega, by go_num, by rw [HX.out, List.append_assoc]; rfl, rfl⟩
      case measure => simp [intOf]; omega
    · obtain rfl : k = 32 := by omega
      have het : hexOf (ds.take 32) = hexOf ds := by rw [List.take_of_length_le (by rw [HD.out]; omega)]
      rw [het]
      clear het
      go_wp2
      go_ret
      exact ⟨rfl, Below.trans HBE.out ⟨rfl, rfl, rfl, Nat.le_refl _, fun _ _ => rfl⟩⟩
end Go.Proofs.YtcbfnbmkogeehaaDoor
