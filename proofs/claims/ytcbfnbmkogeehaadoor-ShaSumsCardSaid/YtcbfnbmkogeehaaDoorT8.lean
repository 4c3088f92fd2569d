/- The first eight bytes of a digest as a number. -/
import Derived.Test.YtcbfnbmkogeehaaDoorTx
namespace Go.Proofs.YtcbfnbmkogeehaaDoor
open Go.RowKit

/-- The number of the first j bytes. -/
def num8 (l : List UInt8) : Nat → Nat
  | 0 => 0
  | j + 1 => num8 l j * 256 + (l.getD j 0).toNat
theorem num8_lt (l : List UInt8) : ∀ j, num8 l j < 256 ^ j
  | 0 => by simp [num8]
  | j + 1 => by
    have h := num8_lt l j
    have hb := (l.getD j 0).toNat_lt
    show num8 l j * 256 + (l.getD j 0).toNat < 256 ^ (j + 1)
    rw [Nat.pow_succ]
    omega
theorem num8_lt8 (l : List UInt8) (j : Nat) (hj : j < 8) : num8 l j < 72057594037927936 := by
  refine Nat.lt_of_lt_of_le (num8_lt l j) ?_
  exact Nat.le_trans (Nat.pow_le_pow_right (by decide) (show j ≤ 7 by omega)) (by decide)
theorem run_shl64 (n : Nat) (hn : n < 72057594037927936) (w : World) : (binOp .shl 27 (.int .u64 (n : Int)) (.int .u64 8)).run Tryd.prog w = .ok (.int .u64 ((n * 256 : Nat) : Int)) w := by
  show (Op.shift .shl .u64 (n : Int) .u64 8).run Tryd.prog w = _
  unfold Op.shift
  rw [if_neg (by decide)]
  have hm : min (8 : Int).toNat IntKind.u64.bits = 8 := by decide
  simp only [hm]
  show Result.ok (Value.int .u64 (IntKind.u64.wrap ((n : Int) * 2 ^ 8))) w = _
  rw [IntKind.wrap_u64]
  congr 2
  omega
theorem run_or64 (n : Nat) (hn : n < 72057594037927936) (b : UInt8) (w : World) : (binOp .or 27 (.int .u64 ((n * 256 : Nat) : Int)) (.int .u64 (b.toNat : Int))).run Tryd.prog w = .ok (.int .u64 ((n * 256 + b.toNat : Nat) : Int)) w := by
  have hb := b.toNat_lt
  show Result.ok (Value.int .u64 (IntKind.u64.wrap ((BitVec.ofInt 64 ((n * 256 : Nat) : Int) ||| BitVec.ofInt 64 (b.toNat : Int)).toNat : Int))) w = _
  have e : (BitVec.ofInt 64 ((n * 256 : Nat) : Int) ||| BitVec.ofInt 64 (b.toNat : Int)).toNat = n * 256 + b.toNat := by
    rw [BitVec.toNat_or, BitVec.ofInt_natCast, BitVec.ofInt_natCast, BitVec.toNat_ofNat, BitVec.toNat_ofNat, Nat.mod_eq_of_lt (by omega), Nat.mod_eq_of_lt (by omega)]
    have h := Nat.shiftLeft_add_eq_or_of_lt (i := 8) (b := b.toNat) (by omega) n
    rw [Nat.shiftLeft_eq] at h
    exact h.symm
  rw [e, IntKind.wrap_u64]
  congr 2
  omega
theorem run_conv64 (x : UInt8) (w : World) : (convert 5 27 (U x)).run Tryd.prog w = .ok (.int .u64 (x.toNat : Int)) w := by
  have h1 : ∀ w, (underlying 5).run Tryd.prog w = .ok (.int .u8) w := fun w => by kernel_rfl
  have h2 : ∀ w, (underlying 27).run Tryd.prog w = .ok (.int .u64) w := fun w => by kernel_rfl
  have hx := x.toNat_lt
  unfold convert
  simp only [Sem.run_bind, h1, h2, Result.andThen_ok, U_def]
  show Result.ok (Value.int .u64 (IntKind.u64.wrap (x.toNat : Int))) w = _
  rw [IntKind.wrap_u64]
  congr 2
  omega
end Go.Proofs.YtcbfnbmkogeehaaDoor
