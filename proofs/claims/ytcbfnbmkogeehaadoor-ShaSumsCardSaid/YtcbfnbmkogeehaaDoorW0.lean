import Derived.Test.YtcbfnbmkogeehaaDoorRows
import Derived.WalkKit
import Derived.WalkSpells
import Derived.WalkLawsBesides
import Derived.Lib.Hide
namespace Go.Proofs.YtcbfnbmkogeehaaDoor
open Go.RowKit

/-- A word of 32 bits as a value. -/
def W (x : UInt32) : Value := .int .u32 (x.toNat : Int)

theorem W_def (x : UInt32) : W x = .int .u32 (x.toNat : Int) := rfl
theorem ofInt_w (x : UInt32) : BitVec.ofInt 32 (x.toNat : Int) = x.toBitVec := by
  apply BitVec.eq_of_toNat_eq
  simp
theorem wrap_u32_nat (n : Nat) (h : n < 4294967296) : IntKind.u32.wrap (n : Int) = n := by rw [IntKind.wrap_u32]; omega

theorem run_add (t : TypeId) (x y : UInt32) (w : World) : (binOp .add t (W x) (W y)).run Tryd.prog w = .ok (W (x + y)) w := by
  show Result.ok (Value.int .u32 (IntKind.u32.wrap (x.toNat + y.toNat : Int))) w = _
  rw [W_def, UInt32.toNat_add, IntKind.wrap_u32]; simp
theorem run_bits (o : BinOp) (r : BitVec 32) (x y z : UInt32) (w : World) (ho : Op.intBits o .u32 x.toNat y.toNat = pure (.int .u32 (IntKind.u32.wrap r.toNat))) (hz : z.toBitVec = r) :
    (Op.intBits o .u32 x.toNat y.toNat).run Tryd.prog w = .ok (W z) w := by
  rw [ho, W_def, ← hz]
  show Result.ok (Value.int .u32 (IntKind.u32.wrap (z.toNat : Int))) w = _
  rw [wrap_u32_nat _ z.toNat_lt]
theorem run_and (t : TypeId) (x y : UInt32) (w : World) : (binOp .and t (W x) (W y)).run Tryd.prog w = .ok (W (x &&& y)) w :=
  run_bits .and _ x y _ w rfl (by show (x &&& y).toBitVec = BitVec.ofInt 32 x.toNat &&& BitVec.ofInt 32 y.toNat; rw [ofInt_w, ofInt_w]; rfl)
theorem run_or (t : TypeId) (x y : UInt32) (w : World) : (binOp .or t (W x) (W y)).run Tryd.prog w = .ok (W (x ||| y)) w :=
  run_bits .or _ x y _ w rfl (by show (x ||| y).toBitVec = BitVec.ofInt 32 x.toNat ||| BitVec.ofInt 32 y.toNat; rw [ofInt_w, ofInt_w]; rfl)
theorem run_xor (t : TypeId) (x y : UInt32) (w : World) : (binOp .xor t (W x) (W y)).run Tryd.prog w = .ok (W (x ^^^ y)) w :=
  run_bits .xor _ x y _ w rfl (by show (x ^^^ y).toBitVec = BitVec.ofInt 32 x.toNat ^^^ BitVec.ofInt 32 y.toNat; rw [ofInt_w, ofInt_w]; rfl)
theorem run_not (x : UInt32) (w : World) : (Op.unary .xor (W x)).run Tryd.prog w = .ok (W (~~~x)) w := by
  show (Op.intBits .xor .u32 (4294967295 : UInt32).toNat x.toNat).run Tryd.prog w = _
  rw [show ~~~x = 4294967295 ^^^ x from by apply UInt32.eq_of_toBitVec_eq; simp [BitVec.not_def]]
  exact run_xor 0 4294967295 x w
theorem run_shl (t : TypeId) (x : UInt32) (s : Nat) (hs : s < 32) (w : World) : (binOp .shl t (W x) (.int .u64 (s : Int))).run Tryd.prog w = .ok (W (x <<< UInt32.ofNat s)) w := by
  have h0 : ¬ ((s : Int) < 0) := by omega
  have hm : min (s : Int).toNat IntKind.u32.bits = s := by show min (s : Int).toNat 32 = s; omega
  show (Op.shift .shl .u32 (x.toNat : Int) .u64 (s : Int)).run Tryd.prog w = _
  unfold Op.shift
  rw [if_neg h0]
  simp only [hm]
  show Result.ok (Value.int .u32 (IntKind.u32.wrap ((x.toNat : Int) * 2 ^ s))) w = _
  have e : (x.toNat : Int) * 2 ^ s = ((x.toNat * 2 ^ s : Nat) : Int) := by simp
  rw [W_def, IntKind.wrap_u32, e, UInt32.toNat_shiftLeft, show (UInt32.ofNat s).toNat = s % 2 ^ 32 from rfl, Nat.mod_eq_of_lt (show s < 2 ^ 32 by omega), Nat.mod_eq_of_lt hs, Nat.shiftLeft_eq]
  simp
theorem run_shr (t : TypeId) (x : UInt32) (s : Nat) (hs : s < 32) (w : World) : (binOp .shr t (W x) (.int .u64 (s : Int))).run Tryd.prog w = .ok (W (x >>> UInt32.ofNat s)) w := by
  have h0 : ¬ ((s : Int) < 0) := by omega
  have hm : min (s : Int).toNat IntKind.u32.bits = s := by show min (s : Int).toNat 32 = s; omega
  show (Op.shift .shr .u32 (x.toNat : Int) .u64 (s : Int)).run Tryd.prog w = _
  unfold Op.shift
  rw [if_neg h0]
  simp only [hm]
  show Result.ok (Value.int .u32 ((x.toNat : Int).fdiv (2 ^ s))) w = _
  have e : (x.toNat : Int).fdiv (2 ^ s) = ((x.toNat / 2 ^ s : Nat) : Int) := by
    rw [Int.fdiv_eq_ediv_of_nonneg _ (by exact Int.le_of_lt (Int.pow_pos (by decide)))]; simp
  rw [W_def, e, UInt32.toNat_shiftRight, show (UInt32.ofNat s).toNat = s % 2 ^ 32 from rfl, Nat.mod_eq_of_lt (show s < 2 ^ 32 by omega), Nat.mod_eq_of_lt hs, Nat.shiftRight_eq_div_pow]

/-- 'n' places to the right, round. -/
def rotr (x : UInt32) (n : Nat) : UInt32 := (x <<< UInt32.ofNat (32 - n)) ||| (x >>> UInt32.ofNat n)

set_option maxHeartbeats 400000 in
theorem rot_one (x : UInt32) (k : Int) (n m : Nat) (hm : m = 32 - n) (hn0 : 0 < n) (hn : n < 32) (hk : bits .and .u64 (IntKind.u64.wrap k) 31 = (m : Int)) (w : World) :
    Calls Tryd.prog 39 #[W x, .int .i64 k] w fun e w' => e = .returned (W (rotr x n)) ∧ w' = w := by
  have h1 := run_or
  have h2 := run_shl 52 x m (by omega)
  have h3 := run_shr 52 x n (by omega)
  have h4 : IntKind.u64.wrap (32 - (m : Int)) = n := by rw [IntKind.wrap_u64]; omega
  have H := Lib.hid hm
  clear hm hn0 hn
  go_enter Tryd.func39, Tryd.ntmps39
  go_wp2
  go_ret
  refine ⟨?_, rfl⟩
  unfold rotr
  rw [← H.out]
  rfl
/-- By how many places it goes round: -k. -/
def rotN (k : Int) : Nat := (-k).toNat
theorem rot_any (x : UInt32) (k : Int) (hk : k ∈ [(-2 : Int), -6, -7, -11, -13, -17, -18, -19, -22, -25]) (w : World) :
    Calls Tryd.prog 39 #[W x, .int .i64 k] w fun e w' => e = .returned (W (rotr x (rotN k))) ∧ w' = w := by
  have h1 : ∀ n m : Nat, k = -(n : Int) → m = 32 - n → 0 < n → n < 32 → bits .and .u64 (IntKind.u64.wrap k) 31 = (m : Int) → Calls Tryd.prog 39 #[W x, .int .i64 k] w fun e w' => e = .returned (W (rotr x (rotN k))) ∧ w' = w := by
    intro n m e1 e2 e3 e4 e5
    have := rot_one x k n m e2 e3 e4 e5 w
    rwa [show rotN k = n by unfold rotN; omega]
  simp only [List.mem_cons, List.not_mem_nil, or_false] at hk
  rcases hk with rfl | rfl | rfl | rfl | rfl | rfl | rfl | rfl | rfl | rfl
  · exact h1 2 30 rfl rfl (by decide) (by decide) (by kernel_rfl)
  · exact h1 6 26 rfl rfl (by decide) (by decide) (by kernel_rfl)
  · exact h1 7 25 rfl rfl (by decide) (by decide) (by kernel_rfl)
  · exact h1 11 21 rfl rfl (by decide) (by decide) (by kernel_rfl)
  · exact h1 13 19 rfl rfl (by decide) (by decide) (by kernel_rfl)
  · exact h1 17 15 rfl rfl (by decide) (by decide) (by kernel_rfl)
  · exact h1 18 14 rfl rfl (by decide) (by decide) (by kernel_rfl)
  · exact h1 19 13 rfl rfl (by decide) (by decide) (by kernel_rfl)
  · exact h1 22 10 rfl rfl (by decide) (by decide) (by kernel_rfl)
  · exact h1 25 7 rfl rfl (by decide) (by decide) (by kernel_rfl)
end Go.Proofs.YtcbfnbmkogeehaaDoor
