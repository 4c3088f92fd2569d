/- The chapter's example; Of, Edge, Twin. -/
import Derived.Test.YtbhoingiibcboaaB0
namespace Go.Proofs.Ytbhoingiibcboaa
open Go.RowKit

set_option maxRecDepth 100000 in
theorem and1 (n : Int) : bits .and .i64 n 1 = n % 2 := by
  have h127 : (BitVec.ofInt 64 1).toNat = 2 ^ 1 - 1 := by decide
  have key : (BitVec.ofInt 64 n &&& BitVec.ofInt 64 1).toNat = (n % ((2 ^ 64 : Nat) : Int)).toNat % 2 ^ 1 := by
    rw [BitVec.toNat_and, BitVec.toNat_ofInt, h127, Nat.and_two_pow_sub_one_eq_mod]
  show IntKind.i64.wrap ((BitVec.ofInt 64 n &&& BitVec.ofInt 64 1).toNat : Nat) = n % 2
  rw [key, IntKind.wrap_i64]
  omega
set_option maxRecDepth 100000 in
theorem run_mul2 (x : UInt32) (w : World) : (binOp .mul 31 (.int .u32 2) (V x)).run Try.prog w = .ok (V (2 * x)) w := by
  show Result.ok (Value.int .u32 (IntKind.u32.wrap (2 * (x.toNat : Int)))) w = _
  rw [V_def, UInt32.toNat_mul, IntKind.wrap_u32]; simp
set_option maxRecDepth 100000 in
theorem run_2mul (x : UInt32) (w : World) : (binOp .mul 31 (V x) (.int .u32 2)).run Try.prog w = .ok (V (x * 2)) w := by
  show Result.ok (Value.int .u32 (IntKind.u32.wrap ((x.toNat : Int) * 2))) w = _
  rw [V_def, UInt32.toNat_mul, IntKind.wrap_u32]; simp
set_option maxRecDepth 100000 in
theorem run_addV (x y : UInt32) (w : World) : (binOp .add 31 (V x) (V y)).run Try.prog w = .ok (V (x + y)) w := by
  show Result.ok (Value.int .u32 (IntKind.u32.wrap (x.toNat + y.toNat : Int))) w = _
  rw [V_def, UInt32.toNat_add, IntKind.wrap_u32]; simp
set_option maxRecDepth 100000 in
theorem run_add1 (x : UInt32) (w : World) : (binOp .add 31 (V x) (.int .u32 1)).run Try.prog w = .ok (V (x + 1)) w := run_addV x 1 w
set_option maxRecDepth 100000 in
theorem run_quo2 (x : UInt32) (w : World) : (binOp .quo 31 (V x) (.int .u32 2)).run Try.prog w = .ok (V (x / 2)) w := by
  have h := x.toNat_lt
  show Result.ok (Value.int .u32 (IntKind.u32.wrap ((x.toNat : Int).tdiv 2))) w = _
  rw [V_def, UInt32.toNat_div, IntKind.wrap_u32, Int.tdiv_eq_ediv_of_nonneg (by omega)]
  congr 2
  show _ = (((x.toNat / 2 : Nat)) : Int)
  omega
set_option maxRecDepth 100000 in
theorem ofInt_w (x : UInt32) : BitVec.ofInt 32 (x.toNat : Int) = x.toBitVec := by
  apply BitVec.eq_of_toNat_eq
  simp
set_option maxRecDepth 100000 in
theorem run_xor1 (x : UInt32) (w : World) : (binOp .xor 31 (V x) (.int .u32 1)).run Try.prog w = .ok (V (x ^^^ 1)) w := by
  show (Op.intBits .xor .u32 x.toNat (1 : UInt32).toNat).run Try.prog w = _
  show Result.ok (Value.int .u32 (IntKind.u32.wrap ((BitVec.ofInt 32 (x.toNat : Int) ^^^ BitVec.ofInt 32 ((1 : UInt32).toNat : Int)).toNat : Int))) w = _
  rw [ofInt_w, ofInt_w, V_def]
  have h := (x ^^^ 1).toNat_lt
  have e : (x.toBitVec ^^^ (1 : UInt32).toBitVec).toNat = (x ^^^ 1).toNat := rfl
  rw [e, IntKind.wrap_u32]
  congr 2
  omega
set_option maxRecDepth 100000 in
theorem conv37 (n : Int) (x : UInt32) (h : n = (x.toNat : Int)) (w : World) : (convert 3 31 (.int .i64 n)).run Try.prog w = .ok (V x) w := by
  subst h
  have hl := x.toNat_lt
  have e : (convert 3 31 (.int .i64 (x.toNat : Int))).run Try.prog w = .ok (.int .u32 (IntKind.u32.wrap (x.toNat : Int))) w := by
    simp [convert, run_underlying Try.underlying3, run_underlying Try.underlying31, Conv.intToInt]
  rw [e, IntKind.wrap_u32, V_def]
  congr 2
  omega
set_option maxRecDepth 100000 in
theorem ins_ex : ins [2, 5, 7] 5 [9] = [2, 5, 9, 7] := by decide
set_option maxRecDepth 100000 in
theorem RV.fresh (w : World) (l : List UInt32) (n : Nat) (hn : n = l.length) (hl : l.length ≤ 1000000) : RV (w.alloc (.cells (l.map V).toArray 31)) (.slice (some ⟨w.heap.size, 0, none⟩) n n) l :=
  ⟨_, n, by rw [hn], by omega, Rd.fresh w l hl⟩
/-- The edge's dart. -/
def par (e : Int) : UInt32 := if e % 2 = 0 then 0 else 1
set_option maxRecDepth 100000 in
theorem conv_par (e : Int) : ∀ w, (convert 3 31 (.int .i64 (bits .and .i64 e 1))).run Try.prog w = .ok (V (par e)) w := conv37 (bits .and .i64 e 1) (par e) (by
    rw [and1]
    unfold par
    split
    · rename_i h; rw [h]; rfl
    · have : e % 2 = 1 := by omega
      rw [this]; rfl)
set_option maxRecDepth 100000 in
theorem awake_ins (w : World) : Calls Try.prog 71 #[.slice (some ⟨w.heap.size, 0, none⟩) 3 3, .int .u32 5, .slice (some ⟨w.heap.size + 1, 0, none⟩) 1 1] ((w.alloc (.cells #[.int .u32 2, .int .u32 5, .int .u32 7] 31)).alloc (.cells #[.int .u32 9] 31)) fun e w' => ∃ x, e = .returned x ∧ RV w' x [2, 5, 9, 7] ∧ Below (w.heap.size + 2) ((w.alloc (.cells #[.int .u32 2, .int .u32 5, .int .u32 7] 31)).alloc (.cells #[.int .u32 9] 31)) w' := by
  have h1 : RV (w.alloc (.cells #[.int .u32 2, .int .u32 5, .int .u32 7] 31)) (.slice (some ⟨w.heap.size, 0, none⟩) 3 3) [2, 5, 7] := RV.fresh w [2, 5, 7] 3 rfl (by decide)
  have h2 : RV ((w.alloc (.cells #[.int .u32 2, .int .u32 5, .int .u32 7] 31)).alloc (.cells #[.int .u32 9] 31)) (.slice (some ⟨w.heap.size + 1, 0, none⟩) 1 1) [9] := by
    have := RV.fresh (w.alloc (.cells #[.int .u32 2, .int .u32 5, .int .u32 7] 31)) [9] 1 rfl (by decide)
    rw [show (w.alloc (.cells #[.int .u32 2, .int .u32 5, .int .u32 7] 31)).heap.size = w.heap.size + 1 by simp] at this
    exact this
  have h := insert_rv _ _ _ [2, 5, 7] [9] 5 (h1.kept ((Below.refl _ _).alloc (Nat.le_refl _) (.cells #[.int .u32 9] 31))) h2 (by decide)
  refine Calls.mono h ?_
  rintro e w' ⟨x, rfl, hx, hb⟩
  rw [ins_ex] at hx
  exact ⟨x, rfl, hx, by simpa using hb⟩
set_option maxRecDepth 100000 in
theorem awake_row (w : World) : RV (w.alloc (.cells #[.int .u32 2, .int .u32 5, .int .u32 9, .int .u32 7] 31)) (.slice (some ⟨w.heap.size, 0, none⟩) 4 4) [2, 5, 9, 7] := RV.fresh w [2, 5, 9, 7] 4 rfl (by decide)
set_option maxRecDepth 100000 in
theorem V6 : V (2 * 3 + par 0) = .int .u32 6 := by kernel_rfl
set_option maxRecDepth 100000 in
theorem V7 : V (6 ^^^ 1) = .int .u32 7 := by kernel_rfl
attribute [local irreducible] V
set_option maxRecDepth 100000 in
theorem of_rv (w : World) (id : UInt32) (e : Int) : Calls Try.prog 37 #[V id, .int .i64 e] w fun e' w' => e' = .returned (V (2 * id + par e)) ∧ w = w' := by
  have h1 := run_mul2
  have h2 := run_addV
  have h3 := conv_par e
  generalize par e = p at *
  go_enter Try.func37, Try.ntmps37
  go_wp2
  go_ret
  exact ⟨rfl, rfl⟩
set_option maxRecDepth 100000 in
theorem twin_rv (w : World) (d : UInt32) : Calls Try.prog 72 #[V d] w fun e' w' => e' = .returned (V (d ^^^ 1)) ∧ w = w' := by
  have h1 := run_xor1
  go_enter Try.func72, Try.ntmps72
  go_wp2
  go_ret
  exact ⟨rfl, rfl⟩
end Go.Proofs.Ytbhoingiibcboaa
