/- The chapter's example walked; DartEnds. -/
import Derived.Test.YtekhnacgejfmjaaE4
namespace Go.Proofs.Ytekhnacgejfmjaa
open Go.RowKit

theorem of_three (w : World) : Calls Try.prog 21 #[.int .u32 3, .int .i64 0] w fun e' w' => e' = .returned (.int .u32 6) ∧ w = w' := of_rv w 3 0
theorem twin_six (w : World) : Calls Try.prog 23 #[.int .u32 6] w fun e' w' => e' = .returned (.int .u32 7) ∧ w = w' := twin_rv w 6
theorem awake_walk (w : World) : Calls Try.prog 20 #[] w fun e w' => e = .returned (.bool true) ∧ Below w.heap.size w w' := by
  have H := Lib.hid (awake_ins w)
  have HB0 : Hid (Below w.heap.size w ((w.alloc (.cells #[.int .u32 2, .int .u32 5, .int .u32 7] 37)).alloc (.cells #[.int .u32 9] 37))) := ((Below.refl _ w).alloc (Nat.le_refl _) _).alloc (by simp) _
  have HZ : Hid (((w.alloc (.cells #[.int .u32 2, .int .u32 5, .int .u32 7] 37)).alloc (.cells #[.int .u32 9] 37)).heap.size = w.heap.size + 2) := by show _ = _; simp
  have H3 := of_three
  have H4 := twin_six
  go_enter Try.func20, Try.ntmps20
  go_wp2_with (first
    | (go_at_call 31; refine H.out.mono ?_; rintro e w1 ⟨x, rfl, hx, hb⟩; have HX := Lib.hid hx; have HB := Lib.hid (HB0.out.trans (Below.mono hb (Nat.le_add_right _ 2))); clear hx hb)
    | (go_at_call 24; refine (rsame_rv _ _ _ [2, 5, 9, 7] [2, 5, 9, 7] (HX.out.kept ((Below.refl _ _).alloc (Nat.le_refl _) _)) (awake_row w1)).mono ?_; rintro e w2 ⟨rfl, hb⟩; have HB2 := Lib.hid ((HB.out.alloc HB.out.size _).trans (Below.mono hb (HB.out.alloc HB.out.size _).size)); clear hb)
    | (go_at_call 21; refine (H3 _).mono ?_; rintro e w' ⟨rfl, rfl⟩)
    | (go_at_call 23; refine (H4 _).mono ?_; rintro e w' ⟨rfl, rfl⟩))
  go_ret
  exact ⟨by simp, HB2.out⟩
theorem tm0 (e : Int) (h : e % 2 = 0) : e.tmod 2 = 0 := Int.tmod_eq_zero_of_dvd (Int.dvd_of_emod_eq_zero h)
theorem tm1 (e : Int) (h : ¬ e % 2 = 0) : ¬ e.tmod 2 = 0 := fun h2 => h (Int.emod_eq_zero_of_dvd (Int.dvd_of_tmod_eq_zero h2))
theorem xor_half (d : UInt32) : (d ^^^ 1) / 2 = d / 2 := by
  apply UInt32.toNat_inj.1
  rw [UInt32.toNat_div, UInt32.toNat_div, UInt32.toNat_xor]
  show (d.toNat ^^^ 1) / 2 = d.toNat / 2
  have : ∀ n : Nat, (n ^^^ 1) / 2 = n / 2 := fun n => by
    have := Nat.xor_div_two_pow (a := n) (b := 1) (n := 1)
    simpa using this
  exact this _
theorem xor_back (d : UInt32) : (d ^^^ 1) ^^^ 1 = d := by
  rw [UInt32.xor_assoc]
  simp
theorem xor_ne (d : UInt32) : ¬ (d ^^^ 1) = d := by
  intro h
  have h2 : d ^^^ (d ^^^ 1) = d ^^^ d := by rw [h]
  rw [← UInt32.xor_assoc, UInt32.xor_self, UInt32.zero_xor] at h2
  exact absurd h2 (by decide)
theorem dart_half (id p : UInt32) (h : ¬ (2147483647 : UInt32) < id) (hp : p = 0 ∨ p = 1) : (2 * id + p) / 2 = id := by
  rw [UInt32.lt_iff_toNat_lt] at h
  have h1 : id.toNat ≤ 2147483647 := Nat.le_of_not_lt h
  apply UInt32.toNat_inj.1
  rw [UInt32.toNat_div, UInt32.toNat_add, UInt32.toNat_mul]
  rcases hp with rfl | rfl
  · show ((2 * id.toNat % 2 ^ 32 + 0) % 2 ^ 32) / 2 = id.toNat
    omega
  · show ((2 * id.toNat % 2 ^ 32 + 1) % 2 ^ 32) / 2 = id.toNat
    omega
theorem run_gtr (id : UInt32) (w : World) : (binOp .gtr 37 (V id) (.int .u32 2147483647)).run Try.prog w = .ok (.bool (decide ((2147483647 : UInt32) < id))) w := by
  have h : (binOp .gtr 37 (V id) (.int .u32 2147483647)).run Try.prog w = .ok (.bool (decide ((2147483647 : Int) < (id.toNat : Int)))) w := rfl
  rw [h]
  congr 2
  rw [Bool.eq_iff_iff]
  simp only [decide_eq_true_eq, UInt32.lt_iff_toNat_lt]
  show _ ↔ 2147483647 < id.toNat
  omega
attribute [local irreducible] V
set_option maxHeartbeats 1000000 in
theorem ends_walk (w : World) (id d : UInt32) (e : Int) : Calls Try.prog 7 #[V id, V d, .int .i64 e] w fun e' w' => e' = .returned (.bool true) ∧ Below w.heap.size w w' := by
  have g := run_guard
  have r1 := run_2mul id
  have r2 := run_add1 (id * 2)
  have r3 := run_quo2
  have e2 := eqT (beq_self_eq_true (d / 2))
  have e3 := eqT (x := (d ^^^ 1) ^^^ 1) (y := d) (by rw [xor_back]; simp)
  have e4 := neT (xor_ne d)
  have e5 := eqT (x := (d ^^^ 1) / 2) (y := d / 2) (by rw [xor_half]; simp)
  have hp : par e = 0 ∨ par e = 1 := by unfold par; split <;> simp
  by_cases hid : (2147483647 : UInt32) < id
  · have r4 := run_gtr id
    rw [decide_eq_true hid] at r4
    by_cases hpar : e % 2 = 0
    · skip
      have e1 := eqT (x := 2 * id + par e) (y := id * 2) (by unfold par; rw [if_pos hpar, UInt32.mul_comm]; simp)
      have t1 : (e.tmod 2 != 0) = false := by simp [tm0 e hpar]
      clear hpar hid hp
      go_enter Try.func7, Try.ntmps7
      go_wp2_with (first
        | (go_at_call 20; refine (awake_walk w).mono ?_; rintro e w1 ⟨rfl, hb⟩; have HB := Lib.hid hb; clear hb)
        | (go_at_call 21; refine (of_rv _ id _).mono ?_; rintro e w' ⟨rfl, rfl⟩)
        | (go_at_call 22; refine (edge_rv _ _).mono ?_; rintro e w' ⟨rfl, rfl⟩)
        | (go_at_call 23; refine (twin_rv _ _).mono ?_; rintro e w' ⟨rfl, rfl⟩))
      go_ret
      exact ⟨rfl, HB.out⟩
    · skip
      have e1 := eqT (x := 2 * id + par e) (y := id * 2 + 1) (by unfold par; rw [if_neg hpar, UInt32.mul_comm]; simp)
      have t1 : (e.tmod 2 != 0) = true := by simp [tm1 e hpar]
      clear hpar hid hp
      go_enter Try.func7, Try.ntmps7
      go_wp2_with (first
        | (go_at_call 20; refine (awake_walk w).mono ?_; rintro e w1 ⟨rfl, hb⟩; have HB := Lib.hid hb; clear hb)
        | (go_at_call 21; refine (of_rv _ id _).mono ?_; rintro e w' ⟨rfl, rfl⟩)
        | (go_at_call 22; refine (edge_rv _ _).mono ?_; rintro e w' ⟨rfl, rfl⟩)
        | (go_at_call 23; refine (twin_rv _ _).mono ?_; rintro e w' ⟨rfl, rfl⟩))
      go_ret
      exact ⟨rfl, HB.out⟩
  · have r4 := run_gtr id
    rw [decide_eq_false hid] at r4
    have e6 := eqT (x := (2 * id + par e) / 2) (y := id) (by rw [dart_half id (par e) hid hp]; simp)
    by_cases hpar : e % 2 = 0
    · skip
      have e1 := eqT (x := 2 * id + par e) (y := id * 2) (by unfold par; rw [if_pos hpar, UInt32.mul_comm]; simp)
      have t1 : (e.tmod 2 != 0) = false := by simp [tm0 e hpar]
      clear hpar hid hp
      go_enter Try.func7, Try.ntmps7
      go_wp2_with (first
        | (go_at_call 20; refine (awake_walk w).mono ?_; rintro e w1 ⟨rfl, hb⟩; have HB := Lib.hid hb; clear hb)
        | (go_at_call 21; refine (of_rv _ id _).mono ?_; rintro e w' ⟨rfl, rfl⟩)
        | (go_at_call 22; refine (edge_rv _ _).mono ?_; rintro e w' ⟨rfl, rfl⟩)
        | (go_at_call 23; refine (twin_rv _ _).mono ?_; rintro e w' ⟨rfl, rfl⟩))
      go_ret
      exact ⟨rfl, HB.out⟩
    · skip
      have e1 := eqT (x := 2 * id + par e) (y := id * 2 + 1) (by unfold par; rw [if_neg hpar, UInt32.mul_comm]; simp)
      have t1 : (e.tmod 2 != 0) = true := by simp [tm1 e hpar]
      clear hpar hid hp
      go_enter Try.func7, Try.ntmps7
      go_wp2_with (first
        | (go_at_call 20; refine (awake_walk w).mono ?_; rintro e w1 ⟨rfl, hb⟩; have HB := Lib.hid hb; clear hb)
        | (go_at_call 21; refine (of_rv _ id _).mono ?_; rintro e w' ⟨rfl, rfl⟩)
        | (go_at_call 22; refine (edge_rv _ _).mono ?_; rintro e w' ⟨rfl, rfl⟩)
        | (go_at_call 23; refine (twin_rv _ _).mono ?_; rintro e w' ⟨rfl, rfl⟩))
      go_ret
      exact ⟨rfl, HB.out⟩
end Go.Proofs.Ytekhnacgejfmjaa
