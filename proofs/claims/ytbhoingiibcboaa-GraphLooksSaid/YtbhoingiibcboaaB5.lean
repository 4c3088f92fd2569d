/- The chapter's example walked; DartEnds. -/
import Derived.Test.YtbhoingiibcboaaB4
namespace Go.Proofs.Ytbhoingiibcboaa
open Go.RowKit

set_option maxRecDepth 100000 in
theorem of_three (w : World) : Calls Try.prog 37 #[.int .u32 3, .int .i64 0] w fun e' w' => e' = .returned (.int .u32 6) ∧ w = w' := of_rv w 3 0
set_option maxRecDepth 100000 in
theorem twin_six (w : World) : Calls Try.prog 72 #[.int .u32 6] w fun e' w' => e' = .returned (.int .u32 7) ∧ w = w' := twin_rv w 6
set_option maxRecDepth 100000 in
theorem awake_walk (w : World) : Calls Try.prog 52 #[] w fun e w' => e = .returned (.bool true) ∧ Below w.heap.size w w' := by
  have H := Lib.hid (awake_ins w)
  have HB0 : Hid (Below w.heap.size w ((w.alloc (.cells #[.int .u32 2, .int .u32 5, .int .u32 7] 31)).alloc (.cells #[.int .u32 9] 31))) := ((Below.refl _ w).alloc (Nat.le_refl _) _).alloc (by simp) _
  have HZ : Hid (((w.alloc (.cells #[.int .u32 2, .int .u32 5, .int .u32 7] 31)).alloc (.cells #[.int .u32 9] 31)).heap.size = w.heap.size + 2) := by show _ = _; simp
  have H3 := of_three
  have H4 := twin_six
  go_enter Try.func52, Try.ntmps52
  go_wp2_with (first
    | (go_at_call 71; refine H.out.mono ?_; rintro e w1 ⟨x, rfl, hx, hb⟩; have HX := Lib.hid hx; have HB := Lib.hid (HB0.out.trans (Below.mono hb (Nat.le_add_right _ 2))); clear hx hb)
    | (go_at_call 15; refine (rsame_rv _ _ _ [2, 5, 9, 7] [2, 5, 9, 7] (HX.out.kept ((Below.refl _ _).alloc (Nat.le_refl _) _)) (awake_row w1)).mono ?_; rintro e w2 ⟨rfl, hb⟩; have HB2 := Lib.hid ((HB.out.alloc HB.out.size _).trans (Below.mono hb (HB.out.alloc HB.out.size _).size)); clear hb)
    | (go_at_call 37; refine (H3 _).mono ?_; rintro e w' ⟨rfl, rfl⟩)
    | (go_at_call 72; refine (H4 _).mono ?_; rintro e w' ⟨rfl, rfl⟩))
  go_ret
  exact ⟨by simp, HB2.out⟩
theorem xor_half (d : UInt32) : (d ^^^ 1) / 2 = d / 2 := by
  apply UInt32.toNat_inj.1
  rw [UInt32.toNat_div, UInt32.toNat_div, UInt32.toNat_xor]
  show (d.toNat ^^^ 1) / 2 = d.toNat / 2
  have : ∀ n : Nat, (n ^^^ 1) / 2 = n / 2 := fun n => by
    have := Nat.xor_div_two_pow (a := n) (b := 1) (n := 1)
    simpa using this
  exact this _
theorem xor_back (d : UInt32) : (d ^^^ 1) ^^^ 1 = d := by
  rw [UInt32.xor_assoc]
  simp
theorem xor_ne (d : UInt32) : ¬ (d ^^^ 1) = d := by
  intro h
  have h2 : d ^^^ (d ^^^ 1) = d ^^^ d := by rw [h]
  rw [← UInt32.xor_assoc, UInt32.xor_self, UInt32.zero_xor] at h2
  exact absurd h2 (by decide)
attribute [local irreducible] V
end Go.Proofs.Ytbhoingiibcboaa
