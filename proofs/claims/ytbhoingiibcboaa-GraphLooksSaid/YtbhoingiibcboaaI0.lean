/- cmp.Compare; a row that rises is left as it is by the stable sort and by CompactFunc. -/
import Derived.Test.YtbhoingiibcboaaG8
import Derived.Deep.QuietTactic
import Derived.BigQuiet
namespace Go.Proofs.Ytbhoingiibcboaa
open Go.RowKit

theorem gtT {x y : UInt32} (h : y < x) (w : World) : (binOp .gtr 31 (V x) (V y)).run Try.prog w = .ok (.bool true) w := by rw [run_gtr]; simp [h]
theorem gtF {x y : UInt32} (h : ¬ y < x) (w : World) : (binOp .gtr 31 (V x) (V y)).run Try.prog w = .ok (.bool false) w := by rw [run_gtr]; simp [h]
/-- How two numbers compare. -/
def cmpv (x y : UInt32) : Int := if x < y then -1 else if y < x then 1 else 0
attribute [local irreducible] V
set_option maxRecDepth 100000 in
theorem cmp_walk (w : World) (x y : UInt32) : Calls Try.prog 36 #[V x, V y] w fun e w' => e = .returned (.int .i64 (cmpv x y)) ∧ w = w' := by
  unfold cmpv
  by_cases h1 : x < y
  · rw [if_pos h1]
    have r1 := ltT h1
    clear h1
    go_enter Try.func36, Try.ntmps36
    go_wp2_with (go_at_call 55; refine (nan_walk _ _).mono ?_; rintro e w' ⟨rfl, rfl⟩)
    go_ret
    exact ⟨rfl, rfl⟩
  · rw [if_neg h1]
    have r1 := ltF h1
    by_cases h2 : y < x
    · rw [if_pos h2]
      have r2 := gtT h2
      clear h1 h2
      go_enter Try.func36, Try.ntmps36
      go_wp2_with (go_at_call 55; refine (nan_walk _ _).mono ?_; rintro e w' ⟨rfl, rfl⟩)
      go_ret
      exact ⟨rfl, rfl⟩
    · rw [if_neg h2]
      have r2 := gtF h2
      clear h1 h2
      go_enter Try.func36, Try.ntmps36
      go_wp2_with (go_at_call 55; refine (nan_walk _ _).mono ?_; rintro e w' ⟨rfl, rfl⟩)
      go_ret
      exact ⟨rfl, rfl⟩
theorem cmpv_gt {x y : UInt32} (h : y < x) : cmpv x y = 1 := by
  unfold cmpv
  rw [if_neg (fun q => by rw [UInt32.lt_iff_toNat_lt] at *; omega), if_pos h]
set_option maxRecDepth 100000 in
theorem id_walk (w : World) (x : UInt32) : Calls Try.prog 49 #[V x] w fun e w' => e = .returned (V x) ∧ w = w' := by
  go_enter Try.func49, Try.ntmps49
  go_wp2
  go_ret
  exact ⟨rfl, rfl⟩
def Gt1 (w : World) (x y : UInt32) (e : Ending) (w' : World) : Prop := e = .returned (.int .i64 (cmpv x y)) ∧ ∃ n, w' = w.drewN n
attribute [local irreducible] wpList in
set_option maxRecDepth 100000 in
set_option maxHeartbeats 1000000 in
theorem clo1_walk (w : World) (pb : Nat) (x y : UInt32) (hp : w.cell? ⟨pb, 0, none⟩ = some (.func (.func 49) #[] #[])) :
    Calls Try.prog 64 #[V x, V y, .pointer (some ⟨pb, 0, none⟩)] w (Gt1 w x y) := by
  have hc := fun W => cmp_walk W x y
  have HC := Lib.hid hc
  clear hc
  generalize hq : cmpv x y = q at HC
  have HQ := Lib.hid hq
  clear hq
  go_enter Try.func64, Try.ntmps64
  go_wp2
  go_quiet ((first | (go_at_call 49; exact Calls.quiet_of_same ((id_walk _ _).mono fun _ _ h => ⟨h.1, h.2.symm⟩)) | (go_at_call 36; exact Calls.quiet_of_same ((HC.out _).mono fun _ _ h => ⟨h.1, h.2.symm⟩))))
  go_wp2
  go_ret
  exact ⟨by rw [HQ.out]; rfl, _, rfl⟩
end Go.Proofs.Ytbhoingiibcboaa
