/- The small methods, and all methods of a disk that is none. -/
import Derived.Test.YtcbfnbmkogeehaaK7
namespace Go.Proofs.Ytcbfnbmkogeehaa
open Go.RowKit
theorem fuse_nil (w : World) (k : Int) : Calls Try.prog 20 #[.pointer none, .int .i64 k] w fun e w' => e = .returned (.tuple #[]) ∧ w' = w := by
  go_enter Try.func20, Try.ntmps20
  go_wp2
  go_end0
  exact ⟨rfl, rfl⟩
theorem down_nil (w : World) : Calls Try.prog 11 #[.pointer none] w fun e w' => e = .returned (.bool false) ∧ w' = w := by
  go_enter Try.func11, Try.ntmps11
  go_wp2
  go_ret
  exact ⟨rfl, rfl⟩
theorem steps_nil (w : World) : Calls Try.prog 12 #[.pointer none] w fun e w' => e = .returned (.int .i64 0) ∧ w' = w := by
  go_enter Try.func12, Try.ntmps12
  go_wp2
  go_ret
  exact ⟨rfl, rfl⟩
theorem sectors_nil (w : World) : Calls Try.prog 21 #[.pointer none] w fun e w' => e = .returned (.int .i64 0) ∧ w' = w := by
  go_enter Try.func21, Try.ntmps21
  go_wp2
  go_ret
  exact ⟨rfl, rfl⟩
theorem waits_nil (w : World) : Calls Try.prog 17 #[.pointer none] w fun e w' => e = .returned (.slice none 0 0) ∧ w' = w := by
  go_enter Try.func17, Try.ntmps17
  go_wp2
  go_ret
  exact ⟨rfl, rfl⟩
theorem crash_nil (w : World) (q : Option Addr) (n c : Nat) : Calls Try.prog 18 #[.pointer none, .slice q n c] w fun e w' => e = .returned (.tuple #[]) ∧ w' = w := by
  go_enter Try.func18, Try.ntmps18
  go_wp2
  refine bodyPost_ret (results_none rfl _ _ _) rfl ?_
  exact ⟨rfl, rfl⟩
theorem barrier_nil (w : World) : Calls Try.prog 15 #[.pointer none] w fun e w' => e = .returned (.int .i64 1) ∧ w' = w := by
  go_enter Try.func15, Try.ntmps15
  go_wp2
  go_ret
  exact ⟨rfl, rfl⟩
/-- Write, where there is an error ahead of the step. -/
theorem write_bad (w : World) (e0 : Int) (hne : e0 ≠ 0) (p : Value) (k : Int) (b : List UInt8) (hr : ∀ W : World, Below w.heap.size w W → Calls Try.prog 30 #[p, .int .i64 k] W fun e w' => e = .returned (.int .i64 e0) ∧ w' = W) :
    Calls Try.prog 14 #[p, .int .i64 k, B b] w fun e w' => e = .returned (.int .i64 e0) ∧ Below w.heap.size w w' := by
  have ht : (e0 != 0) = true := by simpa using hne
  have hr1 := hr _ ((Below.refl _ w).alloc (Nat.le_refl _) (.cells (b.map U).toArray 43))
  clear hr
  unfold B
  go_enter Try.func14, Try.ntmps14
  go_wp2_with (go_at_call 30; refine hr1.mono ?_; rintro e w' ⟨rfl, rfl⟩)
  go_ret
  exact ⟨rfl, (Below.refl _ w).alloc (Nat.le_refl _) _⟩
theorem write_nil (w : World) (k : Int) (b : List UInt8) : Calls Try.prog 14 #[.pointer none, .int .i64 k, B b] w fun e w' => e = .returned (.int .i64 1) ∧ Below w.heap.size w w' :=
  write_bad w 1 (by decide) _ k b fun W _ => reach_nil W k
/-- The same meter, turned back on. -/
def Dk.restored (s : Dk) : Dk := { s with fuse := -1, down := false }
theorem restore_walk (w : World) (g lb mb : Nat) (s : Dk) (hb : Blk w g 62 (Cs s lb mb)) :
    Calls Try.prog 35 #[.pointer (some ⟨g, 0, none⟩)] w fun e w' => e = .returned (.tuple #[]) ∧ Ex g w w' ∧ w'.heap.size = w.heap.size ∧ Blk w' g 62 (Cs s.restored lb mb) := by
  have h0 : w.cell? ⟨g, 0, none⟩ = some (.int .i64 s.fuse) := hb.cell 0
  have h2 : w.cell? ⟨g, 2, none⟩ = some (.bool s.down) := hb.cell 2
  have f0 := hb.thaw 0
  have f2 := hb.thaw 2
  have HB := Lib.hid hb
  clear hb
  go_enter Try.func35, Try.ntmps35
  go_wp2
  go_end0
  exact ⟨rfl, (Ex.setCell _ _ _ _).trans (Ex.setCell _ _ _ _), by simp [World.setCell], (HB.out.put 0 _).put 2 _⟩
end Go.Proofs.Ytcbfnbmkogeehaa
