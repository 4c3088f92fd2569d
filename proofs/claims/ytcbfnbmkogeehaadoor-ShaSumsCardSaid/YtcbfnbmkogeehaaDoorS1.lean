/- The document's turns to the right, and its table. -/
import Derived.Test.YtcbfnbmkogeehaaDoorS0
namespace Go.Proofs.YtcbfnbmkogeehaaDoor
open Go.RowKit

theorem rotr_one (x : UInt32) (n : Nat) (h0 : 0 < n) (hn : n < 32) (w : World) : Calls Tryd.prog 22 #[W x, .int .i64 (n : Int)] w fun e w' => e = .returned (W (rotr x n)) ∧ ∃ N, w' = w.drewN N := by
  have h1 := run_or
  have h2 := run_shr_i 52 x n hn
  have h3 : ∀ w, (binOp .shl 52 (W x) (.int .i64 (32 - (n : Int)))).run Tryd.prog w = .ok (W (x <<< UInt32.ofNat (32 - n))) w := by
    intro w
    have h := run_shl 52 x (32 - n) (by omega) w
    rw [show ((32 - n : Nat) : Int) = 32 - (n : Int) by omega] at h
    exact h
  have h4 : IntKind.i64.wrap (32 - (n : Int)) = 32 - (n : Int) := by rw [IntWalk.i64_in]; omega
  go_enter Tryd.func22, Tryd.ntmps22
  go_wp2
  go_quiet (fail)
  go_wp2
  go_ret
  refine ⟨?_, nq, rfl⟩
  show Ending.returned (W (x >>> UInt32.ofNat n ||| x <<< UInt32.ofNat (32 - n))) = _
  rw [UInt32.or_comm]
  rfl
set_option maxRecDepth 100000 in
theorem k_walk (w : World) : Calls Tryd.prog 21 #[] w fun e w' => e = .returned (.slice (some ⟨w.heap.size, 0, none⟩) 64 64) ∧ Below w.heap.size w w' ∧ Blk w' w.heap.size 52 (kt.map W).toArray := by
  go_enter Tryd.func21, Tryd.ntmps21
  go_wp2
  go_ret
  refine ⟨rfl, ?_, ?_⟩
  · exact (Below.refl _ w).alloc (Nat.le_refl _) _
  · have h := Blk.fresh w 52 (kt.map W).toArray
    exact h
end Go.Proofs.YtcbfnbmkogeehaaDoor
