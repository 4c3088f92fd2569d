/- Both disks do any act. -/
import Derived.Test.YtcbfnbmkogeehaaQ9
import Derived.Test.YtcbfnbmkogeehaaK26
namespace Go.Proofs.Ytcbfnbmkogeehaa
open Go.RowKit

/-- The state behind an act. -/
def Dk.act (s : Dk) (x k : Int) (b : UInt8) (kb : List Bool) : Dk :=
  if x.tmod 5 = 1 ∨ x.tmod 5 = -1 then s.barrier
  else if x.tmod 5 = 2 ∨ x.tmod 5 = -2 then s
  else if x.tmod 5 = 3 ∨ x.tmod 5 = -3 then s.fused k
  else if x.tmod 5 = 4 ∨ x.tmod 5 = -4 then (s.settled (stay (Tl s s.waits.length) kb)).restored
  else s.write k (fillB b 512)
theorem Dk.act_done (s : Dk) (hs : 0 ≤ s.done) (x k : Int) (b : UInt8) (kb : List Bool) : (s.act x k b kb).done ≤ s.done + 1 := by
  unfold Dk.act
  split
  · exact (barrier_done s).2
  · split
    · omega
    · split
      · show s.done ≤ s.done + 1; omega
      · split
        · show s.done ≤ s.done + 1; omega
        · exact (write_done s k _).2
theorem do_walk (w : World) (g lb mb q sb lc wb : Nat) (s : Dk) (h : Two w g lb mb q sb lc wb s) (hd : s.done + 1 < 1000000000) (x k : Int) (hk1 : -9223372036854775808 ≤ k) (hk2 : k ≤ 9223372036854775807) (b : UInt8) (A : Option Addr) (n c : Nat) (kb : List Bool) (hkp : Kept w A n kb (seven g lb mb q sb lc wb)) :
    Calls Try.prog 10 #[.pointer (some ⟨g, 0, none⟩), .pointer (some ⟨q, 0, none⟩), .agg #[.int .i64 x, .int .i64 k, U b, .slice A n c]] w fun e w' => e = .returned (.bool true) ∧ Fx (seven g lb mb q sb lc wb) w w' ∧ Two w' g lb mb q sb lc wb (s.act x k b kb) := by
  have b1 := Int.tmod_lt_of_pos x (show (0 : Int) < 5 by decide)
  have b2 := Int.lt_tmod_of_pos x (show (0 : Int) < 5 by decide)
  unfold Dk.act
  by_cases h1 : x.tmod 5 = 1 ∨ x.tmod 5 = -1
  · rw [if_pos h1]
    exact do_barrier w g lb mb q sb lc wb s h hd x k b A n c _ h1 rfl
  · rw [if_neg h1]
    by_cases h2 : x.tmod 5 = 2 ∨ x.tmod 5 = -2
    · rw [if_pos h2]
      exact (do_read w g lb mb q sb lc wb s h x k b A n c _ h2 rfl).mono fun e w' ⟨he, hb⟩ => ⟨he, Fx.of_below hb, h.up hb⟩
    · rw [if_neg h2]
      by_cases h3 : x.tmod 5 = 3 ∨ x.tmod 5 = -3
      · rw [if_pos h3]
        exact do_fuse w g lb mb q sb lc wb s h x k hk1 hk2 b A n c _ h3 rfl
      · rw [if_neg h3]
        by_cases h4 : x.tmod 5 = 4 ∨ x.tmod 5 = -4
        · rw [if_pos h4]
          exact do_crash w g lb mb q sb lc wb s h x k b A n c kb hkp _ h4 rfl
        · rw [if_neg h4]
          exact do_write w g lb mb q sb lc wb s h hd x k b A n c (by omega)
end Go.Proofs.Ytcbfnbmkogeehaa
