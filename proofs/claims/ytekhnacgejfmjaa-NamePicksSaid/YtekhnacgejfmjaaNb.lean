/- nibble; files.Named. -/
import Derived.Test.YtekhnacgejfmjaaNa
namespace Go.Proofs.Ytekhnacgejfmjaa
open Go.RowKit

/-- A digit of base sixteen; 16: none. -/
def nibN (c : UInt8) : Nat := (hexV c).getD 16
theorem nib_walk (c : UInt8) (w : World) : Calls Try.prog 42 #[.int .u8 (c.toNat : Int)] w fun e w' => e = .returned (.int .u8 (nibN c : Nat)) ∧ w' = w := by
  have hc := c.toNat_lt
  by_cases h1 : 48 ≤ c.toNat ∧ c.toNat ≤ 57
  · have e : ((nibN c : Nat) : Int) = (c.toNat : Int) - 48 := by unfold nibN hexV; rw [if_pos h1]; simp; omega
    have h2 : (48 : Int) ≤ (c.toNat : Int) := by omega
    have h3 : (c.toNat : Int) ≤ 57 := by omega
    have HE := Lib.hid e
    clear e h1
    go_enter Try.func42, Try.ntmps42
    go_wp2
    go_ret
    exact ⟨by rw [HE.out]; rfl, rfl⟩
  · by_cases h4 : 97 ≤ c.toNat ∧ c.toNat ≤ 102
    · have e : ((nibN c : Nat) : Int) = (c.toNat : Int) - 97 + 10 := by unfold nibN hexV; rw [if_neg h1, if_pos h4]; simp; omega
      have h2 : (48 : Int) ≤ (c.toNat : Int) := by omega
      have h3 : ¬ (c.toNat : Int) ≤ 57 := by omega
      have h5 : (97 : Int) ≤ (c.toNat : Int) := by omega
      have h6 : (c.toNat : Int) ≤ 102 := by omega
      have HE := Lib.hid e
      clear e h1 h4
      go_enter Try.func42, Try.ntmps42
      go_wp2
      go_ret
      exact ⟨by rw [HE.out]; rfl, rfl⟩
    · have e : ((nibN c : Nat) : Int) = 16 := by unfold nibN hexV; rw [if_neg h1, if_neg h4]; rfl
      have HE := Lib.hid e
      have hcs : (c.toNat : Int) < 48 ∨ ((57 : Int) < c.toNat ∧ (c.toNat : Int) < 97) ∨ (102 : Int) < c.toNat := by omega
      clear e h1 h4
      rcases hcs with h | ⟨h, h'⟩ | h
      · have h2 : ¬ (48 : Int) ≤ (c.toNat : Int) := by omega
        have h5 : ¬ (97 : Int) ≤ (c.toNat : Int) := by omega
        go_enter Try.func42, Try.ntmps42
        go_wp2
        go_ret
        exact ⟨by rw [HE.out]; rfl, rfl⟩
      · have h2 : (48 : Int) ≤ (c.toNat : Int) := by omega
        have h3 : ¬ (c.toNat : Int) ≤ 57 := by omega
        have h5 : ¬ (97 : Int) ≤ (c.toNat : Int) := by omega
        go_enter Try.func42, Try.ntmps42
        go_wp2
        go_ret
        exact ⟨by rw [HE.out]; rfl, rfl⟩
      · have h2 : (48 : Int) ≤ (c.toNat : Int) := by omega
        have h3 : ¬ (c.toNat : Int) ≤ 57 := by omega
        have h5 : (97 : Int) ≤ (c.toNat : Int) := by omega
        have h6 : ¬ (c.toNat : Int) ≤ 102 := by omega
        go_enter Try.func42, Try.ntmps42
        go_wp2
        go_ret
        exact ⟨by rw [HE.out]; rfl, rfl⟩
/-- Named, of a text of 66 bytes that all may be. -/
theorem named_walk (s : ByteArray) (w : World) (hs : s.size = 66) (hall : ∀ j (h : j < s.size), 33 ≤ s[j].toNat ∧ s[j].toNat ≤ 126) :
    Calls Try.prog 18 #[.string s] w fun e w' => e = .returned (.bool true) ∧ Below w.heap.size w w' := by
  have HA := Lib.hid hall
  have hle : (s.size : Int) ≤ 72 := by omega
  have hge : (1 : Int) ≤ (s.size : Int) := by omega
  clear hall hs
  go_enter Try.func18, Try.ntmps18
  go_wp2_with (refine wpList_bytes _ rfl rfl s rfl ?_; intro g cap w1 hc1 hb1; have HC := Lib.hid hc1; have HB := Lib.hid hb1; clear hc1 hb1)
  go_loop [8] (fun i => ∃ k : Nat, k ≤ s.size ∧ i = .int .i64 k) (fun i => s.size - (intOf i).toNat)
  case atStart => exact ⟨0, by omega, rfl⟩
  case round =>
    obtain ⟨k, hk, rfl⟩ := hrel
    by_cases hlt : k < s.size
    · have hcell := HC.out k hlt
      obtain ⟨h1, h2⟩ := HA.out k hlt
      generalize s[k] = c at *
      have h3 : ¬ (c.toNat : Int) < 33 := by omega
      have h4 : ¬ (126 : Int) < (c.toNat : Int) := by omega
      clear h1 h2
      go_wp2
      go_round
      case rel => exact ⟨k + 1, by omega, by go_num⟩
      case measure => simp [intOf]; omega
    · obtain rfl : k = s.size := by omega
      go_wp2
      go_ret
      exact ⟨by simp, HB.out⟩
end Go.Proofs.Ytekhnacgejfmjaa
