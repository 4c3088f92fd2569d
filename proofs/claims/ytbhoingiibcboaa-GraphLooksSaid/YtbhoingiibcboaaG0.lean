/- Numbers of 32 bits compared; slices.BinarySearch. -/
import Derived.Test.YtbhoingiibcboaaA7
import Derived.Deep.LoopGhost
import Derived.Lib.Walk
namespace Go.Proofs.Ytbhoingiibcboaa
open Go.RowKit

theorem run_gtr (t : TypeId) (x y : UInt32) (w : World) : (binOp .gtr t (V x) (V y)).run Try.prog w = .ok (.bool (decide (y < x))) w := by
  have h : (binOp .gtr t (V x) (V y)).run Try.prog w = .ok (.bool (decide ((y.toNat : Int) < (x.toNat : Int)))) w := rfl
  rw [h]
  congr 2
  rw [Bool.eq_iff_iff]
  simp [UInt32.lt_iff_toNat_lt]
theorem run_leq (t : TypeId) (x y : UInt32) (w : World) : (binOp .leq t (V x) (V y)).run Try.prog w = .ok (.bool (decide (x ≤ y))) w := by
  have h : (binOp .leq t (V x) (V y)).run Try.prog w = .ok (.bool (decide ((x.toNat : Int) ≤ (y.toNat : Int)))) w := rfl
  rw [h]
  congr 2
  rw [Bool.eq_iff_iff]
  simp [UInt32.le_iff_toNat_le]
theorem Vc (n : Nat) (h : n < 4294967296) : Value.int .u32 (n : Int) = V (UInt32.ofNat n) := by
  rw [V_def]; congr 1
  have : (UInt32.ofNat n).toNat = n := by show n % 4294967296 = _; omega
  rw [this]
/-- How many are less. -/
def ct (l : List UInt32) (x : UInt32) : Nat := l.countP (fun y => decide (y < x))
theorem ct_le (l : List UInt32) (x : UInt32) : ct l x ≤ l.length := List.countP_le_length
def Up2 (l : List UInt32) : Prop := ∀ a b, a ≤ b → b < l.length → l.getD a 0 ≤ l.getD b 0
theorem u32_le_of_not {x y : UInt32} (h : ¬ x < y) : y ≤ x := by
  rw [UInt32.le_iff_toNat_le]; rw [UInt32.lt_iff_toNat_lt] at h; omega
theorem u32_lt_le {x y z : UInt32} (h : x < y) (h2 : y ≤ z) : x < z := by
  rw [UInt32.lt_iff_toNat_lt] at *; rw [UInt32.le_iff_toNat_le] at h2; omega
theorem u32_le_lt {x y z : UInt32} (h : x ≤ y) (h2 : y < z) : x < z := by
  rw [UInt32.lt_iff_toNat_lt] at *; rw [UInt32.le_iff_toNat_le] at h; omega
theorem u32_not_lt {x y : UInt32} (h : y ≤ x) : ¬ x < y := by
  rw [UInt32.lt_iff_toNat_lt]; rw [UInt32.le_iff_toNat_le] at h; omega
theorem u32_lt_ne {x y : UInt32} (h : x < y) : ¬ x = y := by
  rintro rfl; rw [UInt32.lt_iff_toNat_lt] at h; omega
theorem getD_mem {l : List UInt32} {i : Nat} (h : i < l.length) : l.getD i 0 ∈ l := by
  rw [← getD_at h]; exact List.getElem_mem h
/-- What stands at the place where less and not less meet. -/
theorem ct_at (l : List UInt32) (x : UInt32) (k : Nat) (hk : k ≤ l.length) (h1 : ∀ t, t < k → l.getD t 0 < x) (h2 : ∀ t, k ≤ t → t < l.length → x ≤ l.getD t 0) : ct l x = k := by
  unfold ct
  rw [← List.take_append_drop k l, List.countP_append]
  have a : (l.take k).countP (fun y => decide (y < x)) = k := by
    have : (l.take k).countP (fun y => decide (y < x)) = (l.take k).length := by
      rw [List.countP_eq_length]
      intro y hy
      obtain ⟨i, hi, rfl⟩ := List.getElem_of_mem hy
      rw [List.length_take] at hi
      rw [List.getElem_take, getD_at (by omega : i < l.length)]
      simpa using h1 i (by omega)
    rw [this, List.length_take]; omega
  have b : (l.drop k).countP (fun y => decide (y < x)) = 0 := by
    rw [List.countP_eq_zero]
    intro y hy
    obtain ⟨i, hi, rfl⟩ := List.getElem_of_mem hy
    rw [List.length_drop] at hi
    rw [List.getElem_drop, getD_at (by omega : k + i < l.length)]
    simpa using u32_not_lt (h2 (k + i) (by omega) (by omega))
  omega
theorem mem_at (l : List UInt32) (x : UInt32) (k : Nat) (h1 : ∀ t, t < k → l.getD t 0 < x) : (x ∈ l) ↔ k < l.length ∧ l.getD k 0 = x ∨ (∃ t, k < t ∧ t < l.length ∧ l.getD t 0 = x) := by
  constructor
  · intro h
    obtain ⟨i, hi, rfl⟩ := List.getElem_of_mem h
    rcases Nat.lt_trichotomy i k with h3 | h3 | h3
    · have := h1 i h3
      rw [← getD_at hi] at this
      exact absurd rfl (u32_lt_ne this)
    · subst h3; exact .inl ⟨hi, (getD_at hi).symm⟩
    · exact .inr ⟨i, h3, hi, (getD_at hi).symm⟩
  · rintro (⟨h, rfl⟩ | ⟨t, _, h, rfl⟩)
    · exact getD_mem h
    · exact getD_mem h
theorem found_at (l : List UInt32) (x : UInt32) (k : Nat) (h1 : ∀ t, t < k → l.getD t 0 < x) (h2 : ∀ t, k ≤ t → t < l.length → x ≤ l.getD t 0) (hs : Up2 l) : decide (x ∈ l) = decide (k < l.length ∧ l.getD k 0 = x) := by
  apply decide_eq_decide.2
  rw [mem_at l x k h1]
  constructor
  · rintro (h | ⟨t, h3, h4, h5⟩)
    · exact h
    · have a := hs k t (by omega) h4
      have b := h2 k (Nat.le_refl _) (by omega)
      refine ⟨by omega, ?_⟩
      rw [h5] at a
      exact UInt32.le_antisymm a b
  · exact .inl
attribute [local irreducible] V
set_option maxRecDepth 100000 in
theorem nan_walk (w : World) (x : UInt32) : Calls Try.prog 55 #[V x] w fun e w' => e = .returned (.bool false) ∧ w = w' := by
  have g := run_guard
  have e := neF (rfl : x = x)
  go_enter Try.func55, Try.ntmps55
  go_wp2
  go_ret
  exact ⟨rfl, rfl⟩
set_option maxRecDepth 100000 in
theorem nan2_walk (w : World) (x : UInt32) : Calls Try.prog 54 #[V x] w fun e w' => e = .returned (.bool false) ∧ w = w' := by
  have g := run_guard
  have e := neF (rfl : x = x)
  go_enter Try.func54, Try.ntmps54
  go_wp2
  go_ret
  exact ⟨rfl, rfl⟩
set_option maxRecDepth 100000 in
theorem less_walk (w : World) (x y : UInt32) : Calls Try.prog 53 #[V x, V y] w fun e w' => e = .returned (.bool (decide (x < y))) ∧ w = w' := by
  have h := run_lss
  go_enter Try.func53, Try.ntmps53
  go_wp2_with (go_at_call 55; refine (nan_walk _ _).mono ?_; rintro e w' ⟨rfl, rfl⟩)
  go_ret
  exact ⟨rfl, rfl⟩
theorem less_yes (w : World) (x y : UInt32) (h : x < y) : Calls Try.prog 53 #[V x, V y] w fun e w' => e = .returned (.bool true) ∧ w = w' := by
  have := less_walk w x y
  rwa [decide_eq_true h] at this
theorem less_no (w : World) (x y : UInt32) (h : ¬ x < y) : Calls Try.prog 53 #[V x, V y] w fun e w' => e = .returned (.bool false) ∧ w = w' := by
  have := less_walk w x y
  rwa [decide_eq_false h] at this
attribute [local irreducible] wpList in
set_option maxRecDepth 100000 in
set_option maxHeartbeats 4000000 in
/-- slices.BinarySearch of a row that rises. -/
theorem bsearch_walk (w : World) (A : Option Addr) (c : Nat) (l : List UInt32) (x : UInt32) (h : Rd w A l) (hs : Up2 l) :
    Calls Try.prog 33 #[.slice A l.length c, V x] w fun e w' => e = .returned (.tuple #[.int .i64 (ct l x : Nat), .bool (decide (x ∈ l))]) ∧ Below w.heap.size w w' := by
  have H := Lib.hid h
  have S := Lib.hid hs
  have hn := h.len
  have g := run_guard
  clear h hs
  go_enter Try.func33, Try.ntmps33
  go_wp2
  go_loopg [7, 8] l.length (fun g s7 s8 wr => ∃ lo hi q : Nat, s7 = .int .i64 lo ∧ s8 = .int .i64 hi ∧ lo ≤ hi ∧ hi ≤ l.length ∧ hi - lo ≤ g ∧ wr = w.drewN q ∧ (∀ t, t < lo → l.getD t 0 < x) ∧ (∀ t, hi ≤ t → t < l.length → x ≤ l.getD t 0))
  case atStart => exact ⟨0, l.length, 0, rfl, rfl, Nat.zero_le _, Nat.le_refl _, by omega, rfl, fun t ht => absurd ht (Nat.not_lt_zero _), fun t h1 h2 => by omega⟩
  case round =>
    obtain ⟨lo, hi, q, rfl, rfl, hlh, hin, hg, rfl, h1, h2⟩ := hrel
    have I1 := Lib.hid h1
    have I2 := Lib.hid h2
    clear h1 h2
    by_cases hlt : lo < hi
    · obtain ⟨b, off, rfl, hc⟩ := H.out.spot (by omega)
      have cm := hc ((lo + hi) / 2) (by omega)
      rw [getD_at (by omega : (lo + hi) / 2 < l.length)] at cm
      clear hc
      generalize hy : l.getD ((lo + hi) / 2) 0 = y at cm
      have Y := Lib.hid hy
      clear hy
      by_cases hyx : y < x
      · have HX := Lib.hid hyx
        clear hyx
        go_wp2_with (first | (go_at_call 53; refine (less_yes _ _ _ HX.out).mono ?_; rintro e w' ⟨rfl, rfl⟩) | (go_at_call 54; refine (nan2_walk _ _).mono ?_; rintro e w' ⟨rfl, rfl⟩))
        go_roundg (hi - ((lo + hi) / 2 + 1))
        case measure => omega
        case rel =>
          refine ⟨(lo + hi) / 2 + 1, hi, _, by rw [show ((lo : Int) + (hi : Int)) / 2 + 1 = (((lo + hi) / 2 + 1 : Nat) : Int) by omega], rfl, by omega, hin, Nat.le_refl _, rfl, fun t ht => ?_, I2.out⟩
          have := S.out t ((lo + hi) / 2) (by omega) (by omega)
          rw [Y.out] at this
          exact u32_le_lt this HX.out
      · have HX := Lib.hid hyx
        clear hyx
        go_wp2_with (first | (go_at_call 53; refine (less_no _ _ _ HX.out).mono ?_; rintro e w' ⟨rfl, rfl⟩) | (go_at_call 54; refine (nan2_walk _ _).mono ?_; rintro e w' ⟨rfl, rfl⟩))
        go_roundg ((lo + hi) / 2 - lo)
        case measure => omega
        case rel =>
          refine ⟨lo, (lo + hi) / 2, _, rfl, by rw [show ((lo : Int) + (hi : Int)) / 2 = (((lo + hi) / 2 : Nat) : Int) by omega], by omega, by omega, Nat.le_refl _, rfl, I1.out, fun t ht htn => ?_⟩
          have := S.out ((lo + hi) / 2) t ht htn
          rw [Y.out] at this
          exact UInt32.le_trans (u32_le_of_not HX.out) this
    · have : hi = lo := by omega
      subst this
      have E1 := Lib.hid (ct_at l x hi hin I1.out I2.out)
      have E2 := Lib.hid (found_at l x hi I1.out I2.out S.out)
      by_cases hn2 : hi < l.length
      · obtain ⟨b, off, rfl, hc⟩ := H.out.spot (by omega)
        have cl := hc hi hn2
        rw [getD_at hn2] at cl
        clear hc
        generalize hy : l.getD hi 0 = y at cl
        have Y := Lib.hid hy
        clear hy
        by_cases hyx : y = x
        · have HX := Lib.hid hyx
          have e := eqT (x := y) (y := x) (by rw [hyx]; simp)
          clear hyx
          go_wp2_with (go_at_call 54; refine (nan2_walk _ _).mono ?_; rintro e w' ⟨rfl, rfl⟩)
          go_ret2
          refine ⟨?_, ⟨rfl, rfl, rfl, Nat.le_refl _, fun _ _ => rfl⟩⟩
          rw [E1.out, E2.out, Y.out, decide_eq_true (show hi < l.length ∧ y = x from ⟨hn2, HX.out⟩)]
          rfl
        · have HX := Lib.hid hyx
          have e := eqF (x := y) (y := x) (by simpa using hyx)
          clear hyx
          go_wp2_with (go_at_call 54; refine (nan2_walk _ _).mono ?_; rintro e w' ⟨rfl, rfl⟩)
          go_ret2
          refine ⟨?_, ⟨rfl, rfl, rfl, Nat.le_refl _, fun _ _ => rfl⟩⟩
          rw [E1.out, E2.out, Y.out, decide_eq_false (show ¬ (hi < l.length ∧ y = x) from fun h => HX.out h.2)]
          rfl
      · go_wp2_with (go_at_call 54; refine (nan2_walk _ _).mono ?_; rintro e w' ⟨rfl, rfl⟩)
        go_ret2
        refine ⟨?_, ⟨rfl, rfl, rfl, Nat.le_refl _, fun _ _ => rfl⟩⟩
        rw [E1.out, E2.out, decide_eq_false (show ¬ (hi < l.length ∧ l.getD hi 0 = x) from fun h => hn2 h.1)]
        rfl
end Go.Proofs.Ytbhoingiibcboaa
