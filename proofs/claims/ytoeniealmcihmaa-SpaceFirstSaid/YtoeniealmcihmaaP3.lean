/- Is; how many are free ahead. -/
import Derived.Test.YtoeniealmcihmaaP2
namespace Go.Proofs.Ytoeniealmcihmaa
open Go.RowKit

theorem is_walk (w : World) (g lb : Nat) (fr : Int) (p : Option Addr) (mr : List Value) (f : List Bool) (k : Int) (h : Spc w g lb fr p mr f) :
    Calls Try.prog 14 #[.pointer (some ⟨g, 0, none⟩), .int .i64 k] w fun e w' => e = .returned (.bool (isB fr f k)) ∧ ∃ n, w' = w.drewN n := by
  have c0 := h.cell0
  have c1 := h.cell1
  have lo := h.lo
  have hi := h.hi
  have en := h.end'
  unfold isB
  rcases hh : hasB fr f k with _ | _
  · have hw := fun n => has_walk (w.drewN n) g lb fr p mr f k (h.up ⟨rfl, rfl, rfl, Nat.le_refl _, fun _ _ => rfl⟩)
    rw [hh] at hw
    clear h hh
    go_enter Try.func14, Try.ntmps14
    go_wp2
    go_quiet ((go_at_call 20; exact Calls.quiet_of (hw _)))
    go_wp2
    go_ret
    exact ⟨rfl, _, rfl⟩
  · have hk : fr ≤ k ∧ k < fr + (f.length : Int) := by unfold hasB at hh; simpa using hh
    obtain ⟨j, rfl⟩ : ∃ j : Nat, k = fr + j := ⟨(k - fr).toNat, by omega⟩
    have hj : j < f.length := by omega
    have hw := fun n => has_walk (w.drewN n) g lb fr p mr f (fr + (j : Int)) (h.up ⟨rfl, rfl, rfl, Nat.le_refl _, fun _ _ => rfl⟩)
    rw [hh] at hw
    obtain rfl := (h.pos (by omega)).1
    have ca := h.at j hj
    have w0 : IntKind.i64.wrap (fr + (j : Int) - fr) = (j : Int) := by rw [IntWalk.i64_in] <;> omega
    have j0 : (0 : Int) ≤ (j : Int) := by omega
    have j1 : (j : Int) < (f.length : Int) := by omega
    have e1 : (fr + (j : Int) - fr).toNat = j := by omega
    rw [e1]
    generalize f.getD j false = b at *
    clear h hh e1 hk
    go_enter Try.func14, Try.ntmps14
    go_wp2
    go_quiet ((go_at_call 20; exact Calls.quiet_of (hw _)))
    go_wp2
    go_ret
    exact ⟨rfl, _, rfl⟩
theorem is_nil (w : World) (k : Int) : Calls Try.prog 14 #[.pointer none, .int .i64 k] w fun e w' => e = .returned (.bool false) ∧ ∃ n, w' = w.drewN n := by
  go_enter Try.func14, Try.ntmps14
  go_wp2
  go_quiet (fail)
  go_wp2
  go_ret
  exact ⟨rfl, _, rfl⟩

theorem ret_int {k : IntKind} {a b : Int} (h : a = b) : Ending.returned (.int k a) = .returned (.int k b) := by rw [h]
/-- What Index answers. -/
def ix (l : List Bool) : Int := if hd l < l.length then (hd l : Int) else -1
theorem ix_lt {l : List Bool} (h : hd l < l.length) : ix l = (hd l : Int) := if_pos h
theorem ix_ge {l : List Bool} (h : ¬ hd l < l.length) : ix l = -1 := if_neg h
/-- The first that is false. -/
theorem index_walk (w : World) (lb o cap : Nat) (l : List Bool) (p : Option Addr) (hp : 0 < l.length → p = some ⟨lb, o, none⟩) (hl : l.length ≤ 4096) (hc : ∀ i, i < l.length → w.cell? ⟨lb, o + i, none⟩ = some (.bool (l.getD i false))) :
    Calls Try.prog 23 #[.slice p l.length cap, .bool false] w fun e w' => e = .returned (.int .i64 (ix l)) ∧ w' = w := by
  have HP := Lib.hid hp
  have HC := Lib.hid hc
  have HH := Lib.hid (hd_le l)
  clear hp hc
  go_enter Try.func23, Try.ntmps23
  go_wp2
  go_loop [8] (fun i => ∃ k : Nat, k ≤ hd l ∧ i = .int .i64 k) (fun i => l.length - (intOf i).toNat)
  case atStart => exact ⟨0, Nat.zero_le _, rfl⟩
  case round =>
    obtain ⟨k, hk, rfl⟩ := hrel
    have hle := HH.out
    by_cases hlt : k < l.length
    · obtain rfl := HP.out (by omega)
      have hcell := HC.out k hlt
      rw [List.getD_eq_getElem?_getD] at hcell
      by_cases hkh : k < hd l
      · rw [hd_true l k hkh, Option.getD_some] at hcell
        go_wp2
        go_round
        case rel => exact ⟨k + 1, by omega, by go_num⟩
        case measure => simp [intOf]; omega
      · obtain rfl : k = hd l := by omega
        rw [hd_end l hlt, Option.getD_some] at hcell
        have HX := Lib.hid (ix_lt hlt)
        go_wp2
        go_ret
        exact ⟨ret_int HX.out.symm, rfl⟩
    · have HX := Lib.hid (ix_ge (l := l) (by omega))
      go_wp2
      go_ret
      exact ⟨ret_int HX.out.symm, rfl⟩
theorem ahead_walk (w : World) (lb o cap : Nat) (l : List Bool) (p : Option Addr) (hp : 0 < l.length → p = some ⟨lb, o, none⟩) (hl : l.length ≤ 4096) (hc : ∀ i, i < l.length → w.cell? ⟨lb, o + i, none⟩ = some (.bool (l.getD i false))) :
    Calls Try.prog 19 #[.slice p l.length cap] w fun e w' => e = .returned (.int .i64 (hd l)) ∧ w' = w := by
  have hi := index_walk w lb o cap l p hp hl hc
  have hle := hd_le l
  clear hp hc
  by_cases hlt : hd l < l.length
  · rw [ix_lt hlt] at hi
    go_enter Try.func19, Try.ntmps19
    go_wp2_with (go_at_call 23; refine hi.mono ?_; rintro e w' ⟨rfl, rfl⟩)
    go_ret
    exact ⟨rfl, rfl⟩
  · rw [ix_ge hlt] at hi
    have e : hd l = l.length := by omega
    rw [e]
    clear e hle hlt
    go_enter Try.func19, Try.ntmps19
    go_wp2_with (go_at_call 23; refine hi.mono ?_; rintro e w' ⟨rfl, rfl⟩)
    go_ret
    exact ⟨rfl, rfl⟩
end Go.Proofs.Ytoeniealmcihmaa
