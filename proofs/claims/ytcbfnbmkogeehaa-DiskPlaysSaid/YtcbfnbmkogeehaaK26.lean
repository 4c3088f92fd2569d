/- Behind a crash: the heads of what lasts, and of what was written last. -/
import Derived.Test.YtcbfnbmkogeehaaK25
import Derived.Test.YtcbfnbmkogeehaaK18
namespace Go.Proofs.Ytcbfnbmkogeehaa
open Go.RowKit

theorem head_at (l : List UInt8) (hl : l.length = 512) (w : World) : (Instr.index 43 (B l) (.int .i64 0)).run Try.prog w = .ok (U (l.headD 0)) w := by
  have h5 : ∀ w, (sizeOf 5).run Try.prog w = .ok 1 w := fun w => by kernel_rfl
  have h5' : ∀ w, (isAgg 5).run Try.prog w = .ok false w := fun w => by kernel_rfl
  match l, hl with
  | b :: r, hl =>
    have h0 : (0 : Nat) < 512 := by decide
    simp [Instr.index, B, asIntOf, run_underlying Try.underlying43, part, h5, h5', h0]

theorem wf_nat (k : Nat) (h : k < 100000) : (Lit.int .i64 (k : Int)).wf = true := by
  exact wf64 k ⟨by omega, by omega⟩

/-- The heads of what lasts, of the first sectors. -/
def fst64 (s : Dk) (k : Nat) : Int → Option UInt8 := fun j => if 0 ≤ j ∧ j < (k : Int) then some ((s.lasts j).headD 0) else none
theorem fst64_zero (s : Dk) : fst64 s 0 = fun _ => none := by
  funext j
  have h : ¬ (0 ≤ j ∧ j < ((0 : Nat) : Int)) := by omega
  simp only [fst64]
  rw [if_neg h]
theorem fst64_succ (s : Dk) (k : Nat) : (fun j => if j = (k : Int) then some ((s.lasts k).headD 0) else fst64 s k j) = fst64 s (k + 1) := by
  funext j
  by_cases h : j = (k : Int)
  · subst h
    have h2 : (0 : Int) ≤ (k : Int) ∧ (k : Int) < ((k + 1 : Nat) : Int) := by omega
    simp only [fst64]
    rw [if_pos h2]
    simp
  · simp only [fst64, h, if_false]
    by_cases h2 : 0 ≤ j ∧ j < (k : Int)
    · have h3 : 0 ≤ j ∧ j < ((k + 1 : Nat) : Int) := by omega
      rw [if_pos h2, if_pos h3]
    · have h3 : ¬ (0 ≤ j ∧ j < ((k + 1 : Nat) : Int)) := by omega
      rw [if_neg h2, if_neg h3]
theorem Dk.lasts_length (s : Dk) (ho : s.Ok) (k : Int) : (s.lasts k).length = 512 := by
  unfold Dk.lasts
  split
  · rename_i h
    unfold Dk.has at h
    simp only [Bool.and_eq_true, decide_eq_true_eq] at h
    have h1 : k.toNat < s.last.length := by omega
    rw [List.getD_eq_getElem?_getD, List.getElem?_eq_getElem h1]
    exact ho.bl _ (List.getElem_mem h1)
  · unfold z512
    exact List.length_replicate

theorem barrier_done (s : Dk) : s.done ≤ s.barrier.done ∧ s.barrier.done ≤ s.done + 1 := by
  have e : s.done ≤ s.step.done ∧ s.step.done ≤ s.done + 1 := by
    unfold Dk.step
    split
    · exact ⟨Int.le_refl _, by show s.done ≤ s.done + 1; omega⟩
    · exact ⟨by show s.done ≤ s.done + 1; omega, Int.le_refl _⟩
  unfold Dk.barrier
  split <;> exact e

theorem wf_writeE (s : Dk) (ho : s.Ok) (x : Int) (he : s.writeE x = 0) : (Lit.int .i64 x).wf = true := by
  unfold Dk.writeE at he
  by_cases h : s.reach x = 0
  · unfold Dk.reach at h
    split at h
    · exact absurd h (by decide)
    · split at h
      · rename_i h1
        unfold Dk.has at h1
        simp only [Bool.and_eq_true, decide_eq_true_eq] at h1
        have := ho.high
        exact wf64 x ⟨by omega, by omega⟩
      · exact absurd h (by decide)
  · rw [if_neg h] at he
    exact absurd he h

/-- The last map behind writes. -/
def lm (s : Dk) (f : Int → Option UInt8) : List (Int × UInt8) → (Int → Option UInt8)
  | [] => f
  | a :: r => lm (s.write a.1 (blkOf a.2)) (if s.writeE a.1 = 0 then (fun j => if j = a.1 then some a.2 else f j) else f) r
theorem lm_snoc (l : List (Int × UInt8)) : ∀ (s : Dk) (f : Int → Option UInt8) (a : Int × UInt8), lm s f (l ++ [a]) =
    if (wrt s l).writeE a.1 = 0 then (fun j => if j = a.1 then some a.2 else lm s f l j) else lm s f l := by
  induction l with
  | nil => intro s f a; rfl
  | cons b r ih => intro s f a; exact ih _ _ _
end Go.Proofs.Ytcbfnbmkogeehaa
