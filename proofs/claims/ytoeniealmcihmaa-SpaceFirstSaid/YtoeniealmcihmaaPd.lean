/- Take, of whatever number; the chapter's example. -/
import Derived.Test.YtoeniealmcihmaaPb
import Derived.Test.YtoeniealmcihmaaPc
namespace Go.Proofs.Ytoeniealmcihmaa
open Go.RowKit

def tkA (fr : Int) (f : List Bool) (m : Int) : (Int × Int) × List Bool := if m < 1 then ((0, 2), f) else tk fr f m
set_option maxHeartbeats 1000000 in
theorem take_walk (w : World) (g lb : Nat) (fr : Int) (p : Option Addr) (mr : List Value) (f : List Bool) (m : Int) (hm2 : m ≤ 9223372036854775807) (h : Spc w g lb fr p mr f) :
    Calls Try.prog 10 #[.pointer (some ⟨g, 0, none⟩), .int .i64 m] w (TakePost g lb fr f w (tkA fr f m)) := by
  by_cases hm : m < 1
  · have e : tkA fr f m = ((0, 2), f) := if_pos hm
    have HE := Lib.hid e
    have HS := Lib.hid h
    clear e h
    go_enter Try.func10, Try.ntmps10
    go_wp2
    have hb : Below w.heap.size w ((((w.alloc (.cells #[.pointer (some ⟨g, 0, none⟩)] 24)).alloc (.cells #[.int .i64 m] 3)).alloc (.cells #[.int .i64 0] 3)).alloc (.cells #[.int .i64 2] 29)) :=
      ((((Below.refl _ w).alloc (Nat.le_refl _) _).alloc (by simp) _).alloc (by simp; omega) _).alloc (by simp; omega) _
    rw [HE.out]
    exact bodyPost_ret (v := .tuple #[.int .i64 0, .int .i64 2]) (by simp [results, Try.f10, go_sem]) rfl ⟨rfl, Ex.of_below hb, lb, p, mr, HS.out.up hb, fun _ => .inl rfl⟩
  · rw [show tkA fr f m = tk fr f m from if_neg hm]
    exact (callsIn_wide (n := 6)).1 (take_in 6 (by omega) w g lb fr p mr f m (by omega) hm2 h)
theorem take_nil (w : World) (m : Int) : Calls Try.prog 10 #[.pointer none, .int .i64 m] w fun e w' => e = .returned (.tuple #[.int .i64 0, .int .i64 1]) ∧ Below w.heap.size w w' := by
  go_enter Try.func10, Try.ntmps10
  go_wp2
  have hb : Below w.heap.size w ((((w.alloc (.cells #[.pointer none] 24)).alloc (.cells #[.int .i64 m] 3)).alloc (.cells #[.int .i64 0] 3)).alloc (.cells #[.int .i64 1] 29)) :=
    ((((Below.refl _ w).alloc (Nat.le_refl _) _).alloc (by simp) _).alloc (by simp; omega) _).alloc (by simp; omega) _
  exact bodyPost_ret (v := .tuple #[.int .i64 0, .int .i64 1]) (by simp [results, Try.f10, go_sem]) rfl ⟨rfl, hb⟩

/-! A row of which the first are taken. -/
theorem paint_tf (p q k : Nat) (h : k ≤ q) : paint (tf p q) p k false = tf (p + k) (q - k) := by
  apply List.ext_getElem?
  intro i
  rw [paint_get _ _ _ _ (by rw [tf_length]; omega)]
  by_cases h1 : i < p + q
  · rw [tf_get _ _ _ h1, tf_get _ _ _ (by omega)]
    by_cases h2 : p ≤ i ∧ i < p + k
    · rw [if_pos h2, decide_eq_false (by omega)]
    · rw [if_neg h2]
      by_cases h3 : p ≤ i
      · rw [decide_eq_true h3, decide_eq_true (by omega)]
      · rw [decide_eq_false h3, decide_eq_false (by omega)]
  · rw [if_neg (by omega), List.getElem?_eq_none (by rw [tf_length]; omega), List.getElem?_eq_none (by rw [tf_length]; omega)]
theorem tk_tf (fr : Int) (p q k : Nat) : tk fr (tf p q) (k : Int) = if 0 < q ∧ k ≤ q then ((fr + (p : Int), 0), tf (p + k) (q - k)) else ((0, 14), tf p q) := by
  unfold tk
  rw [runs_tf _ _ _ (Nat.zero_le _)]
  by_cases hq : q = 0
  · rw [if_pos hq, if_neg (by omega)]; rfl
  · rw [if_neg hq]
    by_cases hk : k ≤ q
    · rw [if_pos ⟨by omega, hk⟩]
      have : decide ((k : Int) ≤ (q : Int)) = true := by simp; omega
      simp only [List.find?_cons, this]
      rw [show ((k : Int)).toNat = k by omega, paint_tf _ _ _ hk]
    · rw [if_neg (by omega)]
      have : decide ((k : Int) ≤ (q : Int)) = false := by simp; omega
      simp only [List.find?_cons, this, List.find?_nil]
theorem tf_zero (n : Nat) : List.replicate n true = tf 0 n := by simp [tf]
theorem isB_tf (fr : Int) (p q i : Nat) (h : i < p + q) : isB fr (tf p q) (fr + (i : Int)) = decide (p ≤ i) := by
  have hh : hasB fr (tf p q) (fr + (i : Int)) = true := by unfold hasB; rw [tf_length]; simp; omega
  unfold isB
  rw [hh, show (fr + (i : Int) - fr).toNat = i by omega, List.getD_eq_getElem?_getD, tf_get _ _ _ h]
  rfl
end Go.Proofs.Ytoeniealmcihmaa
