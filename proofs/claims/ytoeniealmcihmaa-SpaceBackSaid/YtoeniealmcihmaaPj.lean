/- Runs, one behind the other, taken and given. -/
import Derived.Test.YtoeniealmcihmaaPd
namespace Go.Proofs.Ytoeniealmcihmaa
open Go.RowKit

def apart (a b : Nat × Nat) : Prop := a.1 + a.2 ≤ b.1 ∨ b.1 + b.2 ≤ a.1
theorem apart.symm {a b : Nat × Nat} (h : apart a b) : apart b a := by unfold apart at *; omega
/-- Runs that make up the first P places. -/
structure Tiles (L : List (Nat × Nat)) (P : Nat) : Prop where
  each : ∀ r ∈ L, 0 < r.2 ∧ r.2 < 20 ∧ r.1 + r.2 ≤ P
  pair : L.Pairwise apart
  all : ∀ i, i < P → ∃ r ∈ L, r.1 ≤ i ∧ i < r.1 + r.2
  sum : (L.map Prod.snd).sum = P
theorem Tiles.nil : Tiles [] 0 := ⟨by simp, List.Pairwise.nil, fun i h => absurd h (by omega), rfl⟩
theorem Tiles.snoc {L : List (Nat × Nat)} {P k : Nat} (h : Tiles L P) (h0 : 0 < k) (h1 : k < 20) : Tiles (L ++ [(P, k)]) (P + k) := by
  refine ⟨fun r hr => ?_, ?_, fun i hi => ?_, by simp [h.sum]⟩
  · rcases List.mem_append.1 hr with hr | hr
    · have := h.each r hr; omega
    · obtain rfl := List.mem_singleton.1 hr
      exact ⟨h0, h1, Nat.le_refl _⟩
  · rw [List.pairwise_append]
    refine ⟨h.pair, List.pairwise_singleton _ _, fun a ha b hb => ?_⟩
    obtain rfl := List.mem_singleton.1 hb
    exact .inl (h.each a ha).2.2
  · by_cases hp : i < P
    · obtain ⟨r, hr, h2⟩ := h.all i hp
      exact ⟨r, List.mem_append.2 (.inl hr), h2⟩
    · exact ⟨(P, k), by simp, by simp only; omega⟩
theorem Tiles.perm {L M : List (Nat × Nat)} {P : Nat} (h : Tiles L P) (hp : M.Perm L) : Tiles M P :=
  ⟨fun r hr => h.each r (hp.mem_iff.1 hr), (hp.pairwise_iff (fun h => h.symm)).2 h.pair, fun i hi => by
    obtain ⟨r, hr, h2⟩ := h.all i hi
    exact ⟨r, hp.mem_iff.2 hr, h2⟩, by rw [← h.sum]; exact (hp.map Prod.snd).sum_nat⟩
/-- A run of a space from 10 on. -/
def toI (r : Nat × Nat) : Int × Int := (10 + (r.1 : Int), (r.2 : Int))
theorem give_all (R : List (Nat × Nat)) (N : Nat) (hN : N ≤ 4096) (f : List Bool) (hf : f.length = N) (h1 : ∀ r ∈ R, 0 < r.2 ∧ r.1 + r.2 ≤ N) (h2 : R.Pairwise apart) (h3 : ∀ r ∈ R, ∀ i, r.1 ≤ i → i < r.1 + r.2 → f[i]? = some false) :
    ∃ f', truns 10 true (R.map toI) f = (0, f') ∧ f'.length = N ∧ ∀ i, i < N → f'[i]? = some true ∨ ((∀ r ∈ R, ¬ (r.1 ≤ i ∧ i < r.1 + r.2)) ∧ f'[i]? = f[i]?) := by
  induction R generalizing f with
  | nil => exact ⟨f, rfl, hf, fun i _ => .inr ⟨by simp, rfl⟩⟩
  | cons r R ih =>
    have hr := h1 r (by simp)
    have ht := trun_paint 10 true r.1 r.2 f (by omega) (by omega) (by omega) hr.1 (fun i a b => h3 r (by simp) i a b)
    have hpl : (paint f r.1 r.2 true).length = N := by rw [paint_length _ _ _ _ (by omega)]; exact hf
    rw [List.pairwise_cons] at h2
    obtain ⟨f', e, hl, hi⟩ := ih (paint f r.1 r.2 true) hpl (fun q hq => h1 q (by simp [hq])) h2.2 (fun q hq i a b => by
      rw [paint_get _ _ _ _ (by omega), if_neg (by have := h2.1 q hq; unfold apart at this; omega)]
      exact h3 q (by simp [hq]) i a b)
    refine ⟨f', ?_, hl, fun i hi2 => ?_⟩
    · rw [List.map_cons, truns]
      have ht' : trun 10 true (toI r) f = (0, paint f r.1 r.2 true) := ht
      rw [ht', if_pos rfl]
      exact e
    · rcases hi i hi2 with h | ⟨h, h4⟩
      · exact .inl h
      · rw [paint_get _ _ _ _ (by omega)] at h4
        by_cases hc : r.1 ≤ i ∧ i < r.1 + r.2
        · rw [if_pos hc] at h4; exact .inl h4
        · rw [if_neg hc] at h4
          refine .inr ⟨fun q hq => ?_, h4⟩
          rcases List.mem_cons.1 hq with rfl | hq
          · exact hc
          · exact h q hq
theorem give_tiles {L : List (Nat × Nat)} {P N : Nat} (h : Tiles L P) (hP : P ≤ N) (hN : N ≤ 4096) : truns 10 true (L.map toI) (tf P (N - P)) = (0, tf 0 N) := by
  obtain ⟨f', e, hl, hi⟩ := give_all L N hN (tf P (N - P)) (by rw [tf_length]; omega) (fun r hr => by have := h.each r hr; omega) h.pair (fun r hr i h1 h2 => by
    have := h.each r hr
    rw [tf_get _ _ _ (by omega), decide_eq_false (by omega)])
  rw [e]
  congr 1
  apply List.ext_getElem?
  intro i
  by_cases hiN : i < N
  · rw [tf_get _ _ _ (by omega), decide_eq_true (by omega)]
    rcases hi i hiN with h1 | ⟨h1, h2⟩
    · exact h1
    · rw [h2, tf_get _ _ _ (by omega)]
      by_cases hp : i < P
      · obtain ⟨r, hr, h3⟩ := h.all i hp
        exact absurd h3 (h1 r hr)
      · rw [decide_eq_true (by omega)]
  · rw [List.getElem?_eq_none (by omega), List.getElem?_eq_none (by rw [tf_length]; omega)]
theorem give_there {r : Nat × Nat} {N : Nat} (hN : N ≤ 4096) (h0 : 0 < r.2) (h1 : r.1 + r.2 ≤ N) : truns 10 true [toI r] (tf 0 N) = (17, tf 0 N) := by
  have := trun_there 10 true r.1 r.2 (tf 0 N) (by omega) (by rw [tf_length]; omega) (by rw [tf_length]; omega) h0 (by rw [tf_get _ _ _ (by omega), decide_eq_true (by omega)])
  unfold truns toI
  rw [this, if_neg (show ¬ (17 : Int) = 0 by decide)]

/-- The runs' cells. -/
def RL (L : List (Nat × Nat)) : List Value := L.flatMap fun r => [.int .i64 (10 + (r.1 : Int)), .int .i64 (r.2 : Int)]
theorem RL_length (L : List (Nat × Nat)) : (RL L).length = L.length * 2 := by
  induction L with
  | nil => rfl
  | cons r L ih => unfold RL at ih ⊢; simp only [List.flatMap_cons, List.length_append, List.length_cons, List.length_nil, ih]; omega
theorem RL_get (L : List (Nat × Nat)) (i : Nat) (h : i < L.length) : (RL L)[i * 2]? = some (.int .i64 (10 + (L[i].1 : Int))) ∧ (RL L)[i * 2 + 1]? = some (.int .i64 (L[i].2 : Int)) := by
  induction L generalizing i with
  | nil => simp at h
  | cons r L ih =>
    cases i with
    | zero => exact ⟨rfl, rfl⟩
    | succ i =>
      have := ih i (by simpa using h)
      unfold RL at this ⊢
      simp only [List.flatMap_cons, List.cons_append, List.nil_append, List.getElem_cons_succ]
      rw [show (i + 1) * 2 = i * 2 + 1 + 1 by omega, show i * 2 + 1 + 1 + 1 = (i * 2 + 1) + 1 + 1 by omega]
      simpa using this
theorem RL_snoc (L : List (Nat × Nat)) (r : Nat × Nat) : RL (L ++ [r]) = RL L ++ [.int .i64 (10 + (r.1 : Int)), .int .i64 (r.2 : Int)] := by simp [RL]
theorem RL_set (L : List (Nat × Nat)) (i : Nat) (h : i < L.length) (r : Nat × Nat) : ((RL L).set (i * 2) (.int .i64 (10 + (r.1 : Int)))).set (i * 2 + 1) (.int .i64 (r.2 : Int)) = RL (L.set i r) := by
  induction L generalizing i with
  | nil => simp at h
  | cons q L ih =>
    cases i with
    | zero => rfl
    | succ i =>
      have := ih i (by simpa using h)
      unfold RL at this ⊢
      rw [show (i + 1) * 2 = i * 2 + 1 + 1 by omega, show i * 2 + 1 + 1 + 1 = (i * 2 + 1) + 1 + 1 by omega]
      simp only [List.flatMap_cons, List.cons_append, List.nil_append, List.set_cons_succ, this]
def sumJ (L : List (Nat × Nat)) (j : Nat) : Nat := ((L.take j).map Prod.snd).sum
theorem sumJ_succ (L : List (Nat × Nat)) (j : Nat) (h : j < L.length) : sumJ L (j + 1) = sumJ L j + L[j].2 := by
  unfold sumJ
  rw [List.take_succ_eq_append_getElem h, List.map_append, List.sum_append]
  simp
theorem sumJ_le {L : List (Nat × Nat)} {P : Nat} (h : Tiles L P) (j : Nat) : sumJ L j ≤ P := by
  have h1 : ((L.take j).map Prod.snd).sum + ((L.drop j).map Prod.snd).sum = (L.map Prod.snd).sum := by
    rw [← List.sum_append, ← List.map_append, List.take_append_drop]
  have := h.sum
  unfold sumJ; omega
theorem sumJ_all {L : List (Nat × Nat)} {P : Nat} (h : Tiles L P) : sumJ L L.length = P := by
  unfold sumJ; rw [List.take_length]; exact h.sum
end Go.Proofs.Ytoeniealmcihmaa
