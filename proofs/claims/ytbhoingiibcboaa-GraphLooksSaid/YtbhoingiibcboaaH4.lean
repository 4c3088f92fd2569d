/- The parts, one vertex behind the other: pure. -/
import Derived.Test.YtbhoingiibcboaaH3
namespace Go.Proofs.Ytbhoingiibcboaa
open Go.RowKit

def reps (g : Gr) (k : Nat) : List UInt32 := (g.vs.take k).filter fun v => lab g.es v == v
def prow (g : Gr) (k : Nat) (v : UInt32) : List UInt32 := (g.vs.take k).filter fun x => lab g.es x == v
def prows (g : Gr) (k : Nat) : List (List UInt32) := (reps g k).map (prow g k)
/-- What the map of the seen ones holds ahead of place k. -/
def sK (g : Gr) (k : Nat) (y : UInt32) : Option Value := if lab g.es y ∈ reps g k then some (.int .i64 (fst (reps g k) (lab g.es y))) else none
theorem reps_le (g : Gr) (k : Nat) (h : k ≤ g.vs.length) : (reps g k).length ≤ k := by
  have := List.length_filter_le (fun v => lab g.es v == v) (g.vs.take k)
  rw [List.length_take] at this
  unfold reps
  omega
theorem vs_lt {l : List UInt32} (h : l.Pairwise (· < ·)) {i j : Nat} (hij : i < j) (hj : j < l.length) : l.getD i 0 < l.getD j 0 := by
  have := List.pairwise_iff_getElem.1 h i j (by omega) hj hij
  rwa [getD_at, getD_at] at this
theorem take_lt {l : List UInt32} (h : l.Pairwise (· < ·)) {k : Nat} (hk : k < l.length) {x : UInt32} (hx : x ∈ l.take k) : x < l.getD k 0 := by
  obtain ⟨i, hi, rfl⟩ := List.getElem_of_mem hx
  rw [List.length_take] at hi
  rw [List.getElem_take, getD_at (by omega : i < l.length)]
  exact vs_lt h (by omega) hk
theorem mem_take_of_lt {l : List UInt32} (h : l.Pairwise (· < ·)) {k : Nat} (hk : k < l.length) {x : UInt32} (hx : x ∈ l) (hlt : x < l.getD k 0) : x ∈ l.take k := by
  obtain ⟨i, hi, rfl⟩ := List.getElem_of_mem hx
  have hik : i < k := by
    rcases Nat.lt_or_ge i k with q | q
    · exact q
    · have := up2_of h k i q hi
      rw [getD_at hi] at hlt
      exact absurd hlt (u32_not_lt this)
  exact List.mem_take_iff_getElem.2 ⟨i, by omega, rfl⟩
theorem rep_new {g : Gr} (h : g.vs.Pairwise (· < ·)) {k : Nat} (hk : k < g.vs.length) : g.vs.getD k 0 ∉ reps g k := fun hm => by
  have := take_lt h hk (List.mem_filter.1 hm).1
  exact absurd rfl (u32_lt_ne this)
theorem rep_old {g : Gr} (h : g.vs.Pairwise (· < ·)) (he : ∀ e ∈ g.es, e.a ∈ g.vs ∧ e.b ∈ g.vs) {k : Nat} (hk : k < g.vs.length) (hne : ¬ lab g.es (g.vs.getD k 0) = g.vs.getD k 0) : lab g.es (g.vs.getD k 0) ∈ reps g k := by
  have hm : lab g.es (g.vs.getD k 0) ∈ g.vs := lab_mem he (getD_mem hk)
  have hlt : lab g.es (g.vs.getD k 0) < g.vs.getD k 0 := by
    have := lab_le g.es (g.vs.getD k 0)
    rw [UInt32.le_iff_toNat_le] at this
    rw [UInt32.lt_iff_toNat_lt]
    have : ¬ (lab g.es (g.vs.getD k 0)).toNat = (g.vs.getD k 0).toNat := fun e => hne (UInt32.toNat_inj.1 e)
    omega
  exact List.mem_filter.2 ⟨mem_take_of_lt h hk hm hlt, by simp [lab_idem]⟩
theorem rep_lab {g : Gr} (h : g.vs.Pairwise (· < ·)) {k : Nat} (hk : k < g.vs.length) (he : lab g.es (g.vs.getD k 0) = g.vs.getD k 0) : lab g.es (g.vs.getD k 0) ∉ reps g k := by
  rw [he]; exact rep_new h hk
theorem take_at {l : List UInt32} {k : Nat} (h : k < l.length) : l.take (k + 1) = l.take k ++ [l.getD k 0] := by
  rw [List.take_succ_eq_append_getElem h, getD_at h]
theorem reps_new {g : Gr} {k : Nat} (hk : k < g.vs.length) (he : lab g.es (g.vs.getD k 0) = g.vs.getD k 0) : reps g (k + 1) = reps g k ++ [g.vs.getD k 0] := by
  unfold reps
  rw [take_at hk, List.filter_append]
  congr 1
  simp only [List.filter_cons, List.filter_nil]
  rw [if_pos (beq_iff_eq.2 he)]
theorem reps_old {g : Gr} {k : Nat} (hk : k < g.vs.length) (he : ¬ lab g.es (g.vs.getD k 0) = g.vs.getD k 0) : reps g (k + 1) = reps g k := by
  unfold reps
  rw [take_at hk, List.filter_append]
  simp only [List.filter_cons, List.filter_nil]
  rw [if_neg (fun q => he (beq_iff_eq.1 q)), List.append_nil]
theorem prow_succ (g : Gr) {k : Nat} (hk : k < g.vs.length) (v : UInt32) : prow g (k + 1) v = prow g k v ++ if lab g.es (g.vs.getD k 0) = v then [g.vs.getD k 0] else [] := by
  unfold prow
  rw [take_at hk, List.filter_append]
  congr 1
  simp only [List.filter_cons, List.filter_nil]
  by_cases e : lab g.es (g.vs.getD k 0) = v
  · rw [if_pos e, if_pos (beq_iff_eq.2 e)]
  · rw [if_neg e, if_neg (fun q => e (beq_iff_eq.1 q))]
theorem prow_nil {g : Gr} (h : g.vs.Pairwise (· < ·)) {k : Nat} (hk : k < g.vs.length) : prow g k (g.vs.getD k 0) = [] := by
  unfold prow
  rw [List.filter_eq_nil_iff]
  intro x hx q
  have h1 := take_lt h hk hx
  have h2 := lab_le g.es x
  rw [beq_iff_eq.1 q] at h2
  exact u32_not_lt h2 h1
theorem reps_nodup {g : Gr} (h : g.vs.Pairwise (· < ·)) (k : Nat) : (reps g k).Pairwise (· < ·) := ((h.sublist (List.take_sublist k g.vs)).filter _)
theorem fst_at {l : List UInt32} {x : UInt32} (h : x ∈ l) : l.getD (fst l x) 0 = x := by
  have hl := fst_lt h
  have := fst_yes l x hl
  rw [← getD_at hl]
  exact (beq_iff_eq.1 this).symm
theorem prows_getD {g : Gr} {k : Nat} {r : UInt32} (h : r ∈ reps g k) : (prows g k).getD (fst (reps g k) r) [] = prow g k r := by
  unfold prows
  have hl := fst_lt h
  rw [List.getD_eq_getElem?_getD, List.getElem?_map, List.getElem?_eq_getElem hl]
  have : (reps g k)[fst (reps g k) r] = r := by rw [getD_at hl]; exact fst_at h
  simp [this]
theorem prows_len (g : Gr) (k : Nat) : (prows g k).length = (reps g k).length := by simp [prows]
theorem prows_old {g : Gr} (h : g.vs.Pairwise (· < ·)) (he : ∀ e ∈ g.es, e.a ∈ g.vs ∧ e.b ∈ g.vs) {k : Nat} (hk : k < g.vs.length) (hne : ¬ lab g.es (g.vs.getD k 0) = g.vs.getD k 0) :
    prows g (k + 1) = (prows g k).set (fst (reps g k) (lab g.es (g.vs.getD k 0))) (prow g k (lab g.es (g.vs.getD k 0)) ++ [g.vs.getD k 0]) := by
  have hm := rep_old h he hk hne
  apply List.ext_getElem
  · rw [List.length_set, prows_len, prows_len, reps_old hk hne]
  · intro i h1 h2
    rw [List.length_set, prows_len] at h2
    rw [List.getElem_set]
    simp only [prows, List.getElem_map, reps_old hk hne]
    rw [prow_succ g hk]
    by_cases e : fst (reps g k) (lab g.es (g.vs.getD k 0)) = i
    · subst e
      have : (reps g k)[fst (reps g k) (lab g.es (g.vs.getD k 0))] = lab g.es (g.vs.getD k 0) := by rw [getD_at h2]; exact fst_at hm
      rw [if_pos rfl, this, if_pos rfl]
    · rw [if_neg e, if_neg (fun q => e ?_), List.append_nil]
      have hn := (reps_nodup h k)
      rw [q]
      have h3 : (reps g k)[i] ∈ reps g k := List.getElem_mem h2
      have h4 := fst_at h3
      have h5 := fst_lt h3
      rcases Nat.lt_trichotomy (fst (reps g k) (reps g k)[i]) i with h6 | h6 | h6
      · have := vs_lt hn h6 h2
        rw [h4, ← getD_at h2] at this
        exact absurd rfl (u32_lt_ne this)
      · exact h6
      · have := vs_lt hn h6 h5
        rw [h4, ← getD_at h2] at this
        exact absurd rfl (u32_lt_ne this)
theorem prows_new {g : Gr} (h : g.vs.Pairwise (· < ·)) {k : Nat} (hk : k < g.vs.length) (he : lab g.es (g.vs.getD k 0) = g.vs.getD k 0) :
    prows g (k + 1) = (prows g k ++ [[]]).set (reps g k).length ([] ++ [g.vs.getD k 0]) := by
  have e1 : prows g (k + 1) = prows g k ++ [[g.vs.getD k 0]] := by
    unfold prows
    rw [reps_new hk he, List.map_append]
    congr 1
    · refine List.map_congr_left fun v hv => ?_
      rw [prow_succ g hk, if_neg (fun q => ?_), List.append_nil]
      rw [← q] at hv
      exact rep_lab h hk he hv
    · simp only [List.map_cons, List.map_nil]
      rw [prow_succ g hk, if_pos he, prow_nil h hk]; rfl
  rw [e1, ← prows_len]
  simp
theorem sK_new {g : Gr} (h : g.vs.Pairwise (· < ·)) {k : Nat} (hk : k < g.vs.length) (he : lab g.es (g.vs.getD k 0) = g.vs.getD k 0) (y : UInt32) :
    sK g (k + 1) y = if lab g.es y = lab g.es (g.vs.getD k 0) then some (.int .i64 ((reps g k).length : Nat)) else sK g k y := by
  have hn := rep_new h hk
  unfold sK
  rw [reps_new hk he, he]
  by_cases e : lab g.es y = g.vs.getD k 0
  · rw [if_pos e, if_pos (by rw [e]; simp), e]
    congr 2
    unfold fst
    rw [List.findIdx_append, if_neg]
    · simp
    · intro q
      have := fst_yes (reps g k) (g.vs.getD k 0) q
      rw [beq_iff_eq] at this
      exact hn (this ▸ List.getElem_mem q)
  · rw [if_neg e]
    by_cases e2 : lab g.es y ∈ reps g k
    · rw [if_pos (List.mem_append_left _ e2), if_pos e2]
      congr 2
      have hl := fst_lt e2
      unfold fst at hl ⊢
      rw [List.findIdx_append, if_pos hl]
    · rw [if_neg e2, if_neg]
      intro q
      rcases List.mem_append.1 q with q | q
      · exact e2 q
      · exact e (List.mem_singleton.1 q)
theorem sK_old {g : Gr} {k : Nat} (hk : k < g.vs.length) (he : ¬ lab g.es (g.vs.getD k 0) = g.vs.getD k 0) : sK g (k + 1) = sK g k := by
  unfold sK; rw [reps_old hk he]
theorem sK_zero (g : Gr) : sK g 0 = fun _ => none := by funext y; simp [sK, reps]
theorem prows_all (g : Gr) : prows g g.vs.length = parts g := by
  unfold prows reps parts prow part
  simp only [List.take_length]
theorem prow_le (g : Gr) (k : Nat) (v : UInt32) : (prow g k v).length ≤ g.vs.length := by
  unfold prow
  have := List.length_filter_le (fun x => lab g.es x == v) (g.vs.take k)
  rw [List.length_take] at this
  omega
theorem part_le (g : Gr) (v : UInt32) : (part g v).length ≤ g.vs.length := List.length_filter_le _ _
end Go.Proofs.Ytbhoingiibcboaa
