/- GraphLooks: what its walk wants. -/
import Derived.Test.YtbhoingiibcboaaJ6
import Derived.Test.YtbhoingiibcboaaI5
namespace Go.Proofs.Ytbhoingiibcboaa
open Go.RowKit

/-- Where a vertex stands, as far as place k. -/
def plc (g : Gr) (x : UInt32) (k : Nat) : Int := if fst g.vs x < k then (fst g.vs x : Int) else -1
theorem plc_zero (g : Gr) (x : UInt32) : plc g x 0 = -1 := by unfold plc; rw [if_neg (by omega)]
theorem plc_all (g : Gr) (x : UInt32) : plc g x g.vs.length = ix g.vs x := rfl
theorem fst_is {l : List UInt32} (h : l.Pairwise (· < ·)) {k : Nat} (hk : k < l.length) {x : UInt32} (he : l.getD k 0 = x) : fst l x = k := by
  have hm : x ∈ l := he ▸ getD_mem hk
  have h1 := fst_at hm
  have h2 := fst_lt hm
  rcases Nat.lt_trichotomy (fst l x) k with q | q | q
  · have := vs_lt h q hk
    rw [h1, he] at this
    exact absurd rfl (u32_lt_ne this)
  · exact q
  · have := vs_lt h q h2
    rw [h1, he] at this
    exact absurd rfl (u32_lt_ne this)
theorem plc_yes {g : Gr} (h : g.vs.Pairwise (· < ·)) {k : Nat} (hk : k < g.vs.length) {x : UInt32} (he : g.vs.getD k 0 = x) : plc g x (k + 1) = (k : Int) := by
  unfold plc; rw [fst_is h hk he, if_pos (by omega)]
theorem plc_no {g : Gr} {k : Nat} (hk : k < g.vs.length) {x : UInt32} (he : ¬ g.vs.getD k 0 = x) : plc g x (k + 1) = plc g x k := by
  unfold plc
  by_cases q : fst g.vs x < k
  · rw [if_pos q, if_pos (by omega)]
  · rw [if_neg q, if_neg]
    intro h
    have e : fst g.vs x = k := by omega
    have := fst_yes g.vs x (by omega)
    rw [beq_iff_eq, getD_at (by omega : fst g.vs x < g.vs.length), e] at this
    exact he this.symm
theorem flat_set : ∀ (l : List (List UInt32)) (i : Nat) (x : UInt32), i < l.length → (l.set i (l.getD i [] ++ [x])).flatten.length = l.flatten.length + 1
  | a :: r, 0, x, _ => by simp; omega
  | a :: r, i + 1, x, h => by
    have := flat_set r i x (by simpa using h)
    simp only [List.set_cons_succ, List.flatten_cons, List.length_append, List.getD_cons_succ]
    omega
theorem prows_flat {g : Gr} (h : g.vs.Pairwise (· < ·)) (he : ∀ e ∈ g.es, e.a ∈ g.vs ∧ e.b ∈ g.vs) : ∀ k, k ≤ g.vs.length → (prows g k).flatten.length = k
  | 0, _ => by simp [prows, reps]
  | k + 1, hk => by
    have ih := prows_flat h he k (by omega)
    by_cases q : lab g.es (g.vs.getD k 0) = g.vs.getD k 0
    · rw [prows_new h (by omega) q]
      have e1 : (prows g k ++ [[]]).getD (reps g k).length [] = [] := by rw [← prows_len]; simp
      have := flat_set (prows g k ++ [[]]) (reps g k).length (g.vs.getD k 0) (by rw [List.length_append, prows_len]; simp)
      rw [e1] at this
      rw [this]
      simp [ih]
    · rw [prows_old h he (by omega) q]
      have hm := rep_old h he (by omega : k < g.vs.length) q
      have := flat_set (prows g k) _ (g.vs.getD k 0) (rows_old_len g k _ hm)
      rw [prows_getD hm] at this
      rw [this, ih]
theorem parts_flat {g : Gr} (hM : May g) : (parts g).flatten.length = g.vs.length := by
  rw [← prows_all]; exact prows_flat hM.vup hM.ends _ (Nat.le_refl _)
/-- How many are in the first so many parts. -/
def psum (g : Gr) (k : Nat) : Nat := ((parts g).take k).flatten.length
theorem psum_succ {g : Gr} {k : Nat} (h : k < (parts g).length) : psum g (k + 1) = psum g k + ((parts g).getD k []).length := by
  unfold psum
  rw [flat_succ _ _ h, List.length_append, List.getD_eq_getElem?_getD, List.getElem?_eq_getElem h]
  rfl
theorem psum_le (g : Gr) (hM : May g) (k : Nat) : psum g k ≤ 64 := by
  have := flat_le (parts g) k
  rw [parts_flat hM] at this
  exact Nat.le_trans this hM.nv
theorem psum_all {g : Gr} (hM : May g) : psum g (parts g).length = g.vs.length := by
  unfold psum; rw [List.take_length]; exact parts_flat hM
/-- How many are kept of the first so many. -/
def kn (g : Gr) (odd : Bool) (k : Nat) : Nat := ((g.es.take k).filter (so odd)).length
theorem kn_yes {g : Gr} {odd : Bool} {k : Nat} (h : k < g.es.length) (hs : so odd (g.es.getD k e0) = true) : kn g odd (k + 1) = kn g odd k + 1 := by
  unfold kn
  rw [List.take_succ_eq_append_getElem h, getE_at h, List.filter_append, List.length_append]
  simp only [List.filter_cons, List.filter_nil, hs, if_true]
  rfl
theorem kn_no {g : Gr} {odd : Bool} {k : Nat} (h : k < g.es.length) (hs : so odd (g.es.getD k e0) = false) : kn g odd (k + 1) = kn g odd k := by
  unfold kn
  rw [List.take_succ_eq_append_getElem h, getE_at h, List.filter_append, List.length_append]
  simp only [List.filter_cons, List.filter_nil, hs]
  simp
theorem kn_at {g : Gr} {odd : Bool} {k : Nat} (h : k < g.es.length) (hs : so odd (g.es.getD k e0) = true) : kn g odd k < (kept g odd).es.length ∧ (kept g odd).es.getD (kn g odd k) e0 = g.es.getD k e0 := by
  have hsp : (kept g odd).es = (g.es.take k).filter (so odd) ++ (g.es.getD k e0 :: (g.es.drop (k + 1)).filter (so odd)) := by
    show g.es.filter (so odd) = _
    have e1 : (g.es.drop k).filter (so odd) = g.es.getD k e0 :: (g.es.drop (k + 1)).filter (so odd) := by
      rw [dropE_at h, List.filter_cons, if_pos hs]
    rw [← e1, ← List.filter_append, List.take_append_drop]
  rw [hsp]
  unfold kn
  refine ⟨by simp, ?_⟩
  rw [List.getD_eq_getElem?_getD, List.getElem?_append_right (Nat.le_refl _), Nat.sub_self]
  rfl
theorem kn_all (g : Gr) (odd : Bool) : kn g odd g.es.length = (kept g odd).es.length := by unfold kn; rw [List.take_length]; rfl
theorem kn_le (g : Gr) (odd : Bool) (k : Nat) : kn g odd k ≤ g.es.length := by
  unfold kn
  have := List.length_filter_le (so odd) (g.es.take k)
  rw [List.length_take] at this
  omega
set_option maxRecDepth 100000 in
theorem neq_eg (x : Eg) (w : World) : (binOp .neq 39 (.agg #[V x.id, V x.a, V x.b]) (.agg #[V x.id, V x.a, V x.b])).run Try.prog w = .ok (.bool false) w := by
  rw [run_neq_struct, run_equalIn_agg w 9999 39 _ _ rfl rfl]
  simp [go_sem, V]
set_option maxRecDepth 100000 in
theorem guard_eg (o1 o2 : Operand) (x y : Eg) (w : World) : (eqGuard .neq 39 o1 o2 (.agg #[V x.id, V x.a, V x.b]) (.agg #[V y.id, V y.a, V y.b])).run Try.prog w = .ok () w := by
  have h : Try.prog.eqGuardType Try.prog.depth 39 = false := by decide +kernel
  exact run_eqGuard_agg w _ _ _ _ _ _ h
end Go.Proofs.Ytbhoingiibcboaa
