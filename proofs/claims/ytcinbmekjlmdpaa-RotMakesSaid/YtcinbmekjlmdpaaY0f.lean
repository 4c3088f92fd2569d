/- The parts, one vertex behind the other: pure. -/
import Derived.Test.YtcinbmekjlmdpaaY0c
import Derived.RangeFuncNested
import Derived.RangeFuncBound
import Derived.RangeFuncCalls
import Derived.RangeFuncLeaves
import Derived.RangeFuncFrom
import Derived.RangeFuncBox
import Derived.Shelf.Abstract
import Derived.Shelf.RegionOpen
import Derived.OwnWalkIn
import Derived.TacticsInMore
import Derived.LoopNIn
import Derived.LoopIn
import Derived.Maps.AppendAt
import Derived.Test.YtcinbmekjlmdpaaY0e

/-! The parts, one vertex behind the other: pure. -/
namespace Go.Proofs.Ytcinbmekjlmdpaa
open Go.RowKit

def reps (g : Gr) (k : Nat) : List UInt32 := (g.vs.take k).filter fun v => lab g.es v == v
def prow (g : Gr) (k : Nat) (v : UInt32) : List UInt32 := (g.vs.take k).filter fun x => lab g.es x == v
def prows (g : Gr) (k : Nat) : List (List UInt32) := (reps g k).map (prow g k)
/-- What the map of the seen ones holds ahead of place k. -/
def sK (g : Gr) (k : Nat) (y : UInt32) : Option Value := if lab g.es y ∈ reps g k then some (.int .i64 (fst (reps g k) (lab g.es y))) else none
theorem reps_le (g : Gr) (k : Nat) (h : k ≤ g.vs.length) : (reps g k).length ≤ k := by
  have := List.length_filter_le (fun v => lab g.es v == v) (g.vs.take k)
  rw [List.length_take] at this
  unfold reps
  omega
theorem vs_lt {l : List UInt32} (h : l.Pairwise (· < ·)) {i j : Nat} (hij : i < j) (hj : j < l.length) : l.getD i 0 < l.getD j 0 := by
  have := List.pairwise_iff_getElem.1 h i j (by omega) hj hij
  rwa [getD_at, getD_at] at this
theorem take_lt {l : List UInt32} (h : l.Pairwise (· < ·)) {k : Nat} (hk : k < l.length) {x : UInt32} (hx : x ∈ l.take k) : x < l.getD k 0 := by
  obtain ⟨i, hi, rfl⟩ := List.getElem_of_mem hx
  rw [List.length_take] at hi
  rw [List.getElem_take, getD_at (by omega : i < l.length)]
  exact vs_lt h (by omega) hk
theorem mem_take_of_lt {l : List UInt32} (h : l.Pairwise (· < ·)) {k : Nat} (hk : k < l.length) {x : UInt32} (hx : x ∈ l) (hlt : x < l.getD k 0) : x ∈ l.take k := by
  obtain ⟨i, hi, rfl⟩ := List.getElem_of_mem hx
  have hik : i < k := by
    rcases Nat.lt_or_ge i k with q | q
    · exact q
    · have := up2_of h k i q hi
      rw [getD_at hi] at hlt
      exact absurd hlt (u32_not_lt this)
  exact List.mem_take_iff_getElem.2 ⟨i, by omega, rfl⟩
theorem rep_new {g : Gr} (h : g.vs.Pairwise (· < ·)) {k : Nat} (hk : k < g.vs.length) : g.vs.getD k 0 ∉ reps g k := fun hm => by
  have := take_lt h hk (List.mem_filter.1 hm).1
  exact absurd rfl (u32_lt_ne this)
theorem rep_old {g : Gr} (h : g.vs.Pairwise (· < ·)) (he : ∀ e ∈ g.es, e.a ∈ g.vs ∧ e.b ∈ g.vs) {k : Nat} (hk : k < g.vs.length) (hne : ¬ lab g.es (g.vs.getD k 0) = g.vs.getD k 0) : lab g.es (g.vs.getD k 0) ∈ reps g k := by
  have hm : lab g.es (g.vs.getD k 0) ∈ g.vs := lab_mem he (getD_mem hk)
  have hlt : lab g.es (g.vs.getD k 0) < g.vs.getD k 0 := by
    have := lab_le g.es (g.vs.getD k 0)
    rw [UInt32.le_iff_toNat_le] at this
    rw [UInt32.lt_iff_toNat_lt]
    have : ¬ (lab g.es (g.vs.getD k 0)).toNat = (g.vs.getD k 0).toNat := fun e => hne (UInt32.toNat_inj.1 e)
    omega
  exact List.mem_filter.2 ⟨mem_take_of_lt h hk hm hlt, by simp [lab_idem]⟩
theorem rep_lab {g : Gr} (h : g.vs.Pairwise (· < ·)) {k : Nat} (hk : k < g.vs.length) (he : lab g.es (g.vs.getD k 0) = g.vs.getD k 0) : lab g.es (g.vs.getD k 0) ∉ reps g k := by
  rw [he]; exact rep_new h hk
theorem take_at {l : List UInt32} {k : Nat} (h : k < l.length) : l.take (k + 1) = l.take k ++ [l.getD k 0] := by
  rw [List.take_succ_eq_append_getElem h, getD_at h]
theorem reps_new {g : Gr} {k : Nat} (hk : k < g.vs.length) (he : lab g.es (g.vs.getD k 0) = g.vs.getD k 0) : reps g (k + 1) = reps g k ++ [g.vs.getD k 0] := by
  unfold reps
  rw [take_at hk, List.filter_append]
  congr 1
  simp only [List.filter_cons, List.filter_nil]
  rw [if_pos (beq_iff_eq.2 he)]
theorem reps_old {g : Gr} {k : Nat} (hk : k < g.vs.length) (he : ¬ lab g.es (g.vs.getD k 0) = g.vs.getD k 0) : reps g (k + 1) = reps g k := by
  unfold reps
  rw [take_at hk, List.filter_append]
  simp only [List.filter_cons, List.filter_nil]
  rw [if_neg (fun q => he (beq_iff_eq.1 q)), List.append_nil]
theorem prow_succ (g : Gr) {k : Nat} (hk : k < g.vs.length) (v : UInt32) : prow g (k + 1) v = prow g k v ++ if lab g.es (g.vs.getD k 0) = v then [g.vs.getD k 0] else [] := by
  unfold prow
  rw [take_at hk, List.filter_append]
  congr 1
  simp only [List.filter_cons, List.filter_nil]
  by_cases e : lab g.es (g.vs.getD k 0) = v
  · rw [if_pos e, if_pos (beq_iff_eq.2 e)]
  · rw [if_neg e, if_neg (fun q => e (beq_iff_eq.1 q))]
theorem prow_nil {g : Gr} (h : g.vs.Pairwise (· < ·)) {k : Nat} (hk : k < g.vs.length) : prow g k (g.vs.getD k 0) = [] := by
  unfold prow
  rw [List.filter_eq_nil_iff]
  intro x hx q
  have h1 := take_lt h hk hx
  have h2 := lab_le g.es x
  rw [beq_iff_eq.1 q] at h2
  exact u32_not_lt h2 h1
theorem reps_nodup {g : Gr} (h : g.vs.Pairwise (· < ·)) (k : Nat) : (reps g k).Pairwise (· < ·) := ((h.sublist (List.take_sublist k g.vs)).filter _)
theorem fst_at {l : List UInt32} {x : UInt32} (h : x ∈ l) : l.getD (fst l x) 0 = x := by
  have hl := fst_lt h
  have := fst_yes l x hl
  rw [← getD_at hl]
  exact (beq_iff_eq.1 this).symm
theorem prows_getD {g : Gr} {k : Nat} {r : UInt32} (h : r ∈ reps g k) : (prows g k).getD (fst (reps g k) r) [] = prow g k r := by
  unfold prows
  have hl := fst_lt h
  rw [List.getD_eq_getElem?_getD, List.getElem?_map, List.getElem?_eq_getElem hl]
  have : (reps g k)[fst (reps g k) r] = r := by rw [getD_at hl]; exact fst_at h
  simp [this]
theorem prows_len (g : Gr) (k : Nat) : (prows g k).length = (reps g k).length := by simp [prows]
theorem prows_old {g : Gr} (h : g.vs.Pairwise (· < ·)) (he : ∀ e ∈ g.es, e.a ∈ g.vs ∧ e.b ∈ g.vs) {k : Nat} (hk : k < g.vs.length) (hne : ¬ lab g.es (g.vs.getD k 0) = g.vs.getD k 0) :
    prows g (k + 1) = (prows g k).set (fst (reps g k) (lab g.es (g.vs.getD k 0))) (prow g k (lab g.es (g.vs.getD k 0)) ++ [g.vs.getD k 0]) := by
  have hm := rep_old h he hk hne
  apply List.ext_getElem
  · rw [List.length_set, prows_len, prows_len, reps_old hk hne]
  · intro i h1 h2
    rw [List.length_set, prows_len] at h2
    rw [List.getElem_set]
    simp only [prows, List.getElem_map, reps_old hk hne]
    rw [prow_succ g hk]
    by_cases e : fst (reps g k) (lab g.es (g.vs.getD k 0)) = i
    · subst e
      have : (reps g k)[fst (reps g k) (lab g.es (g.vs.getD k 0))] = lab g.es (g.vs.getD k 0) := by rw [getD_at h2]; exact fst_at hm
      rw [if_pos rfl, this, if_pos rfl]
    · rw [if_neg e, if_neg (fun q => e ?_), List.append_nil]
      have hn := (reps_nodup h k)
      rw [q]
      have h3 : (reps g k)[i] ∈ reps g k := List.getElem_mem h2
      have h4 := fst_at h3
      have h5 := fst_lt h3
      rcases Nat.lt_trichotomy (fst (reps g k) (reps g k)[i]) i with h6 | h6 | h6
      · have := vs_lt hn h6 h2
        rw [h4, ← getD_at h2] at this
        exact absurd rfl (u32_lt_ne this)
      · exact h6
      · have := vs_lt hn h6 h5
        rw [h4, ← getD_at h2] at this
        exact absurd rfl (u32_lt_ne this)
theorem prows_new {g : Gr} (h : g.vs.Pairwise (· < ·)) {k : Nat} (hk : k < g.vs.length) (he : lab g.es (g.vs.getD k 0) = g.vs.getD k 0) :
    prows g (k + 1) = (prows g k ++ [[]]).set (reps g k).length ([] ++ [g.vs.getD k 0]) := by
  have e1 : prows g (k + 1) = prows g k ++ [[g.vs.getD k 0]] := by
    unfold prows
    rw [reps_new hk he, List.map_append]
    congr 1
    · refine List.map_congr_left fun v hv => ?_
      rw [prow_succ g hk, if_neg (fun q => ?_), List.append_nil]
      rw [← q] at hv
      exact rep_lab h hk he hv
    · simp only [List.map_cons, List.map_nil]
      rw [prow_succ g hk, if_pos he, prow_nil h hk]; rfl
  rw [e1, ← prows_len]
  simp
theorem sK_new {g : Gr} (h : g.vs.Pairwise (· < ·)) {k : Nat} (hk : k < g.vs.length) (he : lab g.es (g.vs.getD k 0) = g.vs.getD k 0) (y : UInt32) :
    sK g (k + 1) y = if lab g.es y = lab g.es (g.vs.getD k 0) then some (.int .i64 ((reps g k).length : Nat)) else sK g k y := by
  have hn := rep_new h hk
  unfold sK
  rw [reps_new hk he, he]
  by_cases e : lab g.es y = g.vs.getD k 0
  · rw [if_pos e, if_pos (by rw [e]; simp), e]
    congr 2
    unfold fst
    rw [List.findIdx_append, if_neg]
    · simp
    · intro q
      have := fst_yes (reps g k) (g.vs.getD k 0) q
      rw [beq_iff_eq] at this
      exact hn (this ▸ List.getElem_mem q)
  · rw [if_neg e]
    by_cases e2 : lab g.es y ∈ reps g k
    · rw [if_pos (List.mem_append_left _ e2), if_pos e2]
      congr 2
      have hl := fst_lt e2
      unfold fst at hl ⊢
      rw [List.findIdx_append, if_pos hl]
    · rw [if_neg e2, if_neg]
      intro q
      rcases List.mem_append.1 q with q | q
      · exact e2 q
      · exact e (List.mem_singleton.1 q)
theorem sK_old {g : Gr} {k : Nat} (hk : k < g.vs.length) (he : ¬ lab g.es (g.vs.getD k 0) = g.vs.getD k 0) : sK g (k + 1) = sK g k := by
  unfold sK; rw [reps_old hk he]
theorem sK_zero (g : Gr) : sK g 0 = fun _ => none := by funext y; simp [sK, reps]
theorem prows_all (g : Gr) : prows g g.vs.length = parts g := by
  unfold prows reps parts prow part
  simp only [List.take_length]
theorem prow_le (g : Gr) (k : Nat) (v : UInt32) : (prow g k v).length ≤ g.vs.length := by
  unfold prow
  have := List.length_filter_le (fun x => lab g.es x == v) (g.vs.take k)
  rw [List.length_take] at this
  omega
theorem part_le (g : Gr) (v : UInt32) : (part g v).length ≤ g.vs.length := List.length_filter_le _ _
end Go.Proofs.Ytcinbmekjlmdpaa

/-! slices.Collect of slices.Values. -/
namespace Go.Proofs.Ytcinbmekjlmdpaa
open Go.RowKit Go.Shelf
attribute [local go_sem] Oper.semAt_some
attribute [local irreducible] V

set_option maxRecDepth 100000 in
set_option maxHeartbeats 2000000 in
/-- The iterator over a row. -/
theorem valit (n : Nat) (hn : 1 ≤ n) (lp Bs n0 : Nat) (A : Option Addr) (c : Nat) (l : List UInt32) (J Jx : List UInt32 → World → Prop)
    (hY : ∀ pre x W, J pre W → pre.length < 1000001 → YieldAt Fence.wide (n - 1) Try.prog lp #[V x] W fun e W' =>
      (e = .returned (.bool true) ∧ J (pre ++ [x]) W' ∧ Below n0 W W') ∨ (e = .returned (.bool false) ∧ Jx (pre ++ [x]) W'))
    (W : World) (hB : W.cell? ⟨Bs, 0, none⟩ = some (.slice A l.length c)) (hl : l.length ≤ 1000000) (hR : ∀ W', Below n0 W W' → Rd W' A l) (h0 : J [] W) :
    CallsIn Fence.wide n Try.prog 51 #[.func (.yield lp) #[] #[], .pointer (some ⟨Bs, 0, none⟩)] W fun e W' => (∃ v, e = .returned v) ∧
      ((∃ ys, ys = l ∧ J ys W') ∨ (∃ pre, pre <+: l ∧ Jx pre W')) := by
  have HY := Lib.hid hY
  have HR := Lib.hid hR
  clear hY hR
  refine callsIn_of_wp Try.func51 rfl trivial ?_ rfl
  simp only [Try.ntmps51, List.size_toArray, List.length_cons, List.length_nil, Nat.reduceAdd, Nat.reduceSub, Array.replicate_succ, Array.replicate_zero, List.push_toArray, List.append_toArray, List.nil_append, List.cons_append]
  gi_wp2
  gi_loopw [7] (fun i wr => ∃ (k : Nat), i = .int .i64 k ∧ k ≤ l.length ∧ J (l.take k) wr ∧ Below n0 W wr) (fun i _ => l.length - (intOf i).toNat)
  case atStart => exact ⟨0, rfl, Nat.zero_le _, h0, Below.refl _ _⟩
  case round =>
    obtain ⟨k, rfl, hk, hJ, hb⟩ := hrel
    have HJ := Lib.hid hJ
    have HB := Lib.hid hb
    by_cases hlt : k < l.length
    · obtain ⟨b, o, rfl, hc⟩ := (HR.out wr hb).spot (by omega)
      have hcell := hc k hlt
      rw [getD_at hlt] at hcell
      have HTK := Lib.hid (take_at hlt)
      have hlk : (l.take k).length < 1000001 := by rw [List.length_take]; omega
      obtain ⟨fn, tmps, assign, body, hy, hR⟩ := HY.out (l.take k) (l.getD k 0) wr hJ hlk
      clear hc hJ hb hlk
      generalize l.getD k 0 = x at *
      gi_wp2
      refine hR.mono ?_
      rintro e W3 (⟨rfl, hJ3, hk3⟩ | ⟨rfl, hJx3⟩)
      · have HJ3 := Lib.hid hJ3
        have HK3 := Lib.hid hk3
        clear hJ3 hk3
        gi_wp2
        go_roundw
        case rel => exact ⟨k + 1, by go_num, by omega, by rw [HTK.out]; exact HJ3.out, HB.out.trans HK3.out⟩
        case measure => simp [intOf]; omega
      · have HJ3 := Lib.hid hJx3
        clear hJx3
        gi_wp2
        refine bodyPost_ret (results_none rfl _ _ _) rfl ?_
        exact ⟨⟨_, rfl⟩, .inr ⟨_, by rw [← HTK.out]; exact List.take_prefix _ _, HJ3.out⟩⟩
    · have e : l.take k = l := List.take_of_length_le (by omega)
      rw [e] at HJ
      gi_wp2
      go_end0
      exact ⟨⟨_, rfl⟩, .inl ⟨l, rfl, HJ.out⟩⟩
theorem values_stops (n : Nat) (hn : 1 ≤ n) (Bs : Nat) (A : Option Addr) (c : Nat) (l : List UInt32) (w : World) (hB : w.cell? ⟨Bs, 0, none⟩ = some (.slice A l.length c)) (hb : Bs < w.heap.size) (hR : Rd w A l) :
    SeqStopsK Fence.wide n Try.prog 51 #[.pointer (some ⟨Bs, 0, none⟩)] (fun x => #[V x]) (Below w.heap.size) (fun ys => ys = l) (fun pre => pre <+: l) 1000001 w := fun lp J Jx W hW _ _ hY h0 =>
  valit n hn lp Bs w.heap.size A c l J Jx hY W ((hW.cell (p := ⟨Bs, 0, none⟩) hb).trans hB) hR.len (fun _ hb' => hR.kept (hW.trans hb') (Nat.le_refl _)) h0
/-- What the rounds keep: in the box lies what came. -/
def ApI (w : World) (pre : List UInt32) (W : World) : Prop := (∃ v, Boxed W w.heap.size 22 v ∧ W.ownsRow w.heap.size 30 1 v pre.length (pre.map V) ∧ True) ∧ Below w.heap.size w W
theorem ApI.own (w : World) (B : Nat) (hB : w.heap.size ≤ B) : OwnFrom B (ApI w) := by
  refine OwnFrom.and (Own.from (holdsRow_own w.heap.size w.heap.size 22 30 1 (fun pre : List UInt32 => pre.length) (fun pre => pre.map V) (fun _ _ => True)) _) (ownFrom_below (Nat.le_refl _) hB)
set_option maxRecDepth 100000 in
set_option maxHeartbeats 4000000 in
/-- slices.AppendSeq of nothing and a row's values. -/
theorem appendseq_walk (w : World) (Bs : Nat) (A : Option Addr) (c : Nat) (l : List UInt32) (hB : w.cell? ⟨Bs, 0, none⟩ = some (.slice A l.length c)) (hb : Bs < w.heap.size) (hR : Rd w A l) :
    Calls Try.prog 64 #[.slice none 0 0, .func (.func 51) #[] #[.pointer (some ⟨Bs, 0, none⟩)]] w fun e w' => ∃ v, e = .returned v ∧ Oq w' w.heap.size v l ∧ Below w.heap.size w w' := by
  have HSQ := Lib.hid (values_stops 5 (by omega) Bs A c l w hB hb hR)
  have hlen := hR.len
  obtain ⟨i0, hi, hz0, hz1, hz2⟩ := info31
  have h0 : 1 ≤ 6 := by omega
  clear hB hR
  refine (callsIn_wide (n := 6)).1 ?_
  refine callsIn_of_wp_marks Try.func64 rfl trivial ?_ rfl
  simp only [Try.ntmps64, List.size_toArray, List.length_cons, List.length_nil, Nat.reduceAdd, Nat.reduceSub, Array.replicate_succ, Array.replicate_zero, List.push_toArray, List.append_toArray, List.nil_append, List.cons_append]
  gi_wp2
  have hb0 : Below w.heap.size w (w.alloc (.cells #[.slice none 0 0] 22)) := (Below.refl _ w).alloc (Nat.le_refl _) _
  refine wpIn_rangeFunc_ownF rfl h0 (gf := 51) (lb := #[.pointer (some ⟨Bs, 0, none⟩)]) rfl trivial (enters_of Try.func51 (by kernel_rfl) rfl) HSQ.out
    belowK_t (belowK_b (by simp)) hb0 (fun _ => rfl) (ApI w) (fun _ _ _ => False) (ApI.own w _ (by simp)) (fun _ _ _ _ _ h _ _ => h) ⟨⟨_, Boxed.new w 22 _, World.ownsRow_nil _ _ _ _, trivial⟩, hb0⟩
    (fun x => { tmps := #[.slice none 0 0, .func (.func 51) #[] #[.pointer (some ⟨Bs, 0, none⟩)], .pointer (some ⟨w.heap.size, 0, none⟩), undef, .slice none 0 0, V x, .func (.func 51) #[] #[.pointer (some ⟨Bs, 0, none⟩)], V x, undef, undef, undef, undef, undef], defers := [] }) ?assign ?body ?done ?stop
  case assign =>
    intro lp x W K hK
    have e : ∀ tm : Array Value, (#[7].zip #[V x]).foldl (fun t (p, v) => t.setIfInBounds p v) tm = tm.setIfInBounds 7 (V x) := fun tm => by simp
    rw [e]
    simp only [List.setIfInBounds_toArray, List.set_cons_succ, List.set_cons_zero]
    gi_wp2
    exact hK
  case body =>
    rintro lp pre x W ⟨⟨v, hv, hrow, _⟩, hB⟩ hlt
    have hc0 := hv.cell
    have hsz := hB.size
    have hbs := hv.lt
    have r6 := V_cells x
    unfold Value.cells at r6
    gi_wp2_with (gi_at_builtin; refine wpListIn_append_own _ rfl _ _ 22 rfl w.heap.size 30 i0 (.int .u32 0) 1 4 Try.underlying22 hi hz0 hz1 hz2 rfl (by decide) _ _ _ rfl (hrow.alloc _) ⟨W.heap.size, 0, none⟩ 1 1 [V x] rfl rfl (cell_one_new _ _ _) (one_cell x) (by unfold maxLen; omega) (by omega) (by simp; omega) ?_; intro v' w1 hown' hgrow _; obtain ⟨g', cap', rfl⟩ := ownsRow_succ hown'; obtain ⟨hv1, hv2, hr2, hk2, hb2⟩ := hv.appended (by decide) hrow (by omega) (by omega) hown' hgrow; have hc1 := hv1.cell; have hf1 := hv1.frozen)
    refine ⟨hk2, hb2, ⟨_, hv2, ?_, trivial⟩, hB.trans hb2⟩
    have e1 : (pre ++ [x]).length = pre.length + 1 := by simp
    rw [e1, List.map_append]
    exact hr2
  case done =>
    rintro D ys W hD rfl ⟨⟨v, hv, hrow, _⟩, hB⟩ hK
    have hc0 := hv.cell
    have hq : Oq W w.heap.size v ys := Oq.owned hrow
    have HK := Lib.hid hK
    have HQ := Lib.hid hq
    have HB := Lib.hid hB
    clear hK hq hB hrow
    gi_wp2
    have hlt : D < W.heap.size := (Array.getElem?_eq_some_iff.1 HK.out).1
    refine ⟨by simp, .inl ⟨_, _, rfl, run_takeDeferred HK.out, ?_⟩⟩
    refine ⟨_, results_tmp rfl _ _ _, _, rfl, ?_, HB.out.trans (belowK_b (w := w) (Nat.le_refl _) W D _ _ (by simp at hD; omega) HK.out rfl rfl)⟩
    exact HQ.out.grown (grownBy_putObj' W D (.deferred none)) (fun b hb e => by
      cases e
      obtain ⟨_, _, cur, hcur⟩ := HQ.out.lt hb
      have hd := HK.out
      unfold Blk at hcur
      rw [hd] at hcur
      cases hcur)
  case stop =>
    rintro D c pre W _ _ h
    exact h.elim
end Go.Proofs.Ytcinbmekjlmdpaa

/-! slices.Sort of at most one number. -/
namespace Go.Proofs.Ytcinbmekjlmdpaa
open Go.RowKit

set_option maxRecDepth 100000 in
set_option maxHeartbeats 1000000 in
theorem len64_zero (w : World) : Calls Try.prog 81 #[.int .u64 0] w fun e w' => e = .returned (.int .i64 0) ∧ w = w' := by
  go_enter Try.func81, Try.ntmps81
  go_wp2
  go_ret
  exact ⟨ret_int (by kernel_rfl), rfl⟩
set_option maxRecDepth 100000 in
set_option maxHeartbeats 1000000 in
theorem len64_one (w : World) : Calls Try.prog 81 #[.int .u64 1] w fun e w' => e = .returned (.int .i64 1) ∧ w = w' := by
  go_enter Try.func81, Try.ntmps81
  go_wp2
  go_ret
  exact ⟨ret_int (by kernel_rfl), rfl⟩
theorem len_zero (w : World) : Calls Try.prog 66 #[.int .u64 0] w fun e w' => e = .returned (.int .i64 0) ∧ w = w' := by
  go_enter Try.func66, Try.ntmps66
  go_wp2_with (go_at_call 81; refine (len64_zero _).mono ?_; rintro e w' ⟨rfl, rfl⟩)
  go_ret
  exact ⟨rfl, rfl⟩
theorem len_one (w : World) : Calls Try.prog 66 #[.int .u64 1] w fun e w' => e = .returned (.int .i64 1) ∧ w = w' := by
  go_enter Try.func66, Try.ntmps66
  go_wp2_with (go_at_call 81; refine (len64_one _).mono ?_; rintro e w' ⟨rfl, rfl⟩)
  go_ret
  exact ⟨rfl, rfl⟩
set_option maxRecDepth 100000 in
theorem inssort_none (w : World) (A : Option Addr) (n c : Nat) (b : Int) (h0 : 0 ≤ b) (h : b ≤ 1) : Calls Try.prog 72 #[.slice A n c, .int .i64 0, .int .i64 b] w fun e w' => e = .returned (.tuple #[]) ∧ w = w' := by
  have h2 : ¬ (1 : Int) < b := by omega
  have h3 : decide ((1 : Int) < b) = false := decide_eq_false h2
  clear h
  go_enter Try.func72, Try.ntmps72
  go_wp2
  go_loop [6] (fun i => i = .int .i64 1) (fun _ => 0)
  case atStart => rfl
  case round =>
    obtain rfl := hrel
    go_wp2
    go_end0
    exact ⟨rfl, rfl⟩
set_option maxRecDepth 100000 in
theorem pdq_none (w : World) (A : Option Addr) (n c : Nat) (b k : Int) (h0 : 0 ≤ b) (h : b ≤ 1) : Calls Try.prog 65 #[.slice A n c, .int .i64 0, .int .i64 b, .int .i64 k] w fun e w' => e = .returned (.tuple #[]) ∧ w = w' := by
  have h3 : decide (b ≤ 12) = true := decide_eq_true (by omega)
  have h4 : b ≤ 12 := by omega
  go_enter Try.func65, Try.ntmps65
  go_wp2
  go_loop [1, 2, 3] (fun a b' k' => a = .int .i64 0 ∧ b' = .int .i64 b ∧ k' = .int .i64 k) (fun _ _ _ => 0)
  case atStart => exact ⟨rfl, rfl, rfl⟩
  case round =>
    obtain ⟨rfl, rfl, rfl⟩ := hrel
    go_wp2_with (go_at_call 72; refine (inssort_none _ _ _ _ _ h0 h).mono ?_; rintro e w' ⟨rfl, rfl⟩)
    exact bodyPost_ret (results_none rfl _ _ _) rfl ⟨rfl, rfl⟩
set_option maxRecDepth 100000 in
theorem sort_none (w : World) (A : Option Addr) (n c : Nat) (h : n ≤ 1) : Calls Try.prog 50 #[.slice A n c] w fun e w' => e = .returned (.tuple #[]) ∧ w = w' := by
  have : n = 0 ∨ n = 1 := by omega
  rcases this with rfl | rfl
  · go_enter Try.func50, Try.ntmps50
    go_wp2_with (first
      | (go_at_call 66; refine (len_zero _).mono ?_; rintro e w' ⟨rfl, rfl⟩)
      | (go_at_call 65; refine (pdq_none _ _ _ _ _ _ (by decide) (by decide)).mono ?_; rintro e w' ⟨rfl, rfl⟩))
    go_end0
    exact ⟨rfl, rfl⟩
  · go_enter Try.func50, Try.ntmps50
    go_wp2_with (first
      | (go_at_call 66; refine (len_one _).mono ?_; rintro e w' ⟨rfl, rfl⟩)
      | (go_at_call 65; refine (pdq_none _ _ _ _ _ _ (by decide) (by decide)).mono ?_; rintro e w' ⟨rfl, rfl⟩))
    go_end0
    exact ⟨rfl, rfl⟩
/-- slices.Sorted of a row of at most one. -/
theorem sorted_one (w : World) (Bs : Nat) (A : Option Addr) (c : Nat) (l : List UInt32) (hB : w.cell? ⟨Bs, 0, none⟩ = some (.slice A l.length c)) (hb : Bs < w.heap.size) (hR : Rd w A l) (hl : l.length ≤ 1) :
    Calls Try.prog 41 #[.func (.func 51) #[] #[.pointer (some ⟨Bs, 0, none⟩)]] w fun e w' => ∃ v, e = .returned v ∧ RV w' v l ∧ Below w.heap.size w w' := by
  have HA := Lib.hid (appendseq_walk w Bs A c l hB hb hR)
  have HL : Hid (l.length ≤ 1000000) := by show _ ≤ _; omega
  have HC : Hid (Calls Try.prog 49 #[.func (.func 51) #[] #[.pointer (some ⟨Bs, 0, none⟩)]] w fun e w' => ∃ v, e = .returned v ∧ Oq w' w.heap.size v l ∧ Below w.heap.size w w') := by
    show Calls _ _ _ _ _
    clear hB hb hR
    go_enter Try.func49, Try.ntmps49
    go_wp2_with (go_at_call 64; refine HA.out.mono ?_; rintro e w1 ⟨v, rfl, ho, hb1⟩; have HO := Lib.hid ho; have HB := Lib.hid hb1; clear ho hb1)
    go_ret
    exact ⟨_, rfl, HO.out, HB.out⟩
  clear hB hb hR
  go_enter Try.func41, Try.ntmps41
  go_wp2_with (first
    | (go_at_call 49; refine HC.out.mono ?_; rintro e w1 ⟨v, rfl, ho, hb1⟩; have HO := Lib.hid (ho.rv HL.out); obtain ⟨A1, c1, hv, _⟩ := ho.is; subst hv; have HB := Lib.hid hb1; clear ho hb1)
    | (go_at_call 50; refine (sort_none _ _ _ _ hl).mono ?_; rintro e w' ⟨rfl, rfl⟩))
  go_ret
  exact ⟨_, rfl, HO.out, HB.out⟩
end Go.Proofs.Ytcinbmekjlmdpaa
