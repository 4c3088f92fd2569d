/- What hangs together: pure. -/
import Derived.Test.YtbhoingiibcboaaG8
namespace Go.Proofs.Ytbhoingiibcboaa
open Go.RowKit

/-- Two labels made one: the lesser. -/
def mrg (f : UInt32 → UInt32) (a b x : UInt32) : UInt32 := if f x = f a ∨ f x = f b then mn (f a) (f b) else f x
/-- The label of a vertex: the least one of its part. -/
def lab : List Eg → UInt32 → UInt32
  | [], x => x
  | e :: r, x => mrg (lab r) e.a e.b x
theorem mn_le (x y : UInt32) : mn x y ≤ x ∧ mn x y ≤ y := by
  unfold mn
  split
  · rename_i h
    refine ⟨?_, UInt32.le_refl _⟩
    rw [UInt32.lt_iff_toNat_lt] at h; rw [UInt32.le_iff_toNat_le]; omega
  · rename_i h
    exact ⟨UInt32.le_refl _, u32_le_of_not h⟩
theorem mrg_le {f : UInt32 → UInt32} (h : ∀ x, f x ≤ x) (a b x : UInt32) : mrg f a b x ≤ x := by
  unfold mrg
  split
  · rename_i q
    rcases q with q | q
    · exact UInt32.le_trans (mn_le _ _).1 (q ▸ h x)
    · exact UInt32.le_trans (mn_le _ _).2 (q ▸ h x)
  · exact h x
theorem lab_le : ∀ (es : List Eg) (x : UInt32), lab es x ≤ x
  | [], _ => UInt32.le_refl _
  | _ :: r, x => mrg_le (lab_le r) _ _ x
theorem mrg_idem {f : UInt32 → UInt32} (h : ∀ x, f (f x) = f x) (a b x : UInt32) : mrg f a b (mrg f a b x) = mrg f a b x := by
  have hm : f (mn (f a) (f b)) = mn (f a) (f b) := by
    rcases mn_mem (f a) (f b) with e | e
    · rw [e]; exact h a
    · rw [e]; exact h b
  unfold mrg
  by_cases q : f x = f a ∨ f x = f b
  · rw [if_pos q]
    rw [if_pos (by rw [hm]; exact mn_mem _ _)]
  · rw [if_neg q, h x, if_neg q]
theorem lab_idem : ∀ (es : List Eg) (x : UInt32), lab es (lab es x) = lab es x
  | [], _ => rfl
  | _ :: r, x => mrg_idem (lab_idem r) _ _ x
theorem mrg_eq {f : UInt32 → UInt32} (a b : UInt32) : mrg f a b a = mrg f a b b := by
  unfold mrg
  rw [if_pos (.inl rfl), if_pos (.inr rfl)]
theorem mrg_of {f : UInt32 → UInt32} (a b : UInt32) {x y : UInt32} (h : f x = f y) : mrg f a b x = mrg f a b y := by
  unfold mrg; rw [h]
theorem lab_edge : ∀ (es : List Eg) (e : Eg), e ∈ es → lab es e.a = lab es e.b
  | x :: r, e, h => by
    rcases List.mem_cons.1 h with rfl | h
    · exact mrg_eq _ _
    · exact mrg_of _ _ (lab_edge r e h)
/-- What holds at both ends of each edge or at none, holds of a vertex just if of its label. -/
theorem lab_closed (S : UInt32 → Prop) : ∀ (es : List Eg), (∀ e ∈ es, S e.a ↔ S e.b) → ∀ x, S (lab es x) ↔ S x
  | [], _, _ => Iff.rfl
  | e :: r, h, x => by
    have ih := lab_closed S r (fun e he => h e (List.mem_cons_of_mem _ he))
    have he := h e List.mem_cons_self
    show S (mrg (lab r) e.a e.b x) ↔ S x
    unfold mrg
    split
    · rename_i q
      have hm : S (mn (lab r e.a) (lab r e.b)) ↔ S e.a := by
        rcases mn_mem (lab r e.a) (lab r e.b) with q | q
        · rw [q]; exact ih _
        · rw [q]; exact (ih _).trans he.symm
      rcases q with q | q
      · exact hm.trans ((ih e.a).symm.trans (by rw [← q]; exact ih x))
      · exact hm.trans (he.trans ((ih e.b).symm.trans (by rw [← q]; exact ih x)))
    · exact ih x
theorem lab_same (S : UInt32 → Prop) (es : List Eg) (h : ∀ e ∈ es, S e.a ↔ S e.b) {x y : UInt32} (e : lab es x = lab es y) : S x ↔ S y :=
  (lab_closed S es h x).symm.trans (by rw [e]; exact lab_closed S es h y)
theorem lab_mem {es : List Eg} {vs : List UInt32} (h : ∀ e ∈ es, e.a ∈ vs ∧ e.b ∈ vs) {x : UInt32} (hx : x ∈ vs) : lab es x ∈ vs :=
  (lab_closed (· ∈ vs) es (fun e he => ⟨fun _ => (h e he).2, fun _ => (h e he).1⟩) x).2 hx
theorem nbr_mem {es : List Eg} {x y : UInt32} (h : y ∈ nbr es x) : ∃ e ∈ es, (e.a = x ∧ e.b = y) ∨ (e.b = x ∧ e.a = y) := by
  unfold nbr at h
  obtain ⟨e, he, hy⟩ := List.mem_flatMap.1 h
  refine ⟨e, he, ?_⟩
  rcases List.mem_append.1 hy with h1 | h1
  · by_cases q : e.a = x
    · rw [if_pos q, List.mem_singleton] at h1; exact .inl ⟨q, h1.symm⟩
    · rw [if_neg q] at h1; cases h1
  · by_cases q : e.b = x
    · rw [if_pos q, List.mem_singleton] at h1; exact .inr ⟨q, h1.symm⟩
    · rw [if_neg q] at h1; cases h1
theorem nbr_lab {es : List Eg} {x y : UInt32} (h : y ∈ nbr es x) : lab es y = lab es x := by
  obtain ⟨e, he, h1 | h1⟩ := nbr_mem h
  · rw [← h1.1, ← h1.2]; exact (lab_edge es e he).symm
  · rw [← h1.1, ← h1.2]; exact lab_edge es e he
theorem nbr_a {es : List Eg} {e : Eg} (h : e ∈ es) : e.b ∈ nbr es e.a := List.mem_flatMap.2 ⟨e, h, by rw [if_pos rfl]; simp⟩
theorem nbr_b {es : List Eg} {e : Eg} (h : e ∈ es) : e.a ∈ nbr es e.b := List.mem_flatMap.2 ⟨e, h, by rw [if_pos (rfl : e.b = e.b)]; simp⟩
/-- A set that has with each vertex those near it has all that hang together with one. -/
theorem lab_near (es : List Eg) (N : UInt32 → Prop) (h : ∀ x, N x → ∀ y ∈ nbr es x, N y) {x y : UInt32} (e : lab es x = lab es y) : N x ↔ N y :=
  lab_same N es (fun e he => ⟨fun q => h _ q _ (nbr_a he), fun q => h _ q _ (nbr_b he)⟩) e
/-- The parts. -/
def part (g : Gr) (v : UInt32) : List UInt32 := g.vs.filter fun x => lab g.es x == v
def parts (g : Gr) : List (List UInt32) := (g.vs.filter fun v => lab g.es v == v).map (part g)
/-- How many are not seen yet. -/
def un (vs : List UInt32) (N : UInt32 → Bool) : Nat := vs.countP fun x => !N x
theorem un_put {vs : List UInt32} {N : UInt32 → Bool} {y : UInt32} (hy : y ∈ vs) (hn : N y = false) : un vs (upd N y true) + 1 ≤ un vs N := by
  unfold un
  have := countP_less (fun x => !N x) (fun x => !(upd N y true) x) (fun x hx => by
    unfold upd at hx
    by_cases e : x = y
    · simp [e] at hx
    · simpa [e] using hx) vs y hy (by simp [hn]) (by simp [upd])
  omega
theorem upd_at {K A : Type} [DecidableEq K] (f : K → A) (k : K) (v : A) : upd f k v k = v := by simp [upd]
theorem upd_ne {K A : Type} [DecidableEq K] (f : K → A) {k y : K} (v : A) (h : ¬ y = k) : upd f k v y = f y := by simp [upd, h]
end Go.Proofs.Ytbhoingiibcboaa
