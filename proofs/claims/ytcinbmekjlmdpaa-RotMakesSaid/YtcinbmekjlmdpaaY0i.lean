/- Pure: a permutation told by its cycles; a swap of two joins two cycles or cuts one. -/
import Derived.Test.YtcinbmekjlmdpaaY0f

/-! Pure: a permutation told by its cycles; a swap of two joins two cycles or cuts one. -/
namespace Go.Proofs.Ytcinbmekjlmdpaa.Cyc

set_option linter.unusedSectionVars false
variable {α : Type} [DecidableEq α]

/-- A row that f goes round. -/
def Cy (f : α → α) (c : List α) : Prop := c ≠ [] ∧ c.map f = c.drop 1 ++ c.take 1
/-- All cycles of f on D. -/
def Cs (f : α → α) (D : List α) (cs : List (List α)) : Prop := (∀ c ∈ cs, Cy f c) ∧ cs.flatten.Perm D
/-- a and b changed. -/
def sw (a b x : α) : α := if x = a then b else if x = b then a else x

theorem Cy.cons {f : α → α} {x : α} {q : List α} : Cy f (x :: q) ↔ f x :: q.map f = q ++ [x] := by
  unfold Cy
  simp
theorem Cy.step {f : α → α} {x : α} {q : List α} (h : Cy f (x :: q)) : Cy f (q ++ [x]) := by
  rw [Cy.cons] at h
  cases q with
  | nil => exact Cy.cons.2 h
  | cons y r =>
    simp only [List.map_cons, List.cons_append, List.cons.injEq] at h
    obtain ⟨h1, h2⟩ := h
    show Cy f (y :: (r ++ [x]))
    rw [Cy.cons, List.map_append, ← List.cons_append, h2, List.map_cons, h1]
    rfl
theorem Cy.rot {f : α → α} : ∀ (p : List α) {q : List α}, Cy f (p ++ q) → Cy f (q ++ p)
  | [], q, h => by simpa using h
  | x :: p, q, h => by
    have h1 : Cy f (p ++ (q ++ [x])) := by
      have := Cy.step (x := x) (q := p ++ q) h
      rwa [List.append_assoc] at this
    have h2 := Cy.rot p h1
    rwa [List.append_assoc] at h2
theorem sw_left (a b : α) : sw a b a = b := if_pos rfl
theorem sw_right (a b : α) : sw a b b = a := by
  unfold sw
  by_cases h : b = a
  · rw [if_pos h, h]
  · rw [if_neg h, if_pos rfl]
theorem sw_other {a b x : α} (h1 : x ≠ a) (h2 : x ≠ b) : sw a b x = x := by unfold sw; rw [if_neg h1, if_neg h2]
theorem map_sw (f : α → α) {a b : α} {l : List α} (h1 : a ∉ l) (h2 : b ∉ l) : l.map (fun x => f (sw a b x)) = l.map f :=
  List.map_congr_left fun x hx => by
    show f (sw a b x) = f x
    rw [sw_other (fun e => h1 (by rw [← e]; exact hx)) (fun e => h2 (by rw [← e]; exact hx))]
/-- Two cycles become one. -/
theorem join {f : α → α} {a b : α} {u v : List α} (h1 : Cy f (a :: u)) (h2 : Cy f (b :: v)) (hu : a ∉ u ∧ b ∉ u) (hv : a ∉ v ∧ b ∉ v) : Cy (fun x => f (sw a b x)) (a :: (v ++ b :: u)) := by
  rw [Cy.cons] at h1 h2 ⊢
  rw [List.map_append, List.map_cons, map_sw f hv.1 hv.2, map_sw f hu.1 hu.2]
  show f (sw a b a) :: (v.map f ++ f (sw a b b) :: u.map f) = _
  rw [sw_left, sw_right, ← List.cons_append, h2, h1]
  simp
/-- One cycle becomes two. -/
theorem cut {f : α → α} {a b : α} {u v : List α} (h : Cy f (a :: (u ++ b :: v))) (hu : a ∉ u ∧ b ∉ u) (hv : a ∉ v ∧ b ∉ v) : Cy (fun x => f (sw a b x)) (a :: v) ∧ Cy (fun x => f (sw a b x)) (b :: u) := by
  rw [Cy.cons, List.map_append, List.map_cons, ← List.cons_append] at h
  have hl : (f a :: u.map f).length = (u ++ [b]).length := by simp
  have h' : (f a :: u.map f) ++ (f b :: v.map f) = (u ++ [b]) ++ (v ++ [a]) := by rw [h]; simp
  obtain ⟨e1, e2⟩ := List.append_inj h' hl
  rw [Cy.cons, Cy.cons, map_sw f hv.1 hv.2, map_sw f hu.1 hu.2, sw_left, sw_right]
  exact ⟨e2, e1⟩
theorem Cs.perm {f : α → α} {D : List α} {cs ds : List (List α)} (h : Cs f D cs) (hp : cs.Perm ds) : Cs f D ds :=
  ⟨fun c hc => h.1 c (hp.mem_iff.2 hc), (hp.flatten).symm.trans h.2⟩
/-- The cycle of one, told from it on. -/
theorem Cs.pick {f : α → α} {D : List α} {cs : List (List α)} (h : Cs f D cs) {a : α} (ha : a ∈ D) : ∃ u ds, Cs f D ((a :: u) :: ds) ∧ cs.length = ds.length + 1 := by
  obtain ⟨c, hc, hac⟩ := List.mem_flatten.1 (h.2.mem_iff.2 ha)
  obtain ⟨p, q, rfl⟩ := List.append_of_mem hac
  have hp := List.perm_cons_erase hc
  have h1 := h.perm hp
  refine ⟨q ++ p, cs.erase (p ++ a :: q), ⟨fun c hc' => ?_, ?_⟩, ?_⟩
  · rcases List.mem_cons.1 hc' with rfl | hc'
    · exact Cy.rot p (h1.1 _ (List.mem_cons_self))
    · exact h1.1 c (List.mem_cons_of_mem _ hc')
  · refine List.Perm.trans ?_ h1.2
    simp only [List.flatten_cons]
    refine List.Perm.append_right _ ?_
    show (a :: q ++ p).Perm _
    exact List.perm_append_comm
  · have := hp.length_eq; simpa using this
/-- All cycles behind a swap: one more, or one less. -/
theorem Cs.swap {f : α → α} {D : List α} {cs : List (List α)} (hD : D.Nodup) (h : Cs f D cs) {a b : α} (ha : a ∈ D) (hb : b ∈ D) (hab : a ≠ b) :
    ∃ ds, Cs (fun x => f (sw a b x)) D ds ∧ ((ds.length = cs.length + 1 ∧ ∃ c, Cy f c ∧ (∀ x ∈ c, x ∈ D) ∧ a ∈ c ∧ b ∈ c) ∨ cs.length = ds.length + 1) := by
  obtain ⟨u, ds, h1, hl⟩ := h.pick ha
  have hn : ((a :: u) :: ds).flatten.Nodup := h1.2.nodup_iff.2 hD
  have hnu : (a :: u).Nodup := by
    rw [List.flatten_cons] at hn
    exact (List.nodup_append.1 hn).1
  have hau : a ∉ u := (List.nodup_cons.1 hnu).1
  have hkeep : ∀ ds' : List (List α), (∀ c ∈ ds', c ∈ ds) → (∀ c ∈ ds', b ∉ c) → ∀ c ∈ ds', Cy (fun x => f (sw a b x)) c := by
    intro ds' hsub hb' c hc
    obtain ⟨g1, g2⟩ := h1.1 c (List.mem_cons_of_mem _ (hsub c hc))
    refine ⟨g1, ?_⟩
    rw [← g2]
    refine map_sw f (fun hac => ?_) (hb' c hc)
    rw [List.flatten_cons] at hn
    exact (List.nodup_append.1 hn).2.2 a List.mem_cons_self a (List.mem_flatten.2 ⟨c, hsub c hc, hac⟩) rfl
  by_cases hbu : b ∈ u
  · obtain ⟨p, q, rfl⟩ := List.append_of_mem hbu
    have hnu2 := (List.nodup_cons.1 hnu).2
    have hq : b ∉ q := (List.nodup_cons.1 (List.nodup_append.1 hnu2).2.1).1
    have hp : b ∉ p := fun hb' => (List.nodup_append.1 hnu2).2.2 b hb' b List.mem_cons_self rfl
    have hc := cut (h1.1 _ List.mem_cons_self) ⟨fun e => hau (List.mem_append_left _ e), hp⟩ ⟨fun e => hau (List.mem_append_right _ (List.mem_cons_of_mem _ e)), hq⟩
    refine ⟨(a :: q) :: (b :: p) :: ds, ⟨fun c hc' => ?_, ?_⟩, .inl ⟨by simp [hl], _, h1.1 _ List.mem_cons_self, fun x hx => h1.2.mem_iff.1 (by rw [List.flatten_cons]; exact List.mem_append_left _ hx), List.mem_cons_self, List.mem_cons_of_mem _ hbu⟩⟩
    · rcases List.mem_cons.1 hc' with rfl | hc'
      · exact hc.1
      · rcases List.mem_cons.1 hc' with rfl | hc'
        · exact hc.2
        · refine hkeep ds (fun _ h => h) (fun c hcc hbc => ?_) c hc'
          rw [List.flatten_cons] at hn
          exact (List.nodup_append.1 hn).2.2 b (List.mem_cons_of_mem _ hbu) b (List.mem_flatten.2 ⟨c, hcc, hbc⟩) rfl
    · refine List.Perm.trans ?_ h1.2
      simp only [List.flatten_cons, ← List.append_assoc]
      refine List.Perm.append_right _ ?_
      show (a :: (q ++ b :: p)).Perm (a :: (p ++ b :: q))
      refine List.Perm.cons _ ?_
      refine (List.perm_middle).trans (List.Perm.trans ?_ (List.perm_middle).symm)
      exact List.Perm.cons _ List.perm_append_comm
  · have hb2 : b ∈ ds.flatten := by
      have := h1.2.mem_iff.2 hb
      rw [List.flatten_cons, List.mem_append] at this
      rcases this with h | h
      · rcases List.mem_cons.1 h with e | h
        · exact absurd e.symm hab
        · exact absurd h hbu
      · exact h
    have h2 : Cs f ds.flatten ds := ⟨fun c hc => h1.1 c (List.mem_cons_of_mem _ hc), List.Perm.refl _⟩
    obtain ⟨v, es, h3, hl3⟩ := h2.pick hb2
    rw [List.flatten_cons] at hn
    have hnd := (List.nodup_append.1 hn).2.1
    have hnv : ((b :: v) :: es).flatten.Nodup := h3.2.nodup_iff.2 hnd
    rw [List.flatten_cons] at hnv
    have hbv : b ∉ v := (List.nodup_cons.1 (List.nodup_append.1 hnv).1).1
    have hav : a ∉ v := fun e => (List.nodup_append.1 hn).2.2 a List.mem_cons_self a (h3.2.mem_iff.1 (by rw [List.flatten_cons]; exact List.mem_append_left _ (List.mem_cons_of_mem _ e))) rfl
    have hj := join (h1.1 _ List.mem_cons_self) (h3.1 _ List.mem_cons_self) ⟨hau, hbu⟩ ⟨hav, hbv⟩
    refine ⟨(a :: (v ++ b :: u)) :: es, ⟨fun c hc' => ?_, ?_⟩, .inr (by simp [hl, hl3])⟩
    · rcases List.mem_cons.1 hc' with rfl | hc'
      · exact hj
      · have g := h3.1 c (List.mem_cons_of_mem _ hc')
        refine ⟨g.1, ?_⟩
        rw [← g.2]
        refine map_sw f (fun hac => ?_) (fun hbc => ?_)
        · exact (List.nodup_append.1 hn).2.2 a List.mem_cons_self a (h3.2.mem_iff.1 (List.mem_flatten.2 ⟨c, List.mem_cons_of_mem _ hc', hac⟩)) rfl
        · exact (List.nodup_append.1 hnv).2.2 b List.mem_cons_self b (List.mem_flatten.2 ⟨c, hc', hbc⟩) rfl
    · refine List.Perm.trans ?_ h1.2
      rw [List.flatten_cons, List.flatten_cons]
      have h4 : ((b :: v) ++ es.flatten).Perm ds.flatten := by have := h3.2; rwa [List.flatten_cons] at this
      refine List.Perm.trans ?_ (List.Perm.append_left _ h4)
      rw [← List.append_assoc]
      refine List.Perm.append_right _ ?_
      show (a :: (v ++ b :: u)).Perm (a :: (u ++ b :: v))
      refine List.Perm.cons _ ?_
      refine (List.perm_middle).trans (List.Perm.trans ?_ (List.perm_middle).symm)
      exact List.Perm.cons _ List.perm_append_comm
theorem all_one {β : Type} {a : β} : ∀ {l : List β}, l ++ [a] = a :: l → ∀ y ∈ l, y = a
  | [], _, y, h => by cases h
  | x :: l, h, y, hy => by
    simp only [List.cons_append, List.cons.injEq] at h
    obtain ⟨h1, h2⟩ := h
    subst h1
    rcases List.mem_cons.1 hy with e | hy
    · exact e
    · exact all_one h2 y hy
/-- What f does not change is one thing all along a cycle. -/
theorem Cy.same {β : Type} {f : α → α} {c : List α} (g : α → β) (h : Cy f c) (hg : ∀ x ∈ c, g (f x) = g x) : ∀ x ∈ c, ∀ y ∈ c, g x = g y := by
  cases c with
  | nil => intro x hx; cases hx
  | cons a q =>
    have h1 := Cy.cons.1 h
    have h2 : (a :: q).map (fun x => g (f x)) = (a :: q).map g := List.map_congr_left hg
    have h3 : ((f a :: q.map f).map g) = (q ++ [a]).map g := by rw [h1]
    have h4 : q.map g ++ [g a] = g a :: q.map g := by
      have e : (f a :: q.map f).map g = (a :: q).map (fun x => g (f x)) := by simp
      rw [← List.map_singleton, ← List.map_append, ← h3, e, h2]
      rfl
    have h5 : ∀ x ∈ a :: q, g x = g a := by
      intro x hx
      rcases List.mem_cons.1 hx with rfl | hx
      · rfl
      · exact all_one h4 _ (List.mem_map_of_mem hx)
    intro x hx y hy
    rw [h5 x hx, h5 y hy]
end Go.Proofs.Ytcinbmekjlmdpaa.Cyc

/-! Pure: edges, vertices, parts and faces: the genus is a number, and not below 0. -/
namespace Go.Proofs.Ytcinbmekjlmdpaa
open Cyc

/-- The one behind a dart round its face, as far as these edges are there. -/
def phi (s : UInt32 → UInt32) : List Eg → UInt32 → UInt32
  | [], x => s x
  | e :: r, x => phi s r (sw (2 * e.id) (2 * e.id + 1) x)
theorem lab_nil (x : UInt32) : lab [] x = x := rfl
theorem lab_cons (e : Eg) (r : List Eg) (x : UInt32) : lab (e :: r) x = mrg (lab r) e.a e.b x := rfl
theorem mrg_one {f : UInt32 → UInt32} {a b : UInt32} (h : f a = f b) (x : UInt32) : mrg f a b x = f x := by
  unfold mrg
  rw [← h]
  by_cases q : f x = f a
  · rw [if_pos (.inl q), q]; rcases mn_mem (f a) (f a) with e | e <;> exact e
  · rw [if_neg (by rintro (e | e) <;> exact q e)]
/-- How many parts. -/
def pn (vs : List UInt32) (es : List Eg) : Nat := vs.countP fun v => lab es v == v
theorem pn_nil (vs : List UInt32) : pn vs [] = vs.length := by
  unfold pn
  rw [List.countP_eq_length]
  intro x _
  rw [lab_nil]; simp
theorem pn_same {vs : List UInt32} {e : Eg} {r : List Eg} (h : lab r e.a = lab r e.b) : pn vs (e :: r) = pn vs r := by
  unfold pn
  congr 1
  funext v
  rw [lab_cons, mrg_one h]
theorem countP_one {l : List UInt32} (hn : l.Nodup) {p q : UInt32 → Bool} {m : UInt32} (hm : m ∈ l) (h1 : p m = true) (h2 : q m = false) (h3 : ∀ x ∈ l, x ≠ m → p x = q x) : l.countP p = l.countP q + 1 := by
  obtain ⟨s, t, rfl⟩ := List.append_of_mem hm
  have hs : m ∉ s := fun h => (List.nodup_append.1 hn).2.2 m h m List.mem_cons_self rfl
  have ht : m ∉ t := (List.nodup_cons.1 (List.nodup_append.1 hn).2.1).1
  have e1 : s.countP p = s.countP q := List.countP_congr fun x hx => by rw [h3 x (List.mem_append_left _ hx) (fun e => hs (e ▸ hx))]
  have e2 : t.countP p = t.countP q := List.countP_congr fun x hx => by rw [h3 x (List.mem_append_right _ (List.mem_cons_of_mem _ hx)) (fun e => ht (e ▸ hx))]
  rw [List.countP_append, List.countP_append, List.countP_cons, List.countP_cons, e1, e2, h1, h2]
  simp
  omega
theorem pn_join {vs : List UInt32} (hn : vs.Nodup) {e : Eg} {r : List Eg} (hr : ∀ e ∈ r, e.a ∈ vs ∧ e.b ∈ vs) (ha : e.a ∈ vs) (hb : e.b ∈ vs) (h : ¬ lab r e.a = lab r e.b) : pn vs r = pn vs (e :: r) + 1 := by
  have hma := lab_mem hr ha
  have hmb := lab_mem hr hb
  have ia := lab_idem r e.a
  have ib := lab_idem r e.b
  have key : ∀ m o : UInt32, m ≠ o → mn (lab r e.a) (lab r e.b) = o → lab r m = m → lab r o = o → (∀ x, (lab r x = lab r e.a ∨ lab r x = lab r e.b) ↔ (lab r x = m ∨ lab r x = o)) → m ∈ vs → pn vs r = pn vs (e :: r) + 1 := by
    intro m o hmo hmn hm ho hx hmv
    refine countP_one hn hmv (by simpa using hm) ?_ ?_
    · rw [lab_cons]
      unfold mrg
      rw [if_pos ((hx m).2 (.inl hm)), hmn]
      simpa using fun e => hmo e.symm
    · intro x _ hxm
      rw [lab_cons]
      unfold mrg
      by_cases q : lab r x = lab r e.a ∨ lab r x = lab r e.b
      · rw [if_pos q, hmn]
        rcases (hx x).1 q with q | q
        · rw [q]
          rw [beq_eq_false_iff_ne.2 (fun e => hxm e.symm)]
          rw [eq_comm, beq_eq_false_iff_ne]
          intro e
          rw [← e, ho] at q
          exact hmo q.symm
        · rw [q]
      · rw [if_neg q]
  rcases mn_mem (lab r e.a) (lab r e.b) with q | q
  · exact key (lab r e.b) (lab r e.a) (fun e => h e.symm) q ib ia (fun x => by constructor <;> rintro (e | e) <;> simp [e]) hmb
  · exact key (lab r e.a) (lab r e.b) h q ia ib (fun x => Iff.rfl) hma
theorem u32_succ (x : UInt32) : x ≠ x + 1 := fun e => by
  have h : x.toNat = (x + 1).toNat := congrArg UInt32.toNat e
  rw [UInt32.toNat_add] at h
  have := x.toNat_lt
  have : (1 : UInt32).toNat = 1 := rfl
  omega
/-- Edges added one after another: of parts, edges, vertices and cycles. -/
theorem euler {D vs : List UInt32} (s vert : UInt32 → UInt32) (hD : D.Nodup) (hvs : vs.Nodup) {ts : List (List UInt32)} (hts : Cs s D ts) (hlen : ts.length = vs.length) (hsv : ∀ x ∈ D, vert (s x) = vert x) :
    ∀ es : List Eg, (∀ e ∈ es, e.a ∈ vs ∧ e.b ∈ vs ∧ 2 * e.id ∈ D ∧ 2 * e.id + 1 ∈ D ∧ vert (2 * e.id) = e.a ∧ vert (2 * e.id + 1) = e.b) →
      ∃ cs t, Cs (phi s es) D cs ∧ 2 * pn vs es + es.length = vs.length + cs.length + 2 * t ∧ ∀ x ∈ D, lab es (vert (phi s es x)) = lab es (vert x)
  | [], _ => ⟨ts, 0, hts, by rw [pn_nil, hlen, List.length_nil]; omega, fun x hx => by show lab [] (vert (s x)) = _; rw [hsv x hx]⟩
  | e :: r, he => by
    obtain ⟨cs, t, hcs, hnum, hl⟩ := euler s vert hD hvs hts hlen hsv r fun x hx => he x (List.mem_cons_of_mem _ hx)
    obtain ⟨ha, hb, hda, hdb, hva, hvb⟩ := he e List.mem_cons_self
    obtain ⟨ds, hds, hcase⟩ := hcs.swap hD hda hdb (u32_succ _)
    have hr : ∀ x ∈ r, x.a ∈ vs ∧ x.b ∈ vs := fun x hx => ⟨(he x (List.mem_cons_of_mem _ hx)).1, (he x (List.mem_cons_of_mem _ hx)).2.1⟩
    have hlab : ∀ x ∈ D, lab (e :: r) (vert (phi s (e :: r) x)) = lab (e :: r) (vert x) := by
      intro x hx
      have hy : sw (2 * e.id) (2 * e.id + 1) x ∈ D := by
        unfold sw
        split
        · exact hdb
        · split
          · exact hda
          · exact hx
      have h1 := hl _ hy
      have h2 : lab (e :: r) (vert (phi s r (sw (2 * e.id) (2 * e.id + 1) x))) = lab (e :: r) (vert (sw (2 * e.id) (2 * e.id + 1) x)) := mrg_of e.a e.b h1
      refine h2.trans ?_
      have h3 := lab_edge (e :: r) e List.mem_cons_self
      unfold sw
      by_cases q1 : x = 2 * e.id
      · rw [if_pos q1, hvb, q1, hva, h3]
      · rw [if_neg q1]
        by_cases q2 : x = 2 * e.id + 1
        · rw [if_pos q2, hva, q2, hvb, h3]
        · rw [if_neg q2]
    rcases hcase with ⟨hone, c, hc, hcD, hca, hcb⟩ | hone
    · have hsame := hc.same (fun x => lab r (vert x)) (fun x hx => hl x (hcD x hx)) _ hca _ hcb
      simp only [hva, hvb] at hsame
      refine ⟨ds, t, hds, ?_, hlab⟩
      rw [pn_same hsame, List.length_cons]
      omega
    · by_cases hq : lab r e.a = lab r e.b
      · refine ⟨ds, t + 1, hds, ?_, hlab⟩
        rw [pn_same hq, List.length_cons]
        omega
      · have := pn_join hvs hr ha hb hq
        refine ⟨ds, t, hds, ?_, hlab⟩
        rw [List.length_cons]
        omega
end Go.Proofs.Ytcinbmekjlmdpaa

/-! Pure: the way round from one of a cycle, and that the least of each are as many as the cycles. -/
namespace Go.Proofs.Ytcinbmekjlmdpaa
open Cyc

theorem foldl_mn_le (r : List UInt32) : ∀ x, r.foldl mn x ≤ x ∧ ∀ y ∈ r, r.foldl mn x ≤ y := by
  induction r with
  | nil => exact fun x => ⟨UInt32.le_refl _, fun y hy => by cases hy⟩
  | cons a r ih =>
    intro x
    obtain ⟨h1, h2⟩ := ih (mn x a)
    obtain ⟨g1, g2⟩ := mn_le x a
    refine ⟨UInt32.le_trans h1 g1, fun y hy => ?_⟩
    rcases List.mem_cons.1 hy with rfl | hy
    · exact UInt32.le_trans h1 g2
    · exact h2 y hy
theorem mnl_le {l : List UInt32} {x : UInt32} (h : x ∈ l) : mnl l ≤ x := by
  cases l with
  | nil => cases h
  | cons a r =>
    have := foldl_mn_le r a
    rcases List.mem_cons.1 h with rfl | h
    · exact this.1
    · exact this.2 x h
/-- Those from x on, as far as ahead of d. -/
def orb (f : UInt32 → UInt32) (d : UInt32) : Nat → UInt32 → List UInt32
  | 0, _ => []
  | n + 1, x => x :: if f x = d then [] else orb f d n (f x)
theorem orb_at {f : UInt32 → UInt32} {d : UInt32} : ∀ (v : List UInt32) (x : UInt32) (n : Nat), (x :: v).length ≤ n → d ∉ v → (x :: v).map f = v ++ [d] → orb f d n x = x :: v
  | _, _, 0, h, _, _ => by simp at h
  | [], x, n + 1, _, _, h => by
    simp at h
    show x :: _ = _
    rw [if_pos h]
  | y :: v, x, n + 1, hl, hd, h => by
    simp only [List.map_cons, List.cons_append, List.cons.injEq] at h
    obtain ⟨h1, h2⟩ := h
    show x :: _ = _
    rw [if_neg (fun e => hd (by rw [← e, h1]; exact List.mem_cons_self)), h1]
    rw [orb_at v y n (by simp at hl ⊢; omega) (fun e => hd (List.mem_cons_of_mem _ e)) (by simpa using h2)]
theorem orb_cy {f : UInt32 → UInt32} {d : UInt32} {u : List UInt32} {n : Nat} (h : Cy f (d :: u)) (hn : (d :: u).Nodup) (hl : (d :: u).length ≤ n) : orb f d n d = d :: u :=
  orb_at u d n hl (List.nodup_cons.1 hn).1 (Cy.cons.1 h)
/-- Is it the least of its cycle? -/
def lst (f : UInt32 → UInt32) (n : Nat) (x : UInt32) : Bool := (orb f x n x).all fun y => decide (x ≤ y)
theorem lst_in {f : UInt32 → UInt32} {c : List UInt32} {n : Nat} (h : Cy f c) (hn : c.Nodup) (hl : c.length ≤ n) {x : UInt32} (hx : x ∈ c) : lst f n x = c.all fun y => decide (x ≤ y) := by
  obtain ⟨p, q, rfl⟩ := List.append_of_mem hx
  have h1 := Cy.rot p h
  have hp : (x :: q ++ p).Perm (p ++ x :: q) := List.perm_append_comm
  have hl2 : (x :: (q ++ p)).length ≤ n := by have := hp.length_eq; rw [← this] at hl; exact hl
  have ho : orb f x n x = x :: (q ++ p) := orb_cy h1 (hp.nodup_iff.2 hn) hl2
  unfold lst
  rw [ho, Bool.eq_iff_iff, List.all_eq_true, List.all_eq_true]
  exact ⟨fun h y hy => h y (hp.mem_iff.2 hy), fun h y hy => h y (hp.mem_iff.1 hy)⟩
theorem one_least {c : List UInt32} (hn : c.Nodup) (h0 : c ≠ []) : c.countP (fun x => c.all fun y => decide (x ≤ y)) = 1 := by
  have hm := mnl_mem c (List.length_pos_iff.2 h0)
  have := countP_one (q := fun _ => false) hn hm (p := fun x => c.all fun y => decide (x ≤ y)) (by
    show (c.all fun y => decide (mnl c ≤ y)) = true
    rw [List.all_eq_true]
    exact fun y hy => decide_eq_true (mnl_le hy)) rfl (fun x hx hne => by
    show (c.all fun y => decide (x ≤ y)) = false
    rw [Bool.eq_false_iff]
    intro h
    rw [List.all_eq_true] at h
    exact hne (UInt32.le_antisymm (of_decide_eq_true (h _ hm)) (mnl_le hx)))
  rw [this]
  simp
theorem lst_count {f : UInt32 → UInt32} {n : Nat} : ∀ {cs : List (List UInt32)}, (∀ c ∈ cs, Cy f c ∧ c.length ≤ n) → cs.flatten.Nodup → cs.flatten.countP (lst f n) = cs.length
  | [], _, _ => rfl
  | c :: r, h, hn => by
    rw [List.flatten_cons] at hn ⊢
    obtain ⟨n1, n2, _⟩ := List.nodup_append.1 hn
    obtain ⟨h1, h2⟩ := h c List.mem_cons_self
    rw [List.countP_append, lst_count (fun x hx => h x (List.mem_cons_of_mem _ hx)) n2, List.length_cons]
    have : c.countP (lst f n) = c.countP (fun x => c.all fun y => decide (x ≤ y)) := List.countP_congr fun x hx => by rw [lst_in h1 n1 h2 hx]
    rw [this, one_least n1 h1.1]
    omega
/-- As many cycles as there are darts that are the least of theirs. -/
theorem Cyc.Cs.count {f : UInt32 → UInt32} {D : List UInt32} {cs : List (List UInt32)} (hD : D.Nodup) (h : Cs f D cs) : D.countP (lst f D.length) = cs.length := by
  rw [← h.2.countP_eq]
  refine lst_count (fun c hc => ⟨h.1 c hc, ?_⟩) (h.2.nodup_iff.2 hD)
  rw [← h.2.length_eq]
  exact (List.sublist_flatten_of_mem hc).length_le
end Go.Proofs.Ytcinbmekjlmdpaa
