/- Many rows apart; the vertices near each; graph.nearOf. -/
import Derived.Test.YtbhoingiibcboaaG6
import Derived.Deep.RegionHeld3
namespace Go.Proofs.Ytbhoingiibcboaa
open Go.RowKit

def upd {K A : Type} [DecidableEq K] (f : K → A) (k : K) (v : A) : K → A := fun y => if y = k then v else f y
/-- Rows apart. -/
structure Fam {K : Type} (w : World) (base : Nat) (f : K → Value) (L : K → List UInt32) : Prop where
  own : ∀ x, Oq w base (f x) (L x)
  apart : ∀ x y b, x ≠ y → (f x).ownBlock = some b → (f y).ownBlock ≠ some b
theorem Fam.still {K : Type} {w w' : World} {base : Nat} {f : K → Value} {L : K → List UInt32} (h : Fam w base f L) (hs : Still w w') : Fam w' base f L := ⟨fun x => (h.own x).still hs, h.apart⟩
theorem Fam.push {K : Type} [DecidableEq K] {w w' : World} {base : Nat} {f : K → Value} {L : K → List UInt32} {k : K} {v' : Value} {x : UInt32} (h : Fam w base f L) (h1 : Oq w' base v' (L k ++ [x])) (hg : w.grownBy w' (f k).ownBlock)
    (hb : ∃ b, v'.ownBlock = some b ∧ ((f k).ownBlock = some b ∨ w.heap.size ≤ b)) : Fam w' base (upd f k v') (upd L k (L k ++ [x])) := by
  obtain ⟨b, hb1, hb2⟩ := hb
  have hoth : ∀ y, y ≠ k → (f y).ownBlock ≠ some b := fun y hy e => by
    rcases hb2 with hb2 | hb2
    · exact h.apart y k b hy e hb2
    · have := ((h.own y).lt e).1; omega
  refine ⟨fun y => ?_, fun y z c hyz hc hd => ?_⟩
  · unfold upd
    by_cases e : y = k
    · subst e; simp only [if_true]; exact h1
    · simp only [e, if_false]
      exact (h.own y).grown hg (fun c hc hd => h.apart y k c e hc hd)
  · unfold upd at hc hd
    by_cases e : y = k
    · subst e
      have hz : z ≠ y := fun q => hyz q.symm
      simp only [if_true] at hc
      simp only [hz, if_false] at hd
      rw [hb1] at hc
      cases hc
      exact hoth z hz hd
    · simp only [e, if_false] at hc
      by_cases e2 : z = k
      · subst e2
        simp only [if_true] at hd
        rw [hb1] at hd
        cases hd
        exact hoth y e hc
      · simp only [e2, if_false] at hd
        exact h.apart y z c hyz hc hd
theorem Mu.map {w : World} {m n : Nat} {f : UInt32 → Option Value} (h : Mu w m n f) : ∃ es c, w.heap[m]? = some (.map es c) := by
  obtain ⟨D, ⟨es, clock, h1, _⟩, _⟩ := h
  exact ⟨es, clock, h1⟩
theorem Still.ex {w w' : World} {m n : Nat} {f : UInt32 → Option Value} (h : Mu w m n f) (hx : Ex m w w') : Still w w' := fun g cur hb => by
  obtain ⟨es, c, hm⟩ := h.map
  refine hx.blk hb (fun e => ?_)
  subst e
  unfold Blk at hb
  rw [hm] at hb
  cases hb
/-- A map of rows apart. -/
def NearAt (w : World) (base nm n : Nat) (f : UInt32 → Option Value) (L : UInt32 → List UInt32) : Prop := Mu w nm n f ∧ Fam w base (fun x => (f x).getD (.slice none 0 0)) L
theorem NearAt.below {w w' : World} {base nm n : Nat} {f : UInt32 → Option Value} {L : UInt32 → List UInt32} (h : NearAt w base nm n f L) (hb : Below w.heap.size w w') : NearAt w' base nm n f L :=
  ⟨h.1.kept (hb.block nm h.1.lt), h.2.still (Still.below hb)⟩
theorem zero22 (w : World) : (zeroValue 22).run Try.prog w = .ok (.slice none 0 0) w := by kernel_rfl
theorem NearAt.look {w : World} {base nm n : Nat} {f : UInt32 → Option Value} {L : UInt32 → List UInt32} (h : NearAt w base nm n f L) (x : UInt32) :
    (Instr.lookup 42 (.map (some nm)) (V x) false).run Try.prog w = .ok ((f x).getD (.slice none 0 0)) w :=
  h.1.look 42 22 Try.underlying42 _ (zero22 w) x
/-- One put behind the row of a key. -/
theorem near_push {W : World} {base nm n : Nat} {f : UInt32 → Option Value} {L : UInt32 → List UInt32} (a d : UInt32) (ty : TypeId) (h : NearAt W base nm n f L) (hl : (L a).length < 1000000) (hb : base ≤ W.heap.size) (hnm : base ≤ nm) (hn : n < 1000000) :
    ∃ v' w' w'' f', (Builtin.append_ #[22, 22] ty #[(f a).getD (.slice none 0 0), .slice (some ⟨W.heap.size, 0, none⟩) 1 1]).run Try.prog (W.alloc (.cells #[V d] 31)) = .ok v' w' ∧
      (Instr.mapUpdate 42 (.map (some nm)) (V a) v').run Try.prog w' = .ok () w'' ∧ NearAt w'' base nm (n + 1) f' (upd L a (L a ++ [d])) ∧ Below base W w'' ∧
      (∀ g t cs, Blk W g t cs → t ≠ 31 → Blk w' g t cs ∧ Blk w'' g t cs) := by
  have hB : Below W.heap.size W (W.alloc (.cells #[V d] 31)) := (Below.refl _ W).alloc (Nat.le_refl _) _
  have h1 := h.below hB
  obtain ⟨v', w', hr, ho, hg, hbk⟩ := run_push (W.alloc (.cells #[V d] 31)) base ty _ _ d W.heap.size (h1.2.own a) hl (Nat.le_trans hb hB.size) (Blk.fresh W _ _)
  have hnm0 : (W.alloc (.cells #[V d] 31)).heap[nm]? = w'.heap[nm]? := (hg.block nm h1.1.lt (fun e => by
    obtain ⟨_, _, cur, hcur⟩ := (h1.2.own a).lt e.symm
    obtain ⟨es, c, hm⟩ := h1.1.map
    unfold Blk at hcur
    rw [hm] at hcur
    cases hcur)).symm
  have hmu : Mu w' nm n f := h1.1.kept hnm0.symm
  obtain ⟨w'', hr2, hmu2, hex, hsz⟩ := hmu.put 42 22 Try.underlying42 (by unfold maxLen; omega) a v'
  have hfam := (h1.2.push ho hg hbk).still (Still.ex hmu hex)
  have hBg : Below base (W.alloc (.cells #[V d] 31)) w' := ⟨hg.os, hg.tape, hg.output, hg.size, fun k hk => hg.block k (Nat.lt_of_lt_of_le hk (Nat.le_trans hb hB.size)) (fun e => by
    have := ((h1.2.own a).lt e.symm).2.1; omega)⟩
  refine ⟨v', w', w'', _, hr, hr2, ⟨hmu2, ?_⟩, ?_, fun g t cs hbl ht => ?_⟩
  · have e : (fun x => ((if x = a then some v' else f x) : Option Value).getD (.slice none 0 0)) = upd (fun x => (f x).getD (.slice none 0 0)) a v' := by
      funext x
      unfold upd
      by_cases q : x = a
      · simp [q]
      · simp [q]
    rw [e]
    exact hfam
  · exact ((Below.mono hB hb).trans hBg).trans ⟨hex.os, hex.tape, hex.output, hex.size, fun k hk => hex.block k (Nat.lt_of_lt_of_le hk (Nat.le_trans (Nat.le_trans hb hB.size) hBg.size)) (by omega)⟩
  · have k1 : Blk w' g t cs := (hg.block g (Nat.lt_of_lt_of_le hbl.lt hB.size) (fun e => by
      obtain ⟨_, _, cur, hcur⟩ := (h1.2.own a).lt e.symm
      have hk := hbl.kept hB hbl.lt
      unfold Blk at hcur hk
      rw [hk] at hcur
      injection hcur with hcur
      injection hcur with _ h2
      exact ht h2)).trans (hbl.kept hB hbl.lt)
    exact ⟨k1, hex.blk k1 (fun e => by
      subst e
      obtain ⟨es, c, hm⟩ := hmu.map
      unfold Blk at k1
      rw [hm] at k1
      cases k1)⟩
/-- The vertices at the other ends of a vertex's edges. -/
def nbr (es : List Eg) (x : UInt32) : List UInt32 := es.flatMap fun e => (if e.a = x then [e.b] else []) ++ (if e.b = x then [e.a] else [])
theorem nbr_succ {es : List Eg} {k : Nat} (h : k < es.length) : nbr (es.take (k + 1)) = upd (upd (nbr (es.take k)) (es.getD k e0).a (nbr (es.take k) (es.getD k e0).a ++ [(es.getD k e0).b])) (es.getD k e0).b ((upd (nbr (es.take k)) (es.getD k e0).a (nbr (es.take k) (es.getD k e0).a ++ [(es.getD k e0).b])) (es.getD k e0).b ++ [(es.getD k e0).a]) := by
  funext x
  rw [List.take_succ_eq_append_getElem h, getE_at h]
  unfold nbr upd
  simp only [List.flatMap_append, List.flatMap_cons, List.flatMap_nil, List.append_nil]
  generalize es.getD k e0 = e
  by_cases h1 : x = e.a
  · subst h1
    by_cases h2 : e.a = e.b
    · simp [h2]
    · simp [h2, Ne.symm h2]
  · by_cases h2 : x = e.b
    · subst h2
      simp [h1, Ne.symm h1]
    · simp [h1, h2, Ne.symm h1, Ne.symm h2]
theorem nbr_len (es : List Eg) (x : UInt32) : (nbr es x).length ≤ 2 * es.length := by
  induction es with
  | nil => simp [nbr]
  | cons e r ih =>
    unfold nbr at *
    rw [List.flatMap_cons, List.length_append, List.length_cons]
    have : ((if e.a = x then [e.b] else []) ++ (if e.b = x then [e.a] else [])).length ≤ 2 := by
      rw [List.length_append]; split <;> split <;> simp
    omega
theorem nbr_take (es : List Eg) (k : Nat) (x : UInt32) : (nbr (es.take k) x).length ≤ 2 * es.length := by
  have := nbr_len (es.take k) x
  have h2 : (es.take k).length ≤ es.length := by rw [List.length_take]; omega
  omega
end Go.Proofs.Ytbhoingiibcboaa
