/- An evaluator for calls whose arguments are known: new blocks, stores, blocks let go. -/
import Derived.Test.YtfeoocgmbikocaaGreatV1
namespace Go.Proofs.YtfeoocgmbikocaaGreat.Ev
open Go.RowKit

theorem R.new {w0 : World} {j : J} {s : AS} {w : World} (h : R w0 j s w) (hl : s.next < lim) (o : AObj) (o' : Obj) (p : Pl) (hp : p.r = w.heap.size)
    (ho : ∀ j', j.le j' → OR j' (w.alloc o') p o) :
    R w0 (j.upd s.next p) ⟨s.next + 1, s.mem.put s.next o⟩ (w.alloc o') ∧ Ext j s (j.upd s.next p) ⟨s.next + 1, s.mem.put s.next o⟩ := by
  have hf := h.fresh
  refine ⟨(h.extra hl o).late (b := s.next) (o := o) (by rw [Tr.get_put _ _ _ _ hl, if_pos rfl]) hf o' p hp (ho _ (J.upd_le hf)), J.upd_le hf, Nat.le_succ _, fun b hb hj => ⟨?_, ?_⟩⟩
  · simp [J.upd, hj, show b ≠ s.next by omega]
  · simp only [Tr.get_put _ _ _ _ hl, if_neg (show b ≠ s.next by omega)]

/-- A known block is said anew, and nothing of the world turns but what lies in it. -/
theorem R.turn {w0 : World} {j : J} {s : AS} {w w' : World} (h : R w0 j s w) {b : Nat} {o o' : AObj} {p : Pl} (hb : s.mem.get b = some o) (hj : j b = some p)
    (hbelow : Below w0.heap.size w0 w') (hsz : w'.heap.size = w.heap.size)
    (hcl : ∀ x, claims o' p.d x → claims o p.d x) (ho : OR j w' p o')
    (hoth : ∀ b1 o1 p1, b1 ≠ b → s.mem.get b1 = some o1 → j b1 = some p1 → OR j w p1 o1 → (∀ x, ¬ (claims o p.d x ∧ claims o1 p1.d x)) ∨ p1.r ≠ p.r → OR j w' p1 o1) :
    R w0 j ⟨s.next, s.mem.put b o'⟩ w' ∧ Ext j s j ⟨s.next, s.mem.put b o'⟩ ∨ ¬ b < lim := by
  by_cases hl : b < lim
  · left
    have hg : ∀ x, (s.mem.put b o').get x = if x = b then some o' else s.mem.get x := fun x => Tr.get_put _ _ _ _ hl
    refine ⟨⟨hbelow, fun x q hx => ?_, fun x q hx => ?_, fun x q r hx hr => ?_, fun x x' q q' r r' hne hx hx' hr hr' he y hy => ?_⟩, J.le_refl _, Nat.le_refl _, fun x _ hx => ⟨hx, ?_⟩⟩
    · rw [hsz]; exact h.dom x q hx
    · rw [hg] at hx
      by_cases e : x = b
      · subst e; exact h.memlt _ _ hb
      · rw [if_neg e] at hx; exact h.memlt _ _ hx
    · rw [hg] at hx
      by_cases e : x = b
      · subst e; rw [if_pos rfl] at hx; cases hx; rw [hj] at hr; cases hr; exact ho
      · rw [if_neg e] at hx
        refine hoth x q r e hx hr (h.obj x q r hx hr) ?_
        by_cases hr2 : r.r = p.r
        · exact .inl (h.sep b x o q p r (Ne.symm e) hb hx hj hr hr2.symm)
        · exact .inr hr2
    · rw [hg] at hx hx'
      by_cases e : x = b
      · subst e
        rw [if_pos rfl] at hx; cases hx; rw [hj] at hr; cases hr
        rw [if_neg (Ne.symm hne)] at hx'
        exact h.sep x x' o q' p r' hne hb hx' hj hr' he y ⟨hcl y hy.1, hy.2⟩
      · rw [if_neg e] at hx
        by_cases e' : x' = b
        · subst e'
          rw [if_pos rfl] at hx'; cases hx'; rw [hj] at hr'; cases hr'
          exact h.sep x x' q o r p hne hx hb hr hj he y ⟨hy.1, hcl y hy.2⟩
        · rw [if_neg e'] at hx'
          exact h.sep x x' q q' r r' hne hx hx' hr hr' he y hy
    · rw [hg, if_neg]
      intro e; subst e; rw [hj] at hx; cases hx
  · exact .inr hl

theorem getD_set (cs : Array Value) (x y : Nat) (v : Value) (h : x ≠ y) : (cs.setIfInBounds x v).getD y undef = cs.getD y undef := by
  simp only [Array.getD_eq_getD_getElem?, Array.getElem?_setIfInBounds_ne h]

theorem setCell_heap (w : World) (r x : Nat) (v : Value) (cs : Array Value) (e : TypeId) (fr : Nat × Nat) (h : w.heap[r]? = some (.cells cs e fr)) :
    (w.setCell ⟨r, x, none⟩ v).heap[r]? = some (.cells (cs.setIfInBounds x v) e fr) := by
  simp [World.setCell, Array.getElem?_modify, h]

theorem cell?_of {w : World} {r x : Nat} {cs : Array Value} {e : TypeId} {fr : Nat × Nat} (h : w.heap[r]? = some (.cells cs e fr)) (hx : x < cs.size) :
    w.cell? ⟨r, x, none⟩ = some (cs.getD x undef) := by
  simp [World.cell?, h, Array.getD, hx]

theorem frozen?_of {w : World} {r x : Nat} {cs : Array Value} {e : TypeId} {fr : Nat × Nat} (h : w.heap[r]? = some (.cells cs e fr)) (hx : ¬ (fr.1 ≤ x ∧ x < fr.2)) :
    w.frozen? ⟨r, x, none⟩ = false := by
  obtain ⟨lo, hi⟩ := fr
  simp only [World.frozen?, h]
  simp only at hx
  by_cases h1 : lo ≤ x
  · have : ¬ x < hi := fun h2 => hx ⟨h1, h2⟩
    simp [this]
  · simp [h1]

/-- A cell of a known row. -/
def acell (s : AS) (b o : Nat) : Option Value :=
  match s.mem.get b with
  | some (.row n z t _ _) => rget n z t o
  | _ => none

theorem R.cell {w0 : World} {j : J} {s : AS} {w : World} (h : R w0 j s w) {b o : Nat} {p : Pl} {v : Value} (hj : j b = some p) (hv : acell s b o = some v) :
    ∃ v', w.cell? ⟨p.r, p.d + o, none⟩ = some v' ∧ VR j v v' := by
  unfold acell at hv
  cases hm : s.mem.get b with
  | none => simp [hm] at hv
  | some ob =>
    rw [hm] at hv
    cases ob with
    | row n z t e own =>
      obtain ⟨cs, e', fr, h1, h2, h3, h4, h5⟩ := h.obj b _ p hm hj
      have hlt := rget_lt hv
      exact ⟨_, cell?_of h1 (by omega), h5 o v hv⟩
    | _ => simp at hv

/-- A store into a known row. -/
def aset (s : AS) (b o : Nat) (v : Value) : Option AS :=
  match s.mem.get b with
  | some (.row n z t e own) => bif Nat.blt o n && Nat.blt o lim && Nat.blt b lim then some ⟨s.next, s.mem.put b (.row n z (t.put o v) e own)⟩ else none
  | _ => none

theorem R.store {w0 : World} {j : J} {s s' : AS} {w : World} (h : R w0 j s w) {b o : Nat} {p : Pl} {v v' : Value} (hj : j b = some p) (hv : VR j v v') (hs : aset s b o v = some s') :
    (∃ u, w.cell? ⟨p.r, p.d + o, none⟩ = some u) ∧ w.frozen? ⟨p.r, p.d + o, none⟩ = false ∧ R w0 j s' (w.setCell ⟨p.r, p.d + o, none⟩ v') ∧ Ext j s j s' := by
  unfold aset at hs
  cases hm : s.mem.get b with
  | none => simp [hm] at hs
  | some ob =>
    rw [hm] at hs
    cases ob with
    | row n z t e own =>
      simp only at hs
      cases hc : (Nat.blt o n && Nat.blt o lim && Nat.blt b lim) with
      | false => simp [hc] at hs
      | true =>
        rw [hc] at hs
        simp only [Bool.and_eq_true] at hc
        have ho : o < n := by have := hc.1.1; rwa [Nat.blt_eq] at this
        have hol : o < lim := by have := hc.1.2; rwa [Nat.blt_eq] at this
        have hbl : b < lim := by have := hc.2; rwa [Nat.blt_eq] at this
        simp only [cond_true, Option.some.injEq] at hs
        subst hs
        obtain ⟨cs, e', fr, h1, h2, h3, h4, h5⟩ := h.obj b _ p hm hj
        have hdom := h.dom b p hj
        have hset := setCell_heap w p.r (p.d + o) v' cs e' fr h1
        refine ⟨⟨_, cell?_of h1 (by omega)⟩, frozen?_of h1 (h4 _ (by omega)), ?_⟩
        have key := h.turn (w' := w.setCell ⟨p.r, p.d + o, none⟩ v') (o' := .row n z (t.put o v) e own) hm hj (h.below.setCell hdom.2.1 _) (by simp [World.setCell]) (fun x hx => hx)
          ⟨_, e', fr, hset, by simpa using h2, h3, by simpa using h4, fun i u hu => ?_⟩ (fun b1 o1 p1 hne hm1 hj1 ho1 hd => ?_)
        · exact key.resolve_right (fun hn => hn hbl)
        · rw [rget_put ho hol] at hu
          by_cases hi : i = o
          · subst hi
            rw [if_pos rfl] at hu; cases hu
            have : p.d + i < cs.size := by omega
            simpa [Array.getD, this] using hv
          · rw [if_neg hi] at hu
            rw [getD_set _ _ _ _ (show p.d + o ≠ p.d + i by omega)]
            exact h5 i u hu
        · by_cases hr : p1.r = p.r
          · have hd' := hd.resolve_right (fun hn => hn hr)
            cases o1 with
            | row n1 z1 t1 e1 own1 =>
              obtain ⟨cs1, e1', fr1, g1, g2, g3, g4, g5⟩ := ho1
              rw [hr, h1] at g1
              cases g1
              refine ⟨_, e', fr, by rw [hr]; exact hset, by simpa using g2, g3, by simpa using g4, fun i u hu => ?_⟩
              have hi := rget_lt hu
              have hnc := hd' (p.d + o)
              have hne : p.d + o ≠ p1.d + i := fun he => hnc ⟨⟨by omega, .inr (by omega)⟩, by rw [he]; exact ⟨by omega, .inr (by omega)⟩⟩
              rw [getD_set _ _ _ _ hne]
              exact g5 i u hu
            | map es clock =>
              obtain ⟨_, es', g1, _⟩ := ho1
              rw [hr, h1] at g1; cases g1
            | siter st pos =>
              have g1 := ho1.2
              rw [hr, h1] at g1; cases g1
            | loop st jump fr nt ps assign body =>
              obtain ⟨_, _, _, _, g1, _⟩ := ho1
              rw [hr, h1] at g1; cases g1
            | defd =>
              have g1 := ho1.2
              rw [hr, h1] at g1; cases g1
            | gone => exact True.intro
          · exact ho1.mono (J.le_refl _) (Below.heap_setCell _ _ _ _ hr)
    | _ => simp at hs

/-- An object that is no row, said anew (a map, a walk over a string). -/
theorem R.setObj {w0 : World} {j : J} {s : AS} {w : World} (h : R w0 j s w) {b : Nat} {p : Pl} {o o' : AObj} (ob' : Obj) (hj : j b = some p) (hm : s.mem.get b = some o)
    (hc : claims o p.d 0) (hno : ∀ ob, w.heap[p.r]? = some ob → ∀ cs e fr, ob ≠ .cells cs e fr)
    (hcl : ∀ x, claims o p.d x) (ho : OR j { w with heap := w.heap.setIfInBounds p.r ob' } p o') (hbl : b < lim) :
    R w0 j ⟨s.next, s.mem.put b o'⟩ { w with heap := w.heap.setIfInBounds p.r ob' } ∧ Ext j s j ⟨s.next, s.mem.put b o'⟩ := by
  have hdom := h.dom b p hj
  refine (h.turn (w' := { w with heap := w.heap.setIfInBounds p.r ob' }) hm hj (h.below.trans ⟨rfl, rfl, rfl, by simp, fun k hk => ?_⟩) (by simp) (fun x _ => hcl x) ho
    (fun b1 o1 p1 hne hm1 hj1 ho1 hd => ?_)).resolve_right (fun hn => hn hbl)
  · simp only [Array.getElem?_setIfInBounds_ne (show p.r ≠ k by omega)]
  · by_cases hr : p1.r = p.r
    · have hd' := hd.resolve_right (fun hn => hn hr)
      cases o1 with
      | row n1 z1 t1 e1 own1 =>
        obtain ⟨cs1, e1', fr1, g1, _⟩ := ho1
        rw [hr] at g1
        exact absurd rfl (hno _ g1 _ _ _)
      | map es clock => exact absurd ⟨hc, True.intro⟩ (hd' 0)
      | siter st pos => exact absurd ⟨hc, True.intro⟩ (hd' 0)
      | loop st jump fr nt ps assign body => exact absurd ⟨hc, True.intro⟩ (hd' 0)
      | defd => exact absurd ⟨hc, True.intro⟩ (hd' 0)
      | gone => exact True.intro
    · exact ho1.mono (J.le_refl _) (by simp only [Array.getElem?_setIfInBounds_ne (Ne.symm hr)])

/-- A block is let go. -/
theorem R.drop {w0 : World} {j : J} {s : AS} {w : World} (h : R w0 j s w) {b : Nat} {p : Pl} {o : AObj} (hj : j b = some p) (hm : s.mem.get b = some o) (hbl : b < lim) :
    R w0 j ⟨s.next, s.mem.put b .gone⟩ w ∧ Ext j s j ⟨s.next, s.mem.put b .gone⟩ :=
  (h.turn (w' := w) (o' := .gone) hm hj h.below rfl (fun _ hx => hx.elim) True.intro (fun _ _ _ _ _ _ ho1 _ => ho1)).resolve_right (fun hn => hn hbl)

/-- A new name for a place that is there: nothing else that is known lies in what it claims. -/
theorem R.alias {w0 : World} {j : J} {s : AS} {w : World} (h : R w0 j s w) (hl : s.next < lim) (o : AObj) (p : Pl) (hB : w0.heap.size ≤ p.r) (hr : p.r < w.heap.size)
    (ho : OR j w p o) (hs : ∀ b o1 p1, s.mem.get b = some o1 → j b = some p1 → p1.r = p.r → ∀ x, ¬ (claims o1 p1.d x ∧ claims o p.d x)) :
    R w0 (j.upd s.next p) ⟨s.next + 1, s.mem.put s.next o⟩ w ∧ Ext j s (j.upd s.next p) ⟨s.next + 1, s.mem.put s.next o⟩ := by
  have hf := h.fresh
  have hle := J.upd_le (p := p) hf
  have hg : ∀ x, (s.mem.put s.next o).get x = if x = s.next then some o else s.mem.get x := fun x => Tr.get_put _ _ _ _ hl
  have hold : ∀ x q, (j.upd s.next p) x = some q → x ≠ s.next → j x = some q := fun x q hx hne => by simpa [J.upd, hne] using hx
  have hself : ∀ q, (j.upd s.next p) s.next = some q → q = p := fun q hq => by rw [J.upd_self] at hq; exact (Option.some.inj hq).symm
  refine ⟨⟨h.below, fun x q hx => ?_, fun x q hx => ?_, fun x q r hx hr' => ?_, fun x x' q q' r r' hne hx hx' hr' hr'' he y hy => ?_⟩, hle, Nat.le_succ _, fun b hb hj => ⟨?_, ?_⟩⟩
  · by_cases e : x = s.next
    · subst e; rw [hself q hx]; exact ⟨Nat.lt_succ_self _, hB, hr⟩
    · have := h.dom x q (hold x q hx e); exact ⟨Nat.lt_succ_of_lt this.1, this.2⟩
  · rw [hg] at hx
    by_cases e : x = s.next
    · subst e; exact Nat.lt_succ_self _
    · rw [if_neg e] at hx; exact Nat.lt_succ_of_lt (h.memlt _ _ hx)
  · rw [hg] at hx
    by_cases e : x = s.next
    · subst e; rw [if_pos rfl] at hx; cases hx; rw [hself r hr']; exact ho.mono hle rfl
    · rw [if_neg e] at hx; exact (h.obj x q r hx (hold x r hr' e)).mono hle rfl
  · rw [hg] at hx hx'
    by_cases e : x = s.next
    · subst e
      rw [if_pos rfl] at hx; cases hx
      rw [if_neg (Ne.symm hne)] at hx'
      have := hself r hr'; subst this
      exact hs x' q' r' hx' (hold x' r' hr'' (Ne.symm hne)) he.symm y ⟨hy.2, hy.1⟩
    · rw [if_neg e] at hx
      by_cases e' : x' = s.next
      · subst e'
        rw [if_pos rfl] at hx'; cases hx'
        have := hself r' hr''; subst this
        exact hs x q r hx (hold x r hr' e) he y hy
      · rw [if_neg e'] at hx'
        exact h.sep x x' q q' r r' hne hx hx' (hold x r hr' e) (hold x' r' hr'' e') he y hy
  · simp [J.upd, hj, show b ≠ s.next by omega]
  · simp only [Tr.get_put _ _ _ _ hl, if_neg (show b ≠ s.next by omega)]

end Go.Proofs.YtfeoocgmbikocaaGreat.Ev
