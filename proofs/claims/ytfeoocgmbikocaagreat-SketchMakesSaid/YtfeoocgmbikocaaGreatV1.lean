/- An evaluator for calls whose arguments are known: what its memory says of a world, and how each kind of step keeps that. -/
import Derived.Test.YtfeoocgmbikocaaGreatV0
namespace Go.Proofs.YtfeoocgmbikocaaGreat.Ev
open Go.RowKit

/-- A block of the evaluator's memory: a row of n cells (what isn't told is the zero value's), whose end may be open; a map; a walk over a string; one that is let go. -/
inductive AObj where
  | row (n : Nat) (zero : Array Value) (t : Tr Value) (elem : TypeId) (own : Bool)
  | map (es : Array MapEntry) (clock : Nat)
  | siter (s : ByteArray) (pos : Nat)
  | loop (st : LoopState) (jump : Option Code) (fr : Tr Value) (nt : Nat) (ps : Array Tmp) (assign body : Code)
  | defd
  | gone

structure AS where
  next : Nat
  mem : Tr AObj

def rget (n : Nat) (z : Array Value) (t : Tr Value) (i : Nat) : Option Value :=
  bif Nat.blt i n then (match t.get i with | some v => some v | none => some (z.getD (i % z.size) undef)) else none

theorem rget_lt {n : Nat} {z : Array Value} {t : Tr Value} {i : Nat} {v : Value} (h : rget n z t i = some v) : i < n := by
  unfold rget at h
  cases hb : Nat.blt i n with
  | false => simp [hb] at h
  | true => simpa [Nat.blt_eq] using hb

theorem rget_put {n : Nat} {z : Array Value} {t : Tr Value} {o : Nat} {v : Value} (ho : o < n) (hl : o < lim) (i : Nat) :
    rget n z (t.put o v) i = if i = o then some v else rget n z t i := by
  unfold rget
  rw [Tr.get_put _ _ _ _ hl]
  by_cases hi : i = o
  · subst hi; simp [show i.blt n = true by rw [Nat.blt_eq]; exact ho]
  · simp [hi]

def ER (j : J) (e e' : MapEntry) : Prop := e'.born = e.born ∧ VR j e.key e'.key ∧ VR j e.val e'.val
theorem ER.mono {j j' : J} (hj : j.le j') {e e' : MapEntry} (h : ER j e e') : ER j' e e' := ⟨h.1, h.2.1.mono hj, h.2.2.mono hj⟩

def OR (j : J) (w : World) (p : Pl) : AObj → Prop
  | .row n z t _ _ => ∃ cs e fr, w.heap[p.r]? = some (.cells cs e fr) ∧ cs.size = p.rs ∧ p.d + n ≤ p.rs ∧
      (∀ i, i < cs.size → ¬ (fr.1 ≤ i ∧ i < fr.2)) ∧ ∀ i v, rget n z t i = some v → VR j v (cs.getD (p.d + i) undef)
  | .map es clock => p.d = 0 ∧ ∃ es' : Array MapEntry, w.heap[p.r]? = some (.map es' clock) ∧ es.size = es'.size ∧ ∀ (i : Nat) (e : MapEntry), es[i]? = some e → ∃ e' : MapEntry, es'[i]? = some e' ∧ ER j e e'
  | .siter s pos => p.d = 0 ∧ w.heap[p.r]? = some (.stringIter s pos)
  | .loop st jump fr nt ps assign body => p.d = 0 ∧ ∃ (fn : FuncId) (tmps : Array Value) (rd : Nat), w.heap[p.r]? = some (.loop { state := st, pending := jump, fn, tmps, params := ps, assign, body, defers := rd }) ∧
      tmps.size = nt ∧ ∀ t v, fr.get t = some v → VR j v (tmps.getD t undef)
  | .defd => p.d = 0 ∧ w.heap[p.r]? = some (.deferred (some []))
  | .gone => True

theorem OR.mono {j j' : J} (hj : j.le j') {w w' : World} {p : Pl} (hw : w'.heap[p.r]? = w.heap[p.r]?) {o : AObj} (h : OR j w p o) : OR j' w' p o := by
  cases o with
  | row n z t e own =>
    obtain ⟨cs, e', fr, h1, h2, h3, h4, h5⟩ := h
    exact ⟨cs, e', fr, hw.trans h1, h2, h3, h4, fun i v hv => (h5 i v hv).mono hj⟩
  | map es clock =>
    obtain ⟨hd, es', h1, h2, h3⟩ := h
    exact ⟨hd, es', hw.trans h1, h2, fun i e he => let ⟨e', h4, h5⟩ := h3 i e he; ⟨e', h4, h5.mono hj⟩⟩
  | siter s pos => exact ⟨h.1, hw.trans h.2⟩
  | loop st jump fr nt ps assign body =>
    obtain ⟨hd, fn, tmps, rd, h1, h2, h3⟩ := h
    exact ⟨hd, fn, tmps, rd, hw.trans h1, h2, fun t v ht => (h3 t v ht).mono hj⟩
  | defd => exact ⟨h.1, hw.trans h.2⟩
  | gone => exact True.intro

/-- Which cells of its real block an object holds for itself. -/
def claims (o : AObj) (d x : Nat) : Prop := match o with
  | .row n _ _ _ own => d ≤ x ∧ (own = true ∨ x < d + n)
  | .map _ _ | .siter _ _ | .loop .. | .defd => True
  | .gone => False

structure R (w0 : World) (j : J) (s : AS) (w : World) : Prop where
  below : Below w0.heap.size w0 w
  dom : ∀ b p, j b = some p → b < s.next ∧ w0.heap.size ≤ p.r ∧ p.r < w.heap.size
  memlt : ∀ b o, s.mem.get b = some o → b < s.next
  obj : ∀ b o p, s.mem.get b = some o → j b = some p → OR j w p o
  sep : ∀ b b' o o' p p', b ≠ b' → s.mem.get b = some o → s.mem.get b' = some o' → j b = some p → j b' = some p' → p.r = p'.r →
    ∀ x, ¬ (claims o p.d x ∧ claims o' p'.d x)

/-- From one state of the evaluator's to a later one: what is known stays, and what isn't real yet isn't touched. -/
structure Ext (j : J) (s : AS) (j' : J) (s' : AS) : Prop where
  le : j.le j'
  next : s.next ≤ s'.next
  keep : ∀ b, b < s.next → j b = none → j' b = none ∧ s'.mem.get b = s.mem.get b

theorem Ext.refl (j : J) (s : AS) : Ext j s j s := ⟨J.le_refl _, Nat.le_refl _, fun _ _ h => ⟨h, rfl⟩⟩
theorem Ext.trans {j j' j'' : J} {s s' s'' : AS} (h : Ext j s j' s') (k : Ext j' s' j'' s'') : Ext j s j'' s'' :=
  ⟨J.le_trans h.le k.le, Nat.le_trans h.next k.next, fun b hb hj =>
    let ⟨h1, h2⟩ := h.keep b hb hj
    let ⟨k1, k2⟩ := k.keep b (Nat.lt_of_lt_of_le hb h.next) h1
    ⟨k1, k2.trans h2⟩⟩

def J.upd (j : J) (b : Nat) (p : Pl) : J := fun x => if x = b then some p else j x
theorem J.upd_le {j : J} {b : Nat} {p : Pl} (h : j b = none) : j.le (j.upd b p) := fun x q hx => by
  unfold J.upd
  by_cases e : x = b
  · subst e; rw [h] at hx; cases hx
  · simp [e, hx]
theorem J.upd_self (j : J) (b : Nat) (p : Pl) : j.upd b p b = some p := by simp [J.upd]

theorem R.start (w : World) : R w (fun _ => none) ⟨0, .nil⟩ w :=
  { below := .refl _ _
    dom := fun _ _ h => by cases h
    memlt := fun b o h => by cases b <;> simp [Tr.get] at h
    obj := fun _ _ _ _ h => by cases h
    sep := fun _ _ _ _ _ _ _ _ _ h => by cases h }

theorem R.fresh {w0 : World} {j : J} {s : AS} {w : World} (h : R w0 j s w) : j s.next = none := by
  cases hj : j s.next with
  | none => rfl
  | some p => exact absurd (h.dom _ _ hj).1 (Nat.lt_irrefl _)

/-- A step that turns no block (a draw). -/
theorem R.same {w0 : World} {j : J} {s : AS} {w w' : World} (h : R w0 j s w) (hh : w'.heap = w.heap) (h1 : w'.os = w.os) (h2 : w'.tape = w.tape) (h3 : w'.output = w.output) : R w0 j s w' :=
  ⟨h.below.trans ⟨h1, h2, h3, by rw [hh]; exact Nat.le_refl _, fun k _ => by rw [hh]⟩,
   fun b p hb => by rw [hh]; exact h.dom b p hb, h.memlt, fun b o p hb hp => (h.obj b o p hb hp).mono (J.le_refl _) (by rw [hh]), h.sep⟩

/-- A block that the evaluator makes ahead of the world. -/
theorem R.extra {w0 : World} {j : J} {s : AS} {w : World} (h : R w0 j s w) (hl : s.next < lim) (o : AObj) : R w0 j ⟨s.next + 1, s.mem.put s.next o⟩ w := by
  have hg : ∀ b p, j b = some p → (s.mem.put s.next o).get b = s.mem.get b := fun b p hb => by
    rw [Tr.get_put _ _ _ _ hl, if_neg (by have := (h.dom b p hb).1; omega)]
  refine ⟨h.below, fun b p hb => ⟨Nat.lt_succ_of_lt (h.dom b p hb).1, (h.dom b p hb).2⟩, fun b q hb => ?_, fun b q p hb hp => ?_, fun b b' q q' p p' hne hb hb' hp hp' => ?_⟩
  · simp only [Tr.get_put _ _ _ _ hl] at hb
    by_cases e : b = s.next
    · simp only; omega
    · rw [if_neg e] at hb; exact Nat.lt_succ_of_lt (h.memlt b q hb)
  · exact h.obj b q p ((hg b p hp) ▸ hb) hp
  · exact h.sep b b' q q' p p' hne ((hg b p hp) ▸ hb) ((hg b' p' hp') ▸ hb') hp hp'

/-- A block of the evaluator's becomes real: a new block of the world's. -/
theorem R.late {w0 : World} {j : J} {s : AS} {w : World} (h : R w0 j s w) {b : Nat} {o : AObj} (hb : s.mem.get b = some o) (hj : j b = none) (o' : Obj) (p : Pl) (hp : p.r = w.heap.size)
    (ho : OR (j.upd b p) (w.alloc o') p o) : R w0 (j.upd b p) s (w.alloc o') := by
  have hsz : (w.alloc o').heap.size = w.heap.size + 1 := Array.size_push _
  have hle := J.upd_le (p := p) hj
  have hB : w0.heap.size ≤ w.heap.size := h.below.size
  have hold : ∀ x q, (j.upd b p) x = some q → x ≠ b → j x = some q := fun x q hx hne => by simpa [J.upd, hne] using hx
  have hself : ∀ q, (j.upd b p) b = some q → q = p := fun q hq => by rw [J.upd_self] at hq; exact (Option.some.inj hq).symm
  refine ⟨h.below.alloc hB o', fun x q hx => ?_, h.memlt, fun x q r hx hr => ?_, fun x x' q q' r r' hne hx hx' hr hr' he y hy => ?_⟩
  · by_cases e : x = b
    · subst e; rw [hself q hx, hp, hsz]; exact ⟨h.memlt _ _ hb, hB, by omega⟩
    · have := h.dom x q (hold x q hx e); rw [hsz]; exact ⟨this.1, this.2.1, by omega⟩
  · by_cases e : x = b
    · subst e; rw [hself r hr]; rw [hb] at hx; exact (Option.some.inj hx) ▸ ho
    · have hj' := hold x r hr e
      exact (h.obj x q r hx hj').mono hle (Below.heap_alloc _ _ _ (h.dom x r hj').2.2)
  · exfalso
    by_cases e : x = b
    · subst e
      have := h.dom x' r' (hold x' r' hr' (Ne.symm hne))
      rw [hself r hr, hp] at he; omega
    · by_cases e' : x' = b
      · subst e'
        have := h.dom x r (hold x r hr e)
        rw [hself r' hr', hp] at he; omega
      · exact h.sep x x' q q' r r' hne hx hx' (hold x r hr e) (hold x' r' hr' e') he y hy

end Go.Proofs.YtfeoocgmbikocaaGreat.Ev
