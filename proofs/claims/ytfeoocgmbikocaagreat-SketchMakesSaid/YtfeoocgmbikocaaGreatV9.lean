/- An evaluator for calls whose arguments are known: append, in a world. -/
import Derived.Test.YtfeoocgmbikocaaGreatV8
namespace Go.Proofs.YtfeoocgmbikocaaGreat.Ev
open Go.RowKit

/-- What is asked of append's types and its source. -/
structure APre (P : Program) (ats : Array TypeId) (xv : Value) (s : AS) (e : TypeId) (i : TypeInfo) (zv : Value) (n : Nat) (new : List Value) : Prop where
  ty : ∃ t, ats[0]? = some t ∧ P.underlying t = some (.slice e)
  zeros : ats[1]? = none ∨ ∃ xt d, ats[1]? = some xt ∧ P.underlying xt = some d ∧ ∀ k, d ≠ .int k
  info : P.info? e = some i
  zero : ∀ w, (zeroValue e).run P w = .ok zv w
  len : srcLen xv = some n
  src : srcCells s i.size n xv = some new
  nlen : new.length = n * i.size
  zsize : zv.cells.size = i.size

theorem zeros_false {P : Program} {ats : Array TypeId} (h : (match ats[1]? with | none => some true | some xt => (P.underlying xt).map fun d => !(d matches .int _)) = some true) :
    ats[1]? = none ∨ ∃ xt d, ats[1]? = some xt ∧ P.underlying xt = some d ∧ ∀ k, d ≠ .int k := by
  cases ha : ats[1]? with
  | none => exact .inl rfl
  | some xt =>
    simp only [ha] at h
    cases hu : P.underlying xt with
    | none => simp [hu] at h
    | some d =>
      simp only [hu, Option.map_some, Option.some.injEq] at h
      refine .inr ⟨xt, d, rfl, hu, fun k hk => ?_⟩
      subst hk; simp at h

/-- The start of append's run, in both ways. -/
theorem append_fits {P : Program} {ats : Array TypeId} {t0 : TypeId} {xv xv' : Value} {s : AS} {e : TypeId} {i : TypeInfo} {zv : Value} {n : Nat} {new : List Value} (h : APre P ats xv s e i zv n new)
    {j : J} {w w' : World} (hx : VR j xv xv') {new' : Array Value} (hn : (Builtin.firstCells i.size n xv').run P w = .ok new' w) {base : Option Addr} {m c : Nat} (hle : m + n ≤ c)
    (hst : (match base with | some a => storeCells (a.add (m * i.size)) new'.toList | none => pure () : Sem Unit).run P w = .ok () w') :
    (Builtin.append_ ats t0 #[.slice base m c, xv']).run P w = .ok (.slice base (m + n) c) w' := by
  obtain ⟨t, ht, hu⟩ := h.ty
  have hlen := srcLen_ok (P := P) w hx h.len
  rcases h.zeros with h1 | ⟨xt, d, h1, hux, hd⟩
  · simp only [Builtin.append_, ht, h1, List.getElem?_toArray, List.getElem?_cons_zero, List.getElem?_cons_succ, Sem.run_bind, underlying_run hu, Result.andThen_ok, sizeOf_run h.info, pure_bind, Bool.false_eq_true, if_false, hlen, if_pos hle, Bool.not_false, if_true, hn]
    cases base with
    | none => simp at hst; subst hst; rfl
    | some a => simp only at hst ⊢; simp only [Sem.run_bind, hst, Result.andThen_ok, Sem.run_pure]
  · cases d with
    | int k => exact absurd rfl (hd k)
    | _ =>
      simp only [Builtin.append_, ht, h1, List.getElem?_toArray, List.getElem?_cons_zero, List.getElem?_cons_succ, Sem.run_bind, underlying_run hu, underlying_run hux, Result.andThen_ok, sizeOf_run h.info, pure_bind, Bool.false_eq_true, if_false, hlen, if_pos hle, Bool.not_false, if_true, hn]
      cases base with
      | none => simp at hst; subst hst; rfl
      | some a => simp only at hst ⊢; simp only [Sem.run_bind, hst, Result.andThen_ok, Sem.run_pure]

theorem append_grows {P : Program} {ats : Array TypeId} {t0 : TypeId} {xv xv' : Value} {s : AS} {e : TypeId} {i : TypeInfo} {zv : Value} {n : Nat} {new : List Value} (h : APre P ats xv s e i zv n new)
    {j : J} {w : World} (hx : VR j xv xv') {base : Option Addr} {m c : Nat} (hgt : c < m + n) (hlim : m + n < 1099511627776) (hb : (2 * (m + n) + 192) * i.bytes ≤ 281474976710656)
    {old' new' : Array Value} (ho : ∀ w1 : World, w1.heap = w.heap → (Builtin.firstCells i.size m (.slice base m c)).run P w1 = .ok old' w1)
    (hn : ∀ w1 : World, w1.heap = w.heap → (Builtin.firstCells i.size n xv').run P w1 = .ok new' w1) :
    ∃ (newCap : Nat) (w1 : World), m + n ≤ newCap ∧ w1.heap = w.heap ∧ w1.os = w.os ∧ w1.tape = w.tape ∧ w1.output = w.output ∧
      (Builtin.append_ ats t0 #[.slice base m c, xv']).run P w = .ok (.slice (some ⟨w.heap.size, 0, none⟩) (m + n) newCap) (w1.alloc (.cells (old' ++ new' ++ Builtin.zeroCells zv.cells (newCap - (m + n))) e)) := by
  obtain ⟨t, ht, hu⟩ := h.ty
  have hlen := srcLen_ok (P := P) w hx h.len
  obtain ⟨newCap, w1, g1, g2, g3, g4, g5, g6⟩ := grow_run (P := P) (w := w) (e := e) (i := i) h.zero (need := m + n) (cap := c) _ _ ho hn
  refine ⟨newCap, w1, g1, g2, g3, g4, g5, ?_⟩
  rw [← g6]
  have t1 : ¬ (((m + n : Nat) : Int) > IntKind.i64.max ∧ (false = true ∨ i.bytes = 0)) := by
    rintro ⟨h1, _⟩
    have : IntKind.i64.max = 9223372036854775807 := rfl
    omega
  have t2 : ¬ Builtin.nextslicecap (m + n) c * i.bytes > 2 ^ 48 := by
    have h1 := nextslicecap_le (m + n) c hgt
    have h2 : Builtin.nextslicecap (m + n) c * i.bytes ≤ (2 * (m + n) + 192) * i.bytes := Nat.mul_le_mul_right _ h1
    omega
  have t1' : ¬ (((m + n : Nat) : Int) > IntKind.i64.max ∧ (False ∨ i.bytes = 0)) := by simpa using t1
  rcases h.zeros with h1 | ⟨xt, d, h1, hux, hd⟩
  · simp only [Builtin.append_, ht, h1, List.getElem?_toArray, List.getElem?_cons_zero, List.getElem?_cons_succ, Sem.run_bind, underlying_run hu, Result.andThen_ok, sizeOf_run h.info, pure_bind, Bool.false_eq_true, if_false, hlen, if_neg (Nat.not_le_of_lt hgt), typeInfo_run h.info, Bool.not_false, if_true]
    rw [if_neg t1']
    simp only [Sem.run_bind, typeInfo_run h.info, Result.andThen_ok, if_neg t2, run_choose, Question.forced, Bool.false_eq_true, if_false]
  · cases d with
    | int k => exact absurd rfl (hd k)
    | _ =>
      simp only [Builtin.append_, ht, h1, List.getElem?_toArray, List.getElem?_cons_zero, List.getElem?_cons_succ, Sem.run_bind, underlying_run hu, underlying_run hux, Result.andThen_ok, sizeOf_run h.info, pure_bind, Bool.false_eq_true, if_false, hlen, if_neg (Nat.not_le_of_lt hgt), typeInfo_run h.info, Bool.not_false, if_true]
      rw [if_neg t1']
      simp only [Sem.run_bind, typeInfo_run h.info, Result.andThen_ok, if_neg t2, run_choose, Question.forced, Bool.false_eq_true, if_false]

end Go.Proofs.YtfeoocgmbikocaaGreat.Ev
