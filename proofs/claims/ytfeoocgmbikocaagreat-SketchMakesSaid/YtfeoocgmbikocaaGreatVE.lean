/- An evaluator for calls whose arguments are known: one operation. -/
import Derived.Test.YtfeoocgmbikocaaGreatVD
namespace Go.Proofs.YtfeoocgmbikocaaGreat.Ev
open Go.RowKit

/-- What an operand is, of the slots that are known. -/
def aev (fr : Tmp → Option Value) (x : Operand) : Option Value :=
  match x with
  | .tmp t => fr t
  | .const v => bif closed 12 v then some v else none
  | .global _ => none
  | .func f => some (.func (.func f) #[] #[])

structure FRel (ds : List Deferred) (j : J) (fr : Tmp → Option Value) (nt : Nat) (a : Act) : Prop where
  size : a.tmps.size = nt
  defers : a.defers = ds
  tmp : ∀ t v, fr t = some v → VR j v (a.tmps.getD t undef)

variable {ds : List Deferred}
theorem FRel.mono {j j' : J} (hj : j.le j') {fr : Tmp → Option Value} {nt : Nat} {a : Act} (h : FRel ds j fr nt a) : FRel ds j' fr nt a := ⟨h.size, h.defers, fun t v ht => (h.tmp t v ht).mono hj⟩

theorem aev_ok {j : J} {fr : Tmp → Option Value} {nt : Nat} {a : Act} (h : FRel ds j fr nt a) {x : Operand} {v : Value} (hx : aev fr x = some v) : VR j v (a.eval x) := by
  cases x with
  | tmp t => exact h.tmp t v hx
  | const u =>
    simp only [aev] at hx
    cases hc : closed 12 u with
    | false => simp [hc] at hx
    | true => simp only [hc, cond_true, Option.some.injEq] at hx; subst hx; exact .same 12 hc
  | global g => simp [aev] at hx
  | func f => simp only [aev, Option.some.injEq] at hx; subst hx; exact .same 2 rfl

def aevs (fr : Tmp → Option Value) : List Operand → Option (List Value)
  | [] => some []
  | x :: l => match aev fr x, aevs fr l with
    | some v, some r => some (v :: r)
    | _, _ => none

theorem aevs_ok {j : J} {fr : Tmp → Option Value} {nt : Nat} {a : Act} (h : FRel ds j fr nt a) : ∀ {l : List Operand} {r : List Value}, aevs fr l = some r → r.length = (l.map a.eval).length ∧ ∀ k, VR j (r.getD k undef) ((l.map a.eval).getD k undef)
  | [], r, hr => by simp only [aevs, Option.some.injEq] at hr; subst hr; exact ⟨rfl, fun k => by simpa using VR.udf j⟩
  | x :: l, r, hr => by
    simp only [aevs] at hr
    split at hr
    · rename_i v r2 h1 h2
      simp only [Option.some.injEq] at hr; subst hr
      obtain ⟨g1, g2⟩ := aevs_ok h h2
      refine ⟨by simpa using g1, fun k => ?_⟩
      cases k with
      | zero => simpa using aev_ok h h1
      | succ k => simpa using g2 k
    · cases hr

theorem aevs_VRs {j : J} {fr : Tmp → Option Value} {nt : Nat} {a : Act} (h : FRel ds j fr nt a) {l : Array Operand} {r : List Value} (hr : aevs fr l.toList = some r) : VRs j r.toArray (l.map a.eval) := by
  obtain ⟨h1, h2⟩ := aevs_ok h hr
  have h3 := VRs.ofList h1 h2
  have : (l.toList.map a.eval).toArray = l.map a.eval := by apply Array.ext'; simp
  rw [this] at h3; exact h3

def aevp (fr : Tmp → Option Value) : List (Nat × Operand) → Option (List (Nat × Value))
  | [] => some []
  | (i, x) :: l => match aev fr x, aevp fr l with
    | some v, some r => some ((i, v) :: r)
    | _, _ => none

theorem aevp_ok {j : J} {fr : Tmp → Option Value} {nt : Nat} {a : Act} (h : FRel ds j fr nt a) : ∀ {l : List (Nat × Operand)} {r : List (Nat × Value)}, aevp fr l = some r → PR j r (l.map fun (i, x) => (i, a.eval x))
  | [], r, hr => by simp only [aevp, Option.some.injEq] at hr; subst hr; exact ⟨rfl, fun k => by simpa using VR.udf j⟩
  | (i, x) :: l, r, hr => by
    simp only [aevp] at hr
    split at hr
    · rename_i v r2 h1 h2
      simp only [Option.some.injEq] at hr; subst hr
      obtain ⟨g1, g2⟩ := aevp_ok h h2
      refine ⟨by simpa using g1, fun k => ?_⟩
      cases k with
      | zero => simpa using aev_ok h h1
      | succ k => simpa using g2 k
    · cases hr

def aevo (fr : Tmp → Option Value) : Option Operand → Option (Option Value)
  | none => some none
  | some x => match aev fr x with
    | some v => some (some v)
    | none => none

theorem aevo_ok {j : J} {fr : Tmp → Option Value} {nt : Nat} {a : Act} (h : FRel ds j fr nt a) {o : Option Operand} {r : Option Value} (hr : aevo fr o = some r) : OV j r (o.map a.eval) := by
  cases o with
  | none => simp only [aevo, Option.some.injEq] at hr; subst hr; exact True.intro
  | some x =>
    simp only [aevo] at hr
    split at hr
    · rename_i v hv
      simp only [Option.some.injEq] at hr; subst hr
      exact aev_ok h hv
    · cases hr

/-- A step over closed values that asks for nothing but the program, and whose result is closed. -/
def qv (P : Program) (X : Sem Value) : Option Value :=
  match quiet P X with
  | some v => bif closed 12 v then some v else none
  | none => none

theorem qv_ok {P : Program} {X : Sem Value} {v : Value} (h : qv P X = some v) (w : World) : X.run P w = .ok v w ∧ closed 12 v = true := by
  unfold qv at h
  split at h
  · rename_i u hu
    cases hc : closed 12 u with
    | false => simp [hc] at h
    | true => simp only [hc, cond_true, Option.some.injEq] at h; subst h; exact ⟨quiet_run hu w, hc⟩
  · cases h

/-- Is this one of the values whose compare asks for nothing else? -/
def plainV : Value → Bool
  | .int _ _ | .string _ => true
  | _ => false

def aeqv (P : Program) (okS : TypeId → Bool) (t : TypeId) (cx cy : Bool) (x y : Value) : Option Bool :=
  match x, y with
  | .nilIface, .nilIface => bif cx || cy then aeq P okS 10000 t x y else none
  | .agg _, .agg _ => bif P.eqGuardType P.depth t then none else aeq P okS 10000 t x y
  | .int _ _, _ => none
  | .float _ _, _ => none
  | .complex _ _ _, _ => none
  | .string _, _ => none
  | _, _ => aeq P okS 10000 t x y

def abin (P : Program) (okS : TypeId → Bool) (op : BinOp) (t : TypeId) (cx cy : Bool) (x y : Value) : Option Value :=
  bif plainV x && plainV y then qv P (binOp op t x y)
  else match op with
    | .eql => match aeqv P okS t cx cy x y with
      | some b => some (.bool b)
      | none => none
    | .neq => match aeqv P okS t cx cy x y with
      | some b => some (.bool !b)
      | none => none
    | _ => none

def constO : Operand → Bool
  | .const _ => true
  | _ => false

theorem plainV_closed {v : Value} (h : plainV v = true) : closed 12 v = true := by
  cases v <;> simp_all [plainV, closed]

theorem guard_plain {P : Program} {op : BinOp} {t : TypeId} {x y : Operand} {a b : Value} (ha : plainV a = true) (w : World) : (eqGuard op t x y a b).run P w = .ok () w := by
  cases a <;> simp_all [plainV] <;> cases op <;> cases b <;> simp [eqGuard]

def bare : Value → Bool
  | .int _ _ | .float _ _ | .complex _ _ _ | .string _ => true
  | _ => false

theorem binOp_eql {t : TypeId} {x y : Value} (h : bare x = false) : binOp .eql t x y = (do pure (.bool (← Op.equal t x y))) := by
  cases x <;> first | (simp [bare] at h; done) | (cases y <;> rfl)
theorem binOp_neq {t : TypeId} {x y : Value} (h : bare x = false) : binOp .neq t x y = (do pure (.bool (!(← Op.equal t x y)))) := by
  cases x <;> first | (simp [bare] at h; done) | (cases y <;> rfl)

theorem VR.bare_eq {j : J} {v v' : Value} (h : VR j v v') : bare v' = bare v := by cases h <;> rfl

theorem eq_runs {P : Program} {t : TypeId} {x y : Value} {b : Bool} {w : World} (h : bare x = false) (hq : (Op.equalIn 10000 t x y).run P w = .ok b w) :
    (binOp .eql t x y).run P w = .ok (.bool b) w ∧ (binOp .neq t x y).run P w = .ok (.bool !b) w := by
  rw [binOp_eql h, binOp_neq h]
  simp only [Sem.run_bind, Op.equal, Op.maxDepth, hq, Result.andThen_ok, Sem.run_pure, and_self]

theorem guard_const {P : Program} {op : BinOp} {t : TypeId} {xo yo : Operand} (h : (constO xo || constO yo) = true) (w : World) : (eqGuard op t xo yo .nilIface .nilIface).run P w = .ok () w := by
  cases op <;> cases xo <;> cases yo <;> simp_all [eqGuard, constO]

theorem guard_agg {P : Program} {op : BinOp} {t : TypeId} {xo yo : Operand} {a b : Array Value} (h : P.eqGuardType P.depth t = false) (w : World) : (eqGuard op t xo yo (.agg a) (.agg b)).run P w = .ok () w := by
  cases op <;> simp [eqGuard, h]

def isNilI : Value → Bool
  | .nilIface => true
  | _ => false
def isAggV : Value → Bool
  | .agg _ => true
  | _ => false
theorem VR.nilI_eq {j : J} {x x' : Value} (hx : VR j x x') : isNilI x' = isNilI x := by cases hx <;> rfl
theorem VR.aggV_eq {j : J} {x x' : Value} (hx : VR j x x') : isAggV x' = isAggV x := by cases hx <;> rfl

theorem guard_easy {P : Program} {op : BinOp} {t : TypeId} {xo yo : Operand} {a b : Value} (h : (isNilI a && isNilI b) = false) (h2 : (isAggV a && isAggV b) = false) (w : World) : (eqGuard op t xo yo a b).run P w = .ok () w := by
  unfold eqGuard
  split <;> first | rfl | (cases a <;> cases b <;> first | rfl | (exfalso; simp [isNilI] at h; done) | (exfalso; simp [isAggV] at h2; done))

theorem aeqv_ok {P : Program} {okS : TypeId → Bool} (hS : ∀ t, okS t = true → P.stoodInHeld t = false) {j : J} {t : TypeId} {xo yo : Operand} {x x' y y' : Value} {b : Bool} (w : World)
    (h : aeqv P okS t (constO xo) (constO yo) x y = some b) (hx : VR j x x') (hy : VR j y y') :
    (∀ op, (eqGuard op t xo yo x' y').run P w = .ok () w) ∧ (binOp .eql t x' y').run P w = .ok (.bool b) w ∧ (binOp .neq t x' y').run P w = .ok (.bool !b) w := by
  unfold aeqv at h
  split at h
  · generalize hc : (constO xo || constO yo) = c at h
    cases c with
    | false => simp at h
    | true =>
      simp only [cond_true] at h
      have h0 := aeq_ok hS _ _ _ _ _ _ _ w h hx hy
      have := hx.closed_eq 1 rfl; subst this
      have := hy.closed_eq 1 rfl; subst this
      exact ⟨fun op => guard_const hc w, eq_runs rfl h0⟩
  · rename_i a1 a2
    cases hg : P.eqGuardType P.depth t with
    | true => simp [hg] at h
    | false =>
      simp only [hg, cond_false] at h
      have h0 := aeq_ok hS _ _ _ _ _ _ _ w h hx hy
      obtain ⟨c1, rfl, _⟩ := agg_of hx
      obtain ⟨c2, rfl, _⟩ := agg_of hy
      exact ⟨fun op => guard_agg hg w, eq_runs rfl h0⟩
  · cases h
  · cases h
  · cases h
  · cases h
  · have h0 := aeq_ok hS _ _ _ _ _ _ _ w h hx hy
    have h1 : (isNilI x' && isNilI y') = false := by
      rw [hx.nilI_eq, hy.nilI_eq]
      cases x <;> first | rfl | (cases y <;> first | rfl | (exfalso; simp_all))
    have h2 : (isAggV x' && isAggV y') = false := by
      rw [hx.aggV_eq, hy.aggV_eq]
      cases x <;> first | rfl | (cases y <;> first | rfl | (exfalso; simp_all))
    have hb : bare x' = false := by
      rw [hx.bare_eq]
      cases x <;> first | rfl | (exfalso; simp_all)
    exact ⟨fun op => guard_easy h1 h2 w, eq_runs hb h0⟩

theorem abin_ok {P : Program} {okS : TypeId → Bool} (hS : ∀ t, okS t = true → P.stoodInHeld t = false) {j : J} {op : BinOp} {t : TypeId} {xo yo : Operand} {x x' y y' v : Value} (w : World)
    (h : abin P okS op t (constO xo) (constO yo) x y = some v) (hx : VR j x x') (hy : VR j y y') :
    (do eqGuard op t xo yo x' y'; binOp op t x' y' : Sem Value).run P w = .ok v w ∧ closed 12 v = true := by
  unfold abin at h
  generalize hp : (plainV x && plainV y) = pb at h
  cases pb with
  | true =>
    simp only [Bool.and_eq_true] at hp
    simp only [cond_true] at h
    have := hx.closed_eq 12 (plainV_closed hp.1); subst this
    have := hy.closed_eq 12 (plainV_closed hp.2); subst this
    obtain ⟨h1, h2⟩ := qv_ok h w
    exact ⟨by simp only [Sem.run_bind, guard_plain hp.1, Result.andThen_ok, h1], h2⟩
  | false =>
    simp only [cond_false] at h
    split at h
    · split at h
      · rename_i b hb
        simp only [Option.some.injEq] at h; subst h
        obtain ⟨g1, g2, _⟩ := aeqv_ok hS w hb hx hy
        exact ⟨by simp only [Sem.run_bind, g1, Result.andThen_ok, g2], rfl⟩
      · cases h
    · split at h
      · rename_i b hb
        simp only [Option.some.injEq] at h; subst h
        obtain ⟨g1, _, g3⟩ := aeqv_ok hS w hb hx hy
        exact ⟨by simp only [Sem.run_bind, g1, Result.andThen_ok, g3], rfl⟩
      · cases h
    · cases h

end Go.Proofs.YtfeoocgmbikocaaGreat.Ev
