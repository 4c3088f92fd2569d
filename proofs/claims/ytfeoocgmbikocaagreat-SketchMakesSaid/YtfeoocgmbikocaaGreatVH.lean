/- An evaluator for calls whose arguments are known: regions in the text's order, and the code around them. -/
import Derived.Test.YtfeoocgmbikocaaGreatVG
import Derived.LoopNIn
import Derived.OrdersIn
import Derived.RangeFuncRecord
import Derived.RangeFuncLeaves
namespace Go.Proofs.YtfeoocgmbikocaaGreat.Ev
open Go.RowKit

/-- The frames that are spoken of: a function's own, or a round's of a range over a function. -/
def Fe : Option Nat → Fence
  | none => Fence.wide
  | some l => Fence.wide.inRound l

theorem Fe_fn (ro : Option Nat) (f : FuncId) : (Fe ro).fn f := by cases ro <;> exact True.intro
theorem Fe_room (ro : Option Nat) (n : Nat) : (Fe ro).room n := by
  cases ro <;> (intro d h; cases h)
theorem Fe_depth (ro : Option Nat) (n : Nat) : (Fe ro).depth.isSome = true → 1 ≤ n := by cases ro <;> (intro h; cases h)
theorem Fe_round (ro : Option Nat) : (Fe ro).round = ro := by cases ro <;> rfl

def aput (nt : Nat) (fr : Tr Value) (dst : Option Tmp) (v : Value) : Option (Tr Value) :=
  match dst with
  | none => some fr
  | some d => bif Nat.blt d nt && Nat.blt d lim then some (fr.put d v) else none

variable {ds : List Deferred}

theorem aput_ok {j : J} {fr fr' : Tr Value} {nt : Nat} {a : Act} (hF : FRel ds j fr.get nt a) {dst : Option Tmp} {v v' : Value} (hv : VR j v v') (h : aput nt fr dst v = some fr') : FRel ds j fr'.get nt (a.put dst v') := by
  cases dst with
  | none => simp only [aput, Option.some.injEq] at h; subst h; exact hF
  | some d =>
    simp only [aput] at h
    cases hb : (Nat.blt d nt && Nat.blt d lim) with
    | false => simp [hb] at h
    | true =>
      simp only [hb, cond_true, Option.some.injEq] at h; subst h
      simp only [Bool.and_eq_true, Nat.blt_eq] at hb
      refine ⟨by simp [Act.put, hF.size], hF.defers, fun t u hu => ?_⟩
      rw [Tr.get_put _ _ _ _ hb.2] at hu
      by_cases ht : t = d
      · subst ht
        rw [if_pos rfl] at hu; cases hu
        have : t < a.tmps.size := by rw [hF.size]; exact hb.1
        simpa [Act.put, Array.getD_eq_getD_getElem?, this] using hv
      · rw [if_neg ht] at hu
        have := hF.tmp t u hu
        simp only [Act.put, getD_set _ _ _ _ (Ne.symm ht)]
        exact this

/-- Is a guarded operation wanted? -/
def awanted (ops : Array Oper) (fr : Tmp → Option Value) (o : Oper) : Option Bool :=
  match o.guard with
  | none => some true
  | some (j, want) =>
    match (ops[j]?).bind (·.dst) with
    | none => some false
    | some d => match fr d with
      | some (.bool b) => some (b == want)
      | some (.tuple _) => some false
      | _ => none

theorem awanted_ok {j : J} {ops : Array Oper} {fr : Tmp → Option Value} {a : Act} {o : Oper} {b : Bool} (h : awanted ops fr o = some b)
    (hF : ∀ i want d v, o.guard = some (i, want) → (ops[i]?).bind (·.dst) = some d → fr d = some v → VR j v (a.tmps.getD d undef)) : Region.wanted o (yielded ops a.tmps) = b := by
  unfold awanted at h
  unfold Region.wanted
  cases hg : o.guard with
  | none => simp only [hg, Option.some.injEq] at h; exact h
  | some jw =>
    obtain ⟨i, want⟩ := jw
    simp only [hg] at h ⊢
    unfold yielded
    cases hd : (ops[i]?).bind (·.dst) with
    | none => simp only [hd, Option.some.injEq] at h; subst h; simp
    | some d =>
      simp only [hd] at h
      simp only [Option.bind_some]
      split at h
      · rename_i c hc
        have := (hF i want d _ hg hd hc).closed_eq 1 rfl
        simp only [Option.some.injEq] at h; subst h
        have hlt : d < a.tmps.size := by
          rcases Nat.lt_or_ge d a.tmps.size with q | q
          · exact q
          · rw [Array.getD_eq_getD_getElem?, Array.getElem?_eq_none q] at this; cases this
        rw [Array.getD_eq_getD_getElem?, Array.getElem?_eq_getElem hlt, Option.getD_some] at this
        rw [Array.getElem?_eq_getElem hlt, this]
        rfl
      · rename_i l hl
        obtain ⟨l', hl', _⟩ := tuple_of (hF i want d _ hg hd hl)
        simp only [Option.some.injEq] at h; subst h
        cases hq : a.tmps[d]? with
        | none => rfl
        | some u =>
          rw [Array.getD_eq_getD_getElem?, hq, Option.getD_some] at hl'
          subst hl'; rfl
      · cases h

/-- What runs code: a call, or a round of a range over a function: what it gives, and what it leaves. -/
abbrev CallF := ARes → AS → Option (Value × AS)

def Post (w0 : World) (j : J) (s : AS) (v : Value) (s' : AS) : Ending → World → Prop :=
  fun e w' => ∃ v' j', e = .returned v' ∧ VR j' v v' ∧ R w0 j' s' w' ∧ Ext j s j' s'

structure CallOk (P : Program) (w0 : World) (call : CallF) : Prop where
  enter : ∀ f args s v s', call (.enter f args) s = some (v, s') → ∀ j w args', R w0 j s w → VRs j args args' → Calls P f args' w (Post w0 j s v s')
  round : ∀ l args s v s', call (.round l args) s = some (v, s') → ∀ j w args' p, R w0 j s w → VRs j args args' → j l = some p →
    ∃ fn tmps assign body, (Instr.yield p.r args').run P w = .ok (.round p.r fn tmps assign body) w ∧ ∀ n, RoundIn Fence.wide n P p.r fn tmps assign body w (Post w0 j s v s')

/-- One operation, calls done. -/
def astep (P : Program) (okS : TypeId → Bool) (call : CallF) (fr : Tmp → Option Value) (o : Oper) (s : AS) : Option (Value × AS) :=
  match aop P okS fr o s with
  | some (.val v s') => some (v, s')
  | some (.enter f args) => call (.enter f args) s
  | some (.round l args) => call (.round l args) s
  | none => none

theorem semAt_of {P : Program} {okS : TypeId → Bool} {g : Tmp → Option Value} {o : Oper} {s : AS} {r : ARes} (h : aop P okS g o s = some r) (ro : Option Nat) (ρ : Operand → Value) : o.semAt ro ρ = execOp ρ o := by
  obtain ⟨dst, op, type, pos, after, guard⟩ := o
  cases ro with
  | none => rfl
  | some l => cases op <;> first | rfl | (cases h; done)

theorem wpIn_of_run {P : Program} {ro : Option Nat} {n : Nat} {o : Oper} {a : Act} {w : World} {next : Act → World → Prop} {Q : Exit → Act → World → Prop} (hs : o.semAt ro a.eval = execOp a.eval o)
    (h : o.uponIn (Fe ro) n P a next Q ((execOp a.eval o).run P w)) : o.wpIn (Fe ro) n P a w next Q :=
  ⟨fun f _ => Fe_fn ro f, by rw [Fe_round, hs]; exact h⟩

theorem callsIn_of {P : Program} {ro : Option Nat} {n : Nat} {f : FuncId} {args : Array Value} {w : World} {R : Ending → World → Prop} (h : Calls P f args w R) : CallsIn (Fe ro) n P f args w R := by
  have := (callsIn_wide (n := n)).2 h
  cases ro <;> exact this

theorem roundIn_of {P : Program} {ro : Option Nat} {n : Nat} {l : Nat} {f : FuncId} {tmps : Array Value} {assign body : Code} {w : World} {R : Ending → World → Prop} (h : RoundIn Fence.wide n P l f tmps assign body w R) :
    RoundIn (Fe ro) n P l f tmps assign body w R := by
  cases ro <;> exact h

theorem astep_ok {P : Program} {okS : TypeId → Bool} (hP : Fit P okS) {w0 : World} {call : CallF} (hc : CallOk P w0 call) {j : J} {s s' : AS} {w : World} (hR : R w0 j s w) {fr : Tmp → Option Value} {nt : Nat} {a : Act} (hF : FRel ds j fr nt a)
    {o : Oper} {v : Value} (h : astep P okS call fr o s = some (v, s')) {ro : Option Nat} {n : Nat} {next : Act → World → Prop} {Q : Exit → Act → World → Prop}
    (hn : ∀ j' v' w', VR j' v v' → R w0 j' s' w' → Ext j s j' s' → next (a.put o.dst v') w') : o.wpIn (Fe ro) n P a w next Q := by
  unfold astep at h
  split at h
  · rename_i v1 s1 h1
    simp only [Option.some.injEq, Prod.mk.injEq] at h
    obtain ⟨rfl, rfl⟩ := h
    refine wpIn_of_run (semAt_of h1 ro _) ?_
    obtain ⟨nx, v', j', w', g1, g2, g3, g4, g5⟩ := aop_ok hP hR hF h1
    rw [g1]
    rcases g2 with rfl | ⟨rfl, rfl⟩
    · exact hn j' v' w' g3 g4 g5
    · exact hn j' undef w' g3 g4 g5
  · rename_i f args h1
    refine wpIn_of_run (semAt_of h1 ro _) ?_
    obtain ⟨args', g1, g2⟩ := aop_ok hP hR hF h1
    rw [g1]
    refine ⟨Fe_depth ro n, callsIn_of ((hc.enter f args s v s' h j w args' hR g2).mono ?_)⟩
    rintro e w' ⟨v', j', rfl, k1, k2, k3⟩
    exact hn j' v' w' k1 k2 k3
  · rename_i l args h1
    refine wpIn_of_run (semAt_of h1 ro _) ?_
    obtain ⟨p, args', g0, g1, g2⟩ := aop_ok hP hR hF h1
    obtain ⟨fn, tmps, assign, body, q1, q2⟩ := hc.round l args s v s' h j w args' p hR g2 g0
    rw [g1, q1]
    refine ⟨Fe_depth ro n, roundIn_of ((q2 (n - 1)).mono ?_)⟩
    rintro e w' ⟨v', j', rfl, k1, k2, k3⟩
    exact hn j' v' w' k1 k2 k3
  · cases h

def evOps (P : Program) (okS : TypeId → Bool) (call : CallF) (ops : Array Oper) (nt : Nat) : List Oper → Tr Value → AS → Option (Tr Value × AS)
  | [], fr, s => some (fr, s)
  | o :: l, fr, s =>
    match awanted ops fr.get o with
    | some true => match astep P okS call fr.get o s with
      | some (v, s') => match aput nt fr o.dst v with
        | some fr' => evOps P okS call ops nt l fr' s'
        | none => none
      | none => none
    | some false => match aput nt fr o.dst undef with
      | some fr' => evOps P okS call ops nt l fr' s
      | none => none
    | none => none

theorem evOps_ok {P : Program} {okS : TypeId → Bool} (hP : Fit P okS) {w0 : World} {call : CallF} (hc : CallOk P w0 call) {ops : Array Oper} {nt : Nat} {ro : Option Nat} {n : Nat} {Q : Exit → Act → World → Prop} :
    ∀ (l : List Oper) (i : Nat) (fr fr' : Tr Value) (s s' : AS) (j : J) (a : Act) (w : World), (∀ k, l[k]? = ops[i + k]?) → evOps P okS call ops nt l fr s = some (fr', s') → R w0 j s w → FRel ds j fr.get nt a →
      (∀ j' a' w', Ext j s j' s' → R w0 j' s' w' → FRel ds j' fr'.get nt a' → Q .normal a' w') → wpOpsIn (Fe ro) n P ops Q (List.range' i l.length) a w
  | [], i, fr, fr', s, s', j, a, w, hl, h, hR, hF, hQ => by
    simp only [evOps, Option.some.injEq, Prod.mk.injEq] at h
    obtain ⟨rfl, rfl⟩ := h
    exact hQ j a w (.refl _ _) hR hF
  | o :: l, i, fr, fr', s, s', j, a, w, hl, h, hR, hF, hQ => by
    have ho : ops[i]? = some o := by have := hl 0; simpa using this.symm
    have hl' : ∀ k, l[k]? = ops[i + 1 + k]? := fun k => by have := hl (k + 1); rw [show i + 1 + k = i + (k + 1) by omega, ← this]; simp
    simp only [List.length_cons, List.range'_succ, wpOpsIn, ho]
    simp only [evOps] at h
    split at h
    · rename_i hw
      have hw' := awanted_ok (j := j) (a := a) hw (fun _ _ d v _ _ hv => hF.tmp d v hv)
      rw [if_pos hw']
      split at h
      · rename_i v s1 hs
        split at h
        · rename_i fr1 hf1
          exact astep_ok hP hc hR hF hs fun j' v' w' k1 k2 k3 =>
            evOps_ok hP hc l (i + 1) fr1 fr' s1 s' j' _ w' hl' h k2 (aput_ok (hF.mono k3.le) k1 hf1) fun j2 a2 w2 q1 q2 q3 => hQ j2 a2 w2 (k3.trans q1) q2 q3
        · cases h
      · cases h
    · rename_i hw
      have hw' := awanted_ok (j := j) (a := a) hw (fun _ _ d v _ _ hv => hF.tmp d v hv)
      rw [if_neg (by rw [hw']; simp)]
      split at h
      · rename_i fr1 hf1
        exact ⟨fun f _ => Fe_fn ro f, evOps_ok hP hc l (i + 1) fr1 fr' s s' j _ w hl' h hR (aput_ok hF (.udf j) hf1) hQ⟩
      · cases h
    · cases h

inductive AExit where
  | normal
  | exit (id : Nat)
  | goto (l : Nat)
  | ret

def AExit.real : AExit → Exit
  | .normal => .normal
  | .exit id => .exit id
  | .goto l => .goto l
  | .ret => .ret

/-- What a round leaves behind as it is left. -/
def AExit.jump : AExit → Option Code
  | .normal => none
  | .exit id => some (.exit id)
  | .goto l => some (.goto l)
  | .ret => some .ret

/-- And what that is, where it is done. -/
def exitOf : Option Code → Option AExit
  | none => some .normal
  | some (.exit id) => some (.exit id)
  | some (.goto l) => some (.goto l)
  | some .ret => some .ret
  | _ => none

/-- A region that draws its order: see the next texts. -/
abbrev DrawF := CallF → Array Oper → Nat → Tr Value → AS → Option (Tr Value × AS)

def DrawOk (P : Program) (w0 : World) (dr : DrawF) : Prop :=
  ∀ call ops nt fr s fr' s', CallOk P w0 call → dr call ops nt fr s = some (fr', s') → ∀ (id : Nat) (ds : List Deferred) (ro : Option Nat) (n : Nat) j a w Q, R w0 j s w → FRel ds j fr.get nt a →
    (∀ j' a' w', Ext j s j' s' → R w0 j' s' w' → FRel ds j' fr'.get nt a' → Q .normal a' w') → (Code.region id ops true).wpIn (Fe ro) n P Q a w

abbrev EvF := Option Nat → Nat → Option Code → Code → Tr Value → List Nat → AS → Option (AExit × Tr Value × List Nat × AS)

def ares (P : Program) (fr : Tr Value) (s : AS) : List ResultVar → Option (List Value)
  | [] => some []
  | .tmp t :: l => match fr.get t, ares P fr s l with
    | some v, some r => some (v :: r)
    | _, _ => none
  | .cell x t :: l => match fr.get x with
    | some p => match aload P t p s, ares P fr s l with
      | some v, some r => some (v :: r)
      | _, _ => none
    | none => none

def one : List Value → Value
  | [v] => v
  | l => .tuple l.toArray

def initF : List Value → Nat → Tr Value → Tr Value
  | [], _, t => t
  | v :: l, i, t => initF l (i + 1) (t.put i v)

/-- The blocks of a function's ranges over functions, as it is left. -/
def release : List Nat → AS → Option AS
  | [], s => some s
  | b :: l, s => match s.mem.get b with
    | some .defd => bif Nat.blt b lim then release l ⟨s.next, s.mem.put b .gone⟩ else none
    | _ => none

def leave (P : Program) (fn : Func) (fr : Tr Value) (dl : List Nat) (s : AS) : Option (Value × AS) :=
  match release dl s with
  | some s' => match ares P fr s' fn.results.toList with
    | some l => some (one l, s')
    | none => none
  | none => none

def putAll (nt : Nat) : List Tmp → List Value → Tr Value → Option (Tr Value)
  | [], [], fr => some fr
  | t :: l, v :: m, fr => match aput nt fr (some t) v with
    | some fr' => putAll nt l m fr'
    | none => none
  | _, _, _ => none

/-- A call of a function with a body; a round. -/
def evCall (P : Program) (E : EvF) (r : ARes) (s : AS) : Option (Value × AS) :=
  match r with
  | .val _ _ => none
  | .enter f args =>
    match P.funcs[f]? with
    | some fn => match fn.body with
      | some c => bif Nat.ble args.size fn.ntmps && Nat.blt fn.ntmps 1099511 then
          match E none fn.ntmps none c (initF args.toList 0 .nil) [] s with
          | some (.normal, fr, dl, s') => leave P fn fr dl s'
          | some (.ret, fr, dl, s') => leave P fn fr dl s'
          | _ => none
        else none
      | none => none
    | none => none
  | .round l args =>
    match s.mem.get l with
    | some (.loop .ready _ fr nt ps assign body) =>
      match putAll nt ps.toList args.toList fr with
      | some fr1 => match E (some l) nt none assign fr1 [] s with
        | some (.normal, fr2, dl, s2) => match s2.mem.get l with
          | some (.loop .ready jp frl ntl psl al bl) =>
            bif Nat.blt l lim then
              match E (some l) nt none body fr2 dl ⟨s2.next, s2.mem.put l (.loop .busy jp frl ntl psl al bl)⟩ with
              | some (x, _, _, s3) => match s3.mem.get l with
                | some (.loop _ _ frl ntl psl al bl) => some (.bool x.jump.isNone, ⟨s3.next, s3.mem.put l (.loop (bif x.jump.isNone then .ready else .done) x.jump frl ntl psl al bl)⟩)
                | _ => none
              | none => none
            else none
          | _ => none
        | _ => none
      | none => none
    | _ => none

/-- A range over a function is entered: its record. -/
def enterR (ro : Option Nat) (fr : Tr Value) (nt : Nat) (ps : Array Tmp) (assign body : Code) (dl : List Nat) (s : AS) : Option (Nat × List Nat × AS) :=
  match ro with
  | none => bif Nat.blt (s.next + 1) lim then
      some (s.next + 1, s.next :: dl, ⟨s.next + 1 + 1, (s.mem.put s.next .defd).put (s.next + 1) (.loop .ready none fr nt ps assign body)⟩) else none
  | some l => match s.mem.get l with
    | some (.loop ..) => bif Nat.blt s.next lim then some (s.next, dl, ⟨s.next + 1, s.mem.put s.next (.loop .ready none fr nt ps assign body)⟩) else none
    | _ => none

def ev (P : Program) (okS : TypeId → Bool) (dr : DrawF) : Nat → EvF
  | 0, _, _, _, _, _, _, _ => none
  | n + 1, ro, nt, some b, c, fr, dl, s => match ev P okS dr n ro nt none c fr dl s with
    | some (.goto l, fr', dl', s') => (match findLabel b l with
      | some rest => ev P okS dr n ro nt (some b) rest fr' dl' s'
      | none => some (.goto l, fr', dl', s'))
    | r => r
  | n + 1, ro, nt, none, c, fr, dl, s => match c with
    | .skip => some (.normal, fr, dl, s)
    | .label _ => some (.normal, fr, dl, s)
    | .ret => some (.ret, fr, dl, s)
    | .exit id => some (.exit id, fr, dl, s)
    | .goto l => some (.goto l, fr, dl, s)
    | .region _ ops false => match evOps P okS (evCall P (ev P okS dr n)) ops nt ops.toList fr s with
      | some (fr', s') => some (.normal, fr', dl, s')
      | none => none
    | .region _ ops true => match dr (evCall P (ev P okS dr n)) ops nt fr s with
      | some (fr', s') => some (.normal, fr', dl, s')
      | none => none
    | .seq x y => match ev P okS dr n ro nt none x fr dl s with
      | some (.normal, fr', dl', s') => ev P okS dr n ro nt none y fr' dl' s'
      | r => r
    | .cond x y z => match aev fr.get x with
      | some (.bool true) => ev P okS dr n ro nt none y fr dl s
      | some (.bool false) => ev P okS dr n ro nt none z fr dl s
      | _ => none
    | .block id b => match ev P okS dr n ro nt none b fr dl s with
      | some (.exit id', fr', dl', s') => bif Nat.beq id' id then some (.normal, fr', dl', s') else some (.exit id', fr', dl', s')
      | r => r
    | .loop b => match ev P okS dr n ro nt none b fr dl s with
      | some (.normal, fr', dl', s') => ev P okS dr n ro nt none (.loop b) fr' dl' s'
      | r => r
    | .scope b => ev P okS dr n ro nt (some b) b fr dl s
    | .rangeFunc f ps assign body => match aev fr.get f, enterR ro fr nt ps assign body dl s with
      | some (.func (.func g) first cap), some (id, dl', s1) => match P.funcs[g]? with
        | some fn => bif fn.body.isSome then
            match evCall P (ev P okS dr n) (.enter g (first ++ #[.func (.yield id) #[] #[]] ++ cap)) s1 with
            | some (_, s2) => match s2.mem.get id with
              | some (.loop st jp frl ntl psl al bl) => (match exitOf jp with
                | some x => bif decide (st ≠ .busy) && Nat.blt id lim then some (x, fr, dl', ⟨s2.next, s2.mem.put id (.loop .exhausted jp frl ntl psl al bl)⟩) else none
                | none => none)
              | _ => none
            | none => none
          else none
        | none => none
      | _, _ => none
    | _ => none

end Go.Proofs.YtfeoocgmbikocaaGreat.Ev
