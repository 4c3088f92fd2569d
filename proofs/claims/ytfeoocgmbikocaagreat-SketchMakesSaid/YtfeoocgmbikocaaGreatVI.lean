/- An evaluator for calls whose arguments are known: code and calls are right. -/
import Derived.Test.YtfeoocgmbikocaaGreatVH
namespace Go.Proofs.YtfeoocgmbikocaaGreat.Ev
open Go.RowKit

section
variable {P : Program} {F : Fence} {n : Nat} {b : Frame} {a : Act} {k : List Item} {cs : List Frame} {w : World} {Q : Exit → Act → World → Prop}

theorem stepR_scope {c : Code} : step P (lone (b.atR a (.code (.scope c) :: k)) cs w) = .next (lone (b.atR a (.code c :: .inScope c :: k)) cs w) :=
  step_lone_go (by simp [stepG, stepG.exec, Frame.atR])
theorem stepR_inScope {c : Code} : step P (lone (b.atR a (.inScope c :: k)) cs w) = .next (lone (b.atR a k) cs w) :=
  step_lone_go (by simp [stepG, stepG.exec, Frame.atR])

/-- Code within a scope: a jump goes on at its label. -/
def InScope (F : Fence) (n : Nat) (P : Program) (b c : Code) (Q : Exit → Act → World → Prop) (a : Act) (w : World) : Prop :=
  ∀ (fb : Frame) (k : List Item) (cs : List Frame), fb.roundOf = F.round → F.fn fb.fn → F.room (cs.length + 1 + n) →
    ∃ e a' w', Q e a' w' ∧ ArrivesIn (Machine.fenced P F) P (lone (fb.atR a (.code c :: .inScope b :: k)) cs w) fb k cs e a' w'

theorem wp_scope_in {b : Code} (h : InScope F n P b b Q a w) : (Code.scope b).wpIn F n P Q a w := by
  intro fb k cs hro hb hr
  obtain ⟨e, a', w', hq, harr⟩ := h fb k cs hro hb hr
  exact ⟨e, a', w', hq, .of_steps (.one (fenced_calm hb hr rfl) stepR_scope) harr⟩

def jumps (F : Fence) (n : Nat) (P : Program) (b : Code) (Q : Exit → Act → World → Prop) : Exit → Act → World → Prop
  | .goto l, a, w => (match findLabel b l with
    | some rest => InScope F n P b rest Q a w
    | none => Q (.goto l) a w)
  | e, a, w => Q e a w

theorem inScope_of {b c : Code} (h : c.wpIn F n P (jumps F n P b Q) a w) : InScope F n P b c Q a w := by
  intro fb k cs hro hb hr
  obtain ⟨e, a₁, w₁, hq, harr⟩ := h fb (.inScope b :: k) cs hro hb hr
  cases e with
  | normal => exact ⟨.normal, a₁, w₁, hq, StepsIn.trans harr (.one (fenced_calm hb hr rfl) stepR_inScope)⟩
  | exit id => exact ⟨.exit id, a₁, w₁, hq, fun k' hk => harr.1 k' (by simp [exitTo, hk]), fun hs hk => harr.2 hs (by simp [exitTo, hk])⟩
  | goto l =>
    simp only [jumps] at hq
    split at hq
    · rename_i rest hf
      obtain ⟨e₂, a₂, w₂, hq₂, harr₂⟩ := hq fb k cs hro hb hr
      exact ⟨e₂, a₂, w₂, hq₂, .of_steps (harr.1 _ (by simp [gotoIn, hf])) harr₂⟩
    · rename_i hf
      exact ⟨.goto l, a₁, w₁, hq, fun k' hk => harr.1 k' (by simp [gotoIn, hf, hk]), fun hs hk => harr.2 hs (by simp [gotoIn, hf, hk])⟩
  | ret => exact ⟨_, a₁, w₁, hq, harr⟩
  | panic ch => exact ⟨_, a₁, w₁, hq, harr⟩
  | outgrown => exact ⟨_, a₁, w₁, hq, harr⟩
end

theorem cond_some' {α : Type} {c : Bool} {x : Option α} {y : α} (h : (bif c then x else none) = some y) : c = true ∧ x = some y := by
  cases c with
  | false => cases h
  | true => exact ⟨rfl, h⟩

theorem initF_get : ∀ (l : List Value) (i : Nat) (t : Tr Value) (k : Nat) (v : Value), i + l.length ≤ lim → (initF l i t).get k = some v → (i ≤ k ∧ k < i + l.length ∧ l.getD (k - i) undef = v) ∨ t.get k = some v
  | [], i, t, k, v, _, h => .inr h
  | x :: l, i, t, k, v, hl, h => by
    simp only [List.length_cons] at hl
    simp only [initF] at h
    rcases initF_get l (i + 1) (t.put i x) k v (by omega) h with ⟨h1, h2, h3⟩ | h1
    · left
      refine ⟨by omega, by simp only [List.length_cons]; omega, ?_⟩
      rw [show k - i = (k - (i + 1)) + 1 by omega]
      simpa using h3
    · rw [Tr.get_put _ _ _ _ (by omega)] at h1
      by_cases hk : k = i
      · subst hk
        rw [if_pos rfl] at h1
        left
        exact ⟨by omega, by simp only [List.length_cons]; omega, by simpa using h1⟩
      · rw [if_neg hk] at h1; exact .inr h1

theorem initF_ok {j : J} {args args' : Array Value} {nt : Nat} (h : VRs j args args') (hle : args.size ≤ nt) (hlim : nt < 1099511) :
    FRel [] j (initF args.toList 0 .nil).get nt { tmps := args' ++ Array.replicate (nt - args'.size) undef, defers := [] } := by
  have hs := h.1
  refine ⟨by simp; omega, rfl, fun t v ht => ?_⟩
  rcases initF_get args.toList 0 .nil t v (by simp; unfold lim; omega) ht with ⟨_, h2, h3⟩ | h1
  · have h0 := h.2 t
    simp only [Nat.sub_zero] at h3
    have hv : args.getD t undef = v := by rw [← h3]; simp [Array.getD_eq_getD_getElem?, List.getD_eq_getElem?_getD]
    rw [hv] at h0
    have hlt : t < args'.size := by rw [← hs]; simpa using h2
    simp only [Array.getD_eq_getD_getElem?] at h0 ⊢
    rw [Array.getElem?_append_left hlt]; exact h0
  · cases t <;> simp [Tr.get] at h1

variable {ds : List Deferred}

theorem results_run {P : Program} {w0 : World} {j : J} {s : AS} {w : World} (hR : R w0 j s w) {fr : Tr Value} {nt : Nat} {a : Act} (hF : FRel ds j fr.get nt a) : ∀ (l : List ResultVar) (r : List Value), ares P fr s l = some r →
    ∃ r' : List Value, (l.mapM fun
        | .tmp t => pure (a.tmps.getD t undef)
        | .cell x t => do loadVar t (← asAddr (a.tmps.getD x undef)) : Sem (List Value)).run P w = .ok r' w ∧ r.length = r'.length ∧ ∀ k, VR j (r.getD k undef) (r'.getD k undef)
  | [], r, h => by simp only [ares, Option.some.injEq] at h; subst h; exact ⟨[], by simp, rfl, fun k => by simpa using VR.udf j⟩
  | .tmp t :: l, r, h => by
    simp only [ares] at h
    split at h
    · rename_i v r2 hv hr
      simp only [Option.some.injEq] at h; subst h
      obtain ⟨r', g1, g2, g3⟩ := results_run hR hF l r2 hr
      refine ⟨a.tmps.getD t undef :: r', ?_, by simp [g2], fun k => ?_⟩
      · simp only [List.mapM_cons, Sem.run_bind, Sem.run_pure, Result.andThen_ok, g1]
      · cases k with
        | zero => simpa using hF.tmp t v hv
        | succ k => simpa using g3 k
    · cases h
  | .cell x t :: l, r, h => by
    simp only [ares] at h
    split at h
    · rename_i p hp
      split at h
      · rename_i v r2 hv hr
        simp only [Option.some.injEq] at h; subst h
        obtain ⟨r', g1, g2, g3⟩ := results_run hR hF l r2 hr
        obtain ⟨v', k1, k2⟩ := aload_ok (P := P) hR (hF.tmp x p hp) hv
        refine ⟨v' :: r', ?_, by simp [g2], fun k => ?_⟩
        · have hload : (do loadVar t (← asAddr (a.tmps.getD x undef)) : Sem Value).run P w = .ok v' w := by
            have hpx := hF.tmp x p hp
            unfold aload at hv
            split at hv
            · rename_i b o
              obtain ⟨pl, hj, he⟩ := ptr_of hpx
              rw [he] at k1 ⊢
              simpa [Instr.loadAt, Instr.sureAddr, asAddr] using k1
            · cases hv
          simp only [Sem.run_bind] at hload
          simp only [List.mapM_cons, Sem.run_bind, hload, Result.andThen_ok, g1, Sem.run_pure]
        · cases k with
          | zero => simpa using k2
          | succ k => simpa using g3 k
      · cases h
    · cases h

theorem one_VR {j : J} {r r' : List Value} (hl : r.length = r'.length) (h : ∀ k, VR j (r.getD k undef) (r'.getD k undef)) : VR j (one r) (if h : r'.toArray.size = 1 then r'.toArray[0] else .tuple r'.toArray) := by
  match r, r', hl with
  | [], [], _ => exact .same 1 rfl
  | [v], [v'], _ => simpa [one] using h 0
  | v :: u :: r, v' :: u' :: r', hl =>
    rw [dif_neg (by simp)]
    exact .tuple (by simpa using hl) fun i => by simpa [Array.getD_eq_getD_getElem?, List.getD_eq_getElem?_getD, one] using h i

theorem results_ok {P : Program} {w0 : World} {j : J} {s : AS} {w : World} (hR : R w0 j s w) {fr : Tr Value} {nt : Nat} {a : Act} (hF : FRel ds j fr.get nt a) {fn : Func} {r : List Value} (h : ares P fr s fn.results.toList = some r) :
    ∃ v', (results fn a.tmps).run P w = .ok v' w ∧ VR j (one r) v' := by
  obtain ⟨r', g1, g2, g3⟩ := results_run hR hF _ _ h
  refine ⟨_, ?_, one_VR g2 g3⟩
  unfold results
  rw [Array.mapM_eq_mapM_toList]
  simp only [Sem.run_bind, Sem.run_map, Sem.run_pure]
  refine Eq.trans (congrArg (fun X => (Result.andThen X _).andThen _) (Eq.trans ?_ g1)) rfl
  congr 2

/-- The marks of a frame's ranges over functions. -/
def DRel (j : J) : List Nat → List Deferred → Prop
  | [], [] => True
  | b :: l, d :: m => (∃ p, j b = some p ∧ d.target = .collected p.r) ∧ DRel j l m
  | _, _ => False

theorem DRel.mono {j j' : J} (hj : j.le j') : ∀ {l : List Nat} {m : List Deferred}, DRel j l m → DRel j' l m
  | [], [], _ => True.intro
  | _ :: _, _ :: _, ⟨⟨p, h1, h2⟩, h3⟩ => ⟨⟨p, hj _ _ h1, h2⟩, DRel.mono hj h3⟩
  | [], _ :: _, h => h.elim
  | _ :: _, [], h => h.elim

def RO (j : J) : Option Nat → Option Nat → Prop
  | none, none => True
  | some l, some l' => ∃ p, j l = some p ∧ p.r = l'
  | _, _ => False

theorem RO.mono {j j' : J} (hj : j.le j') {ro ro' : Option Nat} (h : RO j ro ro') : RO j' ro ro' := by
  cases ro <;> cases ro' <;> first | exact h | (obtain ⟨p, h1, h2⟩ := h; exact ⟨p, hj _ _ h1, h2⟩)

/-- A function is left: its marks are taken, its results read. -/
theorem leave_ok {P : Program} {w0 : World} {n : Nat} {fn : Func} {tmps : Array Value} {fr : Tr Value} {nt : Nat} {j0 : J} {s0 : AS} : ∀ (dl : List Nat) (ds : List Deferred) (s s' : AS) (w : World) (j : J) (l : List Value), R w0 j s w →
    FRel [] j fr.get nt ⟨tmps, []⟩ → DRel j dl ds → Ext j0 s0 j s → release dl s = some s' → ares P fr s' fn.results.toList = some l →
    LeavesInM Fence.wide n P fn tmps (Post w0 j0 s0 (one l) s') ds .returning w
  | [], [], s, s', w, j, l, hR, hF, _, hE, hr, ha => by
    simp only [release, Option.some.injEq] at hr; subst hr
    obtain ⟨v', h1, h2⟩ := results_ok (a := ⟨tmps, []⟩) hR hF ha
    exact ⟨v', h1, v', j, rfl, h2, hR, hE⟩
  | b :: dl, d :: ds, s, s', w, j, l, hR, hF, hD, hE, hr, ha => by
    obtain ⟨⟨p, hj, ht⟩, hD⟩ := hD
    simp only [release] at hr
    split at hr
    · rename_i hm
      generalize hb : Nat.blt b lim = q at hr
      cases q with
      | false => cases hr
      | true =>
        simp only [cond_true] at hr
        rw [Nat.blt_eq] at hb
        obtain ⟨hd, hh⟩ := hR.obj b _ p hm hj
        have key := hR.setObj (o' := .gone) (.deferred none) hj hm True.intro (fun ob hob cs e1 fr hcs => by rw [hh] at hob; cases hob; cases hcs) (fun _ => True.intro) True.intro hb
        refine ⟨by simp, .inl ⟨p.r, _, ht, run_takeDeferred hh, ?_⟩⟩
        exact leave_ok dl ds _ s' _ j l key.1 hF hD (hE.trans key.2) hr ha
    · cases hr
  | [], _ :: _, _, _, _, _, _, _, _, hD, _, _, _ => hD.elim
  | _ :: _, [], _, _, _, _, _, _, _, hD, _, _, _ => hD.elim

section
variable {P : Program} {okS : TypeId → Bool} {dr : DrawF} {w0 : World}

/-- The evaluator, with so much fuel, is right. -/
def EvOk (P : Program) (w0 : World) (E : EvF) : Prop :=
  ∀ ro nt ctx c fr dl s x fr' dl' s', E ro nt ctx c fr dl s = some (x, fr', dl', s') → ∀ j a w Q ds ro' n, R w0 j s w → FRel ds j fr.get nt a → DRel j dl ds → RO j ro ro' →
    (∀ j' a' w' ds', Ext j s j' s' → R w0 j' s' w' → FRel ds' j' fr'.get nt a' → DRel j' dl' ds' → Q (AExit.real x) a' w') →
    (match ctx with | none => c.wpIn (Fe ro') n P Q a w | some b => InScope (Fe ro') n P b c Q a w)

theorem getLoop_of {j : J} {s : AS} {w : World} (hR : R w0 j s w) {l : Nat} {p : Pl} {st : LoopState} {jp : Option Code} {fr : Tr Value} {nt : Nat} {ps : Array Tmp} {al bl : Code} (hj : j l = some p)
    (hm : s.mem.get l = some (.loop st jp fr nt ps al bl)) : ∃ (fn : FuncId) (tmps : Array Value) (rd : Nat), w.heap[p.r]? = some (.loop { state := st, pending := jp, fn, tmps, params := ps, assign := al, body := bl, defers := rd }) ∧
      tmps.size = nt ∧ (∀ t v, fr.get t = some v → VR j v (tmps.getD t undef)) ∧ p.d = 0 := by
  obtain ⟨hd, fn, tmps, rd, h1, h2, h3⟩ := hR.obj l _ p hm hj
  exact ⟨fn, tmps, rd, h1, h2, h3, hd⟩

/-- A loop's record is written anew. -/
theorem setLoop_ok {j : J} {s : AS} {w : World} (hR : R w0 j s w) {l : Nat} {p : Pl} {st st' : LoopState} {jp jp' : Option Code} {fr : Tr Value} {nt : Nat} {ps : Array Tmp} {al bl : Code} (hj : j l = some p)
    (hm : s.mem.get l = some (.loop st jp fr nt ps al bl)) {rec : Loop} (hh : w.heap[p.r]? = some (.loop rec)) (hl : l < lim) :
    R w0 j ⟨s.next, s.mem.put l (.loop st' jp' fr nt ps al bl)⟩ (w.putObj p.r (.loop { rec with state := st', pending := jp' })) ∧ Ext j s j ⟨s.next, s.mem.put l (.loop st' jp' fr nt ps al bl)⟩ := by
  obtain ⟨fn, tmps, rd, h1, h2, h3, hd⟩ := getLoop_of hR hj hm
  have hdom := hR.dom l p hj
  rw [hh] at h1; cases h1
  exact hR.setObj (o' := .loop st' jp' fr nt ps al bl) (.loop { state := st', pending := jp', fn, tmps, params := ps, assign := al, body := bl, defers := rd }) hj hm True.intro
    (fun ob hob cs e1 fr hcs => by rw [hh] at hob; cases hob; cases hcs) (fun _ => True.intro) ⟨hd, fn, tmps, rd, by simp [hdom.2.2], h2, h3⟩ hl

theorem putAll_ok {j : J} {nt : Nat} : ∀ (ts : List Tmp) (vs vs' : List Value) (fr fr' : Tr Value) (tmps : Array Value), FRel [] j fr.get nt ⟨tmps, []⟩ → vs.length = vs'.length → (∀ k, VR j (vs.getD k undef) (vs'.getD k undef)) → putAll nt ts vs fr = some fr' →
    FRel [] j fr'.get nt ⟨(ts.zip vs').foldl (fun tmps (x : Tmp × Value) => tmps.setIfInBounds x.1 x.2) tmps, []⟩ ∧ ts.length = vs'.length
  | [], [], vs', fr, fr', tmps, hF, hl, hv, h => by
    have : vs' = [] := by cases vs' with | nil => rfl | cons _ _ => simp at hl
    subst this
    simp only [putAll, Option.some.injEq] at h; subst h
    exact ⟨hF, rfl⟩
  | t :: ts, v :: vs, vs', fr, fr', tmps, hF, hl, hv, h => by
    cases vs' with
    | nil => simp at hl
    | cons v' vs' =>
      simp only [putAll] at h
      split at h
      · rename_i fr1 hp
        have h1 := aput_ok hF (by simpa using hv 0 : VR j v v') hp
        obtain ⟨h2, h3⟩ := putAll_ok ts vs vs' fr1 fr' (tmps.setIfInBounds t v') h1 (by simpa using hl) (fun k => by simpa using hv (k + 1)) h
        exact ⟨by simpa using h2, by simp [h3]⟩
      · cases h
  | [], _ :: _, _, _, _, _, _, _, _, h => by simp [putAll] at h
  | _ :: _, [], _, _, _, _, _, _, _, h => by simp [putAll] at h

theorem zip_arr (ps : Array Tmp) (vs : Array Value) (tmps : Array Value) : (ps.zip vs).foldl (fun tmps (x : Tmp × Value) => tmps.setIfInBounds x.1 x.2) tmps = (ps.toList.zip vs.toList).foldl (fun tmps (x : Tmp × Value) => tmps.setIfInBounds x.1 x.2) tmps := by
  rw [← Array.foldl_toList]; simp

theorem evCall_ok {E : EvF} (hE : EvOk P w0 E) : CallOk P w0 (evCall P E) := by
  constructor
  · intro f args s v s' h j w args' hR hA
    unfold evCall at h
    simp only at h
    split at h
    · rename_i fn hfn
      split at h
      · rename_i c hc
        generalize hb : (Nat.ble args.size fn.ntmps && Nat.blt fn.ntmps 1099511) = bb at h
        cases bb with
        | false => simp at h
        | true =>
          simp only [Bool.and_eq_true, Nat.ble_eq, Nat.blt_eq] at hb
          simp only [cond_true] at h
          have hF := initF_ok hA hb.1 hb.2
          refine (callsIn_wide (n := 0)).1 (callsIn_of_wp_marks hfn hc True.intro ?_)
          have fin : ∀ (x : AExit) (fr1 : Tr Value) (dl : List Nat) (s1 : AS), (x = .normal ∨ x = .ret) → E none fn.ntmps none c (initF args.toList 0 .nil) [] s = some (x, fr1, dl, s1) → leave P fn fr1 dl s1 = some (v, s') →
              c.wpIn Fence.wide 0 P (bodyPostM Fence.wide 0 P fn (Post w0 j s v s')) { tmps := args' ++ Array.replicate (fn.ntmps - args'.size) undef, defers := [] } w := by
            intro x fr1 dl s1 hx he hlv
            unfold leave at hlv
            split at hlv
            · rename_i s2 hrl
              split at hlv
              · rename_i l hl
                simp only [Option.some.injEq, Prod.mk.injEq] at hlv
                obtain ⟨rfl, rfl⟩ := hlv
                refine hE none _ none c _ [] s x fr1 dl s1 he j _ w _ [] none 0 hR hF True.intro True.intro fun j' a' w' ds' k1 k2 k3 k4 => ?_
                have hlv := leave_ok (n := 0) (fn := fn) (tmps := a'.tmps) (fr := fr1) (nt := fn.ntmps) (P := P) dl ds' s1 s2 w' j' l k2 ⟨k3.size, rfl, k3.tmp⟩ k4 k1 hrl hl
                rcases hx with rfl | rfl
                · show LeavesInM _ _ _ _ _ _ _ _ _; rw [k3.defers]; exact hlv
                · show LeavesInM _ _ _ _ _ _ _ _ _; rw [k3.defers]; exact hlv
              · cases hlv
            · cases hlv
          split at h
          · rename_i fr1 dl s1 he; exact fin .normal fr1 dl s1 (.inl rfl) he h
          · rename_i fr1 dl s1 he; exact fin .ret fr1 dl s1 (.inr rfl) he h
          · cases h
      · cases h
    · cases h
  · intro l args s v s' h j w args' p hR hA hj
    unfold evCall at h
    simp only at h
    split at h
    · rename_i jp0 fr nt ps assign body hm
      obtain ⟨fn, tmps, rd, h1, h2, h3, hd⟩ := getLoop_of hR hj hm
      split at h
      · rename_i fr1 hp
        have hF0 : FRel [] j fr.get nt ⟨tmps, []⟩ := ⟨h2, rfl, h3⟩
        obtain ⟨hF1, hlen⟩ := putAll_ok ps.toList args.toList args'.toList fr fr1 tmps hF0 (by simpa using hA.1) hA.toList hp
        have hsz : args'.size = ps.size := by simpa using hlen.symm
        refine ⟨fn, _, assign, body, run_yield h1 hsz, fun n => ?_⟩
        rw [← zip_arr] at hF1
        refine roundIn_of_wpIn (F := Fence.wide) True.intro ?_
        split at h
        · rename_i fr2 dl s2 he
          split at h
          · rename_i jp frl ntl psl al bl hm2
            generalize hb : Nat.blt l lim = bb at h
            cases bb with
            | false => simp at h
            | true =>
              simp only [cond_true] at h
              rw [Nat.blt_eq] at hb
              split at h
              · rename_i x fr3 dl3 s3 he2
                split at h
                · rename_i st3 jp3 frl3 ntl3 psl3 al3 bl3 hm3
                  simp only [Option.some.injEq, Prod.mk.injEq] at h
                  obtain ⟨rfl, rfl⟩ := h
                  refine hE (some l) nt none assign fr1 [] s .normal fr2 dl s2 he j _ w _ [] (some p.r) n hR hF1 True.intro ⟨p, hj, rfl⟩ fun j2 a2 w2 ds2 k1 k2 k3 k4 => ?_
                  have hj2 := k1.le _ _ hj
                  obtain ⟨fn2, tmps2, rd2, q1, _, _, _⟩ := getLoop_of k2 hj2 hm2
                  obtain ⟨r1, r2⟩ := setLoop_ok (st' := .busy) (jp' := jp) k2 hj2 hm2 q1 hb
                  refine ⟨_, run_beginRound q1 rfl, ?_⟩
                  refine hE (some l) nt none body fr2 dl _ x fr3 dl3 s3 he2 j2 _ _ _ ds2 (some p.r) n r1 k3 k4 ⟨p, hj2, rfl⟩ fun j3 a3 w3 ds3 m1 m2 m3 m4 => ?_
                  have hj3 := m1.le _ _ hj2
                  obtain ⟨fn3, tmps3, rd3, t1, _, _, _⟩ := getLoop_of m2 hj3 hm3
                  obtain ⟨u1, u2⟩ := setLoop_ok (st' := bif x.jump.isNone then .ready else .done) (jp' := x.jump) m2 hj3 hm3 t1 hb
                  have hend := run_endRound (P := P) x.jump t1
                  have hst : (if x.jump.isNone = true then LoopState.ready else LoopState.done) = (bif x.jump.isNone then .ready else .done) := by cases x.jump.isNone <;> rfl
                  rw [hst] at hend
                  have post : Post w0 j s (.bool x.jump.isNone) ⟨s3.next, s3.mem.put l (.loop (bif x.jump.isNone then .ready else .done) x.jump frl3 ntl3 psl3 al3 bl3)⟩ (.returned (.bool x.jump.isNone))
                      (w3.putObj p.r (.loop { state := bif x.jump.isNone then .ready else .done, pending := x.jump, fn := fn3, tmps := tmps3, params := psl3, assign := al3, body := bl3, defers := rd3 })) :=
                    ⟨_, j3, rfl, .same 1 rfl, u1, k1.trans (r2.trans (m1.trans u2))⟩
                  cases x <;> exact ⟨_, _, hend, post⟩
                · cases h
              · cases h
          · cases h
        · cases h
      · cases h
    · cases h

/-- A loop, unrolled as often as it goes round. -/
def RoundsOk (P : Program) (w0 : World) (E : EvF) (m : Nat) : Prop :=
  ∀ ro nt b fr dl s x fr' dl' s', E ro nt none (.loop b) fr dl s = some (x, fr', dl', s') → ∀ j a w Q ds ro' n, R w0 j s w → FRel ds j fr.get nt a → DRel j dl ds → RO j ro ro' →
    (∀ j' a' w' ds', Ext j s j' s' → R w0 j' s' w' → FRel ds' j' fr'.get nt a' → DRel j' dl' ds' → Q (AExit.real x) a' w') → Code.roundsIn (Fe ro') n P b Q m a w

end

end Go.Proofs.YtfeoocgmbikocaaGreat.Ev
