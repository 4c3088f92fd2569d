/- An evaluator for calls whose arguments are known: regions that draw their order are right. -/
import Derived.Test.YtfeoocgmbikocaaGreatVM
namespace Go.Proofs.YtfeoocgmbikocaaGreat.Ev
open Go.RowKit

section
variable {P : Program} {okS : TypeId → Bool} {ops : Array Oper} {nt : Nat} {w0 : World} {j0 : J} {s0 : AS} {call : CallF} {Q : Exit → Act → World → Prop} {ds : List Deferred} {ro : Option Nat} {nn : Nat}

theorem semAt_alloc {o : Oper} (h : isAlloc o = true) (ro : Option Nat) (ρ : Operand → Value) : o.semAt ro ρ = execOp ρ o := by
  obtain ⟨dst, op, type, pos, after, guard⟩ := o
  cases ro with
  | none => rfl
  | some l => cases op <;> first | rfl | (simp [isAlloc] at h; done)

/-- All is done. -/
theorem draw_end {n done : Nat} {pend : List Nat} {fr frE : Tr Value} {s sE : AS} {listed : Array Bool} {a : Act} {w : World} {j : J} {idf : Nat → Nat}
    (h : DI P okS ops nt ds w0 j0 s0 done pend fr s listed a w j idf) (ht : drawTail P okS call ops nt n done pend fr s = some (frE, sE)) (hall : ∀ i, i < ops.size → listed.getD i true = true)
    (hQ : ∀ j' a' w', Ext j0 s0 j' sE → R w0 j' sE w' → FRel ds j' frE.get nt a' → Q .normal a' w') : Q .normal a w := by
  have he : effs ops done (List.range ops.size) = [] := by
    apply List.eq_nil_iff_forall_not_mem.2
    intro i hi
    obtain ⟨h1, o, h2, h3, _⟩ := (effs_mem _ _).1 hi
    have := h.de.sub i (by simpa using h1) (hall i (by simpa using h1))
    rw [h3] at this; cases this
  unfold drawTail at ht
  rw [he] at ht
  simp only [Option.some.injEq, Prod.mk.injEq] at ht
  obtain ⟨rfl, rfl⟩ := ht
  exact hQ j a w h.de.ext h.de.rel ⟨h.de.tsz, h.de.dfr, fun t v hv => h.de.slots t v hv fun i o ho _ => hall i (Array.getElem?_eq_some_iff.1 ho).1⟩

theorem rename_late {fr : Tr Value} {s : AS} {done : Nat} {pend : List Nat} {listed : Array Bool} {a : Act} {w : World} {j : J} {idf : Nat → Nat} (h : DE P okS ops nt ds w0 j0 s0 done pend fr s listed a w j idf)
    {id : Nat} (hid : s0.next ≤ id) (hj : j id = none) (p : Pl) : Ext j0 s0 (j.upd id p) s :=
  ⟨J.le_trans h.ext.le (J.upd_le hj), h.ext.next, fun b hb hb0 => by
    obtain ⟨h1, h2⟩ := h.ext.keep b hb hb0
    exact ⟨by simp [J.upd, h1, show b ≠ id by omega], h2⟩⟩

theorem draw_main (hP : Fit P okS) (hc : CallOk P w0 call) (hsh : Shape ops) (hnt : ∀ (i : Nat) (o : Oper) (d : Tmp), ops[i]? = some o → o.dst = some d → d < nt) :
    ∀ (N n done : Nat) (pend : List Nat) (fr : Tr Value) (s : AS) (frE : Tr Value) (sE : AS), drawTail P okS call ops nt n done pend fr s = some (frE, sE) →
      ∀ (listed : Array Bool) (a : Act) (w : World) (j : J) (idf : Nat → Nat), DI P okS ops nt ds w0 j0 s0 done pend fr s listed a w j idf → (List.range ops.size).countP (fun i => !listed.getD i true) ≤ N →
      (∀ j' a' w', Ext j0 s0 j' sE → R w0 j' sE w' → FRel ds j' frE.get nt a' → Q .normal a' w') → wpAnyIn (Fe ro) nn P .any ops Q N listed a w := by
  intro N
  induction N with
  | zero =>
    intro n done pend fr s frE sE ht listed a w j idf h hcnt hQ
    have hall : ∀ i, i < ops.size → listed.getD i true = true := by
      intro i hi
      have h0 : (List.range ops.size).countP (fun i => !listed.getD i true) = 0 := by omega
      have := List.countP_eq_zero.1 h0 i (by simpa using hi)
      simpa using this
    refine ⟨?_, draw_end h ht hall hQ⟩
    apply List.eq_nil_iff_forall_not_mem.2
    intro i hi
    obtain ⟨h1, h2, _⟩ := mem_ready h.de.lsz hsh hi
    rw [hall i h1] at h2; cases h2
  | succ N ih =>
    intro n done pend fr s frE sE ht listed a w j idf h hcnt hQ
    refine ⟨fun hr => draw_end h ht (all_listed h.de.lsz hsh hr) hQ, fun i hi => ?_⟩
    obtain ⟨hlt, hunl, o, ho, hdeps⟩ := mem_ready h.de.lsz hsh hi
    have hcnt' : (List.range ops.size).countP (fun x => !(listed.setIfInBounds i true).getD x true) ≤ N := by
      have := countP_less (fun x => !listed.getD x true) (fun x => !(listed.setIfInBounds i true).getD x true) (fun x hx => by
        rw [set_listed (by rw [h.de.lsz]; exact hlt)] at hx
        by_cases e : x = i
        · rw [if_pos e] at hx; cases hx
        · rw [if_neg e] at hx; exact hx) (List.range ops.size) i (by simpa using hlt) (by simpa using hunl) (by rw [set_listed (by rw [h.de.lsz]; exact hlt), if_pos rfl]; rfl)
      omega
    unfold wpOpIn
    rw [ho]
    simp only
    cases hdone : done.testBit i with
    | true =>
      obtain ⟨k1, k2, k3⟩ := h.de.pnd i o ho hdone hunl
      rcases k3 with ⟨q1, q2⟩ | ⟨q1, q2, q3⟩
      · have hw := h.de.wanted hsh ho hdeps q1
        rw [if_neg (by rw [hw]; simp)]
        refine ⟨fun f _ => Fe_fn ro f, ?_⟩
        refine ih n done pend fr s frE sE ht _ _ w j idf (h.step ho hdone (.udf j) (fun d hd => ⟨q2 d hd, hnt i o d ho hd⟩) h.de.rel h.de.ext (J.le_refl _) (fun _ _ _ _ _ _ _ _ hx => hx)) hcnt' hQ
      · have hw := h.de.wanted hsh ho hdeps q1
        rw [if_pos hw]
        have hF := h.de.frel hsh ho hdeps
        have plain : ∀ v, aop P okS fr.get o s = some (.val v s) → (∀ d, o.dst = some d → fr.get d = some v) → o.wpIn (Fe ro) nn P a w (wpAnyIn (Fe ro) nn P .any ops Q N (listed.setIfInBounds i true)) Q := by
          intro v hv hd
          rw [← msk_aop (ops := ops)] at hv
          obtain ⟨nx, v', j', w', g1, g2, g3, g4, g5⟩ := aop_ok hP h.de.rel hF hv
          have key : wpAnyIn (Fe ro) nn P .any ops Q N (listed.setIfInBounds i true) (a.put o.dst v') w' :=
            ih n done pend fr s frE sE ht _ _ w' j' idf (h.step ho hdone g3 (fun d hdd => ⟨hd d hdd, hnt i o d ho hdd⟩) g4 (h.de.ext.trans g5) g5.le (fun x ox hne hox hx hl hal haw hj => by
              obtain ⟨_, _, k3⟩ := h.de.pnd x ox hox hx hl
              rcases k3 with ⟨r1, _⟩ | ⟨_, _, r3⟩
              · rw [r1] at haw; cases haw
              · rcases r3 with ⟨_, ob, mk, _, r2, _⟩ | ⟨r, _⟩ | ⟨r, _⟩
                · exact (g5.keep _ (h.de.rel.memlt _ _ r2) hj).1
                · rw [hal] at r; cases r
                · rw [hal] at r; cases r)) hcnt' hQ
          refine wpIn_of_run (semAt_of hv ro _) ?_
          rw [g1]
          rcases g2 with rfl | ⟨rfl, rfl⟩
          · exact key
          · exact key
        rcases q3 with ⟨ha, ob, mk, r1, r2, r3, r4, r5⟩ | ⟨ha, hp, v, r1, r2⟩ | ⟨ha, hp⟩
        · -- a new block
          obtain ⟨o', p, v', g1, g2, g3, g4⟩ := r1 w0 j s w nt ds a h.de.rel hF
          have hle := J.upd_le (p := p) r3
          have hR' := h.de.rel.late r2 r3 o' p g2 (g3 _ hle)
          have key : wpAnyIn (Fe ro) nn P .any ops Q N (listed.setIfInBounds i true) (a.put o.dst v') (w.alloc o') :=
            ih n done pend fr s frE sE ht _ _ _ (j.upd (idf i) p) idf (h.step ho hdone (g4 _ _ (J.upd_self _ _ _)) (fun d hdd => ⟨r5 d hdd, hnt i o d ho hdd⟩) hR' (rename_late h.de r4 r3 p) hle (fun x ox hne hox hx hl hal haw hj => by
              have hid := h.de.idd x i ox o hne hox ho hx hdone hl hunl hal ha haw q1
              simp [J.upd, hj, hid])) hcnt' hQ
          refine wpIn_of_run (semAt_alloc ha ro _) ?_
          rw [g1]
          exact key
        · exact plain v (r1 s) r2
        · obtain ⟨v, v1, v2⟩ := h.reads i o ho hdone hunl ha hp q1
          exact plain v v1 v2
    | false =>
      -- the next one that turns what is there
      have hsub : sub (depMask o) done = true := sub_of fun p hp => h.de.sub p (hdeps p hp).1 (hdeps p hp).2
      have hmem : i ∈ effs ops done (List.range ops.size) := (effs_mem _ _).2 ⟨by simpa using hlt, o, ho, hdone, hsub⟩
      unfold drawTail at ht
      split at ht
      · rename_i he; rw [he] at hmem; cases hmem
      · rename_i i' he
        rw [he] at hmem
        have hii : i = i' := by simpa using hmem
        subst hii
        rw [ho] at ht
        simp only at ht
        obtain ⟨hE, ht⟩ := cond_some ht
        -- on to the next stage
        have goOn : ∀ {pend' : List Nat} {fr2 : Tr Value} {s2 : AS} {v v' : Value} {j' : J} {w' : World}, VR j' v v' → aput nt fr o.dst v = some fr2 → R w0 j' s2 w' → Ext j s j' s2 → (∀ x ∈ pend, listed.getD x true = false → x ∈ pend') →
            drawGo P okS call ops nt n (done ||| 2 ^ i) pend' fr2 s2 = some (frE, sE) → wpAnyIn (Fe ro) nn P .any ops Q N (listed.setIfInBounds i true) (a.put o.dst v') w' := by
          intro pend' fr2 s2 v v' j' w' hv hput hR' hE' hpd hgo
          have hde := h.eff hsh ho hdone hv hput hR' hE' hpd
          obtain ⟨m, done', pend2, fr3, s3, rfl, hr, hrc, htl⟩ := drawGo_succ hgo
          obtain ⟨idf', hde'⟩ := restGo_ok hsh _ _ _ _ _ _ _ _ _ hr _ _ _ _ _ hde
          exact ih m done' pend2 fr3 s3 frE sE htl _ _ w' j' idf' (hde'.stage hrc) hcnt' hQ
        split at ht
        · rename_i haw
          have hw := h.de.wanted hsh ho hdeps haw
          rw [if_pos hw]
          split at ht
          · rename_i v s2 hst
            split at ht
            · rename_i fr2 hput
              have hF := h.de.frel hsh ho hdeps
              have hst' : astep P okS call (msk ops o fr.get) o s = some (v, s2) := by
                unfold astep at hst ⊢
                rw [msk_aop]; exact hst
              exact astep_ok hP hc h.de.rel hF hst' fun j' v' w' g1 g2 g3 => goOn g1 hput g2 g3 (fun x hx hl => List.mem_filter.2 ⟨hx, by
                cases hb : (depMask o).testBit x with
                | false => rfl
                | true => rw [(hdeps x hb).2] at hl; cases hl⟩) ht
            · cases ht
          · cases ht
        · rename_i haw
          have hw := h.de.wanted hsh ho hdeps haw
          rw [if_neg (by rw [hw]; simp)]
          split at ht
          · rename_i fr2 hput
            exact ⟨fun f _ => Fe_fn ro f, goOn (.udf j) hput h.de.rel (.refl _ _) (fun x hx _ => hx) ht⟩
          · cases ht
        · cases ht
      · cases ht

theorem clearF_ok : ∀ (l : List Oper) (fr fr' : Tr Value), clearF nt l fr = some fr' → GLe fr'.get fr.get ∧ (∀ o ∈ l, ∀ d, o.dst = some d → d < nt ∧ fr'.get d = none)
  | [], fr, fr', h => by simp only [clearF, Option.some.injEq] at h; subst h; exact ⟨.refl _, fun _ ho => by cases ho⟩
  | o :: l, fr, fr', h => by
    simp only [clearF] at h
    split at h
    · rename_i hd
      obtain ⟨h1, h2⟩ := clearF_ok l fr fr' h
      refine ⟨h1, fun x hx d hdd => ?_⟩
      rcases List.mem_cons.1 hx with rfl | hx
      · rw [hd] at hdd; cases hdd
      · exact h2 x hx d hdd
    · rename_i d hd
      obtain ⟨hb, h⟩ := cond_some h
      simp only [Bool.and_eq_true, Nat.blt_eq] at hb
      obtain ⟨h1, h2⟩ := clearF_ok l (fr.clr d) fr' h
      have hle : GLe (fr.clr d).get fr.get := fun t v ht => by
        rw [Tr.get_clr _ _ _ hb.2] at ht
        by_cases e : t = d
        · rw [if_pos e] at ht; cases ht
        · rw [if_neg e] at ht; exact ht
      refine ⟨h1.trans hle, fun x hx d' hdd => ?_⟩
      rcases List.mem_cons.1 hx with rfl | hx
      · rw [hd] at hdd; cases hdd
        refine ⟨hb.1, ?_⟩
        cases hq : fr'.get d with
        | none => rfl
        | some v => have := h1 _ _ hq; rw [Tr.get_clr _ _ _ hb.2, if_pos rfl] at this; cases this
      · exact h2 x hx d' hdd

end

theorem draw_ok {P : Program} {okS : TypeId → Bool} (hP : Fit P okS) (w0 : World) : DrawOk P w0 (draw P okS) := by
  intro call ops nt fr s fr' s' hc h id ds ro nn j a w Q hR hF hQ
  unfold draw at h
  obtain ⟨hs, h⟩ := cond_some h
  have hsh := shape_of hs
  split at h
  · rename_i fr1 hcl
    obtain ⟨hle, hclr⟩ := clearF_ok _ _ _ hcl
    have hmem : ∀ (i : Nat) (o : Oper), ops[i]? = some o → o ∈ ops.toList := fun i o ho => by
      have := List.mem_of_getElem? (l := ops.toList) (i := i) (a := o) (by simpa using ho)
      exact this
    have hnt : ∀ (i : Nat) (o : Oper) (d : Tmp), ops[i]? = some o → o.dst = some d → d < nt := fun i o d ho hd => (hclr o (hmem i o ho) d hd).1
    have hRd : R w0 j s { w with drawn := w.drawn + 1 } := hR.same rfl rfl rfl rfl
    have hlf : ∀ i, i < ops.size → (Array.replicate ops.size false).getD i true = false := fun i hi => by simp [Array.getD, hi]
    have hde : DE P okS ops nt ds w0 j s 0 [] fr1 s (Array.replicate ops.size false) a { w with drawn := w.drawn + 1 } j (fun _ => 0) :=
      { lsz := by simp
        sub := fun i hi hl => by rw [hlf i hi] at hl; cases hl
        effd := fun i o ho hd => by simp at hd
        rel := hRd
        ext := .refl _ _
        tsz := hF.size
        dfr := hF.defers
        slots := fun t v ht _ => hF.tmp t v (hle t v ht)
        fresh := fun i o d ho _ hd => (hclr o (hmem i o ho) d hd).2
        pnd := fun i o ho hd => by simp at hd
        idd := fun i i' o o' _ _ _ hd => by simp at hd }
    obtain ⟨m, done', pend2, fr3, s3, _, hr, hrc, htl⟩ := drawGo_succ h
    obtain ⟨idf', hde'⟩ := restGo_ok hsh _ _ _ _ _ _ _ _ _ hr _ _ _ _ _ hde
    refine wpIn_region_any hP.mixed ?_
    exact draw_main hP hc hsh hnt ops.size m done' pend2 fr3 s3 fr' s' htl _ _ _ _ idf' (hde'.stage hrc) (by
      have := List.countP_le_length (p := fun i => !(Array.replicate ops.size false).getD i true) (l := List.range ops.size)
      simpa using this) hQ
  · cases h

/-- What is asked of a program, to be looked up. -/
def okN (P : Program) : Bool := P.funcs.toList.all fun fn => fn.body.isNone || !(fn.name == "runtime.NumGoroutine")

theorem names_of {P : Program} (h : okN P = true) (f : FuncId) (fn : Func) (hf : P.funcs[f]? = some fn) (hb : fn.body.isSome = true) : (fn.name == "runtime.NumGoroutine") = false := by
  have hm : fn ∈ P.funcs.toList := by
    have := List.mem_of_getElem? (l := P.funcs.toList) (i := f) (a := fn) (by simpa using hf)
    exact this
  have := List.all_eq_true.1 h fn hm
  cases hq : fn.body with
  | none => rw [hq] at hb; cases hb
  | some c => simpa [hq] using this

def okT (P : Program) (t : TypeId) : Bool := !P.stoodInHeld t

theorem fit_of {P : Program} (h : okN P = true) (hm : P.follows .mixedOrders = true) : Fit P (okT P) :=
  ⟨fun t ht => by simpa [okT] using ht, names_of h, hm⟩

/-- What a call with closed arguments gives, in whatever world, as the evaluator says it. -/
theorem closed_call {P : Program} {okS : TypeId → Bool} (hP : Fit P okS) (n : Nat) {f : FuncId} {args : Array Value} {v : Value} {s' : AS} (hc : args.toList.all (closed 12) = true)
    (h : evCall P (ev P okS (draw P okS) n) (.enter f args) ⟨0, .nil⟩ = some (v, s')) (hv : closed 12 v = true) (w : World) :
    Calls P f args w fun e w' => e = .returned v ∧ Below w.heap.size w w' :=
  ev_calls hP (fun w0 => draw_ok hP w0) hc h hv w

def gives (v : Bool) : Option (Value × AS) → Bool
  | some (.bool b, _) => b == v
  | _ => false

theorem awake_call {P : Program} {okS : TypeId → Bool} (hP : Fit P okS) (n : Nat) {f : FuncId} {b : Bool} (h : gives b (evCall P (ev P okS (draw P okS) n) (.enter f #[]) ⟨0, .nil⟩) = true) (w : World) :
    Calls P f #[] w fun e w' => e = .returned (.bool b) ∧ Below w.heap.size w w' := by
  unfold gives at h
  split at h
  · rename_i c s' hc
    have : c = b := by simpa using h
    subst this
    exact closed_call hP n rfl hc rfl w
  · cases h

end Go.Proofs.YtfeoocgmbikocaaGreat.Ev
