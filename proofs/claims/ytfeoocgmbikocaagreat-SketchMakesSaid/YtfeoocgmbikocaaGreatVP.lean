/- An evaluator for calls whose arguments are known: all code is right. -/
import Derived.Test.YtfeoocgmbikocaaGreatVI
namespace Go.Proofs.YtfeoocgmbikocaaGreat.Ev
open Go.RowKit

section
variable {P : Program} {okS : TypeId → Bool} {dr : DrawF} {w0 : World}

theorem exitOf_jump {jp : Option Code} {x : AExit} (h : exitOf jp = some x) : jp = x.jump := by
  unfold exitOf at h
  split at h <;> first | (cases h; done) | (simp only [Option.some.injEq] at h; subst h; rfl)

theorem enterLoop_some {l0 : Nat} {rec : Loop} {w : World} (h : w.heap[l0]? = some (.loop rec)) (fn : FuncId) (tmps : Array Value) (ps : Array Tmp) (assign body : Code) :
    (Instr.enterLoop fn tmps ps assign body (some l0)).run P w = .ok (w.heap.size, []) (w.alloc (.loop { state := .ready, pending := none, fn, tmps, params := ps, assign, body, defers := rec.defers })) := by
  unfold Instr.enterLoop
  simp only [Sem.run_bind, run_getLoop h, Result.andThen_ok, Sem.run_pure, run_newObj]
  rfl

/-- A range over a function is entered. -/
theorem enterR_ok {ro : Option Nat} {fr : Tr Value} {nt : Nat} {ps : Array Tmp} {assign body : Code} {dl dl' : List Nat} {s s1 : AS} {id : Nat} (h : enterR ro fr nt ps assign body dl s = some (id, dl', s1))
    {j : J} {w : World} {a : Act} {ds : List Deferred} {ro' : Option Nat} (hR : R w0 j s w) (hF : FRel ds j fr.get nt a) (hD : DRel j dl ds) (hO : RO j ro ro') (fn : FuncId) :
    ∃ (p : Pl) (mark : List Deferred) (w1 : World) (j1 : J), (Instr.enterLoop fn a.tmps ps assign body ro').run P w = .ok (p.r, mark) w1 ∧ j1 id = some p ∧ R w0 j1 s1 w1 ∧ Ext j s j1 s1 ∧ DRel j1 dl' (mark ++ ds) := by
  cases ro with
  | none =>
    cases ro' with
    | some _ => exact hO.elim
    | none =>
      simp only [enterR] at h
      obtain ⟨hb, h⟩ := cond_some' h
      rw [Nat.blt_eq] at hb
      simp only [Option.some.injEq, Prod.mk.injEq] at h
      obtain ⟨rfl, rfl, rfl⟩ := h
      obtain ⟨k1, k2⟩ := hR.new (by omega) .defd (.deferred (some [])) ⟨w.heap.size, 0, 0⟩ rfl (fun j' hle => ⟨rfl, by show (w.heap.push _)[w.heap.size]? = _; simp⟩)
      obtain ⟨m1, m2⟩ := k1.new (by simpa using hb) (.loop .ready none fr nt ps assign body) (.loop { state := .ready, pending := none, fn, tmps := a.tmps, params := ps, assign, body, defers := w.heap.size }) ⟨w.heap.size + 1, 0, 0⟩ (by simp)
        (fun j' hle => ⟨rfl, fn, a.tmps, w.heap.size, by
          have := World.alloc_heap_new (w.alloc (.deferred (some []))) (.loop { state := .ready, pending := none, fn, tmps := a.tmps, params := ps, assign, body, defers := w.heap.size })
          simpa using this, hF.size, fun t v ht => (hF.tmp t v ht).mono (J.le_trans k2.le hle)⟩)
      refine ⟨⟨w.heap.size + 1, 0, 0⟩, _, _, _, run_enterLoop_outer fn a.tmps ps assign body, J.upd_self _ _ _, m1, k2.trans m2, ⟨⟨w.heap.size, 0, 0⟩, m2.le _ _ (J.upd_self _ _ _), rfl⟩, ?_⟩
      exact hD.mono (k2.trans m2).le
  | some l =>
    cases ro' with
    | none => exact hO.elim
    | some l' =>
      obtain ⟨p0, hj0, rfl⟩ := hO
      simp only [enterR] at h
      split at h
      · rename_i hm
        obtain ⟨hb, h⟩ := cond_some' h
        rw [Nat.blt_eq] at hb
        simp only [Option.some.injEq, Prod.mk.injEq] at h
        obtain ⟨rfl, rfl, rfl⟩ := h
        obtain ⟨fn0, tmps0, rd0, h1, _, _, _⟩ := getLoop_of hR hj0 hm
        obtain ⟨m1, m2⟩ := hR.new hb (.loop .ready none fr nt ps assign body) (.loop { state := .ready, pending := none, fn, tmps := a.tmps, params := ps, assign, body, defers := rd0 }) ⟨w.heap.size, 0, 0⟩ rfl
          (fun j' hle => ⟨rfl, fn, a.tmps, rd0, World.alloc_heap_new w _, hF.size, fun t v ht => (hF.tmp t v ht).mono hle⟩)
        exact ⟨⟨w.heap.size, 0, 0⟩, [], _, _, enterLoop_some h1 fn a.tmps ps assign body, J.upd_self _ _ _, m1, m2, hD.mono m2.le⟩
      · cases h

theorem ev_ok (hP : Fit P okS) (hD : DrawOk P w0 dr) : ∀ n, EvOk P w0 (ev P okS dr n) ∧ RoundsOk P w0 (ev P okS dr n) n := by
  intro n
  induction n with
  | zero =>
    constructor
    · intro ro nt ctx c fr dl s x fr' dl' s' h
      cases ctx <;> simp [ev] at h
    · intro ro nt b fr dl s x fr' dl' s' h
      simp [ev] at h
  | succ n ih =>
    obtain ⟨ihE, ihR⟩ := ih
    have hR1 : RoundsOk P w0 (ev P okS dr (n + 1)) (n + 1) := by
      intro ro nt b fr dl s x fr' dl' s' h j a w Q ds ro' m hR hF hDR hO hQ
      simp only [ev] at h
      split at h
      · rename_i fr1 dl1 s1 h1
        exact ihE ro nt none b fr dl s _ _ _ _ h1 j a w _ ds ro' m hR hF hDR hO fun j' a' w' ds' k1 k2 k3 k4 =>
          ihR ro nt b fr1 dl1 s1 x fr' dl' s' h j' a' w' Q ds' ro' m k2 k3 k4 (hO.mono k1.le) fun j2 a2 w2 ds2 q1 q2 q3 q4 => hQ j2 a2 w2 ds2 (k1.trans q1) q2 q3 q4
      · rename_i hno
        refine ihE ro nt none b fr dl s x fr' dl' s' h j a w _ ds ro' m hR hF hDR hO fun j' a' w' ds' k1 k2 k3 k4 => ?_
        have := hQ j' a' w' ds' k1 k2 k3 k4
        cases x <;> first | exact this | exact (hno _ _ _ h).elim
    refine ⟨?_, hR1⟩
    intro ro nt ctx c fr dl s x fr' dl' s' h j a w Q ds ro' m hR hF hDR hO hQ
    cases ctx with
    | some b =>
      simp only [ev] at h
      refine inScope_of ?_
      split at h
      · rename_i l fr1 dl1 s1 h1
        refine ihE ro nt none c fr dl s _ _ _ _ h1 j a w _ ds ro' m hR hF hDR hO fun j' a' w' ds' k1 k2 k3 k4 => ?_
        simp only [AExit.real, jumps]
        split at h
        · rename_i rest hf
          rw [hf]
          exact ihE ro nt (some b) rest fr1 dl1 s1 x fr' dl' s' h j' a' w' Q ds' ro' m k2 k3 k4 (hO.mono k1.le) fun j2 a2 w2 ds2 q1 q2 q3 q4 => hQ j2 a2 w2 ds2 (k1.trans q1) q2 q3 q4
        · rename_i hf
          simp only [Option.some.injEq, Prod.mk.injEq] at h
          obtain ⟨rfl, rfl, rfl, rfl⟩ := h
          rw [hf]
          exact hQ j' a' w' ds' k1 k2 k3 k4
      · rename_i hno
        refine ihE ro nt none c fr dl s x fr' dl' s' h j a w _ ds ro' m hR hF hDR hO fun j' a' w' ds' k1 k2 k3 k4 => ?_
        have := hQ j' a' w' ds' k1 k2 k3 k4
        cases x <;> first | exact this | exact (hno _ _ _ _ h).elim
    | none =>
      cases c with
      | skip =>
        simp only [ev, Option.some.injEq, Prod.mk.injEq] at h
        obtain ⟨rfl, rfl, rfl, rfl⟩ := h
        exact wpIn_skip (hQ j a w ds (.refl _ _) hR hF hDR)
      | label l =>
        simp only [ev, Option.some.injEq, Prod.mk.injEq] at h
        obtain ⟨rfl, rfl, rfl, rfl⟩ := h
        exact wpIn_label (hQ j a w ds (.refl _ _) hR hF hDR)
      | ret =>
        simp only [ev, Option.some.injEq, Prod.mk.injEq] at h
        obtain ⟨rfl, rfl, rfl, rfl⟩ := h
        exact wpIn_ret (hQ j a w ds (.refl _ _) hR hF hDR)
      | exit id =>
        simp only [ev, Option.some.injEq, Prod.mk.injEq] at h
        obtain ⟨rfl, rfl, rfl, rfl⟩ := h
        exact wpIn_exit (hQ j a w ds (.refl _ _) hR hF hDR)
      | goto l =>
        simp only [ev, Option.some.injEq, Prod.mk.injEq] at h
        obtain ⟨rfl, rfl, rfl, rfl⟩ := h
        exact wpIn_goto (hQ j a w ds (.refl _ _) hR hF hDR)
      | region id ops draw =>
        cases draw with
        | false =>
          simp only [ev] at h
          split at h
          · rename_i fr1 s1 h1
            simp only [Option.some.injEq, Prod.mk.injEq] at h
            obtain ⟨rfl, rfl, rfl, rfl⟩ := h
            refine wpIn_region ?_
            have := evOps_ok (ro := ro') (n := m) (Q := Q) hP (evCall_ok ihE) ops.toList 0 fr fr1 s s1 j a w (fun k => by simp) h1 hR hF (fun j' a' w' k1 k2 k3 => hQ j' a' w' ds k1 k2 k3 (hDR.mono k1.le))
            simpa [List.range_eq_range'] using this
          · cases h
        | true =>
          simp only [ev] at h
          split at h
          · rename_i fr1 s1 h1
            simp only [Option.some.injEq, Prod.mk.injEq] at h
            obtain ⟨rfl, rfl, rfl, rfl⟩ := h
            exact hD _ ops nt fr s fr1 s1 (evCall_ok ihE) h1 id ds ro' m j a w Q hR hF (fun j' a' w' k1 k2 k3 => hQ j' a' w' ds k1 k2 k3 (hDR.mono k1.le))
          · cases h
      | seq c1 c2 =>
        simp only [ev] at h
        refine wpIn_seq ?_
        split at h
        · rename_i fr1 dl1 s1 h1
          exact ihE ro nt none c1 fr dl s _ _ _ _ h1 j a w _ ds ro' m hR hF hDR hO fun j' a' w' ds' k1 k2 k3 k4 =>
            ihE ro nt none c2 fr1 dl1 s1 x fr' dl' s' h j' a' w' Q ds' ro' m k2 k3 k4 (hO.mono k1.le) fun j2 a2 w2 ds2 q1 q2 q3 q4 => hQ j2 a2 w2 ds2 (k1.trans q1) q2 q3 q4
        · rename_i hno
          refine ihE ro nt none c1 fr dl s x fr' dl' s' h j a w _ ds ro' m hR hF hDR hO fun j' a' w' ds' k1 k2 k3 k4 => ?_
          have := hQ j' a' w' ds' k1 k2 k3 k4
          cases x <;> first | exact this | exact (hno _ _ _ h).elim
      | cond o c1 c2 =>
        simp only [ev] at h
        split at h
        · rename_i ho
          exact wpIn_cond_true ((aev_ok hF ho).closed_eq 1 rfl) (ihE ro nt none c1 fr dl s x fr' dl' s' h j a w Q ds ro' m hR hF hDR hO hQ)
        · rename_i ho
          exact wpIn_cond_false ((aev_ok hF ho).closed_eq 1 rfl) (ihE ro nt none c2 fr dl s x fr' dl' s' h j a w Q ds ro' m hR hF hDR hO hQ)
        · cases h
      | block id b =>
        simp only [ev] at h
        refine wpIn_block ?_
        split at h
        · rename_i id' fr1 dl1 s1 h1
          refine ihE ro nt none b fr dl s _ _ _ _ h1 j a w _ ds ro' m hR hF hDR hO fun j' a' w' ds' k1 k2 k3 k4 => ?_
          simp only [AExit.real, Exit.inBlock]
          cases hb : Nat.beq id' id with
          | true =>
            simp only [hb, cond_true, Option.some.injEq, Prod.mk.injEq] at h
            obtain ⟨rfl, rfl, rfl, rfl⟩ := h
            rw [if_pos (Nat.eq_of_beq_eq_true hb)]
            exact hQ j' a' w' ds' k1 k2 k3 k4
          | false =>
            simp only [hb, cond_false, Option.some.injEq, Prod.mk.injEq] at h
            obtain ⟨rfl, rfl, rfl, rfl⟩ := h
            rw [if_neg (fun e => by rw [e, Nat.beq_refl] at hb; cases hb)]
            exact hQ j' a' w' ds' k1 k2 k3 k4
        · rename_i hno
          refine ihE ro nt none b fr dl s x fr' dl' s' h j a w _ ds ro' m hR hF hDR hO fun j' a' w' ds' k1 k2 k3 k4 => ?_
          have := hQ j' a' w' ds' k1 k2 k3 k4
          cases x <;> first | exact this | exact (hno _ _ _ _ h).elim
      | loop b => exact wpIn_loop_rounds (n + 1) (hR1 ro nt b fr dl s x fr' dl' s' h j a w Q ds ro' m hR hF hDR hO hQ)
      | scope b =>
        simp only [ev] at h
        exact wp_scope_in (ihE ro nt (some b) b fr dl s x fr' dl' s' h j a w Q ds ro' m hR hF hDR hO hQ)
      | rangeFunc f ps assign body =>
        simp only [ev] at h
        split at h
        · rename_i g first cap id dl1 s1 hf hen
          obtain ⟨f', c', hfe, v1, v2, _⟩ := func_any (fun l hl => by cases hl) (aev_ok hF hf)
          split at h
          · rename_i fn hfn
            obtain ⟨hb, h⟩ := cond_some' h
            split at h
            · rename_i v s2 hcall
              split at h
              · rename_i st jp frl ntl psl al bl hm2
                split at h
                · rename_i x1 hx1
                  obtain ⟨hbb, h⟩ := cond_some' h
                  simp only [Bool.and_eq_true, decide_eq_true_eq, Nat.blt_eq] at hbb
                  obtain ⟨hst, hidl⟩ := hbb
                  simp only [Option.some.injEq, Prod.mk.injEq] at h
                  obtain ⟨rfl, rfl, rfl, rfl⟩ := h
                  refine wpIn_rangeFunc fun fn0 _ => ?_
                  rw [Fe_round]
                  obtain ⟨p, mark, w1, j1, e1, e2, e3, e4, e5⟩ := enterR_ok (P := P) hen hR hF hDR hO fn0
                  have hy : VRs j1 #[.func (.yield id) #[] #[]] #[.func (.yield p.r) #[] #[]] := ⟨rfl, fun i => by
                    cases i with
                    | zero => exact .yield e2
                    | succ i => (simp [Array.getD]; exact .udf j1)⟩
                  have hA : VRs j1 (first ++ #[.func (.yield id) #[] #[]] ++ cap) (f' ++ #[.func (.yield p.r) #[] #[]] ++ c') :=
                    ((v1.mono e4.le).append hy).append (v2.mono e4.le)
                  refine ⟨p.r, mark, w1, { target := .fn (.func g) c', args := f' ++ #[.func (.yield p.r) #[] #[]] }, w1, g, f' ++ #[.func (.yield p.r) #[] #[]] ++ c', w1, e1, ?_, fun _ _ => Fe_fn ro' _, ?_, Fe_depth ro' m, ?_⟩
                  · have hm : (#[Operand.const (Value.func (.yield p.r) #[] #[])].map a.eval) = #[Value.func (.yield p.r) #[] #[]] := by simp [Act.eval]
                    simp only [resolve, hfe, Deferred.ofValue, Sem.run_pure, hm]
                  · exact callFunc_run hP hfn hb _ w1
                  · refine callsIn_of (((evCall_ok ihE).enter g _ s1 v s2 hcall j1 w1 _ e3 hA).mono ?_)
                    rintro e w3 ⟨v', j3, rfl, k1, k2, k3⟩
                    have hj3 := k3.le _ _ e2
                    obtain ⟨fn3, tmps3, rd3, t1, _, _, _⟩ := getLoop_of k2 hj3 hm2
                    obtain ⟨u1, u2⟩ := setLoop_ok (st' := .exhausted) (jp' := jp) k2 hj3 hm2 t1 hidl
                    refine ⟨jp, _, run_endLoop t1 hst, ?_⟩
                    have hext := (e4.trans k3).trans u2
                    have hq := hQ j3 { a with defers := mark ++ a.defers } _ (mark ++ ds) hext u1 ⟨hF.size, by rw [hF.defers], fun t v ht => (hF.tmp t v ht).mono hext.le⟩ (e5.mono (k3.trans u2).le)
                    have hjp := exitOf_jump hx1
                    subst hjp
                    cases x1 with
                    | normal => exact hq
                    | exit id => exact wpIn_exit hq
                    | goto l => exact wpIn_goto hq
                    | ret => exact wpIn_ret hq
                · cases h
              · cases h
            · cases h
          · cases h
        · cases h
      | refuse why => simp [ev] at h

/-- A call whose arguments are closed, in any world. -/
theorem ev_calls (hP : Fit P okS) (hD : ∀ w0, DrawOk P w0 dr) {n : Nat} {f : FuncId} {args : Array Value} {v : Value} {s' : AS} (hc : args.toList.all (closed 12) = true)
    (h : evCall P (ev P okS dr n) (.enter f args) ⟨0, .nil⟩ = some (v, s')) (hv : closed 12 v = true) (w : World) :
    Calls P f args w fun e w' => e = .returned v ∧ Below w.heap.size w w' := by
  refine ((evCall_ok (ev_ok hP (hD w) n).1).enter f args _ v s' h (fun _ => none) w args (R.start w) ⟨rfl, fun i => closed_VR hc i⟩).mono ?_
  rintro e w' ⟨v', j', rfl, k1, k2, _⟩
  exact ⟨by rw [k1.closed_eq 12 hv], k2.below⟩

end

end Go.Proofs.YtfeoocgmbikocaaGreat.Ev
