/- An evaluator for calls whose arguments are known: an operation is right. -/
import Derived.Test.YtfeoocgmbikocaaGreatVF
namespace Go.Proofs.YtfeoocgmbikocaaGreat.Ev
open Go.RowKit

/-- What is asked of the program: structs that the model stands in for don't come up, and no function with a body has the one name that is met by name. -/
structure Fit (P : Program) (okS : TypeId → Bool) : Prop where
  stood : ∀ t, okS t = true → P.stoodInHeld t = false
  names : ∀ (f : FuncId) (fn : Func), P.funcs[f]? = some fn → fn.body.isSome = true → (fn.name == "runtime.NumGoroutine") = false
  mixed : P.follows .mixedOrders = true

theorem callFunc_run {P : Program} {okS : TypeId → Bool} (hP : Fit P okS) {f : FuncId} {fn : Func} (hf : P.funcs[f]? = some fn) (hb : fn.body.isSome = true) (args : Array Value) (w : World) :
    (callFunc f args).run P w = .ok (.enter f args) w := by
  have hn := hP.names f fn hf hb
  have hb' : fn.body.isNone = false := by cases h : fn.body <;> simp_all
  simp only [callFunc, Sem.run_bind, run_program, Result.andThen_ok, hf, hn, hb', Bool.false_eq_true, if_false, Sem.run_pure]

theorem VRs.append {j : J} {a a' b b' : Array Value} (h : VRs j a a') (k : VRs j b b') : VRs j (a ++ b) (a' ++ b') := by
  refine ⟨by simp [h.1, k.1], fun i => ?_⟩
  have h1 := h.2 i
  have hs := h.1
  simp only [Array.getD_eq_getD_getElem?, Array.getElem?_append, hs] at h1 ⊢
  split
  · exact h1
  · have := k.2 (i - a'.size)
    simpa [Array.getD_eq_getD_getElem?] using this

theorem getD2 {j : J} {a : List Value} {c : Array Value} (h : VRs j a.toArray c) {x y : Value} (ha : a = [x, y]) : ∃ x' y', c = #[x', y'] ∧ VR j x x' ∧ VR j y y' := by
  subst ha
  have h0 := h.2 0
  have h1 := h.2 1
  have hs : c.size = 2 := h.1.symm
  refine ⟨c[0], c[1], ?_, ?_, ?_⟩
  · apply Array.ext (by simp [hs])
    intro i g1 g2
    match i with
    | 0 => rfl
    | 1 => rfl
    | i + 2 => omega
  · simpa [Array.getD, hs] using h0
  · simpa [Array.getD, hs] using h1

theorem getD1 {j : J} {a : List Value} {c : Array Value} (h : VRs j a.toArray c) {x : Value} (ha : a = [x]) : ∃ x', c = #[x'] ∧ VR j x x' := by
  subst ha
  have h0 := h.2 0
  have hs : c.size = 1 := h.1.symm
  refine ⟨c[0], ?_, ?_⟩
  · apply Array.ext (by simp [hs])
    intro i g1 g2
    match i with
    | 0 => rfl
    | i + 1 => omega
  · simpa [Array.getD, hs] using h0

theorem closed_args {j : J} {a : List Value} {c : Array Value} (h : VRs j a.toArray c) (hc : a.all (closed 12) = true) : c = a.toArray :=
  arr_ext h.1 fun i => by
    by_cases hi : i < a.toArray.size
    · exact (h.2 i).closed_eq 12 (all_getD (c := a.toArray) (by simpa using hc) i hi)
    · have : ¬ i < c.size := by rw [← h.1]; exact hi
      rw [show c.getD i undef = undef by simp [Array.getD, this], show a.toArray.getD i undef = undef by simp only [Array.getD, dif_neg hi]]

theorem acap_ok {P : Program} {j : J} {w : World} {ats : Array TypeId} {t0 : TypeId} {x x' v : Value} (hx : VR j x x') (h : acap P ats x = some v) :
    (Builtin.cap_ ats t0 #[x']).run P w = .ok v w ∧ VR j v v := by
  unfold acap at h
  split at h
  · rename_i t ht
    split at h
    · rename_i e a n c hu
      cases hc : Nat.blt c big with
      | false => simp [hc] at h
      | true =>
        simp only [hc, cond_true, Option.some.injEq] at h; subst h
        rw [Nat.blt_eq] at hc
        have key : ∃ a', x' = .slice a' n c := by
          cases hx with
          | same m hm => exact ⟨a, rfl⟩
          | slice hj hcr =>
            rcases hcr with ⟨_, rfl⟩ | ⟨hge, _⟩
            · exact ⟨_, rfl⟩
            · omega
        obtain ⟨a', rfl⟩ := key
        exact ⟨by simp [Builtin.cap_, ht, underlying_run hu, goInt], .same 1 rfl⟩
    · cases h
  · cases h

theorem zeroCells_getD (z : Array Value) (n i : Nat) (hi : i < n * z.size) (hz : 0 < z.size) : (Builtin.zeroCells z n).getD i undef = z.getD (i % z.size) undef := by
  have hm : i % z.size < z.size := Nat.mod_lt _ hz
  simp [Builtin.zeroCells, Array.getD_eq_getD_getElem?, hi, hm, getElem!_pos]

theorem aappendZ_ok {P : Program} {w0 : World} {j : J} {s s' : AS} {w : World} (hR : R w0 j s w) {ats : Array TypeId} {t0 : TypeId} {sv sv' xv xv' v : Value} (hs : VR j sv sv') (hx : VR j xv xv')
    (h : aappendZ P ats sv xv s = some (v, s')) : Ok P w0 (Builtin.append_ ats t0 #[sv', xv']) j s w v s' := by
  unfold aappendZ at h
  split at h
  · rename_i t xt ht hxt
    split at h
    · rename_i e kk k l hu hux
      have := hx.int_eq; subst this
      split at h
      · rename_i i z hi hz
        obtain ⟨zv, h1, rfl, h3⟩ := zeroOf_spec hz
        generalize hb : (decide (0 ≤ l) && decide (l < 1099511627776) && decide (l * (i.bytes : Int) ≤ 281474976710656) && Nat.beq zv.cells.size i.size && Nat.blt 0 zv.cells.size) = bb at h
        cases bb with
        | false => simp at h
        | true =>
          simp only [Bool.and_eq_true, decide_eq_true_eq, Nat.blt_eq] at hb
          obtain ⟨⟨⟨⟨g1, g2⟩, g3⟩, g4⟩, g5⟩ := hb
          have hzs := Nat.eq_of_beq_eq_true g4
          simp only [cond_true] at h
          split at h
          · rename_i m c
            have : sv' = .slice none m c := hs.closed_eq 1 rfl
            subst this
            generalize hb1 : (Nat.beq m 0 && Nat.beq c 0 && decide (0 < l) && Nat.ble ((2 * l.toNat + 192) * i.bytes) 281474976710656) = b1 at h
            cases b1 with
            | false => simp at h
            | true =>
              simp only [Bool.and_eq_true, decide_eq_true_eq, Nat.ble_eq] at hb1
              obtain ⟨⟨⟨e1, e2⟩, e3⟩, e4⟩ := hb1
              have hm0 := Nat.eq_of_beq_eq_true e1
              have hc0 := Nat.eq_of_beq_eq_true e2
              subst hm0; subst hc0
              simp only [cond_true] at h
              split at h
              · rename_i b' s1 ha
                simp only [Option.some.injEq, Prod.mk.injEq] at h
                obtain ⟨rfl, rfl⟩ := h
                obtain ⟨n, rfl⟩ : ∃ n : Nat, l = (n : Int) := ⟨l.toNat, (Int.toNat_of_nonneg g1).symm⟩
                simp only [Int.toNat_natCast] at ha e4 ⊢
                have hn0 : 0 < n := by omega
                have hnlim : n < 1099511627776 := by omega
                obtain ⟨newCap, w1, k1, k2, k3, k4, k5, k6⟩ := grow_run (P := P) (w := w) (e := e) (i := i) h1 (need := n) (cap := 0) (old := #[]) (new := Builtin.zeroCells zv.cells n)
                  (Builtin.firstCells i.size 0 (.slice none 0 0)) (do pure (Builtin.zeroCells (← zeroValue e).cells n)) (fun w1 _ => by simp [Builtin.firstCells]) (fun w1 _ => by simp only [Sem.run_bind, h1, Result.andThen_ok, Sem.run_pure])
                have hR1 := hR.same k2 k3 k4 k5
                have hsz : (#[] ++ Builtin.zeroCells zv.cells n ++ Builtin.zeroCells zv.cells (newCap - n)).size = newCap * i.size := by
                  simp only [Array.size_append, zeroCells_size, hzs, Array.size_empty, Nat.zero_add]
                  rw [← Nat.add_mul, Nat.add_sub_of_le k1]
                have hnc : n * i.size ≤ newCap * i.size := Nat.mul_le_mul_right _ k1
                obtain ⟨j', q1, q2, q3⟩ := anew_ok (c' := #[] ++ Builtin.zeroCells zv.cells n ++ Builtin.zeroCells zv.cells (newCap - n)) (e' := e) hR1 ha (by rw [hsz]; exact hnc) (fun q hq => by
                  have e1 : (#[] ++ Builtin.zeroCells zv.cells n ++ Builtin.zeroCells zv.cells (newCap - n)).getD q undef = (Builtin.zeroCells zv.cells n).getD q undef := by
                    simp only [Array.empty_append, Array.getD_eq_getD_getElem?]
                    rw [Array.getElem?_append_left (by rw [zeroCells_size, hzs]; exact hq)]
                  rw [e1, zeroCells_getD _ _ _ (by rw [hzs]; exact hq) g5]
                  exact closed_VR h3 _) (0, 0) (fun i _ hx => absurd hx.2 (Nat.not_lt_zero _))
                refine ⟨j', .slice (some ⟨w.heap.size, 0, none⟩) n newCap, _, ?_, ?_, q2, q3⟩
                · rw [← k6]
                  have hw1 : IntKind.i64.wrap (n : Int) = n := wrap_small (by omega) (by omega)
                  have t0 : ¬ ((n : Int) < 0) := by omega
                  have t1 : ¬ ((n : Int) * (i.bytes : Int) > 2 ^ 48) := by omega
                  have t2 : ¬ (0 + n ≤ 0) := by omega
                  have t3 : ¬ (((0 + n : Nat) : Int) > IntKind.i64.max ∧ (True ∨ i.bytes = 0)) := by
                    rintro ⟨hh, _⟩
                    have : IntKind.i64.max = 9223372036854775807 := rfl
                    omega
                  have t4 : ¬ Builtin.nextslicecap (0 + n) 0 * i.bytes > 2 ^ 48 := by
                    have h1 := nextslicecap_le (0 + n) 0 (by omega)
                    have h2 : Builtin.nextslicecap (0 + n) 0 * i.bytes ≤ (2 * (0 + n) + 192) * i.bytes := Nat.mul_le_mul_right _ h1
                    rw [Nat.zero_add] at h2 ⊢
                    omega
                  have t5 : ¬ n * i.size = 0 := by
                    rw [← hzs]; exact Nat.pos_iff_ne_zero.1 (Nat.mul_pos hn0 g5)
                  simp only [Builtin.append_, ht, hxt, List.getElem?_toArray, List.getElem?_cons_zero, List.getElem?_cons_succ, Sem.run_bind, underlying_run hu, underlying_run hux, Result.andThen_ok, sizeOf_run hi, pure_bind, if_true, asInt, asIntOf,
                    Sem.run_pure, hw1, if_neg t0, typeInfo_run hi, if_neg t1, Int.toNat_natCast, if_neg t2]
                  rw [if_neg t3]
                  rw [Nat.zero_add] at t4
                  simp only [Sem.run_bind, typeInfo_run hi, Result.andThen_ok, Bool.not_true, Bool.false_eq_true, if_false, if_neg t5, Nat.zero_add]
                  rw [if_neg t4]
                  simp only [Sem.run_bind, typeInfo_run hi, Result.andThen_ok, Sem.run_pure, run_choose, Question.forced, Bool.false_eq_true, if_false]
                · rw [k2] at q1
                  exact slice_cap (size := i.size) q1 rfl rfl k1 (by rw [hsz]; exact Nat.le_refl _) hnlim
              · cases h
          · cases h
      · cases h
    · cases h
  · cases h

variable {ds : List Deferred}
theorem acall_ok {P : Program} {okS : TypeId → Bool} (hP : Fit P okS) {w0 : World} {j : J} {s : AS} {w : World} (hR : R w0 j s w) {fr : Tmp → Option Value} {nt : Nat} {a : Act} (hF : FRel ds j fr nt a) {c : Call} {type : TypeId} {r : ARes}
    (h : acall P fr c type s = some r) : Good P w0 (do let d ← resolve a.eval c type; invoke d.target d.args) j s w r := by
  unfold acall at h
  split at h
  · rename_i f args hcal hargs
    have hA := aevs_VRs hF hargs
    split at h
    · rename_i g first cap hf
      obtain ⟨f', c', hfe, h1, h2, _⟩ := func_any (fun l hl => by cases hl) (aev_ok hF hf)
      split at h
      · rename_i fn hfn
        cases hb : fn.body.isSome with
        | false => simp [hb] at h
        | true =>
          simp only [hb, cond_true, Option.some.injEq] at h; subst h
          refine ⟨f' ++ c.args.map a.eval ++ c', ?_, (h1.append hA).append h2⟩
          simp only [resolve, hcal, hfe, Deferred.ofValue, Sem.run_bind, Sem.run_pure, Result.andThen_ok, invoke]
          exact callFunc_run hP hfn hb _ w
      · cases h
    · rename_i l first cap hf
      obtain ⟨p, hj, hfe⟩ := yield_of (aev_ok hF hf)
      simp only [Option.some.injEq] at h; subst h
      refine ⟨p, c.args.map a.eval, hj, ?_, hA⟩
      simp only [resolve, hcal, hfe, Deferred.ofValue, pure_bind, invoke, Array.empty_append]
    · cases h
  · rename_i x y hcal hargs
    obtain ⟨x', y', hc, hx, hy⟩ := getD2 (aevs_VRs hF hargs) rfl
    split at h
    · rename_i q hq
      obtain ⟨v, s', h1, rfl⟩ := rvs_some h
      simp only [Option.some.injEq] at h1; subst h1
      have := good_ok (aappendZ_ok (t0 := type) hR hx hy hq)
      simp only [resolve, hcal, hc, pure_bind, invoke, builtin]
      exact this
    obtain ⟨v, s', h1, rfl⟩ := rvs_some h
    have := good_ok (aappend_ok (t0 := type) hR hx hy h1)
    simp only [resolve, hcal, hc, pure_bind, invoke, builtin]
    exact this
  · rename_i x hcal hargs
    obtain ⟨v, h1, rfl⟩ := rv_some h
    obtain ⟨x', hc, hx⟩ := getD1 (aevs_VRs hF hargs) rfl
    obtain ⟨g1, g2⟩ := acap_ok (t0 := type) (P := P) (w := w) hx h1
    have := good_v hR ⟨v, g1, g2⟩
    simp only [resolve, hcal, hc, pure_bind, invoke, builtin]
    exact this
  · rename_i x y hcal hargs
    obtain ⟨v, s', h1, rfl⟩ := rvs_some h
    obtain ⟨x', y', hc, hx, hy⟩ := getD2 (aevs_VRs hF hargs) rfl
    have := good_ok (acopy_ok (t0 := type) hR hx hy h1)
    simp only [resolve, hcal, hc, pure_bind, invoke, builtin]
    exact this
  · rename_i x hcal hargs
    obtain ⟨v, h1, rfl⟩ := rv_some h
    obtain ⟨x', hc, hx⟩ := getD1 (aevs_VRs hF hargs) rfl
    obtain ⟨g1, g2⟩ := alen_ok (t0 := type) (P := P) hR hx h1
    have := good_v hR ⟨v, g1, g2⟩
    simp only [resolve, hcal, hc, pure_bind, invoke, builtin]
    exact this
  · rename_i args hcal hargs
    cases hcl : args.all (closed 12) with
    | false => simp [hcl] at h
    | true =>
      simp only [hcl, cond_true] at h
      obtain ⟨v, h1, rfl⟩ := rv_some h
      have hc := closed_args (aevs_VRs hF hargs) hcl
      obtain ⟨g1, g2⟩ := qv_ok h1 w
      have := good_v (P := P) hR ⟨v, g1, .same 12 g2⟩
      simp only [resolve, hcal, hc, pure_bind, invoke, builtin]
      exact this
  · rename_i args hcal hargs
    cases hcl : args.all (closed 12) with
    | false => simp [hcl] at h
    | true =>
      simp only [hcl, cond_true] at h
      obtain ⟨v, h1, rfl⟩ := rv_some h
      have hc := closed_args (aevs_VRs hF hargs) hcl
      obtain ⟨g1, g2⟩ := qv_ok h1 w
      have := good_v (P := P) hR ⟨v, g1, .same 12 g2⟩
      simp only [resolve, hcal, hc, pure_bind, invoke, builtin]
      exact this
  · cases h

theorem OV_closed {j : J} {o o' : Option Value} (h : OV j o o') (hc : oclosed o = true) : o' = o := by
  cases o with
  | none => cases o' with | none => rfl | some _ => exact h.elim
  | some u => cases o' with
    | none => exact h.elim
    | some u' => rw [VR.closed_eq h 12 hc]

theorem parts_arr (a : Act) (parts : Array (Nat × Operand)) : (parts.map fun (i, x) => (i, a.eval x)) = (parts.toList.map fun (i, x) => (i, a.eval x)).toArray := by
  apply Array.ext'; simp

theorem aop_ok {P : Program} {okS : TypeId → Bool} (hP : Fit P okS) {w0 : World} {j : J} {s : AS} {w : World} (hR : R w0 j s w) {fr : Tmp → Option Value} {nt : Nat} {a : Act} (hF : FRel ds j fr nt a) {o : Oper} {r : ARes}
    (h : aop P okS fr o s = some r) : Good P w0 (execOp a.eval o) j s w r := by
  obtain ⟨dst, op, type, pos, after, guard⟩ := o
  cases op with
  | move x =>
    obtain ⟨v, h1, rfl⟩ := rv_some h
    exact good_p hR rfl (aev_ok hF h1)
  | assign x =>
    obtain ⟨v, h1, rfl⟩ := rv_some h
    exact good_p hR rfl (aev_ok hF h1)
  | pick c x y =>
    simp only [aop] at h
    split at h
    · rename_i t hc
      obtain ⟨v, h1, rfl⟩ := rv_some h
      have hcv : a.eval c = .bool t := (aev_ok hF hc).closed_eq 1 rfl
      cases t with
      | true =>
        exact good_p hR (v' := a.eval x) (by simp [execOp, hcv, asBool]) (aev_ok hF h1)
      | false =>
        exact good_p hR (v' := a.eval y) (by simp [execOp, hcv, asBool]) (aev_ok hF h1)
    · cases h
  | alloc e =>
    obtain ⟨v, s', h1, rfl⟩ := rvs_some h
    exact good_ok (aalloc_ok hR h1)
  | box e x =>
    simp only [aop] at h
    split at h
    · rename_i v hv
      obtain ⟨u, s', h1, rfl⟩ := rvs_some h
      exact good_ok (abox_ok hR (aev_ok hF hv) h1)
    · cases h
  | build t parts =>
    simp only [aop] at h
    split at h
    · rename_i l hl
      obtain ⟨v, h1, rfl⟩ := rv_some h
      have := good_v hR (abuild_ok (w := w) (aevp_ok hF hl) h1)
      simp only [execOp, parts_arr]
      exact this
    · cases h
  | buildSlice t n parts =>
    simp only [aop] at h
    split at h
    · rename_i l hl
      cases hb : Nat.blt n big with
      | false => simp [hb] at h
      | true =>
        simp only [hb, cond_true] at h
        obtain ⟨v, s', h1, rfl⟩ := rvs_some h
        have := good_ok (abuildSlice_ok (w := w) hR (aevp_ok hF hl) (by rwa [Nat.blt_eq] at hb) h1)
        simp only [execOp, parts_arr]
        exact this
    · cases h
  | load t x =>
    simp only [aop] at h
    split at h
    · rename_i v hv
      obtain ⟨u, h1, rfl⟩ := rv_some h
      exact good_v hR (aload_ok hR (aev_ok hF hv) h1)
    · cases h
  | store t x y =>
    simp only [aop] at h
    split at h
    · rename_i p v hp hv
      obtain ⟨s', h1, rfl⟩ := ru_some h
      exact good_u (astore_ok hR (aev_ok hF hp) (aev_ok hF hv) h1)
    · cases h
  | nilCheck x =>
    simp only [aop] at h
    split at h
    · rename_i v hv
      cases hb : anil v with
      | false => simp [hb] at h
      | true =>
        simp only [hb, cond_true] at h
        obtain ⟨u, h1, rfl⟩ := rv_some h
        simp only [Option.some.injEq] at h1; subst h1
        have hx := aev_ok hF hv
        refine good_p hR (v' := a.eval x) ?_ hx
        simp only [execOp]
        generalize a.eval x = x' at hx ⊢
        cases hx with
        | same n hc =>
          cases v with
          | pointer p => cases p <;> simp_all [anil]
          | func fn f c => cases fn <;> simp_all [anil]
          | iface t u => rfl
          | map m => rfl
          | slice q n c => rfl
          | _ => simp [anil] at hb
        | ptr hj => rfl
        | slice hj hc => rfl
        | map hj hd => rfl
        | @func fn f f' c c' hy hf hc f1 c1 => cases fn <;> simp_all [anil]
        | yield hh => rfl
        | iface hh => rfl
        | agg hc c1 => simp [anil] at hb
        | tuple hc c1 => simp [anil] at hb
    · cases h
  | binOp op t x y yt =>
    simp only [aop] at h
    split at h
    · rename_i u v hu hv
      obtain ⟨q, h1, rfl⟩ := rv_some h
      obtain ⟨g1, g2⟩ := abin_ok hP.stood w h1 (aev_ok hF hu) (aev_ok hF hv)
      exact good_v hR ⟨q, g1, .same 12 g2⟩
    · cases h
  | unOp op t x =>
    simp only [aop] at h
    split at h
    · rename_i v hv
      cases hc : closed 12 v with
      | false => simp [hc] at h
      | true =>
        simp only [hc, cond_true] at h
        obtain ⟨q, h1, rfl⟩ := rv_some h
        obtain ⟨g1, g2⟩ := qv_ok h1 w
        have hx := (aev_ok hF hv).closed_eq 12 hc
        exact good_v hR ⟨q, by rw [hx]; exact g1, .same 12 g2⟩
    · cases h
  | convert src dst x =>
    simp only [aop] at h
    split at h
    · rename_i v hv
      have hx := aev_ok hF hv
      split at h
      · rename_i q hq
        obtain ⟨q', h1, rfl⟩ := rv_some h
        simp only [Option.some.injEq] at h1; subst h1
        obtain ⟨g1, g2⟩ := abytesString_ok (P := P) hR hx hq
        exact good_v hR ⟨q, g1, g2⟩
      · split at h
        · rename_i d q hd hq
          obtain ⟨u, s', h1, rfl⟩ := rvs_some h
          simp only [Option.some.injEq] at h1; subst h1
          exact good_ok (astringBytes_ok hR ⟨d, hd⟩ hx hq)
        · cases hc : closed 12 v with
          | false => simp [hc] at h
          | true =>
            simp only [hc, cond_true] at h
            obtain ⟨q, h1, rfl⟩ := rv_some h
            obtain ⟨g1, g2⟩ := qv_ok h1 w
            have hx' := hx.closed_eq 12 hc
            exact good_v hR ⟨q, by rw [hx']; exact g1, .same 12 g2⟩
    · cases h
  | makeInterface t x =>
    simp only [aop] at h
    split at h
    · cases h
    · rename_i v d hno hv hd
      obtain ⟨q, h1, rfl⟩ := rv_some h
      simp only [Option.some.injEq] at h1; subst h1
      refine good_v hR ⟨.iface t (a.eval x), ?_, .iface (aev_ok hF hv)⟩
      simp only [Instr.makeInterface, Sem.run_bind, underlying_run hd, Result.andThen_ok]
      cases d <;> first | rfl | exact (hno _ rfl).elim | (exfalso; simp_all)
    · cases h
  | makeFunc fn first cap =>
    cases fn with
    | func f =>
      simp only [aop] at h
      split at h
      · rename_i l m hl hm
        obtain ⟨q, h1, rfl⟩ := rv_some h
        simp only [Option.some.injEq] at h1; subst h1
        have g1 := aevs_VRs hF hl
        have g2 := aevs_VRs hF hm
        exact good_v hR ⟨.func (.func f) (first.map a.eval) (cap.map a.eval), rfl, .func (fun l hl => by cases hl) g1.1 g2.1 g1.2 g2.2⟩
      · cases h
    | _ => cases h
  | makeMap t r =>
    simp only [aop] at h
    split at h
    · rename_i q hq
      obtain ⟨v, s', h1, rfl⟩ := rvs_some h
      exact good_ok (amakeMap_ok hR (aevo_ok hF hq) h1)
    · cases h
  | makeSlice t l c =>
    simp only [aop] at h
    split at h
    · rename_i u v hu hv
      obtain ⟨q, s', h1, rfl⟩ := rvs_some h
      exact good_ok (amakeSlice_ok hR (aev_ok hF hu) (aev_ok hF hv) h1)
    · cases h
  | slice t x lo hi mx =>
    simp only [aop] at h
    split at h
    · rename_i v l hh m hv hl hhi hm
      have hx := aev_ok hF hv
      have o1 := aevo_ok hF hl
      have o2 := aevo_ok hF hhi
      have o3 := aevo_ok hF hm
      cases hc : closed 12 v with
      | true =>
        simp only [hc, cond_true] at h
        generalize hb : (oclosed l && oclosed hh && oclosed m) = bb at h
        cases bb with
        | false => simp at h
        | true =>
          simp only [Bool.and_eq_true] at hb
          simp only [cond_true] at h
          obtain ⟨q, h1, rfl⟩ := rv_some h
          obtain ⟨g1, g2⟩ := qv_ok h1 w
          refine good_v hR ⟨q, ?_, .same 12 g2⟩
          rw [hx.closed_eq 12 hc, OV_closed o1 hb.1.1, OV_closed o2 hb.1.2, OV_closed o3 hb.2]
          exact g1
      | false =>
        simp only [hc, cond_false] at h
        obtain ⟨q, s', h1, rfl⟩ := rvs_some h
        exact good_ok (aslice_ok hR hx o1 o2 o3 h1)
    · cases h
  | fieldAddr t x f =>
    simp only [aop] at h
    split at h
    · rename_i v hv
      obtain ⟨q, h1, rfl⟩ := rv_some h
      exact good_v hR (afieldAddr_ok (aev_ok hF hv) h1)
    · cases h
  | field t x f =>
    simp only [aop] at h
    split at h
    · rename_i v hv
      obtain ⟨q, h1, rfl⟩ := rv_some h
      exact good_v hR (afield_ok (aev_ok hF hv) h1)
    · cases h
  | indexAddr t x i =>
    simp only [aop] at h
    split at h
    · rename_i u v hu hv
      obtain ⟨q, h1, rfl⟩ := rv_some h
      exact good_v hR (aindexAddr_ok (aev_ok hF hu) (aev_ok hF hv) h1)
    · cases h
  | index t x i =>
    simp only [aop] at h
    split at h
    · rename_i bs u hb hu
      cases hc : closed 12 u with
      | false => simp [hc] at h
      | true =>
        simp only [hc, cond_true] at h
        obtain ⟨q, h1, rfl⟩ := rv_some h
        obtain ⟨g1, g2⟩ := qv_ok h1 w
        refine good_v hR ⟨q, ?_, .same 12 g2⟩
        rw [(aev_ok hF hb).closed_eq 1 rfl, (aev_ok hF hu).closed_eq 12 hc]
        exact g1
    · rename_i u v hno hu hv
      obtain ⟨q, h1, rfl⟩ := rv_some h
      exact good_v hR (aindex_ok (aev_ok hF hu) (aev_ok hF hv) h1)
    · cases h
  | lookup t x i ok =>
    simp only [aop] at h
    split at h
    · rename_i u v hu hv
      obtain ⟨q, h1, rfl⟩ := rv_some h
      exact good_v hR (alookup_ok hP.stood hR (aev_ok hF hu) (aev_ok hF hv) h1)
    · cases h
  | mapUpdate t m k x =>
    simp only [aop] at h
    split at h
    · rename_i u v y hu hv hy
      obtain ⟨s', h1, rfl⟩ := ru_some h
      exact good_u (aupdate_ok hP.stood hR (aev_ok hF hu) (aev_ok hF hv) (aev_ok hF hy) h1)
    · cases h
  | insert t m k x =>
    simp only [aop] at h
    split at h
    · rename_i u v y hu hv hy
      obtain ⟨s', h1, rfl⟩ := ru_some h
      exact good_u (aupdate_ok hP.stood hR (aev_ok hF hu) (aev_ok hF hv) (aev_ok hF hy) h1)
    · cases h
  | range t x =>
    simp only [aop] at h
    split at h
    · rename_i v hv
      obtain ⟨q, s', h1, rfl⟩ := rvs_some h
      exact good_ok (arange_ok hR (aev_ok hF hv) h1)
    · cases h
  | next it isString =>
    simp only [aop] at h
    split at h
    · rename_i v hv
      obtain ⟨q, s', h1, rfl⟩ := rvs_some h
      exact good_ok (anext_ok hR (aev_ok hF hv) h1)
    · cases h
  | extract x i =>
    simp only [aop] at h
    split at h
    · rename_i v hv
      obtain ⟨q, h1, rfl⟩ := rv_some h
      exact good_v hR (aextract_ok (aev_ok hF hv) h1)
    · cases h
  | call c =>
    simp only [aop] at h
    exact acall_ok hP hR hF h
  | _ => cases h

end Go.Proofs.YtfeoocgmbikocaaGreat.Ev
