/- An evaluator for calls whose arguments are known: a region that draws its order, in whatever order. -/
import Derived.Test.YtfeoocgmbikocaaGreatVL
namespace Go.Proofs.YtfeoocgmbikocaaGreat.Ev
open Go.RowKit

theorem countP_less {α : Type} (p q : α → Bool) (h : ∀ x, q x = true → p x = true) : ∀ (l : List α) (x : α), x ∈ l → p x = true → q x = false → l.countP q < l.countP p
  | [], _, hx, _, _ => by cases hx
  | y :: l, x, hx, hp, hq => by
    have hle : ∀ l : List α, l.countP q ≤ l.countP p := fun l => List.countP_mono_left (fun z _ hz => h z hz)
    rcases List.mem_cons.1 hx with rfl | hx
    · have h0 := hle l
      simp only [List.countP_cons, hp, hq, if_true, Bool.false_eq_true, if_false]
      omega
    · have ih := countP_less p q h l x hx hp hq
      simp only [List.countP_cons]
      by_cases hqy : q y = true
      · simp only [hqy, h y hqy, if_true]; omega
      · simp only [hqy, if_false, Bool.false_eq_true]; omega

theorem set_listed {listed : Array Bool} {i : Nat} (hi : i < listed.size) (x : Nat) : (listed.setIfInBounds i true).getD x true = if x = i then true else listed.getD x true := by
  simp only [Array.getD_eq_getD_getElem?, Array.getElem?_setIfInBounds]
  by_cases e : i = x
  · subst e; simp [hi]
  · rw [if_neg e, if_neg (Ne.symm e)]

theorem mem_ready {ops : Array Oper} {listed : Array Bool} (hsz : listed.size = ops.size) (hsh : Shape ops) {i : Nat} (h : i ∈ Region.ready .any ops listed) :
    i < ops.size ∧ listed.getD i true = false ∧ ∃ o, ops[i]? = some o ∧ ∀ p, (depMask o).testBit p = true → p < ops.size ∧ listed.getD p true = true := by
  obtain ⟨h1, h2⟩ := List.mem_filter.1 h
  have hi : i < ops.size := by simpa using h1
  simp only [Bool.and_eq_true, Bool.not_eq_true', Array.getElem?_eq_getElem hi, Option.map_some, Option.getD_some] at h2
  refine ⟨hi, h2.1, ops[i], Array.getElem?_eq_getElem hi, fun p hp => ?_⟩
  have hlt := hsh.back i ops[i] (Array.getElem?_eq_getElem hi) p hp
  obtain ⟨e, he, hb, rfl⟩ := depMask_bit.1 hp
  have := Array.all_eq_true'.1 h2.2 e he
  simp only [hb, Bool.not_true, Bool.false_or] at this
  refine ⟨by omega, ?_⟩
  have hs : e.on < listed.size := by omega
  simpa [Array.getD, hs] using this

theorem all_listed {ops : Array Oper} {listed : Array Bool} (hsz : listed.size = ops.size) (hsh : Shape ops) (hr : Region.ready .any ops listed = []) : ∀ i, i < ops.size → listed.getD i true = true := by
  intro i
  induction i using Nat.strongRecOn with
  | _ i ih =>
    intro hi
    by_cases hc : listed.getD i true = true
    · exact hc
    · exfalso
      have hmem : i ∈ Region.ready .any ops listed := by
        unfold Region.ready
        refine List.mem_filter.2 ⟨by simpa using hi, ?_⟩
        simp only [Bool.and_eq_true, Bool.not_eq_true']
        refine ⟨by simpa using hc, ?_⟩
        simp only [Array.getElem?_eq_getElem hi, Option.map_some, Option.getD_some]
        refine Array.all_eq_true'.2 fun e he => ?_
        by_cases hb : Region.binds .any e = true
        · have hlt := hsh.back i ops[i] (Array.getElem?_eq_getElem hi) e.on (depMask_bit.2 ⟨e, he, hb, rfl⟩)
          have := ih e.on hlt (by omega)
          simp only [hb, Bool.not_true, Bool.false_or]
          simpa [Array.getD, show e.on < listed.size by omega] using this
        · simp [hb]
      rw [hr] at hmem
      cases hmem

theorem effs_mem {ops : Array Oper} {done : Nat} : ∀ (l : List Nat) (i : Nat), i ∈ effs ops done l ↔ i ∈ l ∧ ∃ o, ops[i]? = some o ∧ done.testBit i = false ∧ sub (depMask o) done = true
  | [], i => by simp [effs]
  | x :: l, i => by
    simp only [effs]
    cases ho : ops[x]? with
    | none =>
      simp only
      rw [effs_mem l i]
      constructor
      · rintro ⟨h1, h2⟩; exact ⟨List.mem_cons_of_mem _ h1, h2⟩
      · rintro ⟨h1, o, h2, h3⟩
        rcases List.mem_cons.1 h1 with rfl | h1
        · rw [ho] at h2; cases h2
        · exact ⟨h1, o, h2, h3⟩
    | some o =>
      simp only
      cases hb : (!done.testBit x && sub (depMask o) done) with
      | true =>
        simp only [Bool.and_eq_true, Bool.not_eq_true'] at hb
        simp only [cond_true, List.mem_cons]
        rw [effs_mem l i]
        constructor
        · rintro (rfl | ⟨h1, h2⟩)
          · exact ⟨.inl rfl, o, ho, hb⟩
          · exact ⟨.inr h1, h2⟩
        · rintro ⟨rfl | h1, h2⟩
          · exact .inl rfl
          · exact .inr ⟨h1, h2⟩
      | false =>
        simp only [cond_false]
        rw [effs_mem l i]
        constructor
        · rintro ⟨h1, h2⟩; exact ⟨List.mem_cons_of_mem _ h1, h2⟩
        · rintro ⟨h1, o', h2, h3, h4⟩
          rcases List.mem_cons.1 h1 with rfl | h1
          · rw [ho] at h2; cases h2
            rw [h3, h4] at hb; cases hb
          · exact ⟨h1, o', h2, h3, h4⟩

section
variable {P : Program} {okS : TypeId → Bool} {ops : Array Oper} {nt : Nat} {w0 : World} {j0 : J} {s0 : AS} {ds : List Deferred}

structure DI (P : Program) (okS : TypeId → Bool) (ops : Array Oper) (nt : Nat) (ds : List Deferred) (w0 : World) (j0 : J) (s0 : AS) (done : Nat) (pend : List Nat) (fr : Tr Value) (s : AS) (listed : Array Bool) (a : Act) (w : World) (j : J) (idf : Nat → Nat) : Prop where
  de : DE P okS ops nt ds w0 j0 s0 done pend fr s listed a w j idf
  reads : ∀ (i : Nat) (o : Oper), ops[i]? = some o → done.testBit i = true → listed.getD i true = false → isAlloc o = false → isPure o = false → awanted ops fr.get o = some true →
    ∃ v, aop P okS fr.get o s = some (.val v s) ∧ ∀ d, o.dst = some d → fr.get d = some v

theorem recheck_spec {fr : Tr Value} {s : AS} : ∀ {is : List Nat}, recheck P okS ops fr s is = true → ∀ i ∈ is, ∀ o, ops[i]? = some o → isAlloc o = false → isPure o = false → awanted ops fr.get o = some true →
    ∃ v s', aop P okS fr.get o s = some (.val v s') ∧ s'.next = s.next ∧ ∀ d, o.dst = some d → fr.get d = some v
  | [], _, i, hi, _, _, _, _, _ => by cases hi
  | x :: is, h, i, hi, o, ho, ha, hp, hw => by
    simp only [recheck, Bool.and_eq_true] at h
    rcases List.mem_cons.1 hi with rfl | hi
    · have h1 := h.1
      simp only [ho, ha, hp, Bool.false_or, hw] at h1
      split at h1
      · rename_i v s' hop
        simp only [Bool.and_eq_true] at h1
        refine ⟨v, s', hop, Nat.eq_of_beq_eq_true h1.1, fun d hd => ?_⟩
        have h2 := h1.2
        simp only [hd] at h2
        split at h2
        · rename_i u hu; rw [hu, veq_eq 12 v u h2]
        · cases h2
      · cases h1
    · exact recheck_spec h.2 i hi o ho ha hp hw

theorem DE.stage {done : Nat} {pend : List Nat} {fr : Tr Value} {s : AS} {listed : Array Bool} {a : Act} {w : World} {j : J} {idf : Nat → Nat}
    (h : DE P okS ops nt ds w0 j0 s0 done pend fr s listed a w j idf) (hr : recheck P okS ops fr s pend = true) : DI P okS ops nt ds w0 j0 s0 done pend fr s listed a w j idf :=
  ⟨h, fun i o ho hd hl ha hp hw => by
    obtain ⟨k1, k2, _⟩ := h.pnd i o ho hd hl
    obtain ⟨v, s', g1, g2, g3⟩ := recheck_spec hr i k2 o ho ha hp hw
    have := rest_same k1 ha g1 g2
    subst this
    exact ⟨v, g1, g3⟩⟩

theorem DE.frel (hsh : Shape ops) {done : Nat} {pend : List Nat} {fr : Tr Value} {s : AS} {listed : Array Bool} {a : Act} {w : World} {j : J} {idf : Nat → Nat}
    (h : DE P okS ops nt ds w0 j0 s0 done pend fr s listed a w j idf) {i : Nat} {o : Oper} (ho : ops[i]? = some o) (hd : ∀ p, (depMask o).testBit p = true → p < ops.size ∧ listed.getD p true = true) :
    FRel ds j (msk ops o fr.get) nt a := by
  refine ⟨h.tsz, h.dfr, fun t v ht => ?_⟩
  unfold msk at ht
  split at ht
  · rename_i hm
    exact h.slots t v ht fun q p hq hp => (hd q (hsh.looks i o ho t hm q p hq hp)).2
  · cases ht

theorem DE.wanted (hsh : Shape ops) {done : Nat} {pend : List Nat} {fr : Tr Value} {s : AS} {listed : Array Bool} {a : Act} {w : World} {j : J} {idf : Nat → Nat}
    (h : DE P okS ops nt ds w0 j0 s0 done pend fr s listed a w j idf) {i : Nat} {o : Oper} (ho : ops[i]? = some o) (hd : ∀ p, (depMask o).testBit p = true → p < ops.size ∧ listed.getD p true = true) {b : Bool}
    (hw : awanted ops fr.get o = some b) : Region.wanted o (yielded ops a.tmps) = b := by
  have hF := h.frel hsh ho hd
  rw [← msk_wanted] at hw
  exact awanted_ok (j := j) hw fun _ _ d v _ _ hv => hF.tmp d v hv

/-- An operation that the evaluator had done is done in the world. -/
theorem DI.step {done : Nat} {pend : List Nat} {fr : Tr Value} {s : AS} {listed : Array Bool} {a : Act} {w : World} {j : J} {idf : Nat → Nat}
    (h : DI P okS ops nt ds w0 j0 s0 done pend fr s listed a w j idf) {i : Nat} {o : Oper} (ho : ops[i]? = some o) (hdone : done.testBit i = true)
    {v v' : Value} {j' : J} {w' : World} (hv : VR j' v v') (hd : ∀ d, o.dst = some d → fr.get d = some v ∧ d < nt) (hR : R w0 j' s w') (hE : Ext j0 s0 j' s) (hle : j.le j')
    (hp : ∀ (x : Nat) (ox : Oper), x ≠ i → ops[x]? = some ox → done.testBit x = true → listed.getD x true = false → isAlloc ox = true → awanted ops fr.get ox = some true → j (idf x) = none → j' (idf x) = none) :
    DI P okS ops nt ds w0 j0 s0 done pend fr s (listed.setIfInBounds i true) (a.put o.dst v') w' j' idf := by
  have hi : i < ops.size := (Array.getElem?_eq_some_iff.1 ho).1
  have hi' : i < listed.size := by rw [h.de.lsz]; exact hi
  have old : ∀ x, (listed.setIfInBounds i true).getD x true = false → x ≠ i ∧ listed.getD x true = false := fun x hx => by
    rw [set_listed hi'] at hx
    by_cases e : x = i
    · rw [if_pos e] at hx; cases hx
    · rw [if_neg e] at hx; exact ⟨e, hx⟩
  have put_defers : (a.put o.dst v').defers = a.defers := by cases o.dst <;> rfl
  have put_size : (a.put o.dst v').tmps.size = a.tmps.size := by cases o.dst <;> simp [Act.put]
  refine ⟨⟨by simp [h.de.lsz], fun x hx hl => ?_, fun x ox hox hx he => ?_, hR, hE, by rw [put_size]; exact h.de.tsz, by rw [put_defers]; exact h.de.dfr, fun t u ht hall => ?_, h.de.fresh, fun x ox hox hx hl => ?_, fun x x' ox ox' hne hox hox' hx hx' hl hl' => ?_⟩, fun x ox hox hx hl => ?_⟩
  · rw [set_listed hi'] at hl
    by_cases e : x = i
    · rw [e]; exact hdone
    · rw [if_neg e] at hl; exact h.de.sub x hx hl
  · rw [set_listed hi']
    by_cases e : x = i
    · rw [if_pos e]
    · rw [if_neg e]; exact h.de.effd x ox hox hx he
  · by_cases e : o.dst = some t
    · obtain ⟨hd1, hd2⟩ := hd t e
      rw [hd1] at ht; cases ht
      rw [e]
      have hlt : t < a.tmps.size := by rw [h.de.tsz]; exact hd2
      simpa [Act.put, Array.getD_eq_getD_getElem?, hlt] using hv
    · have hold := h.de.slots t u ht fun x ox hox hxd => by
        have := hall x ox hox hxd
        rw [set_listed hi'] at this
        by_cases e' : x = i
        · subst e'; rw [ho] at hox; cases hox; exact absurd hxd e
        · rw [if_neg e'] at this; exact this
      cases hdst : o.dst with
      | none => exact hold.mono hle
      | some d =>
        have hne : d ≠ t := fun e' => e (by rw [hdst, e'])
        simp only [Act.put, getD_set _ _ _ _ hne]
        exact hold.mono hle
  · obtain ⟨hne, hl'⟩ := old x hl
    obtain ⟨k1, k2, k3⟩ := h.de.pnd x ox hox hx hl'
    refine ⟨k1, k2, ?_⟩
    rcases k3 with q | ⟨q1, q2, q3⟩
    · exact .inl q
    · refine .inr ⟨q1, q2, ?_⟩
      rcases q3 with ⟨ha, ob, mk, r1, r2, r3, r4⟩ | q3
      · exact .inl ⟨ha, ob, mk, r1, r2, hp x ox hne hox hx hl' ha q1 r3, r4⟩
      · exact .inr q3
  · exact h.de.idd x x' ox ox' hne hox hox' hx hx' (old x hl).2 (old x' hl').2
  · exact h.reads x ox hox hx (old x hl).2

/-- The next operation that turns what is there is done, by the evaluator and in the world. -/
theorem DI.eff (hsh : Shape ops) {done : Nat} {pend pend' : List Nat} {fr fr' : Tr Value} {s s' : AS} {listed : Array Bool} {a : Act} {w : World} {j : J} {idf : Nat → Nat}
    (h : DI P okS ops nt ds w0 j0 s0 done pend fr s listed a w j idf) {i : Nat} {o : Oper} (ho : ops[i]? = some o) (hdone : done.testBit i = false)
    {v v' : Value} {j' : J} {w' : World} (hv : VR j' v v') (hput : aput nt fr o.dst v = some fr') (hR : R w0 j' s' w') (hE : Ext j s j' s')
    (hpend : ∀ x ∈ pend, listed.getD x true = false → x ∈ pend') :
    DE P okS ops nt ds w0 j0 s0 (done ||| 2 ^ i) pend' fr' s' (listed.setIfInBounds i true) (a.put o.dst v') w' j' idf := by
  have hi : i < ops.size := (Array.getElem?_eq_some_iff.1 ho).1
  have hi' : i < listed.size := by rw [h.de.lsz]; exact hi
  have hfr : ∀ d, o.dst = some d → fr.get d = none := fun d hdd => h.de.fresh i o d ho hdone hdd
  have hle := put_le hput hfr
  obtain ⟨pg1, pg2⟩ := put_get hput
  have old : ∀ x, (listed.setIfInBounds i true).getD x true = false → x ≠ i ∧ listed.getD x true = false := fun x hx => by
    rw [set_listed hi'] at hx
    by_cases e : x = i
    · rw [if_pos e] at hx; cases hx
    · rw [if_neg e] at hx; exact ⟨e, hx⟩
  have hbit : ∀ x, x ≠ i → (done ||| 2 ^ i).testBit x = true → done.testBit x = true := fun x hne hx => by
    rw [or_bit, Bool.or_eq_true, decide_eq_true_eq] at hx
    exact hx.resolve_right (Ne.symm hne)
  have put_defers : (a.put o.dst v').defers = a.defers := by cases o.dst <;> rfl
  have put_size : (a.put o.dst v').tmps.size = a.tmps.size := by cases o.dst <;> simp [Act.put]
  have wn : ∀ x ox, ops[x]? = some ox → done.testBit x = true → listed.getD x true = false → awanted ops fr'.get ox = some true → awanted ops fr.get ox = some true := by
    intro x ox hox hx hl hw
    obtain ⟨_, _, k3⟩ := h.de.pnd x ox hox hx hl
    rcases k3 with ⟨q, _⟩ | ⟨q, _⟩
    · rw [awanted_mono hle q] at hw; cases hw
    · exact q
  refine ⟨by simp [h.de.lsz], fun x hx hl => ?_, fun x ox hox hx he => ?_, hR, h.de.ext.trans hE, by rw [put_size]; exact h.de.tsz, by rw [put_defers]; exact h.de.dfr, fun t u ht hall => ?_, fun x ox d hox hx hdd => ?_, fun x ox hox hx hl => ?_,
    fun x x' ox ox' hne hox hox' hx hx' hl hl' hal hal' hw hw' => ?_⟩
  · rw [set_listed hi'] at hl
    rw [or_bit]
    by_cases e : x = i
    · simp [e]
    · rw [if_neg e] at hl; rw [h.de.sub x hx hl]; rfl
  · rw [set_listed hi']
    by_cases e : x = i
    · rw [if_pos e]
    · rw [if_neg e]; exact h.de.effd x ox hox (hbit x e hx) he
  · by_cases e : o.dst = some t
    · obtain ⟨q1, q2⟩ := pg1 t e
      rw [q1] at ht; cases ht
      rw [e]
      have hlt : t < a.tmps.size := by rw [h.de.tsz]; exact q2
      simpa [Act.put, Array.getD_eq_getD_getElem?, hlt] using hv
    · rw [pg2 t (fun d hdd heq => e (by rw [hdd, heq]))] at ht
      have hold := h.de.slots t u ht fun x ox hox hxd => by
        have := hall x ox hox hxd
        rw [set_listed hi'] at this
        by_cases e' : x = i
        · subst e'; rw [ho] at hox; cases hox; exact absurd hxd e
        · rw [if_neg e'] at this; exact this
      cases hdst : o.dst with
      | none => exact hold.mono hE.le
      | some d =>
        have hne : d ≠ t := fun e' => e (by rw [hdst, e'])
        simp only [Act.put, getD_set _ _ _ _ hne]
        exact hold.mono hE.le
  · have hne : x ≠ i := fun e => by subst e; rw [or_bit] at hx; simp at hx
    have hx' : done.testBit x = false := by rw [or_bit, Bool.or_eq_false_iff] at hx; exact hx.1
    rw [pg2 d (fun d' hd' heq => by subst heq; exact hsh.once x i ox o d hox ho hne hd' hdd)]
    exact h.de.fresh x ox d hox hx' hdd
  · obtain ⟨hne, hl'⟩ := old x hl
    obtain ⟨k1, k2, k3⟩ := h.de.pnd x ox hox (hbit x hne hx) hl'
    exact ⟨k1, hpend x k2 hl', k3.mono hle rfl fun ob q1 q2 => by
      obtain ⟨r1, r2⟩ := hE.keep _ (h.de.rel.memlt _ _ q1) q2
      exact ⟨by rw [r2]; exact q1, r1⟩⟩
  · obtain ⟨n1, l1⟩ := old x hl
    obtain ⟨n2, l2⟩ := old x' hl'
    have d1 := hbit x n1 hx
    have d2 := hbit x' n2 hx'
    exact h.de.idd x x' ox ox' hne hox hox' d1 d2 l1 l2 hal hal' (wn x ox hox d1 l1 hw) (wn x' ox' hox' d2 l2 hw')

end

def drawTail (P : Program) (okS : TypeId → Bool) (call : CallF) (ops : Array Oper) (nt n : Nat) (done' : Nat) (pend1 : List Nat) (fr1 : Tr Value) (s1 : AS) : Option (Tr Value × AS) :=
  match effs ops done' (List.range ops.size) with
  | [] => some (fr1, s1)
  | [i] => match ops[i]? with
    | none => none
    | some o =>
      bif isEff o then
        match awanted ops fr1.get o with
        | some true => match astep P okS call fr1.get o s1 with
          | some (v, s2) => match aput nt fr1 o.dst v with
            | some fr2 => drawGo P okS call ops nt n (done' ||| 2 ^ i) (pend1.filter fun p => !(depMask o).testBit p) fr2 s2
            | none => none
          | none => none
        | some false => match aput nt fr1 o.dst undef with
          | some fr2 => drawGo P okS call ops nt n (done' ||| 2 ^ i) pend1 fr2 s1
          | none => none
        | none => none
      else none
  | _ => none

theorem drawGo_succ {P : Program} {okS : TypeId → Bool} {call : CallF} {ops : Array Oper} {nt n done : Nat} {pend : List Nat} {fr : Tr Value} {s : AS} {r : Tr Value × AS} (h : drawGo P okS call ops nt n done pend fr s = some r) :
    ∃ m done' pend' fr' s', n = m + 1 ∧ restGo P okS ops nt (List.range ops.size) done pend fr s = some (done', pend', fr', s') ∧ recheck P okS ops fr' s' pend' = true ∧ drawTail P okS call ops nt m done' pend' fr' s' = some r := by
  cases n with
  | zero => cases h
  | succ m =>
    simp only [drawGo] at h
    split at h
    · cases h
    · rename_i done' pend' fr' s' hr
      obtain ⟨h1, h2⟩ := cond_some h
      exact ⟨m, done', pend', fr', s', rfl, hr, h1, h2⟩

end Go.Proofs.YtfeoocgmbikocaaGreat.Ev
