/- A region whose operations may come in any order, when each leaves what was good before it good. -/
import Derived.Orders
import Derived.Below
import Derived.RegionTactic
import Derived.KernelRfl
namespace Go.Proofs.Ytekhnacgejfmjaa.Seq
open Go.RowKit

/-! A region that draws its order, each of whose operations leaves what was good before it good: what is good is said slot by slot. -/
section
variable {P : Program} {ops : Array Oper} {Q : Exit → Act → World → Prop}
theorem countP_less {α : Type} (p q : α → Bool) (h : ∀ x, q x = true → p x = true) : ∀ (l : List α) (x : α), x ∈ l → p x = true → q x = false → l.countP q < l.countP p
  | [], _, hx, _, _ => by cases hx
  | y :: l, x, hx, hp, hq => by
    have hle : ∀ l : List α, l.countP q ≤ l.countP p := fun l => List.countP_mono_left (fun z _ hz => h z hz)
    rcases List.mem_cons.1 hx with rfl | hx
    · have h0 := hle l
      simp only [List.countP_cons, hp, hq, if_true, Bool.false_eq_true, if_false]
      omega
    · have ih := countP_less p q h l x hx hp hq
      simp only [List.countP_cons]
      by_cases hqy : q y = true
      · simp only [hqy, h y hqy, if_true]; omega
      · simp only [hqy, if_false, Bool.false_eq_true]; omega
/-- What is asked of the region's own shape: what an operation looks at is written ahead of it; no slot is written twice; the edges lead back. -/
def upOk (ops : Array Oper) (looks : List (List Tmp)) : Bool :=
  (List.range ops.size).all fun j => match ops[j]?, looks[j]? with
    | some o, some l =>
      (l.all fun t => (List.range ops.size).all fun i => match ops[i]? with
        | some p => p.dst != some t || o.after.any fun e => e.on == i && Region.binds .any e
        | none => true) &&
      ((List.range ops.size).all fun i => i == j || (match ops[i]?, o.dst with
        | some p, some d => p.dst != some d
        | _, _ => true)) &&
      o.after.all fun e => !Region.binds .any e || decide (e.on < j)
    | _, _ => false

/-- The operations that turn the state, each behind the one ahead of it. -/
def chainOk (ops : Array Oper) (chain : List Nat) : Bool :=
  (List.range chain.length).all fun j => decide (chain.getD j 0 < ops.size) && (List.range chain.length).all (fun k => k == j || chain.getD k 0 != chain.getD j 0) &&
    (j == 0 || match ops[chain.getD j 0]? with
      | some o => o.after.any fun e => e.on == chain.getD (j - 1) 0 && Region.binds .any e
      | none => false)

def UpOb (P : Program) (ops : Array Oper) (Q : Exit → Act → World → Prop) (R : World → World → Prop) (S : Tmp → Value → World → Prop) (St : Nat → World → Prop) (chain : List Nat) (a0 : Act) (w0 : World) (i : Nat) (o : Oper) (l : List Tmp) : Prop :=
  ∀ (a : Act) (W : World) (m : Nat), a.defers = a0.defers → a.tmps.size = a0.tmps.size → R w0 W → (∀ t ∈ l, S t (a.tmps.getD t undef) W) → St m W → (∀ j, chain[j]? = some i → j = m) →
    if Region.wanted o (yielded ops a.tmps) = true then ∀ K : Act → World → Prop, (∀ v W', R W W' → (∀ d, o.dst = some d → S d v W') → St (if i ∈ chain then m + 1 else m) W' → K (a.put o.dst v) W') → o.wp P a W K Q
    else (∀ d, o.dst = some d → S d undef W) ∧ i ∉ chain

structure UpInv (ops : Array Oper) (R : World → World → Prop) (S : Tmp → Value → World → Prop) (St : Nat → World → Prop) (chain : List Nat) (a0 : Act) (w0 : World) (listed : Array Bool) (a : Act) (W : World) : Prop where
  defers : a.defers = a0.defers
  tsize : a.tmps.size = a0.tmps.size
  rel : R w0 W
  lsize : listed.size = ops.size
  good : ∀ t, (∀ i o, ops[i]? = some o → o.dst = some t → listed.getD i true = true) → S t (a.tmps.getD t undef) W
  state : ∃ m, m ≤ chain.length ∧ St m W ∧ ∀ j i, chain[j]? = some i → listed.getD i true = decide (j < m)

theorem wpAny_up {R : World → World → Prop} (hrefl : ∀ a, R a a) (htrans : ∀ a b c, R a b → R b c → R a c) {S : Tmp → Value → World → Prop} {St : Nat → World → Prop} {chain : List Nat} (hch : chainOk ops chain = true) (hst : ∀ t v W W', S t v W → R W W' → S t v W')
    {looks : List (List Tmp)} (hchk : upOk ops looks = true) {a0 : Act} {w0 : World}
    (hdt : ∀ (i : Nat) (o : Oper) (d : Tmp), ops[i]? = some o → o.dst = some d → d < a0.tmps.size)
    (hob : ∀ (j : Nat) (o : Oper) (l : List Tmp), ops[j]? = some o → looks[j]? = some l → UpOb P ops Q R S St chain a0 w0 j o l)
    (hfin : ∀ a W, a.defers = a0.defers → a.tmps.size = a0.tmps.size → R w0 W → (∀ t, S t (a.tmps.getD t undef) W) → St chain.length W → Q .normal a W) :
    ∀ (fuel : Nat) (listed : Array Bool) (a : Act) (W : World), UpInv ops R S St chain a0 w0 listed a W → (List.range ops.size).countP (fun i => !listed.getD i true) ≤ fuel → wpAny P .any ops Q fuel listed a W := by
  have hshape : ∀ j o, ops[j]? = some o → ∃ l, looks[j]? = some l ∧
      (∀ t ∈ l, ∀ i p, ops[i]? = some p → p.dst = some t → ∃ e ∈ o.after, e.on = i ∧ Region.binds .any e = true) ∧
      (∀ i p d, ops[i]? = some p → i ≠ j → o.dst = some d → p.dst ≠ some d) ∧
      (∀ e ∈ o.after, Region.binds .any e = true → e.on < j) := by
    intro j o ho
    have hj : j < ops.size := (Array.getElem?_eq_some_iff.1 ho).1
    have h := List.all_eq_true.1 hchk j (by simpa using hj)
    simp only [ho] at h
    cases hl : looks[j]? with
    | none => simp [hl] at h
    | some l =>
      simp only [hl, Bool.and_eq_true] at h
      obtain ⟨⟨h1, h2⟩, h3⟩ := h
      refine ⟨l, rfl, fun t ht i p hp hd => ?_, fun i p d hp hne hd => ?_, fun e he hb => ?_⟩
      · have hi : i < ops.size := (Array.getElem?_eq_some_iff.1 hp).1
        have := List.all_eq_true.1 (List.all_eq_true.1 h1 t ht) i (by simpa using hi)
        simp only [hp, hd, bne_self_eq_false, Bool.false_or] at this
        obtain ⟨e, he, hc⟩ := Array.any_eq_true'.1 this
        simp only [Bool.and_eq_true, beq_iff_eq] at hc
        exact ⟨e, he, hc.1, hc.2⟩
      · have hi : i < ops.size := (Array.getElem?_eq_some_iff.1 hp).1
        have := List.all_eq_true.1 h2 i (by simpa using hi)
        simp only [hp, hd, Bool.or_eq_true, beq_iff_eq, bne_iff_ne, ne_eq] at this
        exact this.resolve_left hne
      · have := Array.all_eq_true'.1 h3 e he
        simp only [hb, Bool.not_true, Bool.false_or, decide_eq_true_eq] at this
        exact this
  have hchain : ∀ j i, chain[j]? = some i → i < ops.size ∧ (∀ k, chain[k]? = some i → k = j) ∧ (∀ k, j = k + 1 → ∃ o i', ops[i]? = some o ∧ chain[k]? = some i' ∧ ∃ e ∈ o.after, e.on = i' ∧ Region.binds .any e = true) := by
    intro j i hji
    obtain ⟨hj, hi⟩ := List.getElem?_eq_some_iff.1 hji
    have h := List.all_eq_true.1 hch j (by simpa using hj)
    have hg : ∀ k (hk : k < chain.length), chain.getD k 0 = chain[k] := fun k hk => by simp [List.getD, hk]
    simp only [hg j hj, hi, Bool.and_eq_true, decide_eq_true_eq] at h
    obtain ⟨⟨h1, h2⟩, h3⟩ := h
    refine ⟨h1, fun k hk => ?_, fun k hk => ?_⟩
    · obtain ⟨hkl, hki⟩ := List.getElem?_eq_some_iff.1 hk
      have h4 := List.all_eq_true.1 h2 k (by simpa using hkl)
      simp only [hg k hkl, hki, bne_self_eq_false, Bool.or_false, beq_iff_eq] at h4
      exact h4
    · subst hk
      have hkl : k < chain.length := by omega
      simp only [Array.getElem?_eq_getElem h1, Nat.add_sub_cancel, hg k hkl, Nat.add_eq_zero_iff, Nat.one_ne_zero, and_false, beq_iff_eq, Bool.or_eq_true, false_or] at h3
      obtain ⟨e, he, hc⟩ := Array.any_eq_true'.1 h3
      simp only [Bool.and_eq_true, beq_iff_eq] at hc
      exact ⟨_, _, Array.getElem?_eq_getElem h1, List.getElem?_eq_getElem hkl, e, he, hc.1, hc.2⟩
  have hlast : ∀ (listed : Array Bool) (a : Act) (W : World), UpInv ops R S St chain a0 w0 listed a W → (∀ i, i < ops.size → listed.getD i true = true) → St chain.length W := by
    intro listed a W inv hall
    obtain ⟨m, hm, hs, hl⟩ := inv.state
    have : m = chain.length := by
      rcases Nat.lt_or_ge m chain.length with h | h
      · have h1 := List.getElem?_eq_getElem h
        have h2 := hl m _ h1
        rw [hall _ (hchain m _ h1).1] at h2
        simp at h2
      · omega
    rw [← this]; exact hs
  have hready : ∀ listed : Array Bool, listed.size = ops.size → Region.ready .any ops listed = [] → ∀ i, i < ops.size → listed.getD i true = true := by
    intro listed hls hr i
    induction i using Nat.strongRecOn with
    | _ i ih =>
      intro hi
      by_cases hc : listed.getD i true = true
      · exact hc
      · exfalso
        obtain ⟨l, _, _, _, h3⟩ := hshape i ops[i] (Array.getElem?_eq_getElem hi)
        have hmem : i ∈ Region.ready .any ops listed := by
          unfold Region.ready
          refine List.mem_filter.2 ⟨by simpa using hi, ?_⟩
          simp only [Bool.and_eq_true, Bool.not_eq_true']
          refine ⟨by simpa using hc, ?_⟩
          simp only [Array.getElem?_eq_getElem hi, Option.map_some, Option.getD_some]
          refine Array.all_eq_true'.2 fun e he => ?_
          by_cases hb : Region.binds .any e = true
          · have hlt := h3 e he hb
            have := ih e.on hlt (by omega)
            simp only [hb, Bool.not_true, Bool.false_or]
            simpa [Array.getD, show e.on < listed.size by omega] using this
          · simp [hb]
        rw [hr] at hmem
        cases hmem
  intro fuel
  induction fuel with
  | zero =>
    intro listed a W inv hcnt
    have hall : ∀ i, i < ops.size → listed.getD i true = true := by
      intro i hi
      have h0 : (List.range ops.size).countP (fun i => !listed.getD i true) = 0 := by omega
      have := List.countP_eq_zero.1 h0 i (by simpa using hi)
      simpa using this
    refine ⟨?_, hfin a W inv.defers inv.tsize inv.rel (fun t => inv.good t fun i o ho _ => hall i (Array.getElem?_eq_some_iff.1 ho).1) (hlast listed a W inv hall)⟩
    apply List.eq_nil_iff_forall_not_mem.2
    intro i hi
    have h := (List.mem_filter.1 hi)
    have h1 := hall i (by simpa using h.1)
    simp [h1] at h
  | succ fuel ih =>
    intro listed a W inv hcnt
    refine ⟨fun hr => hfin a W inv.defers inv.tsize inv.rel (fun t => inv.good t fun i o ho _ => hready listed inv.lsize hr i (Array.getElem?_eq_some_iff.1 ho).1) (hlast listed a W inv (hready listed inv.lsize hr)), fun i hi => ?_⟩
    have hm := List.mem_filter.1 hi
    have hisz : i < ops.size := by simpa using hm.1
    obtain ⟨hnl, haft⟩ : listed.getD i true = false ∧ (ops[i].after.all fun e => !Region.binds .any e || listed.getD e.on false) = true := by
      have := hm.2
      simp only [Bool.and_eq_true, Bool.not_eq_true', Array.getElem?_eq_getElem hisz, Option.map_some, Option.getD_some] at this
      exact this
    have hio : ops[i]? = some ops[i] := Array.getElem?_eq_getElem hisz
    generalize ops[i] = o at *
    obtain ⟨l, hlk, h1, h2, h3⟩ := hshape i o hio
    have hgood : ∀ t ∈ l, S t (a.tmps.getD t undef) W := by
      intro t ht
      refine inv.good t fun k p hp hd => ?_
      obtain ⟨e, he, rfl, hb⟩ := h1 t ht k p hp hd
      have := Array.all_eq_true'.1 haft e he
      simp only [hb, Bool.not_true, Bool.false_or] at this
      have hk : e.on < ops.size := (Array.getElem?_eq_some_iff.1 hp).1
      simpa [Array.getD, show e.on < listed.size by rw [inv.lsize]; exact hk] using this
    obtain ⟨m, hm, hs, hl⟩ := inv.state
    have hat : ∀ j, chain[j]? = some i → j = m := by
      intro j hj
      have h1 := hl j i hj
      rw [hnl] at h1
      have h2 : ¬ j < m := by simpa using h1.symm
      rcases Nat.eq_zero_or_pos j with h0 | h0
      · omega
      · obtain ⟨o', i', ho', hi', e, he, rfl, hb⟩ := (hchain j i hj).2.2 (j - 1) (by omega)
        rw [hio] at ho'
        injection ho' with ho'
        subst ho'
        have h5 := Array.all_eq_true'.1 haft e he
        simp only [hb, Bool.not_true, Bool.false_or] at h5
        have h6 := hl _ _ hi'
        have hk : e.on < ops.size := (hchain _ _ hi').1
        have h7 : listed.getD e.on true = true := by simpa [Array.getD, show e.on < listed.size by rw [inv.lsize]; exact hk] using h5
        rw [h7] at h6
        have : j - 1 < m := by simpa using h6.symm
        omega
    have hcnt' : (List.range ops.size).countP (fun k => !(listed.setIfInBounds i true).getD k true) ≤ fuel := by
      have hset : ∀ k, (listed.setIfInBounds i true).getD k true = if i = k then true else listed.getD k true := by
        intro k
        simp only [Array.getD_eq_getD_getElem?, Array.getElem?_setIfInBounds]
        by_cases e : i = k
        · subst e
          simp [show i < listed.size by rw [inv.lsize]; exact hisz]
        · simp [e]
      have := countP_less (fun k => !listed.getD k true) (fun k => !(listed.setIfInBounds i true).getD k true) (fun k hk => by
        simp only [hset, Bool.not_eq_true'] at hk ⊢
        by_cases e : i = k
        · simp [e] at hk
        · simpa [e] using hk) (List.range ops.size) i (by simpa using hisz) (by simp [hnl]) (by simp [hset])
      omega
    have hnext : ∀ v W', R W W' → (∀ d, o.dst = some d → S d v W') → St (if i ∈ chain then m + 1 else m) W' → UpInv ops R S St chain a0 w0 (listed.setIfInBounds i true) (a.put o.dst v) W' := by
      intro v W' hR hS hSt
      refine ⟨by cases hd : o.dst <;> simp [Act.put, inv.defers], by cases hd : o.dst <;> simp [Act.put, inv.tsize], htrans _ _ _ inv.rel hR, by simpa using inv.lsize, fun t ht => ?_, ?_⟩
      rotate_left
      · have hset : ∀ k, (listed.setIfInBounds i true).getD k true = if i = k then true else listed.getD k true := by
          intro k
          simp only [Array.getD_eq_getD_getElem?, Array.getElem?_setIfInBounds]
          by_cases e : i = k
          · subst e
            simp [show i < listed.size by rw [inv.lsize]; exact hisz]
          · simp [e]
        by_cases hic : i ∈ chain
        · obtain ⟨j0, hj0⟩ := List.getElem?_of_mem hic
          have hj0m := hat j0 hj0
          rw [if_pos hic] at hSt
          have hjl := (List.getElem?_eq_some_iff.1 hj0).1
          refine ⟨m + 1, by omega, hSt, fun j k hk => ?_⟩
          rw [hset]
          by_cases e : i = k
          · subst e
            have := hat j hk
            simp; omega
          · have hne : j ≠ m := by
              rintro rfl
              subst hj0m
              rw [hj0] at hk
              injection hk with hk
              exact e hk
            rw [if_neg e, hl j k hk]
            congr 1
            exact propext ⟨fun h => by omega, fun h => by omega⟩
        · rw [if_neg hic] at hSt
          refine ⟨m, hm, hSt, fun j k hk => ?_⟩
          have e : i ≠ k := by
            rintro rfl
            exact hic (List.mem_of_getElem? hk)
          rw [hset, if_neg e]
          exact hl j k hk
      by_cases e : o.dst = some t
      · have hlt : t < a.tmps.size := by rw [inv.tsize]; exact hdt i o t hio e
        have : (a.put o.dst v).tmps.getD t undef = v := by
          simp [Act.put, e, hlt]
        rw [this]
        exact hS t e
      · have hkeep : (a.put o.dst v).tmps.getD t undef = a.tmps.getD t undef := by
          cases hd : o.dst with
          | none => rfl
          | some d =>
            have hne : d ≠ t := fun h => e (by rw [hd, h])
            simp [Act.put, Array.getElem?_setIfInBounds_ne hne]
        rw [hkeep]
        refine hst t _ W W' (inv.good t fun k p hp hd => ?_) hR
        have := ht k p hp hd
        have hki : i ≠ k := by
          rintro rfl
          rw [hio] at hp
          injection hp with hp
          subst hp
          exact e hd
        simpa [Array.getD_eq_getD_getElem?, Array.getElem?_setIfInBounds_ne hki] using this
    have hob' := hob i o l hio hlk a W m inv.defers inv.tsize inv.rel hgood hs hat
    unfold wpOp
    simp only [hio]
    by_cases hw : Region.wanted o (yielded ops a.tmps) = true
    · rw [if_pos hw] at hob' ⊢
      exact .inl (hob' _ fun v W' hR hS hSt => ih _ _ _ (hnext v W' hR hS hSt) hcnt')
    · rw [if_neg hw] at hob' ⊢
      exact ih _ _ _ (hnext undef W (hrefl W) hob'.1 (by rw [if_neg hob'.2]; exact hs)) hcnt'


theorem yielded_of {ops : Array Oper} {tm : Array Value} {j : Nat} {d : Tmp} {b : Bool} (h : (ops[j]?).bind (·.dst) = some d) (hv : tm.getD d undef = .bool b) : yielded ops tm j = some b := by
  unfold yielded
  rw [h]
  simp only [Option.bind_some]
  have : tm[d]? = some (.bool b) := by
    cases hx : tm[d]? with
    | none => simp [Array.getD_eq_getD_getElem?, hx, undef] at hv
    | some x => simp [Array.getD_eq_getD_getElem?, hx] at hv; rw [hv]
  rw [this]
theorem wanted_of {ops : Array Oper} {tm : Array Value} {j : Nat} {d : Tmp} {b : Bool} {o : Oper} (hg : o.guard = some (j, b)) (h : (ops[j]?).bind (·.dst) = some d) (hv : tm.getD d undef = .bool b) : Region.wanted o (yielded ops tm) = true := by
  simp [Region.wanted, hg, yielded_of h hv]

/-- What a slot holds, kept as long as the relation holds. -/
structure Sp (R : World → World → Prop) where
  holds : Value → World → Prop
  keep : ∀ v W W', holds v W → R W W' → holds v W'
def SpOf {R : World → World → Prop} (sp : List (Tmp × Sp R)) (a0 : Act) (t : Tmp) (v : Value) (W : World) : Prop := match sp.lookup t with | some s => s.holds v W | none => v = a0.tmps.getD t undef
theorem SpOf.keep {R : World → World → Prop} (sp : List (Tmp × Sp R)) (a0 : Act) (t : Tmp) (v : Value) (W W' : World) (h : SpOf sp a0 t v W) (hu : R W W') : SpOf sp a0 t v W' := by
  unfold SpOf at *
  cases hs : sp.lookup t with
  | none => simpa [hs] using h
  | some s => rw [hs] at h; exact s.keep v W W' h hu
section
variable {R : World → World → Prop} {S : Tmp → Value → World → Prop} {St : Nat → World → Prop} {chain : List Nat} {a0 : Act} {w0 : World} {i : Nat} {o : Oper} {l : List Tmp}
/-- An operation without a guard that leaves the state. -/
theorem UpOb.plain (hi : i ∉ chain) (hSt : ∀ m W W', St m W → Below W.heap.size W W' → St m W') (hR : ∀ W W', Below W.heap.size W W' → R W W') (hg : o.guard = none)
    (h : ∀ (a : Act) (W : World) (m : Nat), R w0 W → St m W → (∀ t ∈ l, S t (a.tmps.getD t undef) W) → ∀ K : Act → World → Prop, (∀ v W', Below W.heap.size W W' → (∀ d, o.dst = some d → S d v W') → K (a.put o.dst v) W') → o.wp P a W K Q) : UpOb P ops Q R S St chain a0 w0 i o l := by
  intro a W m _ _ hR0 hl hs _
  rw [if_pos (by simp [Region.wanted, hg])]
  intro K hK
  exact h a W m hR0 hs hl K fun v W' hb hS => hK v W' (hR W W' hb) hS (by rw [if_neg hi]; exact hSt m W W' hs hb)
theorem UpOb.guarded {j : Nat} {b : Bool} {d : Tmp} (hi : i ∉ chain) (hSt : ∀ m W W', St m W → Below W.heap.size W W' → St m W') (hR : ∀ W W', Below W.heap.size W W' → R W W') (hg : o.guard = some (j, b)) (hj : (ops[j]?).bind (·.dst) = some d)
    (hv : ∀ (a : Act) (W : World), (∀ t ∈ l, S t (a.tmps.getD t undef) W) → a.tmps.getD d undef = .bool b)
    (h : ∀ (a : Act) (W : World) (m : Nat), R w0 W → St m W → (∀ t ∈ l, S t (a.tmps.getD t undef) W) → ∀ K : Act → World → Prop, (∀ v W', Below W.heap.size W W' → (∀ d, o.dst = some d → S d v W') → K (a.put o.dst v) W') → o.wp P a W K Q) : UpOb P ops Q R S St chain a0 w0 i o l := by
  intro a W m _ _ hR0 hl hs _
  rw [if_pos (wanted_of hg hj (hv a W hl))]
  intro K hK
  exact h a W m hR0 hs hl K fun v W' hb hS => hK v W' (hR W W' hb) hS (by rw [if_neg hi]; exact hSt m W W' hs hb)
/-- An operation without a guard that leaves the world. -/
theorem UpOb.still (hR : ∀ W, R W W) (hi : i ∉ chain) (hg : o.guard = none)
    (h : ∀ (a : Act) (W : World), (∀ t ∈ l, S t (a.tmps.getD t undef) W) → ∀ K : Act → World → Prop, (∀ v, (∀ d, o.dst = some d → S d v W) → K (a.put o.dst v) W) → o.wp P a W K Q) : UpOb P ops Q R S St chain a0 w0 i o l := by
  intro a W m _ _ hR0 hl hs _
  rw [if_pos (by simp [Region.wanted, hg])]
  intro K hK
  exact h a W hl K fun v hS => hK v W (hR W) hS (by rw [if_neg hi]; exact hs)
/-- An operation that turns the state, the m0th of them. -/
theorem UpOb.turns (m0 : Nat) (hi : chain[m0]? = some i) (hg : o.guard = none)
    (h : ∀ (a : Act) (W : World), (∀ t ∈ l, S t (a.tmps.getD t undef) W) → R w0 W → St m0 W → ∀ K : Act → World → Prop, (∀ v W', R W W' → (∀ d, o.dst = some d → S d v W') → St (m0 + 1) W' → K (a.put o.dst v) W') → o.wp P a W K Q) : UpOb P ops Q R S St chain a0 w0 i o l := by
  intro a W m _ _ hR hl hs hat
  obtain rfl := hat m0 hi
  rw [if_pos (by simp [Region.wanted, hg])]
  intro K hK
  refine h a W hl hR hs K fun v W' hR hS hSt => hK v W' hR hS ?_
  rw [if_pos (List.mem_of_getElem? hi)]; exact hSt
theorem UpOb.turns_guarded {j : Nat} {b : Bool} {d : Tmp} (m0 : Nat) (hi : chain[m0]? = some i) (hg : o.guard = some (j, b)) (hj : (ops[j]?).bind (·.dst) = some d)
    (hv : ∀ (a : Act) (W : World), (∀ t ∈ l, S t (a.tmps.getD t undef) W) → a.tmps.getD d undef = .bool b)
    (h : ∀ (a : Act) (W : World), (∀ t ∈ l, S t (a.tmps.getD t undef) W) → R w0 W → St m0 W → ∀ K : Act → World → Prop, (∀ v W', R W W' → (∀ d, o.dst = some d → S d v W') → St (m0 + 1) W' → K (a.put o.dst v) W') → o.wp P a W K Q) : UpOb P ops Q R S St chain a0 w0 i o l := by
  intro a W m _ _ hR hl hs hat
  obtain rfl := hat m0 hi
  rw [if_pos (wanted_of hg hj (hv a W hl))]
  intro K hK
  refine h a W hl hR hs K fun v W' hR hS hSt => hK v W' hR hS ?_
  rw [if_pos (List.mem_of_getElem? hi)]; exact hSt
end
/-- The obligations of all operations, from the i-th on. -/
def UpAll (P : Program) (ops : Array Oper) (Q : Exit → Act → World → Prop) (R : World → World → Prop) (S : Tmp → Value → World → Prop) (St : Nat → World → Prop) (chain : List Nat) (a0 : Act) (w0 : World) : Nat → List Oper → List (List Tmp) → Prop
  | i, o :: r, l :: ls => UpOb P ops Q R S St chain a0 w0 i o l ∧ UpAll P ops Q R S St chain a0 w0 (i + 1) r ls
  | _, _, _ => True
theorem UpAll.get {R : World → World → Prop} {S : Tmp → Value → World → Prop} {St : Nat → World → Prop} {chain : List Nat} {a0 : Act} {w0 : World} : ∀ (i : Nat) (l : List Oper) (ls : List (List Tmp)), UpAll P ops Q R S St chain a0 w0 i l ls → ∀ (j : Nat) (o : Oper) (k : List Tmp), l[j]? = some o → ls[j]? = some k → UpOb P ops Q R S St chain a0 w0 (i + j) o k
  | _, [], _, _, j, o, k, h, _ => by simp at h
  | _, _ :: _, [], _, j, o, k, _, h => by simp at h
  | i, x :: r, y :: ls, h, 0, o, k, ho, hk => by
    simp only [List.getElem?_cons_zero, Option.some.injEq] at ho hk
    subst ho; subst hk
    exact h.1
  | i, x :: r, y :: ls, h, j + 1, o, k, ho, hk => by
    rw [show i + (j + 1) = (i + 1) + j by omega]
    exact UpAll.get (i + 1) r ls h.2 j o k (by simpa using ho) (by simpa using hk)
theorem wp_region_seq {id : Nat} {l : List Oper} (hm : P.follows .mixedOrders = true) {R : World → World → Prop} (hrefl : ∀ a, R a a) (htrans : ∀ a b c, R a b → R b c → R a c) (St : Nat → World → Prop) (chain : List Nat) (looks : List (List Tmp)) (sp : List (Tmp × Sp R)) {tm : Array Value} {df : List Deferred} {w : World} (n : Nat) (hn : tm.size = n)
    (hchk : upOk l.toArray looks = true) (hch : chainOk l.toArray chain = true) (hd : (l.all fun o => match o.dst with | some d => decide (d < n) | none => true) = true) (hsp : ((sp.map (·.1)).all fun t => l.any fun o => o.dst == some t) = true) (hs0 : St 0 w.drew)
    (hob : UpAll P l.toArray Q R (SpOf sp ⟨tm, df⟩) St chain ⟨tm, df⟩ w.drew 0 l looks)
    (hfin : ∀ a W, a.defers = df → a.tmps.size = n → R w.drew W → (∀ t, SpOf sp ⟨tm, df⟩ t (a.tmps.getD t undef) W) → St chain.length W → Q .normal a W) : (Code.region id l.toArray true).wp P Q ⟨tm, df⟩ w := by
  refine wp_region_any hm ?_
  refine wpAny_up hrefl htrans (S := SpOf sp ⟨tm, df⟩) (St := St) (chain := chain) hch (fun t v W W' => SpOf.keep sp _ t v W W') hchk (a0 := ⟨tm, df⟩) (w0 := w.drew) ?_ ?_ (fun a W h1 h2 h3 h4 h5 => hfin a W h1 (h2.trans hn) h3 h4 h5) l.toArray.size _ _ _ ?_ ?_
  · intro i o d ho hdst
    have := List.all_eq_true.1 hd o (List.mem_of_getElem? (by simpa using ho))
    simp only [hdst, decide_eq_true_eq] at this
    show d < tm.size
    rw [hn]; exact this
  · intro j o k ho hk
    have h := UpAll.get 0 l looks hob j o k (by simpa using ho) hk
    rwa [Nat.zero_add] at h
  · refine ⟨rfl, rfl, hrefl _, by simp, fun t ht => ?_, 0, Nat.zero_le _, hs0, fun j i hji => ?_⟩
    · unfold SpOf
      cases hs : sp.lookup t with
      | none => rfl
      | some s =>
        exfalso
        have hmem : (t, s) ∈ sp := by
          obtain ⟨l1, l2, hl, _⟩ := List.lookup_eq_some_iff.1 hs
          rw [hl]; simp
        obtain ⟨o, ho, hdst⟩ := List.any_eq_true.1 (List.all_eq_true.1 hsp t (List.mem_map.2 ⟨_, hmem, rfl⟩))
        obtain ⟨i, hi⟩ := List.getElem?_of_mem ho
        have hil : i < l.length := (List.getElem?_eq_some_iff.1 hi).1
        have := ht i o (by simpa using hi) (by simpa using hdst)
        simp [Array.getD, hil] at this
    · have hj := (List.getElem?_eq_some_iff.1 hji)
      have h := List.all_eq_true.1 hch j (by simpa using hj.1)
      have hg : chain.getD j 0 = i := by simp [List.getD, hji]
      simp only [hg, Bool.and_eq_true, decide_eq_true_eq] at h
      have hil : i < l.length := by simpa using h.1.1
      simp [Array.getD, hil]
  · refine Nat.le_trans List.countP_le_length ?_
    simp
end
theorem fill_out : ∀ (vals : List (Tmp × Value)) (t : Array Value) (i : Nat), i ∉ vals.map (·.1) → (vals.foldl (fun (t : Array Value) (p : Tmp × Value) => t.setIfInBounds p.1 p.2) t)[i]? = t[i]?
  | [], _, _, _ => rfl
  | p :: r, t, i, h => by
    rw [List.foldl_cons, fill_out r _ i (fun hi => h (List.mem_cons_of_mem _ hi))]
    have hne : p.1 ≠ i := fun e => h (by rw [← e]; exact List.mem_cons_self)
    exact Array.getElem?_setIfInBounds_ne hne
theorem fill_size : ∀ (vals : List (Tmp × Value)) (t : Array Value), (vals.foldl (fun (t : Array Value) (p : Tmp × Value) => t.setIfInBounds p.1 p.2) t).size = t.size
  | [], _ => rfl
  | p :: r, t => by rw [List.foldl_cons, fill_size r]; simp
theorem fill_in : ∀ (vals : List (Tmp × Value)) (t : Array Value), (vals.map (·.1)).Nodup → ∀ p ∈ vals, p.1 < t.size → (vals.foldl (fun (t : Array Value) (p : Tmp × Value) => t.setIfInBounds p.1 p.2) t)[p.1]? = some p.2
  | q :: r, t, hn, p, hp, hlt => by
    rw [List.map_cons, List.nodup_cons] at hn
    rw [List.foldl_cons]
    rcases List.mem_cons.1 hp with rfl | hp
    · rw [fill_out r _ _ hn.1]; simp [hlt]
    · exact fill_in r _ hn.2 p hp (by simpa using hlt)
/-- What all slots hold behind a region of this kind. -/
theorem tmps_eq {R : World → World → Prop} {sp : List (Tmp × Sp R)} {a0 a : Act} {W : World} (hsz : a.tmps.size = a0.tmps.size) (keys : List Tmp) (vals : List (Tmp × Value)) (hk : sp.map (·.1) = keys) (hkv : vals.map (·.1) = keys) (hn : keys.Nodup) (n : Nat) (hsn : a0.tmps.size = n)
    (hb : keys.all (fun t => decide (t < n)) = true)
    (hl : ∀ t, SpOf sp a0 t (a.tmps.getD t undef) W) (hv : ∀ p ∈ vals, a.tmps.getD p.1 undef = p.2) : a.tmps = vals.foldl (fun (t : Array Value) (p : Tmp × Value) => t.setIfInBounds p.1 p.2) a0.tmps := by
  subst hkv
  apply Array.ext_getElem?
  intro i
  by_cases hi : i ∈ vals.map (·.1)
  · obtain ⟨p, hp, rfl⟩ := List.mem_map.1 hi
    have hlt : p.1 < a0.tmps.size := by rw [hsn]; simpa using List.all_eq_true.1 hb _ hi
    rw [fill_in vals _ hn p hp hlt]
    have h := hv p hp
    rw [← hsz] at hlt
    rw [Array.getElem?_eq_getElem hlt]
    rw [← h]
    simp [Array.getD, hlt]
  · rw [fill_out vals _ i hi]
    have h := hl i
    unfold SpOf at h
    have hlk : sp.lookup i = none := by
      cases hq : sp.lookup i with
      | none => rfl
      | some s =>
        exfalso
        obtain ⟨l1, l2, hl, _⟩ := List.lookup_eq_some_iff.1 hq
        apply hi
        rw [← hk, hl]; simp
    rw [hlk] at h
    by_cases hlt : i < a.tmps.size
    · have hlt0 : i < a0.tmps.size := by rw [← hsz]; exact hlt
      rw [Array.getElem?_eq_getElem hlt, Array.getElem?_eq_getElem hlt0]
      simpa [Array.getD, hlt, hlt0] using h
    · rw [Array.getElem?_eq_none (by omega), Array.getElem?_eq_none (by omega)]
theorem act_eq {a : Act} {df : List Deferred} {t : Array Value} (hd : a.defers = df) (ht : a.tmps = t) : a = ⟨t, df⟩ := by cases a; cases hd; cases ht; rfl
end Go.Proofs.Ytekhnacgejfmjaa.Seq
