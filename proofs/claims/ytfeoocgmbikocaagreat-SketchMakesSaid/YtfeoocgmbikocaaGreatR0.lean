/- A region whose operations may come in any order, when each leaves what was good before it good. -/
import Derived.Test.YtfeoocgmbikocaaGreatA0
import Derived.Orders
import Derived.Below
import Derived.RegionTactic
import Derived.KernelRfl
namespace Go.Proofs.YtfeoocgmbikocaaGreat
open Go.RowKit

/-! A region that draws its order, each of whose operations leaves what was good before it good: what is good is said slot by slot. -/
section
variable {P : Program} {ops : Array Oper} {Q : Exit → Act → World → Prop}
theorem countP_less {α : Type} (p q : α → Bool) (h : ∀ x, q x = true → p x = true) : ∀ (l : List α) (x : α), x ∈ l → p x = true → q x = false → l.countP q < l.countP p
  | [], _, hx, _, _ => by cases hx
  | y :: l, x, hx, hp, hq => by
    have hle : ∀ l : List α, l.countP q ≤ l.countP p := fun l => List.countP_mono_left (fun z _ hz => h z hz)
    rcases List.mem_cons.1 hx with rfl | hx
    · have h0 := hle l
      simp only [List.countP_cons, hp, hq, if_true, Bool.false_eq_true, if_false]
      omega
    · have ih := countP_less p q h l x hx hp hq
      simp only [List.countP_cons]
      by_cases hqy : q y = true
      · simp only [hqy, h y hqy, if_true]; omega
      · simp only [hqy, if_false, Bool.false_eq_true]; omega
/-- What is asked of the region's own shape: what an operation looks at is written ahead of it; no slot is written twice; the edges lead back. -/
def upOk (ops : Array Oper) (looks : List (List Tmp)) : Bool :=
  (List.range ops.size).all fun j => match ops[j]?, looks[j]? with
    | some o, some l =>
      (l.all fun t => (List.range ops.size).all fun i => match ops[i]? with
        | some p => p.dst != some t || o.after.any fun e => e.on == i && Region.binds .any e
        | none => true) &&
      ((List.range ops.size).all fun i => i == j || (match ops[i]?, o.dst with
        | some p, some d => p.dst != some d
        | _, _ => true)) &&
      o.after.all fun e => !Region.binds .any e || decide (e.on < j)
    | _, _ => false

def UpOb (P : Program) (ops : Array Oper) (Q : Exit → Act → World → Prop) (R : World → World → Prop) (S : Tmp → Value → World → Prop) (a0 : Act) (w0 : World) (o : Oper) (l : List Tmp) : Prop :=
  ∀ (a : Act) (W : World), a.defers = a0.defers → a.tmps.size = a0.tmps.size → R w0 W → (∀ t ∈ l, S t (a.tmps.getD t undef) W) →
    if Region.wanted o (yielded ops a.tmps) = true then ∀ K : Act → World → Prop, (∀ v W', R W W' → (∀ d, o.dst = some d → S d v W') → K (a.put o.dst v) W') → o.wp P a W K Q
    else ∀ d, o.dst = some d → S d undef W

structure UpInv (ops : Array Oper) (R : World → World → Prop) (S : Tmp → Value → World → Prop) (a0 : Act) (w0 : World) (listed : Array Bool) (a : Act) (W : World) : Prop where
  defers : a.defers = a0.defers
  tsize : a.tmps.size = a0.tmps.size
  rel : R w0 W
  lsize : listed.size = ops.size
  good : ∀ t, (∀ i o, ops[i]? = some o → o.dst = some t → listed.getD i true = true) → S t (a.tmps.getD t undef) W

theorem wpAny_up {R : World → World → Prop} (hrefl : ∀ a, R a a) (htrans : ∀ a b c, R a b → R b c → R a c) {S : Tmp → Value → World → Prop} (hst : ∀ t v W W', S t v W → R W W' → S t v W')
    {looks : List (List Tmp)} (hchk : upOk ops looks = true) {a0 : Act} {w0 : World}
    (hdt : ∀ (i : Nat) (o : Oper) (d : Tmp), ops[i]? = some o → o.dst = some d → d < a0.tmps.size)
    (hob : ∀ (j : Nat) (o : Oper) (l : List Tmp), ops[j]? = some o → looks[j]? = some l → UpOb P ops Q R S a0 w0 o l)
    (hfin : ∀ a W, a.defers = a0.defers → a.tmps.size = a0.tmps.size → R w0 W → (∀ t, S t (a.tmps.getD t undef) W) → Q .normal a W) :
    ∀ (fuel : Nat) (listed : Array Bool) (a : Act) (W : World), UpInv ops R S a0 w0 listed a W → (List.range ops.size).countP (fun i => !listed.getD i true) ≤ fuel → wpAny P .any ops Q fuel listed a W := by
  have hshape : ∀ j o, ops[j]? = some o → ∃ l, looks[j]? = some l ∧
      (∀ t ∈ l, ∀ i p, ops[i]? = some p → p.dst = some t → ∃ e ∈ o.after, e.on = i ∧ Region.binds .any e = true) ∧
      (∀ i p d, ops[i]? = some p → i ≠ j → o.dst = some d → p.dst ≠ some d) ∧
      (∀ e ∈ o.after, Region.binds .any e = true → e.on < j) := by
    intro j o ho
    have hj : j < ops.size := (Array.getElem?_eq_some_iff.1 ho).1
    have h := List.all_eq_true.1 hchk j (by simpa using hj)
    simp only [ho] at h
    cases hl : looks[j]? with
    | none => simp [hl] at h
    | some l =>
      simp only [hl, Bool.and_eq_true] at h
      obtain ⟨⟨h1, h2⟩, h3⟩ := h
      refine ⟨l, rfl, fun t ht i p hp hd => ?_, fun i p d hp hne hd => ?_, fun e he hb => ?_⟩
      · have hi : i < ops.size := (Array.getElem?_eq_some_iff.1 hp).1
        have := List.all_eq_true.1 (List.all_eq_true.1 h1 t ht) i (by simpa using hi)
        simp only [hp, hd, bne_self_eq_false, Bool.false_or] at this
        obtain ⟨e, he, hc⟩ := Array.any_eq_true'.1 this
        simp only [Bool.and_eq_true, beq_iff_eq] at hc
        exact ⟨e, he, hc.1, hc.2⟩
      · have hi : i < ops.size := (Array.getElem?_eq_some_iff.1 hp).1
        have := List.all_eq_true.1 h2 i (by simpa using hi)
        simp only [hp, hd, Bool.or_eq_true, beq_iff_eq, bne_iff_ne, ne_eq] at this
        exact this.resolve_left hne
      · have := Array.all_eq_true'.1 h3 e he
        simp only [hb, Bool.not_true, Bool.false_or, decide_eq_true_eq] at this
        exact this
  have hready : ∀ listed : Array Bool, listed.size = ops.size → Region.ready .any ops listed = [] → ∀ i, i < ops.size → listed.getD i true = true := by
    intro listed hls hr i
    induction i using Nat.strongRecOn with
    | _ i ih =>
      intro hi
      by_cases hc : listed.getD i true = true
      · exact hc
      · exfalso
        obtain ⟨l, _, _, _, h3⟩ := hshape i ops[i] (Array.getElem?_eq_getElem hi)
        have hmem : i ∈ Region.ready .any ops listed := by
          unfold Region.ready
          refine List.mem_filter.2 ⟨by simpa using hi, ?_⟩
          simp only [Bool.and_eq_true, Bool.not_eq_true']
          refine ⟨by simpa using hc, ?_⟩
          simp only [Array.getElem?_eq_getElem hi, Option.map_some, Option.getD_some]
          refine Array.all_eq_true'.2 fun e he => ?_
          by_cases hb : Region.binds .any e = true
          · have hlt := h3 e he hb
            have := ih e.on hlt (by omega)
            simp only [hb, Bool.not_true, Bool.false_or]
            simpa [Array.getD, show e.on < listed.size by omega] using this
          · simp [hb]
        rw [hr] at hmem
        cases hmem
  intro fuel
  induction fuel with
  | zero =>
    intro listed a W inv hcnt
    have hall : ∀ i, i < ops.size → listed.getD i true = true := by
      intro i hi
      have h0 : (List.range ops.size).countP (fun i => !listed.getD i true) = 0 := by omega
      have := List.countP_eq_zero.1 h0 i (by simpa using hi)
      simpa using this
    refine ⟨?_, hfin a W inv.defers inv.tsize inv.rel fun t => inv.good t fun i o ho _ => hall i (Array.getElem?_eq_some_iff.1 ho).1⟩
    apply List.eq_nil_iff_forall_not_mem.2
    intro i hi
    have h := (List.mem_filter.1 hi)
    have h1 := hall i (by simpa using h.1)
    simp [h1] at h
  | succ fuel ih =>
    intro listed a W inv hcnt
    refine ⟨fun hr => hfin a W inv.defers inv.tsize inv.rel fun t => inv.good t fun i o ho _ => hready listed inv.lsize hr i (Array.getElem?_eq_some_iff.1 ho).1, fun i hi => ?_⟩
    have hm := List.mem_filter.1 hi
    have hisz : i < ops.size := by simpa using hm.1
    obtain ⟨hnl, haft⟩ : listed.getD i true = false ∧ (ops[i].after.all fun e => !Region.binds .any e || listed.getD e.on false) = true := by
      have := hm.2
      simp only [Bool.and_eq_true, Bool.not_eq_true', Array.getElem?_eq_getElem hisz, Option.map_some, Option.getD_some] at this
      exact this
    have hio : ops[i]? = some ops[i] := Array.getElem?_eq_getElem hisz
    generalize ops[i] = o at *
    obtain ⟨l, hl, h1, h2, h3⟩ := hshape i o hio
    have hgood : ∀ t ∈ l, S t (a.tmps.getD t undef) W := by
      intro t ht
      refine inv.good t fun k p hp hd => ?_
      obtain ⟨e, he, rfl, hb⟩ := h1 t ht k p hp hd
      have := Array.all_eq_true'.1 haft e he
      simp only [hb, Bool.not_true, Bool.false_or] at this
      have hk : e.on < ops.size := (Array.getElem?_eq_some_iff.1 hp).1
      simpa [Array.getD, show e.on < listed.size by rw [inv.lsize]; exact hk] using this
    have hcnt' : (List.range ops.size).countP (fun k => !(listed.setIfInBounds i true).getD k true) ≤ fuel := by
      have hset : ∀ k, (listed.setIfInBounds i true).getD k true = if i = k then true else listed.getD k true := by
        intro k
        simp only [Array.getD_eq_getD_getElem?, Array.getElem?_setIfInBounds]
        by_cases e : i = k
        · subst e
          simp [show i < listed.size by rw [inv.lsize]; exact hisz]
        · simp [e]
      have := countP_less (fun k => !listed.getD k true) (fun k => !(listed.setIfInBounds i true).getD k true) (fun k hk => by
        simp only [hset, Bool.not_eq_true'] at hk ⊢
        by_cases e : i = k
        · simp [e] at hk
        · simpa [e] using hk) (List.range ops.size) i (by simpa using hisz) (by simp [hnl]) (by simp [hset])
      omega
    have hnext : ∀ v W', R W W' → (∀ d, o.dst = some d → S d v W') → UpInv ops R S a0 w0 (listed.setIfInBounds i true) (a.put o.dst v) W' := by
      intro v W' hR hS
      refine ⟨by cases hd : o.dst <;> simp [Act.put, inv.defers], by cases hd : o.dst <;> simp [Act.put, inv.tsize], htrans _ _ _ inv.rel hR, by simpa using inv.lsize, fun t ht => ?_⟩
      by_cases e : o.dst = some t
      · have hlt : t < a.tmps.size := by rw [inv.tsize]; exact hdt i o t hio e
        have : (a.put o.dst v).tmps.getD t undef = v := by
          simp [Act.put, e, hlt]
        rw [this]
        exact hS t e
      · have hkeep : (a.put o.dst v).tmps.getD t undef = a.tmps.getD t undef := by
          cases hd : o.dst with
          | none => rfl
          | some d =>
            have hne : d ≠ t := fun h => e (by rw [hd, h])
            simp [Act.put, Array.getElem?_setIfInBounds_ne hne]
        rw [hkeep]
        refine hst t _ W W' (inv.good t fun k p hp hd => ?_) hR
        have := ht k p hp hd
        have hki : i ≠ k := by
          rintro rfl
          rw [hio] at hp
          injection hp with hp
          subst hp
          exact e hd
        simpa [Array.getD_eq_getD_getElem?, Array.getElem?_setIfInBounds_ne hki] using this
    have hob' := hob i o l hio hl a W inv.defers inv.tsize inv.rel hgood
    unfold wpOp
    simp only [hio]
    by_cases hw : Region.wanted o (yielded ops a.tmps) = true
    · rw [if_pos hw] at hob' ⊢
      exact .inl (hob' _ fun v W' hR hS => ih _ _ _ (hnext v W' hR hS) hcnt')
    · rw [if_neg hw] at hob' ⊢
      exact ih _ _ _ (hnext undef W (hrefl W) hob') hcnt'

theorem yielded_of {ops : Array Oper} {tm : Array Value} {j : Nat} {d : Tmp} {b : Bool} (h : (ops[j]?).bind (·.dst) = some d) (hv : tm.getD d undef = .bool b) : yielded ops tm j = some b := by
  unfold yielded
  rw [h]
  simp only [Option.bind_some]
  have : tm[d]? = some (.bool b) := by
    cases hx : tm[d]? with
    | none => simp [Array.getD_eq_getD_getElem?, hx, undef] at hv
    | some x => simp [Array.getD_eq_getD_getElem?, hx] at hv; rw [hv]
  rw [this]
theorem wanted_of {ops : Array Oper} {tm : Array Value} {j : Nat} {d : Tmp} {b : Bool} {o : Oper} (hg : o.guard = some (j, b)) (h : (ops[j]?).bind (·.dst) = some d) (hv : tm.getD d undef = .bool b) : Region.wanted o (yielded ops tm) = true := by
  simp [Region.wanted, hg, yielded_of h hv]
theorem UpOb.plain {R : World → World → Prop} {S : Tmp → Value → World → Prop} {a0 : Act} {w0 : World} {o : Oper} {l : List Tmp} (hg : o.guard = none)
    (h : ∀ (a : Act) (W : World), R w0 W → (∀ t ∈ l, S t (a.tmps.getD t undef) W) → ∀ K : Act → World → Prop, (∀ v W', R W W' → (∀ d, o.dst = some d → S d v W') → K (a.put o.dst v) W') → o.wp P a W K Q) : UpOb P ops Q R S a0 w0 o l := by
  intro a W _ _ hR hl
  rw [if_pos (by simp [Region.wanted, hg])]
  exact h a W hR hl
theorem UpOb.skip {R : World → World → Prop} {S : Tmp → Value → World → Prop} {a0 : Act} {w0 : World} {o : Oper} {l : List Tmp} {j : Nat} {b : Bool} {d : Tmp} (hg : o.guard = some (j, b)) (hj : (ops[j]?).bind (·.dst) = some d) (x : Value)
    (hv : ∀ (a : Act) (W : World), (∀ t ∈ l, S t (a.tmps.getD t undef) W) → a.tmps.getD d undef = x) (hx : x ≠ .bool b) (hS : ∀ (d : Tmp) (W : World), o.dst = some d → S d undef W) : UpOb P ops Q R S a0 w0 o l := by
  intro a W _ _ _ hl
  have hvd := hv a W hl
  have hw : ¬ Region.wanted o (yielded ops a.tmps) = true := by
    simp only [Region.wanted, hg, beq_iff_eq]
    intro hy
    unfold yielded at hy
    rw [hj] at hy
    simp only [Option.bind_some] at hy
    cases hc : a.tmps[d]? with
    | none => simp [hc] at hy
    | some y =>
      have hyx : y = x := by simpa [Array.getD_eq_getD_getElem?, hc] using hvd
      subst hyx
      rw [hc] at hy
      cases y <;> simp at hy
      subst hy
      exact hx rfl
  rw [if_neg hw]
  exact fun d hd => hS d W hd
theorem UpOb.guarded {R : World → World → Prop} {S : Tmp → Value → World → Prop} {a0 : Act} {w0 : World} {o : Oper} {l : List Tmp} {j : Nat} {b : Bool} {d : Tmp} (hg : o.guard = some (j, b)) (hj : (ops[j]?).bind (·.dst) = some d)
    (hv : ∀ (a : Act) (W : World), (∀ t ∈ l, S t (a.tmps.getD t undef) W) → a.tmps.getD d undef = .bool b)
    (h : ∀ (a : Act) (W : World), R w0 W → (∀ t ∈ l, S t (a.tmps.getD t undef) W) → ∀ K : Act → World → Prop, (∀ v W', R W W' → (∀ d, o.dst = some d → S d v W') → K (a.put o.dst v) W') → o.wp P a W K Q) : UpOb P ops Q R S a0 w0 o l := by
  intro a W _ _ hR hl
  rw [if_pos (wanted_of hg hj (hv a W hl))]
  exact h a W hR hl
def Up (W W' : World) : Prop := Below W.heap.size W W'
theorem Up.refl (W : World) : Up W W := Below.refl _ W
theorem Up.trans (a b c : World) (h : Up a b) (k : Up b c) : Up a c := Below.trans h (Below.mono k h.size)
/-- What is asked of a slot. -/
structure Sp where
  holds : Value → World → Prop
  keep : ∀ v W W', holds v W → Up W W' → holds v W'
def Sp.is (x : Value) : Sp := ⟨fun v _ => v = x, fun _ _ _ h _ => h⟩
def SpOf (sp : List (Tmp × Sp)) (a0 : Act) (t : Tmp) (v : Value) (W : World) : Prop := match sp.lookup t with | some s => s.holds v W | none => v = a0.tmps.getD t undef
theorem SpOf.keep (sp : List (Tmp × Sp)) (a0 : Act) (t : Tmp) (v : Value) (W W' : World) (h : SpOf sp a0 t v W) (hu : Up W W') : SpOf sp a0 t v W' := by
  unfold SpOf at *
  cases hs : sp.lookup t with
  | none => simpa [hs] using h
  | some s => rw [hs] at h; exact s.keep v W W' h hu
def UpAll (P : Program) (ops : Array Oper) (Q : Exit → Act → World → Prop) (S : Tmp → Value → World → Prop) (a0 : Act) (w0 : World) : List Oper → List (List Tmp) → Prop
  | o :: r, l :: ls => UpOb P ops Q Up S a0 w0 o l ∧ UpAll P ops Q S a0 w0 r ls
  | _, _ => True
theorem UpAll.get {S : Tmp → Value → World → Prop} {a0 : Act} {w0 : World} : ∀ (l : List Oper) (ls : List (List Tmp)), UpAll P ops Q S a0 w0 l ls → ∀ (j : Nat) (o : Oper) (k : List Tmp), l[j]? = some o → ls[j]? = some k → UpOb P ops Q Up S a0 w0 o k
  | [], _, _, j, o, k, h, _ => by simp at h
  | _ :: _, [], _, j, o, k, _, h => by simp at h
  | x :: r, y :: ls, h, 0, o, k, ho, hk => by
    simp only [List.getElem?_cons_zero, Option.some.injEq] at ho hk
    subst ho; subst hk
    exact h.1
  | x :: r, y :: ls, h, j + 1, o, k, ho, hk => UpAll.get r ls h.2 j o k (by simpa using ho) (by simpa using hk)
theorem wp_region_up {id : Nat} {l : List Oper} (hm : P.follows .mixedOrders = true) (looks : List (List Tmp)) (sp : List (Tmp × Sp)) {tm : Array Value} {df : List Deferred} {w : World} (n : Nat) (hn : tm.size = n)
    (hchk : upOk l.toArray looks = true) (hd : (l.all fun o => match o.dst with | some d => decide (d < n) | none => true) = true) (hsp : (sp.all fun p => l.any fun o => o.dst == some p.1) = true)
    (hob : UpAll P l.toArray Q (SpOf sp ⟨tm, df⟩) ⟨tm, df⟩ w.drew l looks)
    (hfin : ∀ a W, a.defers = df → Up w.drew W → (∀ t, SpOf sp ⟨tm, df⟩ t (a.tmps.getD t undef) W) → Q .normal a W) : (Code.region id l.toArray true).wp P Q ⟨tm, df⟩ w := by
  refine wp_region_any hm ?_
  refine wpAny_up (R := Up) Up.refl Up.trans (S := SpOf sp ⟨tm, df⟩) (fun t v W W' => SpOf.keep sp _ t v W W') hchk (a0 := ⟨tm, df⟩) (w0 := w.drew) ?_ ?_ (fun a W h1 _ h3 h4 => hfin a W h1 h3 h4) l.toArray.size _ _ _ ?_ ?_
  · intro i o d ho hdst
    have := List.all_eq_true.1 hd o (List.mem_of_getElem? (by simpa using ho))
    simp only [hdst, decide_eq_true_eq] at this
    show d < tm.size
    rw [hn]; exact this
  · intro j o k ho hk
    exact UpAll.get l looks hob j o k (by simpa using ho) hk
  · refine ⟨rfl, rfl, Up.refl _, by simp, fun t ht => ?_⟩
    unfold SpOf
    cases hs : sp.lookup t with
    | none => rfl
    | some s =>
      exfalso
      have hmem : (t, s) ∈ sp := by
        obtain ⟨l1, l2, hl, _⟩ := List.lookup_eq_some_iff.1 hs
        rw [hl]; simp
      obtain ⟨o, ho, hdst⟩ := List.any_eq_true.1 (List.all_eq_true.1 hsp _ hmem)
      obtain ⟨i, hi⟩ := List.getElem?_of_mem ho
      have hil : i < l.length := (List.getElem?_eq_some_iff.1 hi).1
      have := ht i o (by simpa using hi) (by simpa using hdst)
      simp [Array.getD, hil] at this
  · refine Nat.le_trans List.countP_le_length ?_
    simp
end
end Go.Proofs.YtfeoocgmbikocaaGreat
