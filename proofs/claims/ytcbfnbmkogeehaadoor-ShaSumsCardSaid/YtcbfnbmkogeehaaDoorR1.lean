/- A region whose operations may come in any order, when each leaves what was good before it good. -/
import Derived.Orders
import Derived.Below
import Derived.RegionTactic
import Derived.KernelRfl
namespace Go.Proofs.YtcbfnbmkogeehaaDoor
open Go.RowKit

/-! A region that draws its order, each of whose operations leaves what was good before it good: what is good is said slot by slot. -/
section
variable {P : Program} {ops : Array Oper} {Q : Exit → Act → World → Prop}
theorem countP_less {α : Type} (p q : α → Bool) (h : ∀ x, q x = true → p x = true) : ∀ (l : List α) (x : α), x ∈ l → p x = true → q x = false → l.countP q < l.countP p
  | [], _, hx, _, _ => by cases hx
  | y :: l, x, hx, hp, hq => by
    have hle : ∀ l : List α, l.countP q ≤ l.countP p := fun l => List.countP_mono_left (fun z _ hz => h z hz)
    rcases List.mem_cons.1 hx with rfl | hx
    · have h0 := hle l
      simp only [List.countP_cons, hp, hq, if_true, Bool.false_eq_true, if_false]
      omega
    · have ih := countP_less p q h l x hx hp hq
      simp only [List.countP_cons]
      by_cases hqy : q y = true
      · simp only [hqy, h y hqy, if_true]; omega
      · simp only [hqy, if_false, Bool.false_eq_true]; omega
/-- What is asked of the region's own shape: what an operation looks at is written ahead of it; no slot is written twice; the edges lead back. -/
def upOk (ops : Array Oper) (looks : List (List Tmp)) : Bool :=
  (List.range ops.size).all fun j => match ops[j]?, looks[j]? with
    | some o, some l =>
      (l.all fun t => (List.range ops.size).all fun i => match ops[i]? with
        | some p => p.dst != some t || o.after.any fun e => e.on == i && Region.binds .any e
        | none => true) &&
      ((List.range ops.size).all fun i => i == j || (match ops[i]?, o.dst with
        | some p, some d => p.dst != some d
        | _, _ => true)) &&
      o.after.all fun e => !Region.binds .any e || decide (e.on < j)
    | _, _ => false

def UpOb (P : Program) (ops : Array Oper) (Q : Exit → Act → World → Prop) (R : World → World → Prop) (S : Tmp → Value → World → Prop) (a0 : Act) (w0 : World) (o : Oper) (l : List Tmp) : Prop :=
  ∀ (a : Act) (W : World), a.defers = a0.defers → a.tmps.size = a0.tmps.size → R w0 W → (∀ t ∈ l, S t (a.tmps.getD t undef) W) →
    if Region.wanted o (yielded ops a.tmps) = true then ∀ K : Act → World → Prop, (∀ v W', R W W' → (∀ d, o.dst = some d → S d v W') → K (a.put o.dst v) W') → o.wp P a W K Q
    else ∀ d, o.dst = some d → S d undef W

theorem yielded_of {ops : Array Oper} {tm : Array Value} {j : Nat} {d : Tmp} {b : Bool} (h : (ops[j]?).bind (·.dst) = some d) (hv : tm.getD d undef = .bool b) : yielded ops tm j = some b := by
  unfold yielded
  rw [h]
  simp only [Option.bind_some]
  have : tm[d]? = some (.bool b) := by
    cases hx : tm[d]? with
    | none => simp [Array.getD_eq_getD_getElem?, hx, undef] at hv
    | some x => simp [Array.getD_eq_getD_getElem?, hx] at hv; rw [hv]
  rw [this]
theorem wanted_of {ops : Array Oper} {tm : Array Value} {j : Nat} {d : Tmp} {b : Bool} {o : Oper} (hg : o.guard = some (j, b)) (h : (ops[j]?).bind (·.dst) = some d) (hv : tm.getD d undef = .bool b) : Region.wanted o (yielded ops tm) = true := by
  simp [Region.wanted, hg, yielded_of h hv]
theorem UpOb.plain {R : World → World → Prop} {S : Tmp → Value → World → Prop} {a0 : Act} {w0 : World} {o : Oper} {l : List Tmp} (hg : o.guard = none)
    (h : ∀ (a : Act) (W : World), R w0 W → (∀ t ∈ l, S t (a.tmps.getD t undef) W) → ∀ K : Act → World → Prop, (∀ v W', R W W' → (∀ d, o.dst = some d → S d v W') → K (a.put o.dst v) W') → o.wp P a W K Q) : UpOb P ops Q R S a0 w0 o l := by
  intro a W _ _ hR hl
  rw [if_pos (by simp [Region.wanted, hg])]
  exact h a W hR hl
theorem UpOb.skip {R : World → World → Prop} {S : Tmp → Value → World → Prop} {a0 : Act} {w0 : World} {o : Oper} {l : List Tmp} {j : Nat} {b : Bool} {d : Tmp} (hg : o.guard = some (j, b)) (hj : (ops[j]?).bind (·.dst) = some d) (x : Value)
    (hv : ∀ (a : Act) (W : World), (∀ t ∈ l, S t (a.tmps.getD t undef) W) → a.tmps.getD d undef = x) (hx : x ≠ .bool b) (hS : ∀ (d : Tmp) (W : World), o.dst = some d → S d undef W) : UpOb P ops Q R S a0 w0 o l := by
  intro a W _ _ _ hl
  have hvd := hv a W hl
  have hw : ¬ Region.wanted o (yielded ops a.tmps) = true := by
    simp only [Region.wanted, hg, beq_iff_eq]
    intro hy
    unfold yielded at hy
    rw [hj] at hy
    simp only [Option.bind_some] at hy
    cases hc : a.tmps[d]? with
    | none => simp [hc] at hy
    | some y =>
      have hyx : y = x := by simpa [Array.getD_eq_getD_getElem?, hc] using hvd
      subst hyx
      rw [hc] at hy
      cases y <;> simp at hy
      subst hy
      exact hx rfl
  rw [if_neg hw]
  exact fun d hd => hS d W hd
theorem UpOb.guarded {R : World → World → Prop} {S : Tmp → Value → World → Prop} {a0 : Act} {w0 : World} {o : Oper} {l : List Tmp} {j : Nat} {b : Bool} {d : Tmp} (hg : o.guard = some (j, b)) (hj : (ops[j]?).bind (·.dst) = some d)
    (hv : ∀ (a : Act) (W : World), (∀ t ∈ l, S t (a.tmps.getD t undef) W) → a.tmps.getD d undef = .bool b)
    (h : ∀ (a : Act) (W : World), R w0 W → (∀ t ∈ l, S t (a.tmps.getD t undef) W) → ∀ K : Act → World → Prop, (∀ v W', R W W' → (∀ d, o.dst = some d → S d v W') → K (a.put o.dst v) W') → o.wp P a W K Q) : UpOb P ops Q R S a0 w0 o l := by
  intro a W _ _ hR hl
  rw [if_pos (wanted_of hg hj (hv a W hl))]
  exact h a W hR hl

/-- What is asked of the region's own shape: n operations in any order (what one looks at is written ahead of it; no slot is written twice), the rest one behind the other. -/
def preOk (n : Nat) (ops : Array Oper) (looks : List (List Tmp)) : Bool :=
  (List.range ops.size).all fun j => match ops[j]? with
    | some o =>
      (o.after.all fun e => !Region.binds .any e || decide (e.on < j)) &&
      (if j < n then match looks[j]? with
        | some l =>
          (l.all fun t => (List.range ops.size).all fun i => match ops[i]? with
            | some p => p.dst != some t || o.after.any fun e => e.on == i && Region.binds .any e
            | none => true) &&
          ((List.range ops.size).all fun i => i == j || (match ops[i]?, o.dst with
            | some p, some d => p.dst != some d
            | _, _ => true))
        | none => false
      else (List.range j).all fun i => o.after.any fun e => e.on == i && Region.binds .any e)
    | none => false

/-- The rest, one behind the other. -/
theorem wpAny_tail {Q : Exit → Act → World → Prop} (n : Nat) (hord : ∀ k o, n ≤ k → ops[k]? = some o → ∀ i, i < k → ∃ e ∈ o.after, e.on = i ∧ Region.binds .any e = true)
    (hback : ∀ k o, ops[k]? = some o → ∀ e ∈ o.after, Region.binds .any e = true → e.on < k) :
    ∀ (m j : Nat), j + m = ops.size → n ≤ j → ∀ (fuel : Nat), m ≤ fuel → ∀ (listed : Array Bool), listed.size = ops.size → (∀ i, i < ops.size → listed.getD i true = decide (i < j)) →
      ∀ (a : Act) (W : World), wpList P ops Q (ops.toList.drop j) a W → wpAny P .any ops Q fuel listed a W := by
  intro m
  induction m with
  | zero =>
    intro j hj hn fuel _ listed hls hl a W h
    have hr : Region.ready .any ops listed = [] := by
      apply List.eq_nil_iff_forall_not_mem.2
      intro i hi
      have h1 := List.mem_filter.1 hi
      have h2 := hl i (by simpa using h1.1)
      have h3 : i < ops.size := by simpa using h1.1
      simp [h2, show i < j by omega] at h1
    have hQ : Q .normal a W := by
      rw [List.drop_eq_nil_of_le (by simp; omega)] at h
      exact h
    cases fuel with
    | zero => exact ⟨hr, hQ⟩
    | succ f => exact ⟨fun _ => hQ, fun i hi => by rw [hr] at hi; cases hi⟩
  | succ m ih =>
    intro j hj hn fuel hf listed hls hl a W h
    obtain ⟨f, rfl⟩ : ∃ f, fuel = f + 1 := ⟨fuel - 1, by omega⟩
    have hjs : j < ops.size := by omega
    have hjo : ops[j]? = some ops[j] := Array.getElem?_eq_getElem hjs
    have hgf : ∀ i, i < ops.size → listed.getD i false = decide (i < j) := by
      intro i hi
      have := hl i hi
      simpa [Array.getD, show i < listed.size by omega] using this
    have hmem : j ∈ Region.ready .any ops listed := by
      unfold Region.ready
      refine List.mem_filter.2 ⟨by simpa using hjs, ?_⟩
      simp only [Bool.and_eq_true, Bool.not_eq_true']
      refine ⟨by rw [hl j hjs]; simp, ?_⟩
      simp only [hjo, Option.map_some, Option.getD_some]
      refine Array.all_eq_true'.2 fun e he => ?_
      by_cases hb : Region.binds .any e = true
      · have h1 := hback j _ hjo e he hb
        rw [hgf e.on (by omega)]
        simp [h1]
      · simp [hb]
    refine ⟨fun hr => (by rw [hr] at hmem; cases hmem), fun i hi => ?_⟩
    have hm := List.mem_filter.1 hi
    have hisz : i < ops.size := by simpa using hm.1
    have hio : ops[i]? = some ops[i] := Array.getElem?_eq_getElem hisz
    have hm2 := hm.2
    simp only [Bool.and_eq_true, Bool.not_eq_true', hio, Option.map_some, Option.getD_some, hl i hisz, decide_eq_false_iff_not] at hm2
    have hij : i = j := by
      rcases Nat.lt_trichotomy i j with h1 | h1 | h1
      · omega
      · exact h1
      · exfalso
        obtain ⟨e, he, heo, hb⟩ := hord i _ (by omega) hio j h1
        have h2 := Array.all_eq_true'.1 hm2.2 e he
        rw [heo, hgf j hjs] at h2
        simp [hb] at h2
    subst hij
    have hcut : ops.toList.drop i = ops[i] :: ops.toList.drop (i + 1) := by
      rw [List.drop_eq_getElem_cons (by simpa using hjs)]
      simp
    rw [hcut] at h
    have hnext : ∀ a' W', wpList P ops Q (ops.toList.drop (i + 1)) a' W' → wpAny P .any ops Q f (listed.setIfInBounds i true) a' W' := by
      intro a' W' h'
      refine ih (i + 1) (by omega) (by omega) f (by omega) _ (by simpa using hls) (fun k hk => ?_) a' W' h'
      simp only [Array.getD_eq_getD_getElem?, Array.getElem?_setIfInBounds]
      by_cases e : i = k
      · subst e
        simp [show i < listed.size by omega]
      · have := hl k hk
        rw [Array.getD_eq_getD_getElem?] at this
        simp only [e, if_false, this]
        simp; omega
    unfold wpOp
    simp only [hio]
    simp only [wpList] at h
    by_cases hw : Region.wanted ops[i] (yielded ops a.tmps) = true
    · rw [if_pos hw] at h ⊢
      exact h.imp (Oper.wp_mono hnext) id
    · rw [if_neg hw] at h ⊢
      exact hnext _ _ h

structure PreInv (n : Nat) (ops : Array Oper) (R : World → World → Prop) (S : Tmp → Value → World → Prop) (a0 : Act) (w0 : World) (listed : Array Bool) (a : Act) (W : World) : Prop where
  defers : a.defers = a0.defers
  tsize : a.tmps.size = a0.tmps.size
  rel : R w0 W
  lsize : listed.size = ops.size
  good : ∀ t, (∀ i o, ops[i]? = some o → o.dst = some t → listed.getD i true = true) → S t (a.tmps.getD t undef) W
  keep : ∀ t, (∀ i o, ops[i]? = some o → o.dst = some t → listed.getD i true = false) → a.tmps.getD t undef = a0.tmps.getD t undef
  tail : ∀ i, n ≤ i → i < ops.size → listed.getD i true = false

theorem wpAny_pre {R : World → World → Prop} (hrefl : ∀ a, R a a) (htrans : ∀ a b c, R a b → R b c → R a c) {S : Tmp → Value → World → Prop} (hst : ∀ t v W W', S t v W → R W W' → S t v W')
    (n : Nat) (hns : n ≤ ops.size) {looks : List (List Tmp)} (hchk : preOk n ops looks = true) {a0 : Act} {w0 : World}
    (hdt : ∀ (i : Nat) (o : Oper) (d : Tmp), ops[i]? = some o → o.dst = some d → d < a0.tmps.size)
    (hob : ∀ (j : Nat) (o : Oper) (l : List Tmp), j < n → ops[j]? = some o → looks[j]? = some l → UpOb P ops Q R S a0 w0 o l)
    (hfin : ∀ a W, a.defers = a0.defers → a.tmps.size = a0.tmps.size → R w0 W → (∀ t, (∀ i o, n ≤ i → ops[i]? = some o → o.dst ≠ some t) → S t (a.tmps.getD t undef) W) →
      (∀ t, (∀ i o, i < n → ops[i]? = some o → o.dst ≠ some t) → a.tmps.getD t undef = a0.tmps.getD t undef) → wpList P ops Q (ops.toList.drop n) a W) :
    ∀ (fuel : Nat) (listed : Array Bool) (a : Act) (W : World), PreInv n ops R S a0 w0 listed a W → (List.range ops.size).countP (fun i => !listed.getD i true) ≤ fuel → wpAny P .any ops Q fuel listed a W := by
  have hback : ∀ k o, ops[k]? = some o → ∀ e ∈ o.after, Region.binds .any e = true → e.on < k := by
    intro j o ho e he hb
    have hj : j < ops.size := (Array.getElem?_eq_some_iff.1 ho).1
    have h := List.all_eq_true.1 hchk j (by simpa using hj)
    simp only [ho, Bool.and_eq_true] at h
    have := Array.all_eq_true'.1 h.1 e he
    simp only [hb, Bool.not_true, Bool.false_or, decide_eq_true_eq] at this
    exact this
  have hord : ∀ k o, n ≤ k → ops[k]? = some o → ∀ i, i < k → ∃ e ∈ o.after, e.on = i ∧ Region.binds .any e = true := by
    intro j o hn ho i hi
    have hj : j < ops.size := (Array.getElem?_eq_some_iff.1 ho).1
    have h := List.all_eq_true.1 hchk j (by simpa using hj)
    simp only [ho, Bool.and_eq_true, if_neg (show ¬ j < n by omega)] at h
    have := List.all_eq_true.1 h.2 i (by simpa using hi)
    obtain ⟨e, he, hc⟩ := Array.any_eq_true'.1 this
    simp only [Bool.and_eq_true, beq_iff_eq] at hc
    exact ⟨e, he, hc.1, hc.2⟩
  have hshape : ∀ j o, j < n → ops[j]? = some o → ∃ l, looks[j]? = some l ∧
      (∀ t ∈ l, ∀ i p, ops[i]? = some p → p.dst = some t → ∃ e ∈ o.after, e.on = i ∧ Region.binds .any e = true) ∧
      (∀ i p d, ops[i]? = some p → i ≠ j → o.dst = some d → p.dst ≠ some d) := by
    intro j o hn ho
    have hj : j < ops.size := (Array.getElem?_eq_some_iff.1 ho).1
    have h := List.all_eq_true.1 hchk j (by simpa using hj)
    simp only [ho, Bool.and_eq_true, if_pos hn] at h
    have h' := h.2
    cases hl : looks[j]? with
    | none => simp [hl] at h'
    | some l =>
      simp only [hl, Bool.and_eq_true] at h'
      obtain ⟨h1, h2⟩ := h'
      refine ⟨l, rfl, fun t ht i p hp hd => ?_, fun i p d hp hne hd => ?_⟩
      · have hi : i < ops.size := (Array.getElem?_eq_some_iff.1 hp).1
        have := List.all_eq_true.1 (List.all_eq_true.1 h1 t ht) i (by simpa using hi)
        simp only [hp, hd, bne_self_eq_false, Bool.false_or] at this
        obtain ⟨e, he, hc⟩ := Array.any_eq_true'.1 this
        simp only [Bool.and_eq_true, beq_iff_eq] at hc
        exact ⟨e, he, hc.1, hc.2⟩
      · have hi : i < ops.size := (Array.getElem?_eq_some_iff.1 hp).1
        have := List.all_eq_true.1 h2 i (by simpa using hi)
        simp only [hp, hd, Bool.or_eq_true, beq_iff_eq, bne_iff_ne, ne_eq] at this
        exact this.resolve_left hne
  have hready : ∀ listed : Array Bool, listed.size = ops.size → Region.ready .any ops listed = [] → ∀ i, i < ops.size → listed.getD i true = true := by
    intro listed hls hr i
    induction i using Nat.strongRecOn with
    | _ i ih =>
      intro hi
      by_cases hc : listed.getD i true = true
      · exact hc
      · exfalso
        have hmem : i ∈ Region.ready .any ops listed := by
          unfold Region.ready
          refine List.mem_filter.2 ⟨by simpa using hi, ?_⟩
          simp only [Bool.and_eq_true, Bool.not_eq_true']
          refine ⟨by simpa using hc, ?_⟩
          simp only [Array.getElem?_eq_getElem hi, Option.map_some, Option.getD_some]
          refine Array.all_eq_true'.2 fun e he => ?_
          by_cases hb : Region.binds .any e = true
          · have hlt := hback i _ (Array.getElem?_eq_getElem hi) e he hb
            have := ih e.on hlt (by omega)
            simp only [hb, Bool.not_true, Bool.false_or]
            simpa [Array.getD, show e.on < listed.size by omega] using this
          · simp [hb]
        rw [hr] at hmem
        cases hmem
  intro fuel
  induction fuel with
  | zero =>
    intro listed a W inv hcnt
    have hall : ∀ i, i < ops.size → listed.getD i true = true := by
      intro i hi
      have h0 : (List.range ops.size).countP (fun i => !listed.getD i true) = 0 := by omega
      have := List.countP_eq_zero.1 h0 i (by simpa using hi)
      simpa using this
    have hn : n = ops.size := by
      rcases Nat.lt_or_ge n ops.size with h | h
      · have h1 := inv.tail n (Nat.le_refl _) h
        rw [hall n h] at h1; cases h1
      · omega
    refine wpAny_tail n hord hback 0 n (by omega) (Nat.le_refl _) 0 (Nat.le_refl _) listed inv.lsize (fun i hi => by rw [hall i hi]; simp; omega) a W ?_
    exact hfin a W inv.defers inv.tsize inv.rel (fun t _ => inv.good t fun i o ho _ => hall i (Array.getElem?_eq_some_iff.1 ho).1) (fun t ht => inv.keep t fun i o ho hd => absurd hd (ht i o (by have := (Array.getElem?_eq_some_iff.1 ho).1; omega) ho))
  | succ fuel ih =>
    intro listed a W inv hcnt
    by_cases hall : ∀ i, i < n → listed.getD i true = true
    · have hl : ∀ i, i < ops.size → listed.getD i true = decide (i < n) := by
        intro i hi
        by_cases h : i < n
        · rw [hall i h]; simp [h]
        · rw [inv.tail i (by omega) hi]; simp [h]
      have hc : (List.range ops.size).countP (fun i => !listed.getD i true) = ops.size - n := by
        have e1 : (List.range ops.size).countP (fun i => !listed.getD i true) = (List.range ops.size).countP (fun i => !decide (i < n)) :=
          List.countP_congr fun i hi => by rw [hl i (by simpa using hi)]
        rw [e1]
        obtain ⟨m, hm⟩ : ∃ m, ops.size = n + m := ⟨ops.size - n, by omega⟩
        rw [hm, List.range_add, List.countP_append, List.countP_eq_zero.2 (fun i hi => by simpa using hi), List.countP_eq_length.2 (fun i hi => by
          obtain ⟨k, _, rfl⟩ := List.mem_map.1 hi
          simp)]
        simp
      refine wpAny_tail n hord hback (ops.size - n) n (by omega) (Nat.le_refl _) _ (by omega) listed inv.lsize hl a W ?_
      exact hfin a W inv.defers inv.tsize inv.rel
        (fun t ht => inv.good t fun i o ho hd => by
          rcases Nat.lt_or_ge i n with h | h
          · exact hall i h
          · exact absurd hd (ht i o h ho))
        (fun t ht => inv.keep t fun i o ho hd => by
          rcases Nat.lt_or_ge i n with h | h
          · exact absurd hd (ht i o h ho)
          · exact inv.tail i h (Array.getElem?_eq_some_iff.1 ho).1)
    refine ⟨fun hr => absurd (fun i hi => hready listed inv.lsize hr i (by omega)) hall, fun i hi => ?_⟩
    have hm := List.mem_filter.1 hi
    have hisz : i < ops.size := by simpa using hm.1
    obtain ⟨hnl, haft⟩ : listed.getD i true = false ∧ (ops[i].after.all fun e => !Region.binds .any e || listed.getD e.on false) = true := by
      have := hm.2
      simp only [Bool.and_eq_true, Bool.not_eq_true', Array.getElem?_eq_getElem hisz, Option.map_some, Option.getD_some] at this
      exact this
    have hio : ops[i]? = some ops[i] := Array.getElem?_eq_getElem hisz
    have hin : i < n := by
      rcases Nat.lt_or_ge i n with h | h
      · exact h
      · exfalso
        refine hall fun k hk => ?_
        obtain ⟨e, he, rfl, hb⟩ := hord i _ h hio k (by omega)
        have := Array.all_eq_true'.1 haft e he
        simp only [hb, Bool.not_true, Bool.false_or] at this
        simpa [Array.getD, show e.on < listed.size by rw [inv.lsize]; omega] using this
    generalize ops[i] = o at *
    obtain ⟨l, hl, h1, h2⟩ := hshape i o hin hio
    have hgood : ∀ t ∈ l, S t (a.tmps.getD t undef) W := by
      intro t ht
      refine inv.good t fun k p hp hd => ?_
      obtain ⟨e, he, rfl, hb⟩ := h1 t ht k p hp hd
      have := Array.all_eq_true'.1 haft e he
      simp only [hb, Bool.not_true, Bool.false_or] at this
      have hk : e.on < ops.size := (Array.getElem?_eq_some_iff.1 hp).1
      simpa [Array.getD, show e.on < listed.size by rw [inv.lsize]; exact hk] using this
    have hset : ∀ k, (listed.setIfInBounds i true).getD k true = if i = k then true else listed.getD k true := by
      intro k
      simp only [Array.getD_eq_getD_getElem?, Array.getElem?_setIfInBounds]
      by_cases e : i = k
      · subst e
        simp [show i < listed.size by rw [inv.lsize]; exact hisz]
      · simp [e]
    have hcnt' : (List.range ops.size).countP (fun k => !(listed.setIfInBounds i true).getD k true) ≤ fuel := by
      have := countP_less (fun k => !listed.getD k true) (fun k => !(listed.setIfInBounds i true).getD k true) (fun k hk => by
        simp only [hset, Bool.not_eq_true'] at hk ⊢
        by_cases e : i = k
        · simp [e] at hk
        · simpa [e] using hk) (List.range ops.size) i (by simpa using hisz) (by simp [hnl]) (by simp [hset])
      omega
    have hnext : ∀ v W', R W W' → (∀ d, o.dst = some d → S d v W') → PreInv n ops R S a0 w0 (listed.setIfInBounds i true) (a.put o.dst v) W' := by
      intro v W' hR hS
      have hkeep : ∀ t, o.dst ≠ some t → (a.put o.dst v).tmps.getD t undef = a.tmps.getD t undef := by
        intro t e
        cases hd : o.dst with
        | none => rfl
        | some d =>
          have hne : d ≠ t := fun h => e (by rw [hd, h])
          simp [Act.put, Array.getElem?_setIfInBounds_ne hne]
      refine ⟨by cases hd : o.dst <;> simp [Act.put, inv.defers], by cases hd : o.dst <;> simp [Act.put, inv.tsize], htrans _ _ _ inv.rel hR, by simpa using inv.lsize, fun t ht => ?_, fun t ht => ?_, fun k hk hks => ?_⟩
      · by_cases e : o.dst = some t
        · have hlt : t < a.tmps.size := by rw [inv.tsize]; exact hdt i o t hio e
          have : (a.put o.dst v).tmps.getD t undef = v := by
            simp [Act.put, e, hlt]
          rw [this]
          exact hS t e
        · rw [hkeep t e]
          refine hst t _ W W' (inv.good t fun k p hp hd => ?_) hR
          have := ht k p hp hd
          have hki : i ≠ k := by
            rintro rfl
            rw [hio] at hp
            injection hp with hp
            subst hp
            exact e hd
          simpa [Array.getD_eq_getD_getElem?, Array.getElem?_setIfInBounds_ne hki] using this
      · by_cases e : o.dst = some t
        · have := ht i o hio e
          rw [hset, if_pos rfl] at this
          cases this
        · rw [hkeep t e]
          refine inv.keep t fun k p hp hd => ?_
          have := ht k p hp hd
          rw [hset] at this
          split at this
          · cases this
          · exact this
      · rw [hset, if_neg (by omega)]
        exact inv.tail k hk hks
    have hob' := hob i o l hin hio hl a W inv.defers inv.tsize inv.rel hgood
    unfold wpOp
    simp only [hio]
    by_cases hw : Region.wanted o (yielded ops a.tmps) = true
    · rw [if_pos hw] at hob' ⊢
      exact .inl (hob' _ fun v W' hR hS => ih _ _ _ (hnext v W' hR hS) hcnt')
    · rw [if_neg hw] at hob' ⊢
      exact ih _ _ _ (hnext undef W (hrefl W) hob') hcnt'

/-- What each slot holds behind the first operations: what is listed, or what it held. -/
def ValOf (vs : List (Tmp × Value)) (tm : Array Value) (t : Tmp) (v : Value) (_ : World) : Prop := match vs.lookup t with | some x => v = x | none => v = tm.getD t undef
/-- The slots with these values. -/
def filled (vs : List (Tmp × Value)) (tm : Array Value) : Array Value := vs.foldl (fun a p => a.setIfInBounds p.1 p.2) tm
theorem filled_size (vs : List (Tmp × Value)) : ∀ tm : Array Value, (filled vs tm).size = tm.size := by
  induction vs with
  | nil => intro tm; rfl
  | cons p r ih => intro tm; show (filled r (tm.setIfInBounds p.1 p.2)).size = _; rw [ih]; simp
theorem filled_none (vs : List (Tmp × Value)) (t : Tmp) (h : vs.lookup t = none) : ∀ tm : Array Value, (filled vs tm)[t]? = tm[t]? := by
  induction vs with
  | nil => intro tm; rfl
  | cons p r ih =>
    intro tm
    obtain ⟨k, x⟩ := p
    simp only [List.lookup_cons] at h
    split at h
    · cases h
    · rename_i hk
      have hne : t ≠ k := by simpa using hk
      show (filled r (tm.setIfInBounds k x))[t]? = _
      rw [ih h, Array.getElem?_setIfInBounds_ne (Ne.symm hne)]
theorem filled_some (vs : List (Tmp × Value)) (hnd : (vs.map (·.1)).Nodup) (t : Tmp) (x : Value) (h : vs.lookup t = some x) : ∀ tm : Array Value, t < tm.size → (filled vs tm)[t]? = some x := by
  induction vs with
  | nil => cases h
  | cons p r ih =>
    intro tm ht
    obtain ⟨k, y⟩ := p
    simp only [List.map_cons, List.nodup_cons] at hnd
    simp only [List.lookup_cons] at h
    show (filled r (tm.setIfInBounds k y))[t]? = _
    split at h
    · rename_i hk
      obtain rfl : t = k := by simpa using hk
      obtain rfl : y = x := by simpa using h
      have hno : r.lookup t = none := by
        rw [List.lookup_eq_none_iff]
        intro q hq
        simp only [beq_eq_false_iff_ne, ne_eq, bne_iff_ne]
        rintro rfl
        exact hnd.1 (List.mem_map.2 ⟨q, hq, rfl⟩)
      rw [filled_none r t hno]
      simp [ht]
    · exact ih hnd.2 h _ (by simpa using ht)
def PreAll (P : Program) (ops : Array Oper) (Q : Exit → Act → World → Prop) (R : World → World → Prop) (S : Tmp → Value → World → Prop) (a0 : Act) (w0 : World) : List Oper → List (List Tmp) → Prop
  | o :: r, l :: ls => UpOb P ops Q R S a0 w0 o l ∧ PreAll P ops Q R S a0 w0 r ls
  | _, _ => True
theorem PreAll.get {R : World → World → Prop} {S : Tmp → Value → World → Prop} {a0 : Act} {w0 : World} : ∀ (l : List Oper) (ls : List (List Tmp)), PreAll P ops Q R S a0 w0 l ls → ∀ (j : Nat) (o : Oper) (k : List Tmp), l[j]? = some o → ls[j]? = some k → UpOb P ops Q R S a0 w0 o k
  | [], _, _, j, o, k, h, _ => by simp at h
  | _ :: _, [], _, j, o, k, _, h => by simp at h
  | x :: r, y :: ls, h, 0, o, k, ho, hk => by
    simp only [List.getElem?_cons_zero, Option.some.injEq] at ho hk
    subst ho; subst hk
    exact h.1
  | x :: r, y :: ls, h, j + 1, o, k, ho, hk => PreAll.get r ls h.2 j o k (by simpa using ho) (by simpa using hk)

/-- A region that draws its order: its first n operations in any order, each yielding the value that is listed for it; behind them the rest, one behind the other, by the walk of a plain list. -/
theorem wp_region_pre {id : Nat} {l : List Oper} (hm : P.follows .mixedOrders = true) {R : World → World → Prop} (hrefl : ∀ a, R a a) (htrans : ∀ a b c, R a b → R b c → R a c)
    (n : Nat) (looks : List (List Tmp)) (vs : List (Tmp × Value)) {tm : Array Value} {df : List Deferred} {w : World} (N : Nat) (hN : tm.size = N) (hn : n ≤ l.length)
    (hchk : preOk n l.toArray looks = true) (hd : (l.all fun o => match o.dst with | some d => decide (d < N) | none => true) = true) (hnd : (vs.map (·.1)).Nodup)
    (hvs : (vs.all fun p => (l.take n).any fun o => o.dst == some p.1) = true) (hvt : ((l.take n).all fun o => match o.dst with | some d => (vs.map (·.1)).contains d | none => true) = true)
    (hob : PreAll P l.toArray Q R (ValOf vs tm) ⟨tm, df⟩ w.drew (l.take n) looks)
    (hfin : ∀ W, R w.drew W → wpList P l.toArray Q (l.drop n) ⟨filled vs tm, df⟩ W) : (Code.region id l.toArray true).wp P Q ⟨tm, df⟩ w := by
  have htk : ∀ i o, i < n → l[i]? = some o → (l.take n)[i]? = some o := by
    intro i o hi ho
    rw [List.getElem?_take, if_pos hi]; exact ho
  have hkey : ∀ t x, vs.lookup t = some x → ∃ i o, i < n ∧ l[i]? = some o ∧ o.dst = some t := by
    intro t x hs
    have hmem : (t, x) ∈ vs := by
      obtain ⟨l1, l2, hl, _⟩ := List.lookup_eq_some_iff.1 hs
      rw [hl]; simp
    obtain ⟨o, ho, hdst⟩ := List.any_eq_true.1 (List.all_eq_true.1 hvs _ hmem)
    obtain ⟨i, hi⟩ := List.getElem?_of_mem ho
    rw [List.getElem?_take] at hi
    split at hi
    · exact ⟨i, o, by assumption, hi, by simpa using hdst⟩
    · cases hi
  have hnokey : ∀ t, vs.lookup t = none → ∀ i o, i < n → l[i]? = some o → o.dst ≠ some t := by
    intro t hs i o hi ho hdst
    have := List.all_eq_true.1 hvt o (List.mem_of_getElem? (htk i o hi ho))
    simp only [hdst, List.contains_eq_mem, decide_eq_true_eq] at this
    obtain ⟨q, hq, hqt⟩ := List.mem_map.1 this
    rw [List.lookup_eq_none_iff] at hs
    have := hs q hq
    simp [hqt] at this
  refine wp_region_any hm ?_
  refine wpAny_pre (R := R) hrefl htrans (S := ValOf vs tm) (fun t v W W' h _ => h) n (by simpa using hn) hchk (a0 := ⟨tm, df⟩) (w0 := w.drew) ?_ ?_ ?_ l.toArray.size _ _ _ ?_ ?_
  · intro i o d ho hdst
    have := List.all_eq_true.1 hd o (List.mem_of_getElem? (by simpa using ho))
    simp only [hdst, decide_eq_true_eq] at this
    show d < tm.size
    rw [hN]; exact this
  · intro j o k hj ho hk
    exact PreAll.get _ looks hob j o k (htk j o hj (by simpa using ho)) hk
  · intro a W hdf hsz hR hgood hkeep
    have hsz' : a.tmps.size = tm.size := hsz
    have htm : a.tmps = filled vs tm := by
      apply Array.ext_getElem?
      intro t
      by_cases ht : t < tm.size
      · have hget : a.tmps[t]? = some (a.tmps.getD t undef) := by simp [hsz', ht]
        rw [hget]
        cases hs : vs.lookup t with
        | none =>
          have := hkeep t fun i o hi ho => hnokey t hs i o hi (by simpa using ho)
          rw [this, filled_none vs t hs]
          show some (tm.getD t undef) = _
          simp [ht]
        | some x =>
          obtain ⟨i, o, hi, ho, hdst⟩ := hkey t x hs
          have h1 := hgood t fun k p hk hp hpd => by
            have hil : i < l.toArray.size := by have := (List.getElem?_eq_some_iff.1 ho).1; simpa using this
            have h := List.all_eq_true.1 hchk i (by simpa using hil)
            have ho' : l.toArray[i]? = some o := by simpa using ho
            simp only [ho', Bool.and_eq_true, if_pos hi] at h
            have h' := h.2
            cases hlk : looks[i]? with
            | none => simp [hlk] at h'
            | some lk =>
              simp only [hlk, Bool.and_eq_true] at h'
              have hks : k < l.toArray.size := (Array.getElem?_eq_some_iff.1 hp).1
              have := List.all_eq_true.1 h'.2 k (by simpa using hks)
              simp only [hp, hdst, hpd, Bool.or_eq_true, beq_iff_eq, bne_self_eq_false, Bool.false_eq_true, or_false] at this
              omega
          unfold ValOf at h1
          rw [hs] at h1
          rw [filled_some vs hnd t x hs tm ht]
          exact congrArg some h1
      · rw [Array.getElem?_eq_none (by omega), Array.getElem?_eq_none (by rw [filled_size]; omega)]
    have hact : a = ⟨filled vs tm, df⟩ := by
      obtain ⟨tp, dfs⟩ := a
      simp only at htm hdf
      rw [htm, hdf]
    rw [hact]
    exact hfin W hR
  · refine ⟨rfl, rfl, hrefl _, by simp, fun t ht => ?_, fun t _ => rfl, fun i _ hi => ?_⟩
    · unfold ValOf
      cases hs : vs.lookup t with
      | none => rfl
      | some x =>
        exfalso
        obtain ⟨i, o, hi, ho, hdst⟩ := hkey t x hs
        have hil : i < l.length := (List.getElem?_eq_some_iff.1 ho).1
        have := ht i o (by simpa using ho) hdst
        simp [Array.getD, hil] at this
    · have hil : i < l.length := by simpa using hi
      simp [Array.getD, hil]
  · refine Nat.le_trans List.countP_le_length ?_
    simp
end
end Go.Proofs.YtcbfnbmkogeehaaDoor
