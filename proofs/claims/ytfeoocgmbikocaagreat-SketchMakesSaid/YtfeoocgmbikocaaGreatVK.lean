/- An evaluator for calls whose arguments are known: a region that draws its order. -/
import Derived.Test.YtfeoocgmbikocaaGreatVJ
namespace Go.Proofs.YtfeoocgmbikocaaGreat.Ev
open Go.RowKit

/-! Equality of values. -/
def veqL (q : Value → Value → Bool) : List Value → List Value → Bool
  | [], [] => true
  | x :: l, y :: m => q x y && veqL q l m
  | _, _ => false

def veq : Nat → Value → Value → Bool
  | 0, _, _ => false
  | n + 1, x, y => match x, y with
    | .bool a, .bool b => a == b
    | .int k a, .int l b => decide (k = l) && decide (a = b)
    | .string a, .string b => a.data.toList == b.data.toList
    | .pointer a, .pointer b => decide (a = b)
    | .slice a n c, .slice b m d => decide (a = b) && Nat.beq n m && Nat.beq c d
    | .map a, .map b => decide (a = b)
    | .nilFunc, .nilFunc => true
    | .nilIface, .nilIface => true
    | .func f a b, .func g c d => decide (f = g) && veqL (veq n) a.toList c.toList && veqL (veq n) b.toList d.toList
    | .iface t v, .iface u w => Nat.beq t u && veq n v w
    | .agg a, .agg b => veqL (veq n) a.toList b.toList
    | .tuple a, .tuple b => veqL (veq n) a.toList b.toList
    | _, _ => false

theorem veqL_eq {q : Value → Value → Bool} (hq : ∀ x y, q x y = true → x = y) : ∀ (l m : List Value), veqL q l m = true → l = m
  | [], [], _ => rfl
  | x :: l, y :: m, h => by
    simp only [veqL, Bool.and_eq_true] at h
    rw [hq x y h.1, veqL_eq hq l m h.2]
  | [], _ :: _, h => by simp [veqL] at h
  | _ :: _, [], h => by simp [veqL] at h

theorem arr_of_list {a b : Array Value} (h : a.toList = b.toList) : a = b := Array.ext' h

theorem veq_eq : ∀ (n : Nat) (x y : Value), veq n x y = true → x = y
  | 0, x, y, h => by simp [veq] at h
  | n + 1, x, y, h => by
    have ih := veq_eq n
    cases x <;> cases y <;> first
      | (simp [veq] at h; done)
      | rfl
      | (simp [veq] at h; simp [h]; done)
      | (simp only [veq, Bool.and_eq_true, decide_eq_true_eq] at h
         first
           | (obtain ⟨⟨h1, h2⟩, h3⟩ := h; have h2 := arr_of_list (veqL_eq ih _ _ h2); have h3 := arr_of_list (veqL_eq ih _ _ h3); subst h1; subst h2; subst h3; rfl)
           | (obtain ⟨⟨h1, h2⟩, h3⟩ := h; have h2 := Nat.eq_of_beq_eq_true h2; have h3 := Nat.eq_of_beq_eq_true h3; subst h1; subst h2; subst h3; rfl)
           | (obtain ⟨h1, h2⟩ := h; have h1 := Nat.eq_of_beq_eq_true h1; have h2 := ih _ _ h2; subst h1; subst h2; rfl)
           | (have h := arr_of_list (veqL_eq ih _ _ h); subst h; rfl))
      | (rename_i a b
         simp only [veq, beq_iff_eq] at h
         obtain ⟨⟨a⟩⟩ := a
         obtain ⟨⟨b⟩⟩ := b
         simp only at h
         subst h; rfl)

/-! Sets of operations as numbers. -/
def depMask (o : Oper) : Nat := o.after.toList.foldl (fun m e => bif Region.binds .any e then m ||| 2 ^ e.on else m) 0

theorem or_bit (m i p : Nat) : (m ||| 2 ^ i).testBit p = (m.testBit p || decide (i = p)) := by
  rw [Nat.testBit_or, Nat.testBit_two_pow]

theorem foldMask_bit : ∀ (l : List Edge) (m p : Nat), (l.foldl (fun m e => bif Region.binds .any e then m ||| 2 ^ e.on else m) m).testBit p = true ↔ m.testBit p = true ∨ ∃ e ∈ l, Region.binds .any e = true ∧ e.on = p
  | [], m, p => by simp
  | e :: l, m, p => by
    simp only [List.foldl_cons]
    rw [foldMask_bit l]
    cases hb : Region.binds .any e with
    | true =>
      simp only [cond_true, or_bit, Bool.or_eq_true, decide_eq_true_eq]
      constructor
      · rintro ((h | h) | ⟨x, h1, h2⟩)
        · exact .inl h
        · exact .inr ⟨e, List.mem_cons_self .., hb, h⟩
        · exact .inr ⟨x, List.mem_cons_of_mem _ h1, h2⟩
      · rintro (h | ⟨x, h1, h2, h3⟩)
        · exact .inl (.inl h)
        · rcases List.mem_cons.1 h1 with rfl | h1
          · exact .inl (.inr h3)
          · exact .inr ⟨x, h1, h2, h3⟩
    | false =>
      simp only [cond_false]
      constructor
      · rintro (h | ⟨x, h1, h2⟩)
        · exact .inl h
        · exact .inr ⟨x, List.mem_cons_of_mem _ h1, h2⟩
      · rintro (h | ⟨x, h1, h2, h3⟩)
        · exact .inl h
        · rcases List.mem_cons.1 h1 with rfl | h1
          · rw [hb] at h2; cases h2
          · exact .inr ⟨x, h1, h2, h3⟩

theorem depMask_bit {o : Oper} {p : Nat} : (depMask o).testBit p = true ↔ ∃ e ∈ o.after, Region.binds .any e = true ∧ e.on = p := by
  unfold depMask
  rw [foldMask_bit]
  simp

def sub (a b : Nat) : Bool := Nat.beq (a &&& b) a
theorem sub_bit {a b p : Nat} (h : sub a b = true) (hp : a.testBit p = true) : b.testBit p = true := by
  have := Nat.eq_of_beq_eq_true h
  rw [← this, Nat.testBit_and, Bool.and_eq_true] at hp
  exact hp.2
theorem sub_of {a b : Nat} (h : ∀ p, a.testBit p = true → b.testBit p = true) : sub a b = true := by
  have : a &&& b = a := by
    apply Nat.eq_of_testBit_eq
    intro p
    rw [Nat.testBit_and]
    cases hp : a.testBit p with
    | false => rfl
    | true => rw [h p hp]; rfl
  simp [sub, this]

/-! What is asked of the region's own shape. -/
structure Shape (ops : Array Oper) : Prop where
  looks : ∀ (j : Nat) (o : Oper), ops[j]? = some o → ∀ t ∈ o.looksAt ops, ∀ (i : Nat) (p : Oper), ops[i]? = some p → p.dst = some t → (depMask o).testBit i = true
  once : ∀ (i j : Nat) (p o : Oper) (d : Tmp), ops[i]? = some p → ops[j]? = some o → i ≠ j → o.dst = some d → p.dst ≠ some d
  back : ∀ (j : Nat) (o : Oper), ops[j]? = some o → ∀ i, (depMask o).testBit i = true → i < j

def shapeOk (ops : Array Oper) : Bool :=
  (List.range ops.size).all fun j => match ops[j]? with
    | some o =>
      ((o.looksAt ops).all fun t => (List.range ops.size).all fun i => match ops[i]? with
        | some p => p.dst != some t || (depMask o).testBit i
        | none => true) &&
      ((List.range ops.size).all fun i => Nat.beq i j || match ops[i]?, o.dst with
        | some p, some d => p.dst != some d
        | _, _ => true) &&
      Nat.blt (depMask o) (2 ^ j)
    | none => false

theorem shape_of {ops : Array Oper} (h : shapeOk ops = true) : Shape ops := by
  have key : ∀ (j : Nat) (o : Oper), ops[j]? = some o →
      (∀ t ∈ o.looksAt ops, ∀ (i : Nat) (p : Oper), ops[i]? = some p → p.dst = some t → (depMask o).testBit i = true) ∧
      (∀ (i : Nat) (p : Oper) (d : Tmp), ops[i]? = some p → i ≠ j → o.dst = some d → p.dst ≠ some d) ∧ depMask o < 2 ^ j := by
    intro j o ho
    have hj : j < ops.size := (Array.getElem?_eq_some_iff.1 ho).1
    have h0 := List.all_eq_true.1 h j (by simpa using hj)
    simp only [ho, Bool.and_eq_true] at h0
    obtain ⟨⟨h1, h2⟩, h3⟩ := h0
    refine ⟨fun t ht i p hp hd => ?_, fun i p d hp hne hd => ?_, by rwa [Nat.blt_eq] at h3⟩
    · have hi : i < ops.size := (Array.getElem?_eq_some_iff.1 hp).1
      have := List.all_eq_true.1 (List.all_eq_true.1 h1 t ht) i (by simpa using hi)
      simpa [hp, hd] using this
    · have hi : i < ops.size := (Array.getElem?_eq_some_iff.1 hp).1
      have := List.all_eq_true.1 h2 i (by simpa using hi)
      have hb : Nat.beq i j = false := by
        cases hq : Nat.beq i j with
        | false => rfl
        | true => exact absurd (Nat.eq_of_beq_eq_true hq) hne
      simpa [hp, hd, hb] using this
  refine ⟨fun j o ho => (key j o ho).1, fun i j p o d hp ho hne hd => (key j o ho).2.1 i p d hp hne hd, fun j o ho i hi => ?_⟩
  have hlt := (key j o ho).2.2
  rcases Nat.lt_or_ge i j with h1 | h1
  · exact h1
  · have : (depMask o).testBit i = false := Nat.testBit_lt_two_pow (Nat.lt_of_lt_of_le hlt (Nat.pow_le_pow_right (by omega) h1))
    rw [this] at hi; cases hi

/-! The evaluation. -/
def restGo (P : Program) (okS : TypeId → Bool) (ops : Array Oper) (nt : Nat) : List Nat → Nat → List Nat → Tr Value → AS → Option (Nat × List Nat × Tr Value × AS)
  | [], done, pend, fr, s => some (done, pend, fr, s)
  | i :: is, done, pend, fr, s => match ops[i]? with
    | none => none
    | some o =>
      bif !done.testBit i && !isEff o && sub (depMask o) done then
        match awanted ops fr.get o with
        | some false => match aput nt fr o.dst undef with
          | some fr' => restGo P okS ops nt is (done ||| 2 ^ i) (i :: pend) fr' s
          | none => none
        | some true =>
          bif known fr.get o then
            match aop P okS fr.get o s with
            | some (.val v s') => bif isAlloc o || Nat.beq s'.next s.next then
                (match aput nt fr o.dst v with
                | some fr' => restGo P okS ops nt is (done ||| 2 ^ i) (i :: pend) fr' (bif isAlloc o then s' else s)
                | none => none) else none
            | _ => none
          else none
        | none => none
      else restGo P okS ops nt is done pend fr s

/-- What reads is asked once more, where it may come later. -/
def recheck (P : Program) (okS : TypeId → Bool) (ops : Array Oper) (fr : Tr Value) (s : AS) : List Nat → Bool
  | [] => true
  | i :: is => (match ops[i]? with
    | none => false
    | some o => isAlloc o || isPure o || (match awanted ops fr.get o with
      | some false => true
      | some true => (match aop P okS fr.get o s with
        | some (.val v s') => Nat.beq s'.next s.next && (match o.dst with
          | some d => (match fr.get d with
            | some u => veq 12 v u
            | none => false)
          | none => true)
        | _ => false)
      | none => false)) && recheck P okS ops fr s is

def effs (ops : Array Oper) (done : Nat) : List Nat → List Nat
  | [] => []
  | i :: is => match ops[i]? with
    | none => effs ops done is
    | some o => bif !done.testBit i && sub (depMask o) done then i :: effs ops done is else effs ops done is

def drawGo (P : Program) (okS : TypeId → Bool) (call : CallF) (ops : Array Oper) (nt : Nat) : Nat → Nat → List Nat → Tr Value → AS → Option (Tr Value × AS)
  | 0, _, _, _, _ => none
  | n + 1, done, pend, fr, s =>
    match restGo P okS ops nt (List.range ops.size) done pend fr s with
    | none => none
    | some (done', pend1, fr1, s1) =>
      bif recheck P okS ops fr1 s1 pend1 then
        match effs ops done' (List.range ops.size) with
        | [] => some (fr1, s1)
        | [i] => match ops[i]? with
          | none => none
          | some o =>
            bif isEff o then
              match awanted ops fr1.get o with
              | some true => match astep P okS call fr1.get o s1 with
                | some (v, s2) => match aput nt fr1 o.dst v with
                  | some fr2 => drawGo P okS call ops nt n (done' ||| 2 ^ i) (pend1.filter fun p => !(depMask o).testBit p) fr2 s2
                  | none => none
                | none => none
              | some false => match aput nt fr1 o.dst undef with
                | some fr2 => drawGo P okS call ops nt n (done' ||| 2 ^ i) pend1 fr2 s1
                | none => none
              | none => none
            else none
        | _ => none
      else none

def clearF (nt : Nat) : List Oper → Tr Value → Option (Tr Value)
  | [], fr => some fr
  | o :: l, fr => match o.dst with
    | none => clearF nt l fr
    | some d => bif Nat.blt d nt && Nat.blt d lim then clearF nt l (fr.clr d) else none

def draw (P : Program) (okS : TypeId → Bool) : DrawF := fun call ops nt fr s =>
  bif shapeOk ops then
    match clearF nt ops.toList fr with
    | some fr' => drawGo P okS call ops nt (ops.size + 1) 0 [] fr' s
    | none => none
  else none

end Go.Proofs.YtfeoocgmbikocaaGreat.Ev
