/- An evaluator for calls whose arguments are known: its memory, and how its values lie in a world. -/
import Derived.Orders
import Derived.Below
import Derived.KernelRfl
import Derived.Laws.Sem
namespace Go.Proofs.YtfeoocgmbikocaaGreat.Ev

/-! A tree of values by numbers. -/
inductive Tr (α : Type) where
  | nil
  | node (l : Tr α) (v : Option α) (r : Tr α)

def Tr.left {α : Type} : Tr α → Tr α
  | .nil => .nil
  | .node l _ _ => l
def Tr.val {α : Type} : Tr α → Option α
  | .nil => none
  | .node _ v _ => v
def Tr.right {α : Type} : Tr α → Tr α
  | .nil => .nil
  | .node _ _ r => r

def Tr.get {α : Type} : Tr α → Nat → Option α
  | .nil, _ => none
  | .node _ v _, 0 => v
  | .node l _ r, n + 1 => bif Nat.beq (n % 2) 0 then l.get (n / 2) else r.get (n / 2)

def Tr.set {α : Type} (v : Option α) : Nat → Tr α → Nat → Tr α
  | 0, t, _ => t
  | _ + 1, t, 0 => .node t.left v t.right
  | f + 1, t, n + 1 =>
    bif Nat.beq (n % 2) 0 then .node (Tr.set v f t.left (n / 2)) t.val t.right
    else .node t.left t.val (Tr.set v f t.right (n / 2))

theorem Tr.get_zero {α : Type} (t : Tr α) : t.get 0 = t.val := by cases t <;> rfl
theorem Tr.get_succ {α : Type} (t : Tr α) (n : Nat) : t.get (n + 1) = bif Nat.beq (n % 2) 0 then t.left.get (n / 2) else t.right.get (n / 2) := by
  cases t
  · simp [Tr.get, Tr.left, Tr.right]
  · rfl

theorem Tr.get_set {α : Type} (v : Option α) : ∀ (f : Nat) (t : Tr α) (n m : Nat), n + 1 < 2 ^ f → (Tr.set v f t n).get m = if m = n then v else t.get m := by
  intro f
  induction f with
  | zero => intro t n m h; simp at h
  | succ f ih =>
    intro t n m h
    have h2 : 2 ^ (f + 1) = 2 * 2 ^ f := by rw [Nat.pow_succ]; omega
    cases n with
    | zero =>
      cases m with
      | zero => simp [Tr.set, Tr.get]
      | succ m => simp [Tr.set, Tr.get_succ, Tr.left, Tr.right]
    | succ n =>
      have hl : n / 2 + 1 < 2 ^ f := by omega
      by_cases hb : n % 2 = 0
      · have hb' : Nat.beq (n % 2) 0 = true := by simp [hb]
        simp only [Tr.set, hb', cond_true]
        cases m with
        | zero => simp [Tr.get_zero, Tr.val]
        | succ m =>
          by_cases hm : m % 2 = 0
          · have hm' : Nat.beq (m % 2) 0 = true := by simp [hm]
            simp only [Tr.get_succ, hm', cond_true, Tr.left]
            rw [ih _ _ _ hl]
            have : (m / 2 = n / 2) ↔ (m + 1 = n + 1) := by omega
            simp only [this]
          · have hm' : Nat.beq (m % 2) 0 = false := by
              cases hq : Nat.beq (m % 2) 0 with
              | false => rfl
              | true => exact absurd (Nat.eq_of_beq_eq_true hq) hm
            simp only [Tr.get_succ, hm', cond_false, Tr.right]
            rw [if_neg (by omega)]
      · have hb' : Nat.beq (n % 2) 0 = false := by
          cases hq : Nat.beq (n % 2) 0 with
          | false => rfl
          | true => exact absurd (Nat.eq_of_beq_eq_true hq) hb
        simp only [Tr.set, hb', cond_false]
        cases m with
        | zero => simp [Tr.get_zero, Tr.val]
        | succ m =>
          by_cases hm : m % 2 = 0
          · have hm' : Nat.beq (m % 2) 0 = true := by simp [hm]
            simp only [Tr.get_succ, hm', cond_true, Tr.left]
            rw [if_neg (by omega)]
          · have hm' : Nat.beq (m % 2) 0 = false := by
              cases hq : Nat.beq (m % 2) 0 with
              | false => rfl
              | true => exact absurd (Nat.eq_of_beq_eq_true hq) hm
            simp only [Tr.get_succ, hm', cond_false, Tr.right]
            rw [ih _ _ _ hl]
            have : (m / 2 = n / 2) ↔ (m + 1 = n + 1) := by omega
            simp only [this]

/-- Numbers that a tree takes. -/
def lim : Nat := 549755813888
def Tr.put {α : Type} (t : Tr α) (n : Nat) (v : α) : Tr α := Tr.set (some v) 40 t n
def Tr.clr {α : Type} (t : Tr α) (n : Nat) : Tr α := Tr.set none 40 t n
theorem Tr.get_put {α : Type} (t : Tr α) (n m : Nat) (v : α) (h : n < lim) : (t.put n v).get m = if m = n then some v else t.get m :=
  Tr.get_set (some v) 40 t n m (by unfold lim at h; omega)
theorem Tr.get_clr {α : Type} (t : Tr α) (n m : Nat) (h : n < lim) : (t.clr n).get m = if m = n then none else t.get m :=
  Tr.get_set none 40 t n m (by unfold lim at h; omega)

/-! Values that hold no place of memory. -/
def closed : Nat → Value → Bool
  | 0, _ => false
  | n + 1, v => match v with
    | .bool _ | .int _ _ | .string _ | .nilFunc | .nilIface => true
    | .float _ _ | .complex _ _ _ => true
    | .pointer a => a.isNone
    | .slice a _ _ => a.isNone
    | .map r => r.isNone
    | .chan r => r.isNone
    | .func fn f c => (match fn with | .yield _ => false | _ => true) && f.toList.all (closed n) && c.toList.all (closed n)
    | .iface _ v => closed n v
    | .agg cs => cs.toList.all (closed n)
    | .tuple cs => cs.toList.all (closed n)

/-- Where an abstract block lies: the real block, how far in, how many cells that has. -/
structure Pl where
  r : Nat
  d : Nat
  rs : Nat

abbrev J := Nat → Option Pl

/-- Capacities: told exactly, or at least so many, of elements of so many cells. -/
def big : Nat := 1267650600228229401496703205376
def CR (at_ rs c c' : Nat) : Prop := (c < big ∧ c' = c) ∨ (big ≤ c ∧ c % big ≤ c' ∧ at_ + c' * (c / big - 1) ≤ rs)

inductive VR (j : J) : Value → Value → Prop
  | same {v : Value} (n : Nat) (h : closed n v = true) : VR j v v
  | ptr {b o : Nat} {p : Pl} (h : j b = some p) : VR j (.pointer (some ⟨b, o, none⟩)) (.pointer (some ⟨p.r, p.d + o, none⟩))
  | slice {b o n c c' : Nat} {p : Pl} (h : j b = some p) (hc : CR (p.d + o) p.rs c c') :
      VR j (.slice (some ⟨b, o, none⟩) n c) (.slice (some ⟨p.r, p.d + o, none⟩) n c')
  | map {b : Nat} {p : Pl} (h : j b = some p) (hd : p.d = 0) : VR j (.map (some b)) (.map (some p.r))
  | func {fn : Fn} {f f' c c' : Array Value} (hy : ∀ l, fn ≠ .yield l) (hf : f.size = f'.size) (hc : c.size = c'.size)
      (f1 : ∀ i, VR j (f.getD i undef) (f'.getD i undef)) (c1 : ∀ i, VR j (c.getD i undef) (c'.getD i undef)) : VR j (.func fn f c) (.func fn f' c')
  | yield {b : Nat} {p : Pl} (h : j b = some p) : VR j (.func (.yield b) #[] #[]) (.func (.yield p.r) #[] #[])
  | iface {t : TypeId} {v v' : Value} (h : VR j v v') : VR j (.iface t v) (.iface t v')
  | agg {c c' : Array Value} (hc : c.size = c'.size) (c1 : ∀ i, VR j (c.getD i undef) (c'.getD i undef)) : VR j (.agg c) (.agg c')
  | tuple {c c' : Array Value} (hc : c.size = c'.size) (c1 : ∀ i, VR j (c.getD i undef) (c'.getD i undef)) : VR j (.tuple c) (.tuple c')

theorem VR.udf (j : J) : VR j undef undef := .same 1 (by rfl)

theorem arr_ext {c c' : Array Value} (hc : c.size = c'.size) (h : ∀ i, c'.getD i undef = c.getD i undef) : c' = c := by
  apply Array.ext hc.symm
  intro i h1 h2
  have := h i
  simpa [Array.getD, h1, h2] using this

theorem all_getD {c : Array Value} {n : Nat} (h : c.toList.all (closed n) = true) (i : Nat) (hi : i < c.size) : closed n (c.getD i undef) = true := by
  have := List.all_eq_true.1 h (c.getD i undef) (by simp [Array.getD, hi])
  exact this

theorem VR.closed_eq {j : J} {v v' : Value} (h : VR j v v') : ∀ n, closed n v = true → v' = v := by
  induction h with
  | same n h => intros; rfl
  | ptr h => intro n hn; cases n <;> simp [closed] at hn
  | slice h hc => intro n hn; cases n <;> simp [closed] at hn
  | map h hd => intro n hn; cases n <;> simp [closed] at hn
  | yield h => intro n hn; cases n <;> simp [closed] at hn
  | @func fn f f' c c' hy hf hc f1 c1 ihf ihc =>
    intro n hn
    cases n with
    | zero => simp [closed] at hn
    | succ n =>
      simp only [closed, Bool.and_eq_true] at hn
      have e1 : f' = f := arr_ext hf fun i => by
        by_cases hi : i < f.size
        · exact ihf i n (all_getD hn.1.2 i hi)
        · simp [Array.getD, hi, hf ▸ hi]
      have e2 : c' = c := arr_ext hc fun i => by
        by_cases hi : i < c.size
        · exact ihc i n (all_getD hn.2 i hi)
        · simp [Array.getD, hi, hc ▸ hi]
      rw [e1, e2]
  | iface h ih =>
    intro n hn
    cases n with
    | zero => simp [closed] at hn
    | succ n => rw [ih n (by simpa [closed] using hn)]
  | @agg c c' hc c1 ihc =>
    intro n hn
    cases n with
    | zero => simp [closed] at hn
    | succ n =>
      simp only [closed] at hn
      rw [arr_ext hc fun i => by
        by_cases hi : i < c.size
        · exact ihc i n (all_getD hn i hi)
        · simp [Array.getD, hi, hc ▸ hi]]
  | @tuple c c' hc c1 ihc =>
    intro n hn
    cases n with
    | zero => simp [closed] at hn
    | succ n =>
      simp only [closed] at hn
      rw [arr_ext hc fun i => by
        by_cases hi : i < c.size
        · exact ihc i n (all_getD hn i hi)
        · simp [Array.getD, hi, hc ▸ hi]]

/-- The blocks that are known stay where they lie. -/
def J.le (j j' : J) : Prop := ∀ b p, j b = some p → j' b = some p
theorem J.le_refl (j : J) : j.le j := fun _ _ h => h
theorem J.le_trans {a b c : J} (h : a.le b) (k : b.le c) : a.le c := fun _ _ x => k _ _ (h _ _ x)

theorem VR.mono {j j' : J} (hj : j.le j') {v v' : Value} (h : VR j v v') : VR j' v v' := by
  induction h with
  | same n h => exact .same n h
  | ptr h => exact .ptr (hj _ _ h)
  | slice h hc => exact .slice (hj _ _ h) hc
  | map h hd => exact .map (hj _ _ h) hd
  | yield h => exact .yield (hj _ _ h)
  | func hy hf hc _ _ ihf ihc => exact .func hy hf hc ihf ihc
  | iface _ ih => exact .iface ih
  | agg hc _ ih => exact .agg hc ih
  | tuple hc _ ih => exact .tuple hc ih

/-- Rows of values. -/
def VRs (j : J) (c c' : Array Value) : Prop := c.size = c'.size ∧ ∀ i, VR j (c.getD i undef) (c'.getD i undef)
theorem VRs.mono {j j' : J} (hj : j.le j') {c c' : Array Value} (h : VRs j c c') : VRs j' c c' := ⟨h.1, fun i => (h.2 i).mono hj⟩
theorem VRs.agg {j : J} {c c' : Array Value} (h : VRs j c c') : VR j (.agg c) (.agg c') := .agg h.1 h.2

theorem VR.oneCell {j : J} {v v' : Value} (h : VR j v v') (h1 : ∀ c, v ≠ .agg c) : (∀ c, v' ≠ .agg c) := by
  cases h with
  | same n h => exact h1
  | agg hc c1 => exact absurd rfl (h1 _)
  | _ => intro c hc; cases hc

theorem VR.cells {j : J} {v v' : Value} (h : VR j v v') : VRs j v.cells v'.cells := by
  by_cases h1 : ∃ c, v = .agg c
  · obtain ⟨c, rfl⟩ := h1
    cases h with
    | same n h =>
      refine ⟨rfl, fun i => ?_⟩
      cases n with
      | zero => simp [closed] at h
      | succ n =>
        by_cases hi : i < c.size
        · exact .same n (all_getD (c := c) (by rw [closed] at h; exact h) i hi)
        · simp only [Value.cells]; rw [show c.getD i undef = undef by simp [Array.getD, hi]]; exact .udf j
    | agg hc c1 => exact ⟨hc, c1⟩
  · have hv : v.cells = #[v] := by
      unfold Value.cells; split
      · exact absurd ⟨_, rfl⟩ h1
      · rfl
    have h2 := h.oneCell (fun c hc => h1 ⟨c, hc⟩)
    have hv' : v'.cells = #[v'] := by
      unfold Value.cells; split
      · exact absurd rfl (h2 _)
      · rfl
    rw [hv, hv']
    refine ⟨rfl, fun i => ?_⟩
    cases i with
    | zero => simpa [Array.getD] using h
    | succ i => simp only [Array.getD]; simp; exact .udf j

end Go.Proofs.YtfeoocgmbikocaaGreat.Ev
