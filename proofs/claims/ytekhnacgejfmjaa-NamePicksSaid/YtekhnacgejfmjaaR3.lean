/- A plain region's operations, one obligation each, as for a drawn one. -/
import Derived.Test.YtekhnacgejfmjaaNc
namespace Go.Proofs.Ytekhnacgejfmjaa
open Go.RowKit
namespace Seq
def listOk : List Oper → List (List Tmp) → Bool
  | o :: r, lk :: ls => (lk.all fun t => (o :: r).all fun p => p.dst != some t) && (r.all fun p => p.dst.isNone || p.dst != o.dst) && listOk r ls
  | [], _ => true
  | _, _ => false
section
variable {P : Program} {Q : Exit → Act → World → Prop}
theorem put_getD_ne (a : Act) (x : Option Tmp) (v : Value) (t : Tmp) (h : x ≠ some t) : (a.put x v).tmps.getD t undef = a.tmps.getD t undef := by
  cases x with
  | none => rfl
  | some d =>
    have : d ≠ t := fun e => h (by rw [e])
    simp only [Act.put, Array.getD_eq_getD_getElem?]
    rw [Array.getElem?_setIfInBounds_ne this]
theorem put_getD_eq (a : Act) (v : Value) (t : Tmp) (h : t < a.tmps.size) : (a.put (some t) v).tmps.getD t undef = v := by
  simp only [Act.put, Array.getD_eq_getD_getElem?]
  rw [Array.getElem?_setIfInBounds_self_of_lt h]; rfl
theorem put_size (a : Act) (x : Option Tmp) (v : Value) : (a.put x v).tmps.size = a.tmps.size := by
  cases x with
  | none => rfl
  | some d => simp [Act.put]
theorem put_def (a : Act) (x : Option Tmp) (v : Value) : (a.put x v).defers = a.defers := by cases x <;> rfl
theorem wpList_up {all : Array Oper} {R : World → World → Prop} (hrefl : ∀ a, R a a) (htrans : ∀ a b c, R a b → R b c → R a c) {S : Tmp → Value → World → Prop} (hst : ∀ t v W W', S t v W → R W W' → S t v W') {a0 : Act} {w0 : World}
    (hfin : ∀ a W, a.defers = a0.defers → a.tmps.size = a0.tmps.size → R w0 W → (∀ t, S t (a.tmps.getD t undef) W) → Q .normal a W) :
    ∀ (l : List Oper) (looks : List (List Tmp)) (i : Nat) (a : Act) (W : World), UpAll P all Q R S (fun _ _ => True) [] a0 w0 i l looks → listOk l looks = true → (∀ o ∈ l, ∀ d, o.dst = some d → d < a0.tmps.size) →
    a.defers = a0.defers → a.tmps.size = a0.tmps.size → R w0 W → (∀ t, (∀ o ∈ l, o.dst ≠ some t) → S t (a.tmps.getD t undef) W) → wpList P all Q l a W
  | [], _, _, a, W, _, _, _, h1, h2, h3, h4 => hfin a W h1 h2 h3 fun t => h4 t (fun o ho => by cases ho)
  | o :: r, [], _, _, _, _, hok, _, _, _, _, _ => by simp [listOk] at hok
  | o :: r, lk :: ls, i, a, W, hob, hok, hd, h1, h2, h3, h4 => by
    simp only [listOk, Bool.and_eq_true] at hok
    obtain ⟨⟨k1, k2⟩, k3⟩ := hok
    have hlk : ∀ t ∈ lk, S t (a.tmps.getD t undef) W := fun t ht => h4 t fun p hp => by
      have := List.all_eq_true.1 (List.all_eq_true.1 k1 t ht) p hp
      simpa using this
    have hnext : ∀ (v : Value) (W' : World), R W W' → (∀ d, o.dst = some d → S d v W') → wpList P all Q r (a.put o.dst v) W' := by
      intro v W' hR hS
      refine wpList_up hrefl htrans hst hfin r ls (i + 1) _ W' hob.2 k3 (fun p hp => hd p (List.mem_cons_of_mem _ hp)) ((put_def _ _ _).trans h1) ((put_size _ _ _).trans h2) (htrans _ _ _ h3 hR) fun t ht => ?_
      by_cases e : o.dst = some t
      · rw [e, put_getD_eq _ _ _ (by rw [h2]; exact hd o List.mem_cons_self t e)]
        exact hS t e
      · rw [put_getD_ne _ _ _ _ e]
        refine hst _ _ _ _ (h4 t fun p hp => ?_) hR
        rcases List.mem_cons.1 hp with rfl | hp
        · exact e
        · exact ht p hp
    have h := hob.1 a W 0 h1 h2 h3 hlk trivial (fun j hj => by simp at hj)
    by_cases hw : Region.wanted o (yielded all a.tmps) = true
    · rw [if_pos hw] at h
      exact wpList_wanted hw (h _ fun v W' hR hS _ => hnext v W' hR hS)
    · rw [if_neg hw] at h
      exact wpList_skip (by simpa using hw) (hnext undef W (hrefl W) h.1)
theorem mem_lookup {β : Type} : ∀ (sp : List (Tmp × β)) (t : Tmp) (s : β), sp.lookup t = some s → t ∈ sp.map (·.1)
  | [], _, _, h => by simp at h
  | (x, y) :: sp, t, s, h => by
    by_cases e : t = x
    · simp [e]
    · rw [List.lookup_cons, beq_false_of_ne e] at h
      exact List.mem_cons_of_mem _ (mem_lookup sp t s h)
theorem wp_region_line {id : Nat} {l : List Oper} {R : World → World → Prop} (hrefl : ∀ a, R a a) (htrans : ∀ a b c, R a b → R b c → R a c) (looks : List (List Tmp)) (sp : List (Tmp × Sp R)) {tm : Array Value} {df : List Deferred} {w : World} (n : Nat) (hn : tm.size = n)
    (hchk : listOk l looks = true) (hd : (l.all fun o => match o.dst with | some d => decide (d < n) | none => true) = true) (hsp : ((sp.map (·.1)).all fun t => l.any fun o => o.dst == some t) = true)
    (hob : UpAll P l.toArray Q R (SpOf sp ⟨tm, df⟩) (fun _ _ => True) [] ⟨tm, df⟩ w 0 l looks)
    (hfin : ∀ a W, a.defers = df → a.tmps.size = n → R w W → (∀ t, SpOf sp ⟨tm, df⟩ t (a.tmps.getD t undef) W) → Q .normal a W) : (Code.region id l.toArray false).wp P Q ⟨tm, df⟩ w := by
  refine wp_region_lit (wpList_up hrefl htrans (S := SpOf sp ⟨tm, df⟩) (fun t v W W' => SpOf.keep sp _ t v W W') (a0 := ⟨tm, df⟩) (w0 := w) (fun a W h1 h2 h3 h4 => hfin a W h1 (h2.trans hn) h3 h4) l looks 0 ⟨tm, df⟩ w hob hchk (fun o ho d hdst => ?_) rfl rfl (hrefl w) fun t ht => ?_)
  · have := List.all_eq_true.1 hd o ho
    simp only [hdst, decide_eq_true_eq] at this
    show d < tm.size
    rw [hn]; exact this
  · unfold SpOf
    cases hs : sp.lookup t with
    | none => rfl
    | some s =>
      exfalso
      have hm : t ∈ sp.map (·.1) := mem_lookup sp t s hs
      have := List.all_eq_true.1 hsp t hm
      obtain ⟨o, ho, he⟩ := List.any_eq_true.1 this
      exact ht o ho (by simpa using he)
theorem wpList_line {all : Array Oper} {l : List Oper} (i : Nat) {R : World → World → Prop} (hrefl : ∀ a, R a a) (htrans : ∀ a b c, R a b → R b c → R a c) (looks : List (List Tmp)) (sp : List (Tmp × Sp R)) {tm : Array Value} {df : List Deferred} {w : World} (n : Nat) (hn : tm.size = n)
    (hchk : listOk l looks = true) (hd : (l.all fun o => match o.dst with | some d => decide (d < n) | none => true) = true) (hsp : ((sp.map (·.1)).all fun t => l.any fun o => o.dst == some t) = true)
    (hob : UpAll P all Q R (SpOf sp ⟨tm, df⟩) (fun _ _ => True) [] ⟨tm, df⟩ w i l looks)
    (hfin : ∀ a W, a.defers = df → a.tmps.size = n → R w W → (∀ t, SpOf sp ⟨tm, df⟩ t (a.tmps.getD t undef) W) → Q .normal a W) : wpList P all Q l ⟨tm, df⟩ w := by
  refine wpList_up hrefl htrans (S := SpOf sp ⟨tm, df⟩) (fun t v W W' => SpOf.keep sp _ t v W W') (a0 := ⟨tm, df⟩) (w0 := w) (fun a W h1 h2 h3 h4 => hfin a W h1 (h2.trans hn) h3 h4) l looks i ⟨tm, df⟩ w hob hchk (fun o ho d hdst => ?_) rfl rfl (hrefl w) fun t ht => ?_
  · have := List.all_eq_true.1 hd o ho
    simp only [hdst, decide_eq_true_eq] at this
    show d < tm.size
    rw [hn]; exact this
  · unfold SpOf
    cases hs : sp.lookup t with
    | none => rfl
    | some s =>
      exfalso
      have hm : t ∈ sp.map (·.1) := mem_lookup sp t s hs
      have := List.all_eq_true.1 hsp t hm
      obtain ⟨o, ho, he⟩ := List.any_eq_true.1 this
      exact ht o ho (by simpa using he)
end
end Seq
end Go.Proofs.Ytekhnacgejfmjaa
