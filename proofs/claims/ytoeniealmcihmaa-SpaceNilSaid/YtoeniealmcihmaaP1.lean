/- Rows of Booleans: how many stand true at the beginning; the longest runs; runs turned. -/
import Derived.IntWalk
namespace Go.Proofs.Ytoeniealmcihmaa

/-- How many are true ahead of the first that isn't. -/
def hd : List Bool → Nat
  | [] => 0
  | true :: l => hd l + 1
  | false :: _ => 0
theorem hd_le (l : List Bool) : hd l ≤ l.length := by
  induction l with
  | nil => simp [hd]
  | cons b l ih => cases b <;> simp [hd]; omega
theorem hd_true (l : List Bool) (i : Nat) (h : i < hd l) : l[i]? = some true := by
  induction l generalizing i with
  | nil => simp [hd] at h
  | cons b l ih =>
    cases b
    · simp [hd] at h
    · cases i with
      | zero => rfl
      | succ i => simp [hd] at h; simpa using ih i h
theorem hd_end (l : List Bool) (h : hd l < l.length) : l[hd l]? = some false := by
  induction l with
  | nil => simp [hd] at h
  | cons b l ih =>
    cases b
    · rfl
    · simp [hd] at h ⊢; exact ih h
theorem hd_of (l : List Bool) (k : Nat) (h1 : ∀ i, i < k → l[i]? = some true) (h2 : k ≤ l.length) (h3 : k < l.length → l[k]? = some false) : hd l = k := by
  rcases Nat.lt_trichotomy (hd l) k with h | h | h
  · have := hd_end l (by omega)
    rw [h1 _ h] at this; cases this
  · exact h
  · have := hd_true l k h
    rw [h3 (by have := hd_le l; omega)] at this; cases this

/-- The longest runs of a row from place i on: where, and how long. -/
def runs (f : List Bool) (i : Nat) : List (Nat × Nat) :=
  if _h : i < f.length then
    (if 0 < hd (f.drop i) then [(i, hd (f.drop i))] else []) ++ runs f (i + hd (f.drop i) + 1)
  else []
termination_by f.length - i
theorem runs_end (f : List Bool) (i : Nat) (h : f.length ≤ i) : runs f i = [] := by
  rw [runs, dif_neg (by omega)]
theorem runs_go (f : List Bool) (i : Nat) (h : i < f.length) (h0 : hd (f.drop i) = 0) : runs f i = runs f (i + hd (f.drop i) + 1) := by
  rw [runs, dif_pos h, if_neg (by omega), List.nil_append]
theorem runs_yield (f : List Bool) (i : Nat) (h : i < f.length) (h0 : 0 < hd (f.drop i)) : runs f i = (i, hd (f.drop i)) :: runs f (i + hd (f.drop i) + 1) := by
  rw [runs, dif_pos h, if_pos h0, List.singleton_append]
/-- What a run is: true all the way, within the row, and none ahead of it from i on. -/
theorem runs_mem (f : List Bool) (i : Nat) (hi : i = 0 ∨ f[i - 1]? = some false ∨ f.length < i) (r : Nat × Nat) (h : r ∈ runs f i) :
    i ≤ r.1 ∧ 0 < r.2 ∧ r.1 + r.2 ≤ f.length ∧ (∀ j, j < r.2 → f[r.1 + j]? = some true) ∧ (r.1 = 0 ∨ f[r.1 - 1]? = some false) := by
  induction hn : f.length - i using Nat.strongRecOn generalizing i with
  | _ n ih =>
    by_cases hlt : i < f.length
    · have hle := hd_le (f.drop i)
      rw [List.length_drop] at hle
      have hnext : (i + hd (f.drop i) + 1 = 0 ∨ f[i + hd (f.drop i) + 1 - 1]? = some false ∨ f.length < i + hd (f.drop i) + 1) := by
        by_cases he : i + hd (f.drop i) < f.length
        · right; left
          have := hd_end (f.drop i) (by rw [List.length_drop]; omega)
          rw [List.getElem?_drop] at this
          simpa using this
        · right; right; omega
      have hrec := ih (f.length - (i + hd (f.drop i) + 1)) (by omega) (i + hd (f.drop i) + 1) hnext
      by_cases h0 : 0 < hd (f.drop i)
      · rw [runs_yield f i hlt h0] at h
        rcases List.mem_cons.1 h with rfl | h
        · refine ⟨Nat.le_refl _, h0, by simp only; omega, fun j hj => ?_, ?_⟩
          · have := hd_true (f.drop i) j hj
            rwa [List.getElem?_drop] at this
          · rcases hi with h | h | h
            · exact .inl h
            · exact .inr h
            · omega
        · obtain ⟨a, b⟩ := hrec h rfl
          exact ⟨by omega, b⟩
      · rw [runs_go f i hlt (by omega)] at h
        obtain ⟨a, b⟩ := hrec h rfl
        exact ⟨by omega, b⟩
    · rw [runs_end f i (by omega)] at h; cases h
/-- How many are told by the runs. -/
def told (l : List (Nat × Nat)) : Nat := (l.map Prod.snd).sum
theorem told_le (f : List Bool) (i : Nat) : told (runs f i) ≤ f.length - i := by
  induction hn : f.length - i using Nat.strongRecOn generalizing i with
  | _ n ih =>
    by_cases hlt : i < f.length
    · have hle := hd_le (f.drop i)
      rw [List.length_drop] at hle
      have hrec := ih (f.length - (i + hd (f.drop i) + 1)) (by omega) (i + hd (f.drop i) + 1) rfl
      by_cases h0 : 0 < hd (f.drop i)
      · rw [runs_yield f i hlt h0]; simp only [told, List.map_cons, List.sum_cons] at hrec ⊢; omega
      · rw [runs_go f i hlt (by omega)]; omega
    · rw [runs_end f i (by omega)]; simp [told]
theorem told_snoc (l : List (Nat × Nat)) (r : Nat × Nat) : told (l ++ [r]) = told l + r.2 := by simp [told]
theorem told_prefix {a b : List (Nat × Nat)} (h : a <+: b) : told a ≤ told b := by
  obtain ⟨c, rfl⟩ := h; simp [told]

/-- Some that are taken, and then some that are free. -/
def tf (p m : Nat) : List Bool := List.replicate p false ++ List.replicate m true
theorem tf_length (p m : Nat) : (tf p m).length = p + m := by simp [tf]
theorem tf_get (p m i : Nat) (h : i < p + m) : (tf p m)[i]? = some (decide (p ≤ i)) := by
  unfold tf
  by_cases hp : p ≤ i
  · rw [List.getElem?_append_right (by simpa using hp)]
    rw [decide_eq_true hp, List.getElem?_replicate, if_pos (by simp only [List.length_replicate]; omega)]
  · rw [List.getElem?_append_left (by simp only [List.length_replicate]; omega), decide_eq_false hp, List.getElem?_replicate, if_pos (by omega)]
theorem hd_tf0 (p m i : Nat) (h : i < p) : hd ((tf p m).drop i) = 0 := by
  refine hd_of _ 0 (by omega) (by omega) (fun _ => ?_)
  rw [List.getElem?_drop, tf_get _ _ _ (by omega), decide_eq_false (by omega)]
theorem hd_tf1 (p m : Nat) : hd ((tf p m).drop p) = m := by
  refine hd_of _ m (fun i hi => ?_) (by simp [tf_length]) (fun h => by simp [tf_length] at h)
  rw [List.getElem?_drop, tf_get _ _ _ (by omega), decide_eq_true (by omega)]
theorem runs_tf (p m i : Nat) (h : i ≤ p) : runs (tf p m) i = if m = 0 then [] else [(p, m)] := by
  induction hn : p - i generalizing i with
  | zero =>
    obtain rfl : i = p := by omega
    by_cases hm : m = 0
    · rw [runs_end _ _ (by rw [tf_length]; omega), if_pos hm]
    · rw [runs_yield _ _ (by rw [tf_length]; omega) (by rw [hd_tf1]; omega), hd_tf1, runs_end _ _ (by rw [tf_length]; omega), if_neg hm]
  | succ n ih =>
    rw [runs_go _ _ (by rw [tf_length]; omega) (hd_tf0 _ _ _ (by omega)), hd_tf0 _ _ _ (by omega)]
    exact ih (i + 1) (by omega) (by omega)
theorem told_tf (p m : Nat) : told (runs (tf p m) 0) = m := by
  rw [runs_tf _ _ _ (Nat.zero_le _)]
  split
  · next h => simp [told, h]
  · simp [told]

/-! Runs turned. -/
/-- Is this one of them, and is it true? -/
def hasB (fr : Int) (f : List Bool) (k : Int) : Bool := decide (fr ≤ k) && decide (k < fr + (f.length : Int))
def isB (fr : Int) (f : List Bool) (k : Int) : Bool := hasB fr f k && f.getD (k - fr).toNat false
/-- A run of A's sectors from the i-th on, m of them, made b: the error, and what is there then. -/
def trn (fr : Int) (b : Bool) (A : Int) : Nat → Nat → List Bool → Int × List Bool
  | 0, _, f => (0, f)
  | m + 1, i, f =>
    if hasB fr f (Go.IntKind.i64.wrap (A + i)) = false then (2, f)
    else if isB fr f (Go.IntKind.i64.wrap (A + i)) = b then (17, f)
    else trn fr b A m (i + 1) (f.set (Go.IntKind.i64.wrap (A + i) - fr).toNat b)
/-- A run. -/
def trun (fr : Int) (b : Bool) (r : Int × Int) (f : List Bool) : Int × List Bool := if r.2 < 1 then (2, f) else trn fr b r.1 r.2.toNat 0 f
/-- Many runs. -/
def truns (fr : Int) (b : Bool) : List (Int × Int) → List Bool → Int × List Bool
  | [], f => (0, f)
  | r :: l, f => if (trun fr b r f).1 = 0 then truns fr b l (trun fr b r f).2 else trun fr b r f
/-- What is there behind Claim, and Give. -/
def after (fr : Int) (b : Bool) (l : List (Int × Int)) (f : List Bool) : List Bool := if (truns fr b l f).1 = 0 then (truns fr b l f).2 else f

theorem trn_length (fr : Int) (b : Bool) (A : Int) (m i : Nat) (f : List Bool) : (trn fr b A m i f).2.length = f.length := by
  induction m generalizing i f with
  | zero => rfl
  | succ m ih => unfold trn; split; rfl; split; rfl; rw [ih]; simp
theorem trun_length (fr : Int) (b : Bool) (r : Int × Int) (f : List Bool) : (trun fr b r f).2.length = f.length := by
  unfold trun; split; rfl; exact trn_length _ _ _ _ _ _
theorem truns_length (fr : Int) (b : Bool) (l : List (Int × Int)) (f : List Bool) : (truns fr b l f).2.length = f.length := by
  induction l generalizing f with
  | nil => rfl
  | cons r l ih => unfold truns; split; rw [ih, trun_length]; exact trun_length _ _ _ _
theorem after_length (fr : Int) (b : Bool) (l : List (Int × Int)) (f : List Bool) : (after fr b l f).length = f.length := by
  unfold after; split; exact truns_length _ _ _ _; rfl
/-- Many runs, one more. -/
theorem truns_snoc (fr : Int) (b : Bool) (l : List (Int × Int)) (r : Int × Int) (f : List Bool) (h : (truns fr b l f).1 = 0) : truns fr b (l ++ [r]) f = trun fr b r (truns fr b l f).2 := by
  induction l generalizing f with
  | nil => 
    simp only [List.nil_append, truns]
    split
    · next h => exact Prod.ext h.symm rfl
    · rfl
  | cons q l ih =>
    unfold truns at h
    split at h
    · next h0 => simp only [List.cons_append]; rw [truns, if_pos h0, ih _ h, truns, if_pos h0]
    · next h0 => exact absurd h h0
theorem truns_stop (fr : Int) (b : Bool) (l : List (Int × Int)) (r : Int × Int) (k : List (Int × Int)) (f : List Bool) (h : (truns fr b l f).1 = 0) (h2 : (trun fr b r (truns fr b l f).2).1 ≠ 0) : truns fr b (l ++ r :: k) f = trun fr b r (truns fr b l f).2 := by
  induction l generalizing f with
  | nil => 
    simp only [truns] at h2
    simp only [List.nil_append, truns]; rw [if_neg h2]
  | cons q l ih =>
    unfold truns at h
    split at h
    · next h0 => simp only [List.cons_append]; rw [truns, if_pos h0]; rw [truns, if_pos h0] at h2; rw [ih _ h h2, truns, if_pos h0]
    · next h0 => exact absurd h h0

/-- A row with some places made b. -/
def paint (f : List Bool) (o n : Nat) (b : Bool) : List Bool := f.take o ++ (List.replicate (min n (f.length - o)) b ++ f.drop (o + n))
theorem paint_length (f : List Bool) (o n : Nat) (b : Bool) (h : o + n ≤ f.length) : (paint f o n b).length = f.length := by simp [paint]; omega
theorem paint_get (f : List Bool) (o n : Nat) (b : Bool) (h : o + n ≤ f.length) (i : Nat) : (paint f o n b)[i]? = if o ≤ i ∧ i < o + n then some b else f[i]? := by
  have hm : min n (f.length - o) = n := by omega
  unfold paint
  rw [hm]
  by_cases h1 : i < o
  · rw [if_neg (by omega), List.getElem?_append_left (by simp; omega), List.getElem?_take_of_lt h1]
  · rw [List.getElem?_append_right (by simp; omega)]
    have e : (f.take o).length = o := by simp; omega
    rw [e]
    by_cases h2 : i < o + n
    · rw [if_pos ⟨by omega, h2⟩, List.getElem?_append_left (by simp only [List.length_replicate]; omega), List.getElem?_replicate, if_pos (by omega)]
    · rw [if_neg (by omega), List.getElem?_append_right (by simp; omega), List.getElem?_drop]
      simp only [List.length_replicate]
      congr 1; omega
theorem trn_paint (fr : Int) (b : Bool) (o n : Nat) (f : List Bool) (hfr : -9223372036854775808 ≤ fr) (hend : fr + (f.length : Int) ≤ 9223372036854775807) (hf : o + n ≤ f.length) (h : ∀ i, o ≤ i → i < o + n → f[i]? = some (!b))
    (m i : Nat) (him : i + m = n) (g : List Bool) (hg : g = paint f o i b) : trn fr b (fr + o) m i g = (0, paint f o n b) := by
  induction m generalizing i g with
  | zero => obtain rfl : i = n := by omega
            rw [hg]; rfl
  | succ m ih =>
    have hw : Go.IntKind.i64.wrap (fr + (o : Int) + (i : Int)) = fr + (o : Int) + (i : Int) := by rw [IntWalk.i64_in]; omega
    have hgl : g.length = f.length := by rw [hg, paint_length]; omega
    have hidx : (fr + (o : Int) + (i : Int) - fr).toNat = o + i := by omega
    have hget : g[o + i]? = some (!b) := by rw [hg, paint_get _ _ _ _ (by omega), if_neg (by omega)]; exact h _ (by omega) (by omega)
    have hhas : hasB fr g (fr + (o : Int) + (i : Int)) = true := by
      unfold hasB; rw [hgl]; simp; omega
    unfold trn
    rw [hw, hhas, if_neg (by decide)]
    have his : isB fr g (fr + (o : Int) + (i : Int)) = !b := by
      unfold isB; rw [hhas, hidx, List.getD_eq_getElem?_getD, hget]; rfl
    rw [his, if_neg (by cases b <;> decide), hidx]
    refine ih (i + 1) (by omega) _ ?_
    apply List.ext_getElem?
    intro j
    rw [List.getElem?_set, paint_get _ _ _ _ (by omega), hg]
    by_cases e : o + i = j
    · subst e
      rw [if_pos rfl, if_pos (by rw [paint_length _ _ _ _ (by omega)]; omega), if_pos (by omega)]
    · rw [if_neg e, paint_get _ _ _ _ (by omega)]
      by_cases h2 : o ≤ j ∧ j < o + i
      · rw [if_pos h2, if_pos ⟨h2.1, by omega⟩]
      · rw [if_neg h2, if_neg (by omega)]
theorem paint_zero (f : List Bool) (o : Nat) (b : Bool) : paint f o 0 b = f := by simp [paint]
/-- A run that is all the other way. -/
theorem trun_paint (fr : Int) (b : Bool) (o n : Nat) (f : List Bool) (hfr : -9223372036854775808 ≤ fr) (hend : fr + (f.length : Int) ≤ 9223372036854775807) (hf : o + n ≤ f.length) (hn : 0 < n) (h : ∀ i, o ≤ i → i < o + n → f[i]? = some (!b)) :
    trun fr b (fr + o, (n : Int)) f = (0, paint f o n b) := by
  unfold trun
  rw [if_neg (by simp only; omega)]
  exact trn_paint fr b o n f hfr hend hf h _ 0 (by simp) f (paint_zero f o b).symm
/-- A run that begins the same way. -/
theorem trun_there (fr : Int) (b : Bool) (o n : Nat) (f : List Bool) (hfr : -9223372036854775808 ≤ fr) (hend : fr + (f.length : Int) ≤ 9223372036854775807) (hf : o + n ≤ f.length) (hn : 0 < n) (h : f[o]? = some b) :
    trun fr b (fr + o, (n : Int)) f = (17, f) := by
  unfold trun
  rw [if_neg (by simp only; omega)]
  obtain ⟨m, rfl⟩ : ∃ m, n = m + 1 := ⟨n - 1, by omega⟩
  have hw : Go.IntKind.i64.wrap (fr + (o : Int) + ((0 : Nat) : Int)) = fr + (o : Int) := by rw [IntWalk.i64_in] <;> omega
  simp only [Int.toNat_natCast]
  unfold trn
  have hhas : hasB fr f (fr + (o : Int)) = true := by unfold hasB; simp; omega
  have his : isB fr f (fr + (o : Int)) = b := by
    unfold isB; rw [hhas, show (fr + (o : Int) - fr).toNat = o by omega, List.getD_eq_getElem?_getD, h]; rfl
  rw [hw, hhas, if_neg (by decide), his, if_pos rfl]
end Go.Proofs.Ytoeniealmcihmaa
