/- An evaluator for calls whose arguments are known: what is equal. -/
import Derived.Test.YtfeoocgmbikocaaGreatVA
import Derived.Laws.StructEq
namespace Go.Proofs.YtfeoocgmbikocaaGreat.Ev
open Go.RowKit

def aeqF (P : Program) (q : TypeId → Value → Value → Option Bool) (xs ys : Array Value) : List Field → Option Bool
  | [] => some true
  | f :: fs => bif f.name != "_" then
      (match apart P f.type xs f.offset, apart P f.type ys f.offset with
      | some a, some b => (match q f.type a b with
        | some true => aeqF P q xs ys fs
        | some false => some false
        | none => none)
      | _, _ => none)
    else aeqF P q xs ys fs

def aeqA (P : Program) (q : Value → Value → Option Bool) (e : TypeId) (size : Nat) (xs ys : Array Value) : Nat → Nat → Option Bool
  | 0, _ => some true
  | n + 1, i => match apart P e xs (i * size), apart P e ys (i * size) with
    | some a, some b => (match q a b with
      | some true => aeqA P q e size xs ys n (i + 1)
      | some false => some false
      | none => none)
    | _, _ => none

def aeq (P : Program) (okS : TypeId → Bool) : Nat → TypeId → Value → Value → Option Bool
  | 0, _, _, _ => none
  | d + 1, t, x, y =>
    match P.underlying t, x, y with
    | some .bool, .bool a, .bool b => some (a == b)
    | some (.int _), .int k a, .int k' b => bif decide (k = k') then some (a == b) else none
    | some .string, .string a, .string b => some (a.data.toList == b.data.toList)
    | some (.struct fs), .agg xs, .agg ys => bif okS t then aeqF P (aeq P okS d) xs ys fs.toList else none
    | some (.array n e), .agg xs, .agg ys => match P.info? e with
      | some i => aeqA P (aeq P okS d e) e i.size xs ys n 0
      | none => none
    | some (.slice _), .slice none _ _, .slice b _ _ => some b.isNone
    | some (.slice _), .slice (some _) _ _, .slice none _ _ => some false
    | some (.map _ _), .map none, .map b => some b.isNone
    | some (.map _ _), .map (some _), .map none => some false
    | some (.pointer _), .pointer none, .pointer b => some b.isNone
    | some (.pointer _), .pointer (some _), .pointer none => some false
    | some (.func _ _ _), .nilFunc, .nilFunc => some true
    | some (.func _ _ _), .nilFunc, .func _ _ _ => some false
    | some (.func _ _ _), .func _ _ _, .nilFunc => some false
    | some (.interface _), .nilIface, .nilIface => some true
    | some (.interface _), .nilIface, .iface _ _ => some false
    | some (.interface _), .iface _ _, .nilIface => some false
    | _, _, _ => none

theorem slice_any {j : J} {a : Option Addr} {n c : Nat} {v' : Value} (h : VR j (.slice a n c) v') : ∃ a' c', v' = .slice a' n c' ∧ a'.isNone = a.isNone := by
  cases h with
  | same n h => exact ⟨a, c, rfl, rfl⟩
  | slice hj hc => exact ⟨_, _, rfl, rfl⟩
theorem map_any {j : J} {a : Option Nat} {v' : Value} (h : VR j (.map a) v') : ∃ a', v' = .map a' ∧ a'.isNone = a.isNone := by
  cases h with
  | same n h => exact ⟨a, rfl, rfl⟩
  | map hj hd => exact ⟨_, rfl, rfl⟩
theorem ptr_any {j : J} {a : Option Addr} {v' : Value} (h : VR j (.pointer a) v') : ∃ a', v' = .pointer a' ∧ a'.isNone = a.isNone := by
  cases h with
  | same n h => exact ⟨a, rfl, rfl⟩
  | ptr hj => exact ⟨_, rfl, rfl⟩
theorem func_form {j : J} {fn : Fn} {f c : Array Value} {v' : Value} (h : VR j (.func fn f c) v') : ∃ fn' f' c', v' = .func fn' f' c' := by
  cases h with
  | same n h => exact ⟨_, _, _, rfl⟩
  | func hy hf hc f1 c1 => exact ⟨_, _, _, rfl⟩
  | yield h => exact ⟨_, _, _, rfl⟩
theorem yield_of {j : J} {b : Nat} {f c : Array Value} {v' : Value} (h : VR j (.func (.yield b) f c) v') : ∃ p, j b = some p ∧ v' = .func (.yield p.r) #[] #[] := by
  cases h with
  | same n h => cases n <;> simp [closed] at h
  | func hy hf hc f1 c1 => exact absurd rfl (hy _)
  | yield h => exact ⟨_, h, rfl⟩
theorem func_any {j : J} {fn : Fn} {f c : Array Value} {v' : Value} (hfn : ∀ l, fn ≠ .yield l) (h : VR j (.func fn f c) v') : ∃ f' c', v' = .func fn f' c' ∧ VRs j f f' ∧ VRs j c c' ∧ ∀ l, fn ≠ .yield l := by
  cases h with
  | yield h => exact absurd rfl (hfn _)
  | same n h =>
    refine ⟨f, c, rfl, ?_⟩
    cases n with
    | zero => simp [closed] at h
    | succ n =>
      simp only [closed, Bool.and_eq_true] at h
      refine ⟨⟨rfl, fun i => ?_⟩, ⟨rfl, fun i => ?_⟩, fun l hl => ?_⟩
      · by_cases hi : i < f.size
        · exact .same n (all_getD h.1.2 i hi)
        · rw [show f.getD i undef = undef by simp [Array.getD, hi]]; exact .udf j
      · by_cases hi : i < c.size
        · exact .same n (all_getD h.2 i hi)
        · rw [show c.getD i undef = undef by simp [Array.getD, hi]]; exact .udf j
      · exact hfn l hl
  | func hy hf hc f1 c1 => exact ⟨_, _, rfl, ⟨hf, f1⟩, ⟨hc, c1⟩, hy⟩
theorem iface_any {j : J} {t : TypeId} {v v' : Value} (h : VR j (.iface t v) v') : ∃ u, v' = .iface t u ∧ VR j v u := by
  cases h with
  | same n h =>
    cases n with
    | zero => simp [closed] at h
    | succ n => exact ⟨v, rfl, .same n (by simpa [closed] using h)⟩
  | iface h => exact ⟨_, rfl, h⟩

theorem neq_name {s : String} (h : (s != "_") = true) : s ≠ "_" := by simpa using h

theorem aeqF_ok {P : Program} {j : J} (d : Nat) (q : TypeId → Value → Value → Option Bool)
    (hq : ∀ t x y x' y' b w, q t x y = some b → VR j x x' → VR j y y' → (Op.equalIn d t x' y').run P w = .ok b w) {xs xs' ys ys' : Array Value} (hx : VRs j xs xs') (hy : VRs j ys ys') :
    ∀ (fs : List Field) (b : Bool) (w : World), aeqF P q xs ys fs = some b → (Op.eqFields d xs' ys' fs).run P w = .ok b w
  | [], b, w, h => by simp only [aeqF, Option.some.injEq] at h; subst h; rfl
  | f :: fs, b, w, h => by
    simp only [aeqF] at h
    simp only [Op.eqFields]
    cases hn : f.name != "_" with
    | false =>
      simp only [hn, cond_false] at h
      have : f.name = "_" := by simpa using hn
      rw [if_neg (by simp [this])]
      exact aeqF_ok d q hq hx hy fs b w h
    | true =>
      simp only [hn, cond_true] at h
      rw [if_pos (neq_name hn)]
      split at h
      · rename_i a c ha hc
        obtain ⟨a', g1, g2⟩ := apart_ok (w := w) hx ha
        obtain ⟨c', g3, g4⟩ := apart_ok (w := w) hy hc
        split at h
        · rename_i hqq
          have := hq _ _ _ _ _ _ w hqq g2 g4
          simp only [Sem.run_bind, g1, g3, this, Result.andThen_ok, Bool.not_true, Bool.false_eq_true, if_false]
          exact aeqF_ok d q hq hx hy fs b w h
        · rename_i hqq
          have := hq _ _ _ _ _ _ w hqq g2 g4
          simp only [Option.some.injEq] at h; subst h
          simp only [Sem.run_bind, g1, g3, this, Result.andThen_ok, Bool.not_false, if_true, Sem.run_pure]
        · cases h
      · cases h

theorem aeqA_ok {P : Program} {j : J} (d : Nat) (e : TypeId) (size : Nat) (q : Value → Value → Option Bool)
    (hq : ∀ x y x' y' b w, q x y = some b → VR j x x' → VR j y y' → (Op.equalIn d e x' y').run P w = .ok b w) {xs xs' ys ys' : Array Value} (hx : VRs j xs xs') (hy : VRs j ys ys') :
    ∀ (n i : Nat) (b : Bool) (w : World), aeqA P q e size xs ys n i = some b →
      (do
        let r ← forIn (List.range' i n) ((none, ()) : Option Bool × Unit) fun k _ => do
          let a ← part e xs' (k * size)
          let c ← part e ys' (k * size)
          let r ← Op.equalIn d e a c
          if (!r) = true then pure (.done (some false, ())) else pure (.yield (none, ()))
        match r.1 with
          | some r => pure r
          | none => pure true : Sem Bool).run P w = .ok b w
  | 0, i, b, w, h => by simp only [aeqA, Option.some.injEq] at h; subst h; simp
  | n + 1, i, b, w, h => by
    simp only [aeqA] at h
    split at h
    · rename_i a c ha hc
      obtain ⟨a', g1, g2⟩ := apart_ok (w := w) hx ha
      obtain ⟨c', g3, g4⟩ := apart_ok (w := w) hy hc
      split at h
      · rename_i hqq
        have h0 := hq _ _ _ _ _ w hqq g2 g4
        have ih := aeqA_ok d e size q hq hx hy n (i + 1) b w h
        simp only [Sem.run_bind] at ih
        simp only [List.range'_succ, List.forIn_cons, Sem.run_bind, g1, g3, h0, Result.andThen_ok, Bool.not_true, Bool.false_eq_true, if_false, Sem.run_pure]
        exact ih
      · rename_i hqq
        have h0 := hq _ _ _ _ _ w hqq g2 g4
        simp only [Option.some.injEq] at h; subst h
        simp only [List.range'_succ, List.forIn_cons, Sem.run_bind, g1, g3, h0, Result.andThen_ok, Bool.not_false, if_true, Sem.run_pure]
      · cases h
    · cases h

theorem aeq_ok {P : Program} {okS : TypeId → Bool} (hS : ∀ t, okS t = true → P.stoodInHeld t = false) {j : J} : ∀ (d : Nat) (t : TypeId) (x y x' y' : Value) (b : Bool) (w : World),
    aeq P okS d t x y = some b → VR j x x' → VR j y y' → (Op.equalIn d t x' y').run P w = .ok b w
  | 0, t, x, y, x', y', b, w, h, _, _ => by simp [aeq] at h
  | d + 1, t, x, y, x', y', b, w, h, hx, hy => by
    unfold aeq at h
    split at h
    · rename_i a c hu
      have := hx.closed_eq 1 rfl; subst this
      have := hy.closed_eq 1 rfl; subst this
      simp only [Option.some.injEq] at h; subst h
      simp [Op.equalIn, underlying_run hu]
    · rename_i k a k' c hu
      have := hx.closed_eq 1 rfl; subst this
      have := hy.closed_eq 1 rfl; subst this
      by_cases hk : k = k'
      · subst hk
        simp only [decide_true, cond_true, Option.some.injEq] at h; subst h
        simp [Op.equalIn, underlying_run hu]
      · simp [hk] at h
    · rename_i a c hu
      have := hx.closed_eq 1 rfl; subst this
      have := hy.closed_eq 1 rfl; subst this
      simp only [Option.some.injEq] at h; subst h
      simp only [Op.equalIn, Sem.run_bind, underlying_run hu, Result.andThen_ok, Sem.run_pure]
      rw [beq_toListBytes, ByteArray.toList_eq, ByteArray.toList_eq]
    · rename_i fs xs ys hu
      obtain ⟨xs', rfl, hxs⟩ := agg_of hx
      obtain ⟨ys', rfl, hys⟩ := agg_of hy
      cases ho : okS t with
      | false => simp [ho] at h
      | true =>
        simp only [ho, cond_true] at h
        have hfs : P.fieldsOf t = fs := by simp [Program.fieldsOf, hu]
        rw [run_equalIn_struct w d t xs' ys' (by rw [hfs]; exact hu) (hS t ho), hfs]
        exact aeqF_ok d _ (fun t x y x' y' b w h hx hy => aeq_ok hS d t x y x' y' b w h hx hy) hxs hys fs.toList b w h
    · rename_i n e xs ys hu
      obtain ⟨xs', rfl, hxs⟩ := agg_of hx
      obtain ⟨ys', rfl, hys⟩ := agg_of hy
      split at h
      · rename_i i hi
        have := aeqA_ok d e i.size _ (fun x y x' y' b w h hx hy => aeq_ok hS d e x y x' y' b w h hx hy) hxs hys n 0 b w h
        simp only [Op.equalIn, Sem.run_bind, underlying_run hu, Result.andThen_ok, sizeOf_run hi]
        rw [Std.Legacy.Range.forIn_eq_forIn_range']
        simp only [Sem.run_bind] at this ⊢
        rw [show (([0:n] : Std.Legacy.Range).size) = n by simp [Std.Legacy.Range.size]]
        refine Eq.trans (congr (congrArg Result.andThen ?_) ?_) this
        · rfl
        · funext a w'
          obtain ⟨o, u⟩ := a
          cases o <;> rfl
      · cases h
    · rename_i e n1 c1 a n2 c2 hu
      have := hx.closed_eq 1 rfl; subst this
      obtain ⟨a', c', rfl, hn⟩ := slice_any hy
      simp only [Option.some.injEq] at h; subst h
      simp [Op.equalIn, underlying_run hu, hn]
    · rename_i e a n1 c1 n2 c2 hu
      have := hy.closed_eq 1 rfl; subst this
      obtain ⟨a', c', rfl, hn⟩ := slice_any hx
      simp only [Option.some.injEq] at h; subst h
      cases a' with
      | none => simp at hn
      | some a' => simp [Op.equalIn, underlying_run hu]
    · rename_i kt vt a hu
      have := hx.closed_eq 1 rfl; subst this
      obtain ⟨a', rfl, hn⟩ := map_any hy
      simp only [Option.some.injEq] at h; subst h
      simp [Op.equalIn, underlying_run hu, hn]
    · rename_i kt vt a hu
      have := hy.closed_eq 1 rfl; subst this
      obtain ⟨a', rfl, hn⟩ := map_any hx
      simp only [Option.some.injEq] at h; subst h
      cases a' with
      | none => simp at hn
      | some a' => simp [Op.equalIn, underlying_run hu]
    · rename_i e a hu
      have := hx.closed_eq 1 rfl; subst this
      obtain ⟨a', rfl, hn⟩ := ptr_any hy
      simp only [Option.some.injEq] at h; subst h
      simp [Op.equalIn, underlying_run hu, hn]
    · rename_i e a hu
      have := hy.closed_eq 1 rfl; subst this
      obtain ⟨a', rfl, hn⟩ := ptr_any hx
      simp only [Option.some.injEq] at h; subst h
      cases a' with
      | none => simp at hn
      | some a' => simp [Op.equalIn, underlying_run hu]
    · rename_i p1 r1 v1 hu
      have := hx.closed_eq 1 rfl; subst this
      have := hy.closed_eq 1 rfl; subst this
      simp only [Option.some.injEq] at h; subst h
      simp [Op.equalIn, underlying_run hu]
    · rename_i p1 r1 v1 fn f c hu
      have := hx.closed_eq 1 rfl; subst this
      obtain ⟨fn', f', c', rfl⟩ := func_form hy
      simp only [Option.some.injEq] at h; subst h
      simp [Op.equalIn, underlying_run hu]
    · rename_i p1 r1 v1 fn f c hu
      have := hy.closed_eq 1 rfl; subst this
      obtain ⟨fn', f', c', rfl⟩ := func_form hx
      simp only [Option.some.injEq] at h; subst h
      simp [Op.equalIn, underlying_run hu]
    · rename_i m1 hu
      have := hx.closed_eq 1 rfl; subst this
      have := hy.closed_eq 1 rfl; subst this
      simp only [Option.some.injEq] at h; subst h
      simp [Op.equalIn, underlying_run hu]
    · rename_i m1 t1 v1 hu
      have := hx.closed_eq 1 rfl; subst this
      obtain ⟨u, rfl, _⟩ := iface_any hy
      simp only [Option.some.injEq] at h; subst h
      simp [Op.equalIn, underlying_run hu]
    · rename_i m1 t1 v1 hu
      have := hy.closed_eq 1 rfl; subst this
      obtain ⟨u, rfl, _⟩ := iface_any hx
      simp only [Option.some.injEq] at h; subst h
      simp [Op.equalIn, underlying_run hu]
    · cases h

end Go.Proofs.YtfeoocgmbikocaaGreat.Ev
