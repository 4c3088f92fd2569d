/- Compares of numbers and digests that are alike, and what slots hold beside an In. -/
import Derived.Test.YtjoiimhifogbhaaC0
import Derived.Stop.BytesEq
import Derived.Great.BuildSlice
namespace Go.Proofs.Ytjoiimhifogbhaa
open Go.RowKit

theorem eq33 (l : List UInt8) (hl : l.length = 32) (w : World) : (Op.equalIn 10000 33 (.agg (l.map U).toArray) (.agg (l.map U).toArray)).run Try.prog w = .ok true w := by
  have h := run_equalIn_bytes (P := Try.prog) w 9998 33 5 32 Try.underlying33 Try.underlying5 (fun w => by kernel_rfl) l l hl hl
  rw [beq_self_eq_true] at h
  exact h
section
variable {o : Oper} {a : Act} {w : World} {K : Act → World → Prop} {Q : Exit → Act → World → Prop}
theorem wp_ne8 (x y : Operand) (t2 : TypeId) (ho : o.op = .binOp .neq 30 x y t2) (n : Nat) (hx : a.eval x = V8 n) (hy : a.eval y = V8 n) (h : K (a.put o.dst (.bool false)) w) : o.wp Try.prog a w K Q := by
  have hb : (binOp .neq 30 (V8 n) (V8 n)).run Try.prog w = .ok (.bool false) w := by
    have h := show (binOp .neq 30 (V8 n) (V8 n)).run Try.prog w = .ok (.bool (!((n : Int) == (n : Int)))) w from rfl
    rw [h, beq_self_eq_true]; rfl
  have hg : (eqGuard .neq 30 x y (V8 n) (V8 n)).run Try.prog w = .ok () w := rfl
  unfold Oper.wp execOp
  simp only [ho, hx, hy, Sem.run_bind, hg, hb, Result.andThen_ok, Sem.run_pure]
  exact h
theorem wp_ne33 (x y : Operand) (t2 : TypeId) (ho : o.op = .binOp .neq 33 x y t2) (l : List UInt8) (hl : l.length = 32) (hx : a.eval x = digV l) (hy : a.eval y = digV l) (h : K (a.put o.dst (.bool false)) w) : o.wp Try.prog a w K Q := by
  have hb : (binOp .neq 33 (digV l) (digV l)).run Try.prog w = .ok (.bool false) w := by
    show Sem.run Try.prog (do let e ← Op.equalIn 10000 33 (.agg (l.map U).toArray) (.agg (l.map U).toArray); pure (Value.bool (!e))) w = _
    rw [Sem.run_bind, eq33 l hl]; rfl
  have hg : (eqGuard .neq 33 x y (digV l) (digV l)).run Try.prog w = .ok () w := rfl
  unfold Oper.wp execOp
  simp only [ho, hx, hy, Sem.run_bind, hg, hb, Result.andThen_ok, Sem.run_pure]
  exact h
end
theorem foldl_get : ∀ (l : List Value) (o : Nat) (c : Array Value) (i : Nat), ((l.zipIdx o).foldl (fun (cs : Array Value) (p : Value × Nat) => cs.setIfInBounds (0 + p.2) p.1) c)[i]? = if o ≤ i ∧ i < o + l.length ∧ i < c.size then l[i - o]? else c[i]?
  | [], o, c, i => by
    rw [if_neg (by simp; omega)]; rfl
  | v :: r, o, c, i => by
    rw [List.zipIdx_cons, List.foldl_cons, foldl_get r (o + 1) _ i]
    simp only [Array.size_setIfInBounds, Nat.zero_add, List.length_cons]
    by_cases h1 : o + 1 ≤ i ∧ i < o + 1 + r.length ∧ i < c.size
    · rw [if_pos h1, if_pos (by omega), show i - o = (i - (o + 1)) + 1 by omega, List.getElem?_cons_succ]
    · rw [if_neg h1]
      by_cases h2 : o = i
      · subst h2
        by_cases h3 : o < c.size
        · rw [if_pos ⟨Nat.le_refl _, by omega, h3⟩]; simp [h3]
        · rw [if_neg (by omega)]; simp [h3]
      · rw [if_neg (by omega), Array.getElem?_setIfInBounds_ne h2]
/-- One digest laid over a row of its size. -/
theorem fill_dig (D : List UInt8) (hD : D.length = 32) (c : Array Value) (hc : c.size = 32) : Instr.fill (fun i => some (i * 32, 32)) c [(0, .agg (D.map U).toArray)] = some (D.map U).toArray := by
  have hs : ((Value.agg (D.map U).toArray).cells).size = 32 := by show (D.map U).toArray.size = 32; simp [hD]
  have hf : (((D.map U).toArray).zipIdx.foldl (fun (cs : Array Value) (p : Value × Nat) => cs.setIfInBounds (0 + p.2) p.1) c) = (D.map U).toArray := by
    rw [← Array.foldl_toList, Array.toList_zipIdx]
    apply Array.ext_getElem?
    intro i
    rw [foldl_get]
    by_cases h : i < 32
    · rw [if_pos (by simp [hD, hc, h])]; simp
    · rw [if_neg (by simp [hc]; omega), Array.getElem?_eq_none (by omega), Array.getElem?_eq_none (by simp [hD]; omega)]
  unfold Instr.fill
  simp only [hs, hc]
  show (if (¬ 32 = 32 || decide (0 * 32 + 32 > 32)) = true then none else Instr.fill _ _ []) = _
  rw [if_neg (by decide)]
  unfold Instr.fill
  exact congrArg some hf
section
variable {o : Oper} {a : Act} {w : World} {K : Act → World → Prop} {Q : Exit → Act → World → Prop}
theorem wp_build_dig (x : Operand) (ho : o.op = .buildSlice 25 1 #[(0, x)]) (D : List UInt8) (hD : D.length = 32) (hx : a.eval x = .agg (D.map U).toArray)
    (h : K (a.put o.dst (.slice (some ⟨w.heap.size, 0, none⟩) 1 1)) (w.alloc (.cells (D.map U).toArray 33))) : o.wp Try.prog a w K Q := by
  obtain ⟨ie, hie, hs, hz⟩ : ∃ ie, Try.prog.info? 33 = some ie ∧ ie.size = 32 ∧ ie.zero = some (.agg z32) := ⟨_, rfl, by kernel_rfl, by kernel_rfl⟩
  refine wp_buildSlice 25 33 1 #[(0, x)] ho (D.map U).toArray ie (.agg z32) Try.underlying25 hie hz (by rw [hs]; decide) (by rw [hs]; decide) ?_ h
  have e : (#[(0, x)].map fun (p : Nat × Operand) => (p.1, a.eval p.2)).toList = [(0, .agg (D.map U).toArray)] := by simp [hx]
  refine (congrArg _ e).trans ?_
  rw [hs]
  exact fill_dig D hD _ (by simp)
end
/-- A row that was built, of one block. -/
def Built (W : World) (v : Value) (t : TypeId) (n : Nat) (cs : Array Value) : Prop := ∃ b, v = .slice (some ⟨b, 0, none⟩) n n ∧ Blk W b t cs
def spBuilt (t : TypeId) (n : Nat) (cs : Array Value) : Sp Up := ⟨fun x W => Built W x t n cs, fun _ _ _ ⟨b, hv, hb⟩ hr => ⟨b, hv, hb.kept hr hb.lt⟩⟩
def spMade (g : Nat) (ps : List ByteArray) : Sp (Ex g) := ⟨fun x W => Made W g x ps, fun _ _ _ h hx => h.kept hx⟩
def sts (a b c : List UInt8) : Nat → List UInt8
  | 0 => a
  | 1 => b
  | 2 => b
  | 3 => c
  | 4 => c
  | 5 => c
  | _ => []
theorem fill_out : ∀ (vals : List (Tmp × Value)) (t : Array Value) (i : Nat), i ∉ vals.map (·.1) → (vals.foldl (fun (t : Array Value) (p : Tmp × Value) => t.setIfInBounds p.1 p.2) t)[i]? = t[i]?
  | [], _, _, _ => rfl
  | p :: r, t, i, h => by
    rw [List.foldl_cons, fill_out r _ i (fun hi => h (List.mem_cons_of_mem _ hi))]
    have hne : p.1 ≠ i := fun e => h (by rw [← e]; exact List.mem_cons_self)
    exact Array.getElem?_setIfInBounds_ne hne
theorem fill_size : ∀ (vals : List (Tmp × Value)) (t : Array Value), (vals.foldl (fun (t : Array Value) (p : Tmp × Value) => t.setIfInBounds p.1 p.2) t).size = t.size
  | [], _ => rfl
  | p :: r, t => by rw [List.foldl_cons, fill_size r]; simp
theorem fill_in : ∀ (vals : List (Tmp × Value)) (t : Array Value), (vals.map (·.1)).Nodup → ∀ p ∈ vals, p.1 < t.size → (vals.foldl (fun (t : Array Value) (p : Tmp × Value) => t.setIfInBounds p.1 p.2) t)[p.1]? = some p.2
  | q :: r, t, hn, p, hp, hlt => by
    rw [List.map_cons, List.nodup_cons] at hn
    rw [List.foldl_cons]
    rcases List.mem_cons.1 hp with rfl | hp
    · rw [fill_out r _ _ hn.1]; simp [hlt]
    · exact fill_in r _ hn.2 p hp (by simpa using hlt)
/-- What all slots hold behind a region of this kind. -/
theorem tmps_eq {R : World → World → Prop} {sp : List (Tmp × Sp R)} {a0 a : Act} {W : World} (hsz : a.tmps.size = a0.tmps.size) (keys : List Tmp) (vals : List (Tmp × Value)) (hk : sp.map (·.1) = keys) (hkv : vals.map (·.1) = keys) (hn : keys.Nodup) (n : Nat) (hsn : a0.tmps.size = n)
    (hb : keys.all (fun t => decide (t < n)) = true)
    (hl : ∀ t, SpOf sp a0 t (a.tmps.getD t undef) W) (hv : ∀ p ∈ vals, a.tmps.getD p.1 undef = p.2) : a.tmps = vals.foldl (fun (t : Array Value) (p : Tmp × Value) => t.setIfInBounds p.1 p.2) a0.tmps := by
  subst hkv
  apply Array.ext_getElem?
  intro i
  by_cases hi : i ∈ vals.map (·.1)
  · obtain ⟨p, hp, rfl⟩ := List.mem_map.1 hi
    have hlt : p.1 < a0.tmps.size := by rw [hsn]; simpa using List.all_eq_true.1 hb _ hi
    rw [fill_in vals _ hn p hp hlt]
    have h := hv p hp
    rw [← hsz] at hlt
    rw [Array.getElem?_eq_getElem hlt]
    rw [← h]
    simp [Array.getD, hlt]
  · rw [fill_out vals _ i hi]
    have h := hl i
    unfold SpOf at h
    have hlk : sp.lookup i = none := by
      cases hq : sp.lookup i with
      | none => rfl
      | some s =>
        exfalso
        obtain ⟨l1, l2, hl, _⟩ := List.lookup_eq_some_iff.1 hq
        apply hi
        rw [← hk, hl]; simp
    rw [hlk] at h
    by_cases hlt : i < a.tmps.size
    · have hlt0 : i < a0.tmps.size := by rw [← hsz]; exact hlt
      rw [Array.getElem?_eq_getElem hlt, Array.getElem?_eq_getElem hlt0]
      simpa [Array.getD, hlt, hlt0] using h
    · rw [Array.getElem?_eq_none (by omega), Array.getElem?_eq_none (by omega)]
theorem act_eq {a : Act} {df : List Deferred} {t : Array Value} (hd : a.defers = df) (ht : a.tmps = t) : a = ⟨t, df⟩ := by cases a; cases hd; cases ht; rfl
end Go.Proofs.Ytjoiimhifogbhaa
