/- Maps by darts. -/
import Derived.Test.YtbhoingiibcboaaA8
import Derived.Maps.OwnSet
namespace Go.Proofs.Ytbhoingiibcboaa
open Go.RowKit

/-- How an element reads: as it is held. -/
def RH (v : Value) : Option (DataW Value × List MemPlace) := some (.held v, [])
def kx (x : UInt32) : Lit := .int .u32 (x.toNat : Int)
set_option maxRecDepth 100000 in
theorem kx_ne {x y : UInt32} (h : ¬ x = y) : kx x ≠ kx y := by
  intro e
  apply h
  unfold kx at e
  injection e with _ e
  exact UInt32.toNat_inj.1 (by omega)
set_option maxRecDepth 100000 in
theorem kx_key (x : UInt32) : WideAt.IsKeyLit (kx x) := trivial
set_option maxRecDepth 100000 in
theorem kx_of (x : UInt32) : keyOf Try.prog 31 (V x) = some (kx x) := Maps.keyOf_int_mk Try.underlying31 (by have := x.toNat_lt; simp [Lit.wf, IntKind.min, IntKind.max, IntKind.signed, IntKind.bits]; omega)
/-- What a map of the call's own holds. -/
def Mu (w : World) (m n : Nat) (f : UInt32 → Option Value) : Prop := ∃ D, w.ownsMap Try.prog 31 RH m n D ∧ ∀ x,
  (∀ v, f x = some v → (∀ z, D.atKey (kx x) z = .held v)) ∧ (f x = none → ∀ z, D.atKey (kx x) z = z)
set_option maxRecDepth 100000 in
theorem Mu.kept {w w' : World} {m n : Nat} {f : UInt32 → Option Value} (h : Mu w m n f) (hb : w'.heap[m]? = w.heap[m]?) : Mu w' m n f := by
  obtain ⟨D, ⟨es, clock, h1, r⟩, hf⟩ := h
  exact ⟨D, ⟨es, clock, hb.trans h1, r⟩, hf⟩
set_option maxRecDepth 100000 in
theorem Mu.lt {w : World} {m n : Nat} {f : UInt32 → Option Value} (h : Mu w m n f) : m < w.heap.size := by
  obtain ⟨D, ho, _⟩ := h
  exact ho.lt
set_option maxRecDepth 100000 in
theorem own_empty (w : World) (mb : Nat) (h : w.heap[mb]? = some (.map #[] 0)) : w.ownsMap Try.prog 31 RH mb 0 (.map []) :=
  ⟨#[], 0, h, ⟨by simp, MapKept.stamped_empty 0, by simp⟩, Nat.le_refl _, rfl⟩
set_option maxRecDepth 100000 in
theorem Mu.empty (w : World) : Mu (w.alloc (.map #[] 0)) w.heap.size 0 (fun _ => none) :=
  ⟨.map [], own_empty _ _ (heap_alloc_new w _), fun _ => ⟨fun _ h => (by cases h), fun _ _ => rfl⟩⟩
set_option maxRecDepth 100000 in
theorem turned_ex {w w' : World} {b : Nat} (h : w.mapTurned w' b) : Ex b w w' := by
  obtain ⟨es, clock, es', clock', hb, rfl⟩ := h
  exact ⟨rfl, rfl, rfl, by simp [ChangeMaps.setBlock], fun k _ hne => ChangeMaps.heap_setBlock_other hb _ hne⟩
section
variable {ops : Array Oper} {rest : List Oper} {o : Oper} {a : Act} {w : World} {Q : Exit → Act → World → Prop}
set_option maxRecDepth 100000 in
theorem Mu.put {mb n : Nat} {f : UInt32 → Option Value} (t e : TypeId) (ht : Try.prog.underlying t = some (.map 31 e)) (hmu : Mu w mb n f) (hn : n < maxLen) (x : UInt32) (val : Value) :
    ∃ w', (Instr.mapUpdate t (.map (some mb)) (V x) val).run Try.prog w = .ok () w' ∧ Mu w' mb (n + 1) (fun y => if y = x then some val else f y) ∧ Ex mb w w' ∧ w'.heap.size = w.heap.size := by
  obtain ⟨D, hown, hf⟩ := hmu
  have KK := Maps.int_keyed (P := Try.prog) Try.underlying31
  have hD := hown.tidy KK
  obtain ⟨w', hrun, h1, h2⟩ := hown.store KK ht hn (val := val) (d := .held val) (ps := []) (kx_of x) rfl
  have hsz : w'.heap.size = w.heap.size := by
    obtain ⟨es, c, es', c', h3, h4⟩ := h2
    rw [h4]; simp [ChangeMaps.setBlock]
  refine ⟨w', hrun, ⟨_, h1, fun y => ?_⟩, turned_ex h2, hsz⟩
  by_cases e : y = x
  · subst e
    exact ⟨fun v hc z => by
      simp only [if_true] at hc
      cases hc
      exact Maps.atKey_put_same (k := kx y) hD.isMap (kx_key y) _ _, fun hc => by simp at hc⟩
  · exact ⟨fun v hc z => by
      simp only [e, if_false] at hc
      rw [Maps.atKey_put_other (kx_ne e)]; exact (hf y).1 v hc z, fun hc z => by
      simp only [e, if_false] at hc
      rw [Maps.atKey_put_other (kx_ne e)]; exact (hf y).2 hc z⟩
set_option maxRecDepth 100000 in
theorem wpList_mapM (hgd : o.guard = none) (m x v : Operand) (t e : TypeId) (ho : o.op = .mapUpdate t m x v) (ht : Try.prog.underlying t = some (.map 31 e)) (mb n : Nat) (f : UInt32 → Option Value) (k : UInt32) (val : Value)
    (hm : a.eval m = .map (some mb)) (hx : a.eval x = V k) (hv : a.eval v = val) (hmu : Mu w mb n f) (hn : n < maxLen)
    (h : ∀ w', Mu w' mb (n + 1) (fun y => if y = k then some val else f y) → Ex mb w w' → w'.heap.size = w.heap.size → wpList Try.prog ops Q rest (a.put o.dst undef) w') : wpList Try.prog ops Q (o :: rest) a w := by
  refine wpList_plain hgd fun K hK => ?_
  obtain ⟨w', hrun, h1, h2, h3⟩ := hmu.put t e ht hn k val
  unfold Oper.wp
  simp only [execOp, ho, Sem.run_bind, Sem.run_pure, Result.andThen_ok, hm, hx, hv, hrun]
  exact hK _ _ (h w' h1 h2 h3)
set_option maxRecDepth 100000 in
theorem Mu.look_ok {mb n : Nat} {f : UInt32 → Option Value} (t e : TypeId) (ht : Try.prog.underlying t = some (.map 31 e)) (z : Value) (hz : (zeroValue e).run Try.prog w = .ok z w) (h : Mu w mb n f) (x : UInt32) :
    (Instr.lookup t (.map (some mb)) (V x) true).run Try.prog w = .ok (.tuple #[(f x).getD z, .bool (f x).isSome]) w := by
  obtain ⟨D, ho, hf⟩ := h
  obtain ⟨v, ps, h1, h2⟩ := ho.look_ok (Maps.int_keyed Try.underlying31) ht hz (zd := .held z) (zp := []) rfl (kx_of x)
  cases hq : f x with
  | none =>
    rw [(hf x).2 hq] at h2
    cases h2
    rw [Maps.has_false_of_atKey ((hf x).2 hq)] at h1
    exact h1
  | some b =>
    rw [(hf x).1 b hq] at h2
    rw [Maps.has_true_of_atKey ((hf x).1 b hq)] at h1
    cases h2
    exact h1
set_option maxRecDepth 100000 in
theorem Mu.look {mb n : Nat} {f : UInt32 → Option Value} (t e : TypeId) (ht : Try.prog.underlying t = some (.map 31 e)) (z : Value) (hz : (zeroValue e).run Try.prog w = .ok z w) (h : Mu w mb n f) (x : UInt32) :
    (Instr.lookup t (.map (some mb)) (V x) false).run Try.prog w = .ok ((f x).getD z) w := by
  obtain ⟨D, ho, hf⟩ := h
  obtain ⟨v, ps, h1, h2⟩ := ho.lookup (Maps.int_keyed Try.underlying31) ht hz (zd := .held z) (zp := []) rfl (kx_of x)
  cases hq : f x with
  | none =>
    rw [(hf x).2 hq] at h2
    cases h2
    exact h1
  | some b =>
    rw [(hf x).1 b hq] at h2
    cases h2
    exact h1
end
attribute [local irreducible] V
end Go.Proofs.Ytbhoingiibcboaa
