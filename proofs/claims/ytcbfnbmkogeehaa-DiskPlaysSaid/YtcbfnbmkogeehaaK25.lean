/- A map of bytes by sectors. -/
import Derived.Test.YtcbfnbmkogeehaaK24
namespace Go.Proofs.Ytcbfnbmkogeehaa
open Go.RowKit

/-- What a map of the call's own holds. -/
def Mu (w : World) (m n : Nat) (f : Int → Option UInt8) : Prop := ∃ D, w.ownsMap Try.prog 3 RV m n D ∧ ∀ k, (Lit.int .i64 k).wf = true →
  (∀ b, f k = some b → ∀ z, D.atKey (.int .i64 k) z = .held (U b)) ∧ (f k = none → ∀ z, D.atKey (.int .i64 k) z = z)
theorem Mu.kept {w w' : World} {m n : Nat} {f : Int → Option UInt8} (h : Mu w m n f) (hb : w'.heap[m]? = w.heap[m]?) : Mu w' m n f := by
  obtain ⟨D, ⟨es, clock, h1, r⟩, hf⟩ := h
  exact ⟨D, ⟨es, clock, hb.trans h1, r⟩, hf⟩
theorem Mu.lt {w : World} {m n : Nat} {f : Int → Option UInt8} (h : Mu w m n f) : m < w.heap.size := by
  obtain ⟨D, ho, _⟩ := h
  exact ho.lt
theorem Mu.empty (w : World) : Mu (w.alloc (.map #[] 0)) w.heap.size 0 (fun _ => none) :=
  ⟨.map [], own_empty _ _ (heap_alloc_new w _), fun _ _ => ⟨fun _ h => (by cases h), fun _ _ => rfl⟩⟩
theorem zero5 (w : World) : (zeroValue 5).run Try.prog w = .ok (U 0) w := by kernel_rfl
theorem Mu.look {w : World} {m n : Nat} {f : Int → Option UInt8} (h : Mu w m n f) (k : Int) (hk : (Lit.int .i64 k).wf = true) :
    (Instr.lookup 45 (.map (some m)) (.int .i64 k) false).run Try.prog w = .ok (U ((f k).getD 0)) w := by
  obtain ⟨D, ho, hf⟩ := h
  have hkey : keyOf Try.prog 3 (.int .i64 k) = some (.int .i64 k) := Maps.keyOf_int_mk Try.underlying3 hk
  obtain ⟨v, ps, h1, h2⟩ := ho.lookup (Maps.int_keyed Try.underlying3) Try.underlying45 (zero5 w) (zd := .held (U 0)) (zp := []) rfl hkey
  cases hq : f k with
  | none =>
    rw [(hf k hk).2 hq] at h2
    cases h2
    exact h1
  | some b =>
    rw [(hf k hk).1 b hq] at h2
    cases h2
    exact h1
theorem wpList_mapU {ops : Array Oper} {rest : List Oper} {o : Oper} {a : Act} {w : World} {Q : Exit → Act → World → Prop} (hgd : o.guard = none) (m x v : Operand)
    (ho : o.op = .mapUpdate 45 m x v) (mb n : Nat) (f : Int → Option UInt8) (k : Int) (b : UInt8) (hm : a.eval m = .map (some mb)) (hx : a.eval x = .int .i64 k) (hv : a.eval v = U b)
    (hmu : Mu w mb n f) (hn : n < maxLen) (hk : (Lit.int .i64 k).wf = true)
    (h : ∀ w', Mu w' mb (n + 1) (fun j => if j = k then some b else f j) → Ex mb w w' → w'.heap.size = w.heap.size → wpList Try.prog ops Q rest (a.put o.dst undef) w') : wpList Try.prog ops Q (o :: rest) a w := by
  refine wpList_plain hgd fun K hK => ?_
  obtain ⟨D, hown, hf⟩ := hmu
  have KK := Maps.int_keyed (P := Try.prog) Try.underlying3
  have hkey : keyOf Try.prog 3 (.int .i64 k) = some (.int .i64 k) := Maps.keyOf_int_mk Try.underlying3 hk
  have hD := hown.tidy KK
  obtain ⟨w', hrun, h1, h2⟩ := hown.store KK Try.underlying45 hn (val := U b) (d := .held (U b)) (ps := []) hkey rfl
  unfold Oper.wp
  simp only [execOp, ho, Sem.run_bind, Sem.run_pure, Result.andThen_ok, hm, hx, hv, hrun]
  have hsz : w'.heap.size = w.heap.size := by
    obtain ⟨es, c, es', c', h3, h4⟩ := h2
    rw [h4]; simp [ChangeMaps.setBlock]
  refine hK _ _ (h w' ⟨_, h1, fun j hj => ?_⟩ (turned_ex h2) hsz)
  by_cases e : j = k
  · subst e
    exact ⟨fun c hc z => by
      simp only [if_true] at hc
      cases hc
      exact Maps.atKey_put_same (k := .int .i64 j) hD.isMap trivial _ _, fun hc => by simp at hc⟩
  · exact ⟨fun c hc z => by
      simp only [e, if_false] at hc
      rw [Maps.atKey_put_other (by simp; exact e)]; exact (hf j hj).1 c hc z, fun hc z => by
      simp only [e, if_false] at hc
      rw [Maps.atKey_put_other (by simp; exact e)]; exact (hf j hj).2 hc z⟩
end Go.Proofs.Ytcbfnbmkogeehaa
