/- Laws of the walk for rows of one's own. -/
import Derived.Test.YtbhoingiibcboaaH0
namespace Go.Proofs.Ytbhoingiibcboaa
open Go.RowKit

section
variable {ops : Array Oper} {rest : List Oper} {o : Oper} {a : Act} {w : World} {Q : Exit → Act → World → Prop}
set_option maxRecDepth 100000 in
theorem wpList_pushq (hgd : o.guard = none) (s x : Operand) (ho : o.op = .call { callee := .builtin .append, args := #[s, x], argTypes := #[22, 22] }) (base : Nat) (v : Value) (l : List UInt32) (d : UInt32) (g0 : Nat)
    (hs : a.eval s = v) (hx : a.eval x = .slice (some ⟨g0, 0, none⟩) 1 1) (h : Oq w base v l) (hl : l.length < 1000000) (hb : base ≤ w.heap.size) (hsrc : Blk w g0 31 #[V d])
    (H : ∀ v' w', Oq w' base v' (l ++ [d]) → w.grownBy w' v.ownBlock → (∃ b, v'.ownBlock = some b ∧ (v.ownBlock = some b ∨ w.heap.size ≤ b)) → wpList Try.prog ops Q rest (a.put o.dst v') w') : wpList Try.prog ops Q (o :: rest) a w := by
  obtain ⟨v', w', hr, h1, h2, h3⟩ := run_push w base o.type v l d g0 h hl hb hsrc
  exact wpList_plain hgd fun _ hK => Lib.wp_append_run w s x _ _ ho v _ hs hx v' w' hr (hK _ _ (H v' w' h1 h2 h3))
set_option maxRecDepth 100000 in
/-- All but the first. -/
theorem run_tail (w : World) (base : Nat) (v : Value) (d : UInt32) (l : List UInt32) (h : Oq w base v (d :: l)) : ∃ v', (Instr.sliceAt 22 v (some (.int .i64 1)) none none).run Try.prog w = .ok v' w ∧ Oq w base v' l := by
  rcases h with ⟨_, h0⟩ | ⟨g, off, cap, cur, rfl, h2, h3, h4, h5, h6, h7⟩
  · cases h0
  · have hc : 1 ≤ cap := by simp at h5; omega
    have hs4 : ∀ w, (sizeOf 31).run Try.prog w = .ok 1 w := fun w => by kernel_rfl
    have hrun : (Instr.sliceAt 22 (.slice (some ⟨g, off, none⟩) (l.length + 1) cap) (some (.int .i64 1)) none none).run Try.prog w = .ok (.slice (if cap = 1 then some ⟨g, off, none⟩ else some ⟨g, off + 1, none⟩) l.length (cap - 1)) w := by
      have hnc : l.length + 1 ≤ cap := h5
      by_cases e : cap = 1
      · simp [Instr.sliceAt, Instr.slice, Instr.sliceBounds, Instr.sliceBound, asIntOf, run_underlying Try.underlying22, hs4, e]
        intro h; omega
      · simp [Instr.sliceAt, Instr.slice, Instr.sliceBounds, Instr.sliceBound, asIntOf, run_underlying Try.underlying22, hs4, e, addr_add]
        intro h; omega
    refine ⟨_, hrun, ?_⟩
    by_cases e : cap = 1
    · have hl0 : l = [] := by
        have : (d :: l).length ≤ cap := h5
        rw [e] at this
        simp at this
        exact this
      subst hl0
      rw [if_pos e]
      exact .inr ⟨g, off, cap - 1, cur, rfl, h2, h3, by omega, by simp, by omega, fun i hi => by simp at hi⟩
    · rw [if_neg e]
      refine .inr ⟨g, off + 1, cap - 1, cur, rfl, h2, h3, by omega, by have : l.length + 1 ≤ cap := h5; omega, by omega, fun i hi => ?_⟩
      have := h7 (i + 1) (by simp; omega)
      rw [show off + 1 + i = off + (i + 1) by omega, this]
      rfl
theorem wpList_tailq (hgd : o.guard = none) (x y : Operand) (ho : o.op = .slice 22 x (some y) none none) (hy : a.eval y = .int .i64 1) (base : Nat) (v : Value) (d : UInt32) (l : List UInt32) (hx : a.eval x = v) (h : Oq w base v (d :: l))
    (H : ∀ v', Oq w base v' l → wpList Try.prog ops Q rest (a.put o.dst v') w) : wpList Try.prog ops Q (o :: rest) a w := by
  refine wpList_plain hgd fun K hK => ?_
  obtain ⟨v', hr, h1⟩ := run_tail w base v d l h
  unfold Oper.wp execOp
  simp only [ho, Option.map_some, Option.map_none, hx, hy, Sem.run_bind, hr, Result.andThen_ok, Sem.run_pure]
  exact hK _ _ (H v' h1)
end
theorem Oq.is {w : World} {base : Nat} {v : Value} {l : List UInt32} (h : Oq w base v l) : ∃ A c, v = .slice A l.length c ∧ (0 < l.length → ∃ b o, A = some ⟨b, o, none⟩ ∧ ∀ i, i < l.length → w.cell? ⟨b, o + i, none⟩ = some (V (l.getD i 0))) := by
  rcases h with ⟨rfl, rfl⟩ | ⟨g, off, cap, cur, rfl, h2, h3, h4, h5, h6, h7⟩
  · exact ⟨_, _, rfl, fun h => absurd h (by simp)⟩
  · exact ⟨_, _, rfl, fun _ => ⟨g, off, rfl, fun i hi => by rw [h3.cell]; exact h7 i hi⟩⟩
theorem NearAt.ex {w wr : World} {base nm n sm m : Nat} {f s : UInt32 → Option Value} {L : UInt32 → List UInt32} (h : NearAt w base nm n f L) (hs : Mu w sm m s) (hne : nm ≠ sm) (hx : Ex sm w wr) : NearAt wr base nm n f L :=
  ⟨h.1.kept (hx.block nm h.1.lt hne), h.2.still (Still.ex hs hx)⟩
theorem Ex.push {w wr w' : World} {sm base : Nat} {v : Value} {l : List UInt32} (h : Ex sm w wr) (ho : Oq wr base v l) (hg : wr.grownBy w' v.ownBlock) (hb : w.heap.size ≤ base) : Ex sm w w' :=
  ⟨hg.os.trans h.os, hg.tape.trans h.tape, hg.output.trans h.output, Nat.le_trans h.size hg.size, fun k hk hne => (hg.block k (Nat.lt_of_lt_of_le hk h.size) (fun e => by
    have := (ho.lt e.symm).2.1; omega)).trans (h.block k hk hne)⟩
theorem Oq.cells {w : World} {base n c : Nat} {A : Option Addr} {l : List UInt32} (h : Oq w base (.slice A n c) l) (h0 : 0 < l.length) : ∃ b o, A = some ⟨b, o, none⟩ ∧ ∀ i, i < l.length → w.cell? ⟨b, o + i, none⟩ = some (V (l.getD i 0)) := by
  rcases h with ⟨_, rfl⟩ | ⟨g, off, cap, cur, he, h2, h3, h4, h5, h6, h7⟩
  · simp at h0
  · injection he with he
    exact ⟨g, off, he, fun i hi => by rw [h3.cell]; exact h7 i hi⟩
theorem Mu.grown {w w' : World} {m n base : Nat} {s : UInt32 → Option Value} {v : Value} {l : List UInt32} (h : Mu w m n s) (ho : Oq w base v l) (hg : w.grownBy w' v.ownBlock) : Mu w' m n s :=
  h.kept (hg.block m h.lt (fun e => by
    obtain ⟨_, _, cur, hcur⟩ := ho.lt e.symm
    obtain ⟨es, c, hm⟩ := h.map
    unfold Blk at hcur
    rw [hm] at hcur
    cases hcur))
end Go.Proofs.Ytbhoingiibcboaa
