/- Operations of a region whose order is left open: what each leaves. -/
import Derived.Test.YtcbfnbmkogeehaaK26
import Derived.Test.YtcbfnbmkogeehaaK19
namespace Go.Proofs.Ytcbfnbmkogeehaa
open Go.RowKit

theorem Seq.UpOb.skip {P : Program} {ops : Array Oper} {Q : Exit → Act → World → Prop} {R : World → World → Prop} {S : Tmp → Value → World → Prop} {St : Nat → World → Prop} {chain : List Nat} {a0 : Act} {w0 : World} {i : Nat} {o : Oper} {l : List Tmp} {j : Nat} {b : Bool} {d : Tmp}
    (hi : i ∉ chain) (hg : o.guard = some (j, b)) (hj : (ops[j]?).bind (·.dst) = some d) (x : Value)
    (hv : ∀ (a : Act) (W : World), (∀ t ∈ l, S t (a.tmps.getD t undef) W) → a.tmps.getD d undef = x) (hx : x ≠ .bool b) (hS : ∀ (d : Tmp) (W : World), o.dst = some d → S d undef W) : Seq.UpOb P ops Q R S St chain a0 w0 i o l := by
  intro a W m _ _ _ hl _ _
  have hvd := hv a W hl
  have hw : ¬ Region.wanted o (yielded ops a.tmps) = true := by
    simp only [Region.wanted, hg, beq_iff_eq]
    intro hy
    unfold yielded at hy
    rw [hj] at hy
    simp only [Option.bind_some] at hy
    cases hc : a.tmps[d]? with
    | none => simp [hc] at hy
    | some y =>
      have hyx : y = x := by simpa [Array.getD_eq_getD_getElem?, hc] using hvd
      subst hyx
      rw [hc] at hy
      cases y <;> simp at hy
      subst hy
      exact hx rfl
  rw [if_neg hw]
  exact ⟨fun d hd => hS d W hd, hi⟩
section
variable {o : Oper} {a : Act} {w : World} {K : Act → World → Prop} {Q : Exit → Act → World → Prop}
theorem wp_ne43 (x y : Operand) (t2 : TypeId) (ho : o.op = .binOp .neq 43 x y t2) (l : List UInt8) (hl : l.length = 512)
    (hx : a.eval x = B l) (hy : a.eval y = B l) (h : K (a.put o.dst (.bool false)) w) : o.wp Try.prog a w K Q := by
  have hm : Try.prog.eqGuardType Try.prog.depth 43 = false := by kernel_rfl
  unfold B at hx hy
  unfold Oper.wp execOp
  simp only [ho, hx, hy, Sem.run_bind, run_eqGuard_agg w .neq 43 x y _ _ hm, run_neq_struct, eq43 l hl w, Result.andThen_ok, Sem.run_pure]
  exact h
theorem U_ne (p q : UInt8) : ((p.toNat : Int) != (q.toNat : Int)) = (p != q) := by
  by_cases e : p = q
  · subst e; simp
  · have e2 : ¬ (p.toNat : Int) = (q.toNat : Int) := fun h => e (UInt8.toNat.inj (by omega))
    rw [bne, bne, beq_eq_false_iff_ne.2 e, beq_eq_false_iff_ne.2 e2]
theorem cell_head (l : List UInt8) (h : l.length = 512) : ((l.map U).toArray)[0]? = some (U (l.headD 0)) := by
  match l, h with
  | b :: r, _ => simp
theorem wp_lookU (x y : Operand) (ho : o.op = .lookup 45 x y false) (m n : Nat) (f : Int → Option UInt8) (k : Int) (hx : a.eval x = .map (some m)) (hy : a.eval y = .int .i64 k) (hm : Mu w m n f) (hk : (Lit.int .i64 k).wf = true)
    (h : K (a.put o.dst (U ((f k).getD 0))) w) : o.wp Try.prog a w K Q := by
  unfold Oper.wp execOp
  simp only [ho, hx, hy, Sem.run_bind, hm.look k hk, Result.andThen_ok, Sem.run_pure]
  exact h
end
end Go.Proofs.Ytcbfnbmkogeehaa
