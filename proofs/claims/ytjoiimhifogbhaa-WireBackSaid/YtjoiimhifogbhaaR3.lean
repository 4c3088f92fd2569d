/- What slots hold where calls make memory, and compares of texts that are alike. -/
import Derived.Test.YtjoiimhifogbhaaR2
import Derived.Test.YtjoiimhifogbhaaB2
namespace Go.Proofs.Ytjoiimhifogbhaa
open Go.RowKit

def Up (W W' : World) : Prop := Below W.heap.size W W'
theorem Up.refl (W : World) : Up W W := Below.refl _ W
theorem Up.trans (a b c : World) (h : Up a b) (k : Up b c) : Up a c := Below.trans h (Below.mono k h.size)
def spIs {R : World → World → Prop} (v : Value) : Sp R := ⟨fun x _ => x = v, fun _ _ _ h _ => h⟩
def spOut (l : List UInt8) : Sp Up := ⟨fun x W => OutIs W x l, fun _ _ _ h hr => h.kept hr (Nat.le_refl _)⟩
section
variable {o : Oper} {a : Act} {w : World} {K : Act → World → Prop} {Q : Exit → Act → World → Prop}
theorem wp_eqS (x y : Operand) (t2 : TypeId) (ho : o.op = .binOp .eql 9 x y t2) (l : List UInt8) (hx : a.eval x = .string (bstr l)) (hy : a.eval y = .string (bstr l)) (h : K (a.put o.dst (.bool true)) w) : o.wp Try.prog a w K Q := by
  have hb : (binOp .eql 9 (.string (bstr l)) (.string (bstr l))).run Try.prog w = .ok (.bool true) w := by
    show Result.ok (Value.bool ((bstr l).toList == (bstr l).toList)) w = _
    rw [beq_self_eq_true]
  have hg : (eqGuard .eql 9 x y (.string (bstr l)) (.string (bstr l))).run Try.prog w = .ok () w := rfl
  unfold Oper.wp execOp
  simp only [ho, hx, hy, Sem.run_bind, hg, hb, Result.andThen_ok, Sem.run_pure]
  exact h
theorem wp_addS (x y : Operand) (t2 : TypeId) (ho : o.op = .binOp .add 9 x y t2) (l m : List UInt8) (hl : l.length ≤ 8388608) (hm : m.length ≤ 8388608) (hx : a.eval x = .string (bstr l)) (hy : a.eval y = .string (bstr m)) (h : K (a.put o.dst (.string (bstr (l ++ m)))) w) : o.wp Try.prog a w K Q := by
  have hb : (binOp .add 9 (.string (bstr l)) (.string (bstr m))).run Try.prog w = .ok (.string (bstr (l ++ m))) w := by
    have h := show (binOp .add 9 (.string (bstr l)) (.string (bstr m))).run Try.prog w = (Op.stringOp .add (bstr l) (bstr m)).run Try.prog w from rfl
    rw [h, run_string_add_sum w _ _ (by rw [bstr_size, bstr_size]; omega), bstr_append]
  have hg : (eqGuard .add 9 x y (.string (bstr l)) (.string (bstr m))).run Try.prog w = .ok () w := rfl
  unfold Oper.wp execOp
  simp only [ho, hx, hy, Sem.run_bind, hg, hb, Result.andThen_ok, Sem.run_pure]
  exact h
end
theorem run_head (s : ByteArray) (h1 : 1 ≤ s.size) (w : World) : (Instr.sliceAt 9 (.string s) none (some (.int .i64 1)) none).run Try.prog w = .ok (.string (s.extract 0 1)) w := by
  have h3 : (1 : Int) ≤ (s.size : Int) := by omega
  simp [Instr.sliceAt, Instr.slice, Instr.sliceBounds, Instr.sliceBound, run_underlying Try.underlying9, asIntOf, h3]
section
variable {o : Oper} {a : Act} {w : World} {K : Act → World → Prop} {Q : Exit → Act → World → Prop}
theorem wp_head (x : Operand) (ho : o.op = .slice 9 x none (some (.const (.int .i64 1))) none) (b : UInt8) (r : List UInt8) (hx : a.eval x = .string (bstr ([b] ++ r))) (h : K (a.put o.dst (.string (bstr [b]))) w) : o.wp Try.prog a w K Q := by
  have hb := run_head (bstr ([b] ++ r)) (by rw [bstr_size]; simp) w
  have he := extract_head [b] r
  rw [List.length_singleton] at he
  rw [he] at hb
  unfold Oper.wp execOp
  have e1 : a.eval (.const (.int .i64 1)) = .int .i64 1 := rfl
  simp only [ho, hx, Option.map_some, Option.map_none, e1, Sem.run_bind, hb, Result.andThen_ok, Sem.run_pure]
  exact h
end
end Go.Proofs.Ytjoiimhifogbhaa
