/- Operations that compare; the law up to its last statement. -/
import Derived.Test.YtcbfnbmkogeehaaDoorH3
namespace Go.Proofs.YtcbfnbmkogeehaaDoor
open Go.RowKit
theorem bstr_toList (l : List UInt8) : (bstr l).toList = l := by rw [ByteArray.toList_eq]; rfl
theorem bstr_data (s : ByteArray) : bstr s.data.toList = s := by
  apply ByteArray.ext
  simp [bstr]
section
variable {o : Oper} {a : Act} {w : World} {K : Act → World → Prop} {Q : Exit → Act → World → Prop}
theorem wp_eqS (x y : Operand) (t2 : TypeId) (ho : o.op = .binOp .eql 9 x y t2) (l : List UInt8) (hx : a.eval x = .string (bstr l)) (hy : a.eval y = .string (bstr l)) (h : K (a.put o.dst (.bool true)) w) : o.wp Tryd.prog a w K Q := by
  have hb : (binOp .eql 9 (.string (bstr l)) (.string (bstr l))).run Tryd.prog w = .ok (.bool true) w := by
    show Result.ok (Value.bool ((bstr l).toList == (bstr l).toList)) w = _
    rw [beq_self_eq_true]
  have hg : (eqGuard .eql 9 x y (.string (bstr l)) (.string (bstr l))).run Tryd.prog w = .ok () w := rfl
  unfold Oper.wp execOp
  simp only [ho, hx, hy, Sem.run_bind, hg, hb, Result.andThen_ok, Sem.run_pure]
  exact h
theorem wp_lsS (x y : Operand) (t2 : TypeId) (ho : o.op = .binOp .lss 9 x y t2) (l m : List UInt8) (hx : a.eval x = .string (bstr l)) (hy : a.eval y = .string (bstr m)) (h : K (a.put o.dst (.bool (Op.bytesLess l m))) w) : o.wp Tryd.prog a w K Q := by
  have hb : (binOp .lss 9 (.string (bstr l)) (.string (bstr m))).run Tryd.prog w = .ok (.bool (Op.bytesLess l m)) w := by
    show Result.ok (Value.bool (Op.bytesLess (bstr l).toList (bstr m).toList)) w = _
    rw [bstr_toList, bstr_toList]
  have hg : (eqGuard .lss 9 x y (.string (bstr l)) (.string (bstr m))).run Tryd.prog w = .ok () w := rfl
  unfold Oper.wp execOp
  simp only [ho, hx, hy, Sem.run_bind, hg, hb, Result.andThen_ok, Sem.run_pure]
  exact h
theorem wp_eqB (x y : Operand) (t2 : TypeId) (ho : o.op = .binOp .eql 4 x y t2) (b c : Bool) (hbc : b = c) (hx : a.eval x = .bool b) (hy : a.eval y = .bool c) (h : K (a.put o.dst (.bool true)) w) : o.wp Tryd.prog a w K Q := by
  subst hbc
  have hb : (binOp .eql 4 (.bool b) (.bool b)).run Tryd.prog w = .ok (.bool true) w := by cases b <;> kernel_rfl
  have hg : (eqGuard .eql 4 x y (.bool b) (.bool b)).run Tryd.prog w = .ok () w := rfl
  unfold Oper.wp execOp
  simp only [ho, hx, hy, Sem.run_bind, hg, hb, Result.andThen_ok, Sem.run_pure]
  exact h
end
end Go.Proofs.YtcbfnbmkogeehaaDoor
