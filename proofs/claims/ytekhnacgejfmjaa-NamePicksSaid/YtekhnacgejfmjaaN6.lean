/- Operations that compare; the order of digests' texts. -/
import Derived.Test.YtekhnacgejfmjaaN4
import Derived.Test.YtekhnacgejfmjaaR2
import Derived.Stop.BytesEq
namespace Go.Proofs.Ytekhnacgejfmjaa
open Go.RowKit

theorem bstr_toList (l : List UInt8) : (bstr l).toList = l := by rw [ByteArray.toList_eq]; rfl
section
variable {o : Oper} {a : Act} {w : World} {K : Act → World → Prop} {Q : Exit → Act → World → Prop}
theorem wp_eqS (x y : Operand) (t2 : TypeId) (ho : o.op = .binOp .eql 9 x y t2) (l m : List UInt8) (b : Bool) (hb0 : (l == m) = b) (hx : a.eval x = .string (bstr l)) (hy : a.eval y = .string (bstr m)) (h : K (a.put o.dst (.bool b)) w) : o.wp Try.prog a w K Q := by
  have hb : (binOp .eql 9 (.string (bstr l)) (.string (bstr m))).run Try.prog w = .ok (.bool b) w := by
    show Result.ok (Value.bool ((bstr l).toList == (bstr m).toList)) w = _
    rw [bstr_toList, bstr_toList, hb0]
  have hg : (eqGuard .eql 9 x y (.string (bstr l)) (.string (bstr m))).run Try.prog w = .ok () w := rfl
  unfold Oper.wp execOp
  simp only [ho, hx, hy, Sem.run_bind, hg, hb, Result.andThen_ok, Sem.run_pure]
  exact h
theorem wp_neS (x y : Operand) (t2 : TypeId) (ho : o.op = .binOp .neq 9 x y t2) (l m : List UInt8) (b : Bool) (hb0 : (!(l == m)) = b) (hx : a.eval x = .string (bstr l)) (hy : a.eval y = .string (bstr m)) (h : K (a.put o.dst (.bool b)) w) : o.wp Try.prog a w K Q := by
  have hb : (binOp .neq 9 (.string (bstr l)) (.string (bstr m))).run Try.prog w = .ok (.bool b) w := by
    show Result.ok (Value.bool (!((bstr l).toList == (bstr m).toList))) w = _
    rw [bstr_toList, bstr_toList, hb0]
  have hg : (eqGuard .neq 9 x y (.string (bstr l)) (.string (bstr m))).run Try.prog w = .ok () w := rfl
  unfold Oper.wp execOp
  simp only [ho, hx, hy, Sem.run_bind, hg, hb, Result.andThen_ok, Sem.run_pure]
  exact h
theorem wp_lsS (x y : Operand) (t2 : TypeId) (ho : o.op = .binOp .lss 9 x y t2) (l m : List UInt8) (b : Bool) (hb0 : Op.bytesLess l m = b) (hx : a.eval x = .string (bstr l)) (hy : a.eval y = .string (bstr m)) (h : K (a.put o.dst (.bool b)) w) : o.wp Try.prog a w K Q := by
  have hb : (binOp .lss 9 (.string (bstr l)) (.string (bstr m))).run Try.prog w = .ok (.bool b) w := by
    show Result.ok (Value.bool (Op.bytesLess (bstr l).toList (bstr m).toList)) w = _
    rw [bstr_toList, bstr_toList, hb0]
  have hg : (eqGuard .lss 9 x y (.string (bstr l)) (.string (bstr m))).run Try.prog w = .ok () w := rfl
  unfold Oper.wp execOp
  simp only [ho, hx, hy, Sem.run_bind, hg, hb, Result.andThen_ok, Sem.run_pure]
  exact h
theorem wp_eqB (x y : Operand) (t2 : TypeId) (ho : o.op = .binOp .eql 4 x y t2) (b c : Bool) (hbc : b = c) (hx : a.eval x = .bool b) (hy : a.eval y = .bool c) (h : K (a.put o.dst (.bool true)) w) : o.wp Try.prog a w K Q := by
  subst hbc
  have hb : (binOp .eql 4 (.bool b) (.bool b)).run Try.prog w = .ok (.bool true) w := by cases b <;> kernel_rfl
  have hg : (eqGuard .eql 4 x y (.bool b) (.bool b)).run Try.prog w = .ok () w := rfl
  unfold Oper.wp execOp
  simp only [ho, hx, hy, Sem.run_bind, hg, hb, Result.andThen_ok, Sem.run_pure]
  exact h
theorem wp_eqD (p : BinOp) (hp : p = .eql) (x y : Operand) (t2 : TypeId) (ho : o.op = .binOp .eql 25 x y t2) (l m : List UInt8) (hl : l.length = 32) (hm : m.length = 32) (b : Bool) (hb : (l == m) = b)
    (hx : a.eval x = .agg (l.map U).toArray) (hy : a.eval y = .agg (m.map U).toArray) (h : K (a.put o.dst (.bool b)) w) : o.wp Try.prog a w K Q := by
  have hmm : Try.prog.eqGuardType Try.prog.depth 25 = false := by kernel_rfl
  have he := run_equalIn_bytes (P := Try.prog) w 9998 25 5 32 Try.underlying25 Try.underlying5 (fun w => by kernel_rfl) l m hl hm
  rw [hb] at he
  have he2 : (Op.equalIn 10000 25 (.agg (l.map U).toArray) (.agg (m.map U).toArray)).run Try.prog w = .ok b w := he
  unfold Oper.wp execOp
  simp only [ho, hx, hy, Sem.run_bind, run_eqGuard_agg w .eql 25 x y _ _ hmm, run_eql_struct, he2, Result.andThen_ok, Sem.run_pure]
  exact h
end
theorem hexD_lt : ∀ i, i < 16 → ∀ j, j < 16 → decide ((hexD i).toNat < (hexD j).toNat) = decide (i < j) ∧ (hexD i == hexD j) = decide (i = j) := by decide
theorem hex_less : ∀ l m : List UInt8, l.length = m.length → Op.bytesLess (hexOf l) (hexOf m) = decide (Lib.compareBytes l m < 0)
  | [], [], _ => rfl
  | x :: l, y :: m, h => by
    have ih := hex_less l m (by simpa using h)
    have hx := x.toNat_lt
    have hy := y.toNat_lt
    obtain ⟨a1, a2⟩ := hexD_lt (x.toNat / 16) (by omega) (y.toNat / 16) (by omega)
    obtain ⟨c1, c2⟩ := hexD_lt (x.toNat % 16) (by omega) (y.toNat % 16) (by omega)
    show Op.bytesLess (hexD (x.toNat / 16) :: hexD (x.toNat % 16) :: hexOf l) (hexD (y.toNat / 16) :: hexD (y.toNat % 16) :: hexOf m) = _
    simp only [Op.bytesLess, a1, a2, c1, c2, ih, Lib.compareBytes, UInt8.lt_iff_toNat_lt]
    by_cases h1 : x.toNat < y.toNat
    · rw [if_pos h1]
      by_cases h3 : x.toNat / 16 < y.toNat / 16
      · simp [h3]
      · have h4 : x.toNat / 16 = y.toNat / 16 := by omega
        have h5 : x.toNat % 16 < y.toNat % 16 := by omega
        simp [h4, h5]
    · rw [if_neg h1]
      have h3 : ¬ x.toNat / 16 < y.toNat / 16 := by omega
      by_cases h2 : y.toNat < x.toNat
      · rw [if_pos h2]
        by_cases h4 : x.toNat / 16 = y.toNat / 16
        · have h5 : ¬ x.toNat % 16 < y.toNat % 16 := by omega
          have h6 : ¬ x.toNat % 16 = y.toNat % 16 := by omega
          simp [h4, h5, h6]
        · simp [h3, h4]
      · rw [if_neg h2]
        have h4 : x.toNat = y.toNat := by omega
        simp [h4]
  | [], _ :: _, h => by simp at h
  | _ :: _, [], h => by simp at h

/-- The order of two digests. -/
def lt32 (l m : List UInt8) : Bool := decide (Lib.compareBytes l m < 0)
theorem lt_at : ∀ (l m : List UInt8) (k : Nat) (hl : k < l.length) (hm : k < m.length), l.take k = m.take k → l[k] ≠ m[k] → lt32 l m = decide ((l[k].toNat : Int) < (m[k].toNat : Int))
  | [], _, _, hl, _, _, _ => by simp at hl
  | _ :: _, [], _, _, hm, _, _ => by simp at hm
  | x :: l, y :: m, 0, _, _, _, hne => by
    have hne' : x ≠ y := hne
    have hn : x.toNat ≠ y.toNat := fun e => hne' (UInt8.toNat_inj.1 e)
    show decide (Lib.compareBytes (x :: l) (y :: m) < 0) = decide ((x.toNat : Int) < (y.toNat : Int))
    simp only [Lib.compareBytes, UInt8.lt_iff_toNat_lt]
    by_cases h1 : x.toNat < y.toNat
    · rw [if_pos h1]; simp; omega
    · rw [if_neg h1, if_pos (by omega)]; simp; omega
  | x :: l, y :: m, k + 1, hl, hm, ht, hne => by
    simp only [List.take_succ_cons, List.cons.injEq] at ht
    obtain ⟨rfl, ht⟩ := ht
    have ih := lt_at l m k (by simpa using hl) (by simpa using hm) ht (by simpa using hne)
    unfold lt32 at ih ⊢
    have e : Lib.compareBytes (x :: l) (x :: m) = Lib.compareBytes l m := by
      simp only [Lib.compareBytes, UInt8.lt_iff_toNat_lt, Nat.lt_irrefl, if_false]
    rw [e, ih]
    simp
theorem lt_same : ∀ l : List UInt8, lt32 l l = false
  | [] => rfl
  | x :: l => by
    have ih := lt_same l
    unfold lt32 at ih ⊢
    have e : Lib.compareBytes (x :: l) (x :: l) = Lib.compareBytes l l := by
      simp only [Lib.compareBytes, UInt8.lt_iff_toNat_lt, Nat.lt_irrefl, if_false]
    rw [e]; exact ih
theorem hex_inj {l m : List UInt8} (h : hexOf l = hexOf m) : l = m := by
  have h1 := pairs_hex l
  rw [h, pairs_hex m] at h1
  injection h1 with h1
  exact h1.symm
theorem nm_lt (k : UInt8) (l m : List UInt8) (h : l.length = m.length) : Op.bytesLess (nmT k l) (nmT k m) = lt32 l m := by
  have hh := hex_less l m h
  show (decide (k < k) || (k == k && (decide ((46 : UInt8) < 46) || ((46 : UInt8) == 46 && Op.bytesLess (hexOf l) (hexOf m))))) = _
  rw [hh]
  simp [lt32, UInt8.lt_iff_toNat_lt]
theorem nm_eq (k : UInt8) (l m : List UInt8) : (nmT k l == nmT k m) = (l == m) := by
  rw [Bool.eq_iff_iff, beq_iff_eq, beq_iff_eq]
  unfold nmT
  constructor
  · intro h
    injection h with _ h
    injection h with _ h
    exact hex_inj h
  · rintro rfl; rfl
theorem nm_op (l m : List UInt8) : Op.bytesLess (nmT 111 l) (nmT 112 m) = true := by
  show (decide ((111 : UInt8) < 112) || _) = true
  rfl
theorem nm_no (l : List UInt8) (h : l.length = 32) (k : UInt8) : refB (nmT k l) = false := by
  have e := nmT_length k l h
  unfold refB
  rw [e]
  rfl
end Go.Proofs.Ytekhnacgejfmjaa
