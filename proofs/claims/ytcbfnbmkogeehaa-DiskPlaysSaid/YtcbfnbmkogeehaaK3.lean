/- Rows read and written in the midst of a known block. -/
import Derived.Test.YtcbfnbmkogeehaaK1
namespace Go.Proofs.Ytcbfnbmkogeehaa
open Go.RowKit
section
variable {P : Program}
/-- The cells of a block from o on, as one value. -/
theorem run_loadVar_at (w : World) (g o : Nat) (t ty : TypeId) (cur : Array Value) (cs : List Value) (d : TypeDesc) (hg : Blk w g t cur)
    (hc : ∀ j v, cs[j]? = some v → cur[o + j]? = some v)
    (hu : P.underlying ty = some d) (hd : (match d with | .struct _ | .array _ _ => true | _ => false) = true) (hi : (P.info? ty).map (·.size) = some cs.length) :
    (loadVar ty ⟨g, o, none⟩).run P w = .ok (.agg cs.toArray) w := by
  have hl : (loadCells ⟨g, o, none⟩ cs.length).run P w = .ok cs.toArray w :=
    run_loadCells_list (P := P) w ⟨g, o, none⟩ cs (fun j v hv => by
      have hadd : (⟨g, o, none⟩ : Addr).add j = ⟨g, o + j, none⟩ := by unfold Addr.add; split <;> simp_all
      rw [hadd, hg.cell]
      exact hc j v hv)
  cases hq : P.info? ty with
  | none => simp [hq] at hi
  | some i =>
    have hs : i.size = cs.length := by simpa [hq] using hi
    have hagg : (isAgg ty).run P w = .ok true w := by
      unfold isAgg
      rw [Sem.run_bind, run_underlying hu w]
      cases d <;> simp_all
    simp [loadVar, Sem.run_bind, hagg, sizeOf, typeInfo, hq, hs, hl]
theorem wp_load_at {o : Oper} {a : Act} {w : World} {K : Act → World → Prop} {Q : Exit → Act → World → Prop} (ty : TypeId) (x : Operand) (ho : o.op = .load ty x)
    (g f : Nat) (hx : a.eval x = .pointer (some ⟨g, f, none⟩)) (t : TypeId) (cur : Array Value) (cs : List Value) (d : TypeDesc) (hg : Blk w g t cur)
    (hc : ∀ j v, cs[j]? = some v → cur[f + j]? = some v)
    (hu : P.underlying ty = some d) (hd : (match d with | .struct _ | .array _ _ => true | _ => false) = true) (hi : (P.info? ty).map (·.size) = some cs.length)
    (h : K (a.put o.dst (.agg cs.toArray)) w) : o.wp P a w K Q := by
  unfold Oper.wp execOp
  simp only [ho, hx, Instr.loadAt, Instr.sureAddr, Sem.run_bind, Sem.run_pure, Result.andThen_ok, run_loadVar_at w g f t ty cur cs d hg hc hu hd hi]
  exact h
theorem wpList_load_at {ops : Array Oper} {rest : List Oper} {o : Oper} {a : Act} {w : World} {Q : Exit → Act → World → Prop} (hgd : o.guard = none) (ty : TypeId) (x : Operand) (ho : o.op = .load ty x)
    (g f : Nat) (hx : a.eval x = .pointer (some ⟨g, f, none⟩)) (t : TypeId) (cur : Array Value) (cs : List Value) (d : TypeDesc) (hg : Blk w g t cur)
    (hc : ∀ j v, cs[j]? = some v → cur[f + j]? = some v)
    (hu : P.underlying ty = some d) (hd : (match d with | .struct _ | .array _ _ => true | _ => false) = true) (hi : (P.info? ty).map (·.size) = some cs.length)
    (h : wpList P ops Q rest (a.put o.dst (.agg cs.toArray)) w) : wpList P ops Q (o :: rest) a w :=
  wpList_plain hgd fun _ hK => wp_load_at ty x ho g f hx t cur cs d hg hc hu hd hi (hK _ _ h)

/-- The same block with these cells written from o on. -/
def lay (cur : Array Value) (o : Nat) (vs : List Value) : Array Value := (cur.toList.take o ++ vs ++ cur.toList.drop (o + vs.length)).toArray
theorem run_storeVar_at (w : World) (g o : Nat) (t ty : TypeId) (cur : Array Value) (cs : List Value) (hg : Blk w g t cur) (hfit : o + cs.length ≤ cur.size)
    (hi : (P.info? ty).map (·.size) = some cs.length) (h1 : ∀ v ∈ cs, v.oneCell' = true) :
    (storeVar ty ⟨g, o, none⟩ (.agg cs.toArray)).run P w = .ok () (w.setRow g (lay cur o cs)) := by
  have := run_storeCells_at P g o t cs 0 cur w hg (by simpa using hfit) h1
  cases hq : P.info? ty with
  | none => simp [hq] at hi
  | some i =>
    have hs : cs.length = i.size := by simp [hq] at hi; omega
    simp [storeVar, sizeOf, typeInfo, hq, Value.cells, hs, this, lay]
theorem run_storeAt_at (w : World) (g f : Nat) (t ty : TypeId) (cur : Array Value) (cs : List Value) (hg : Blk w g t cur) (hfit : f + cs.length ≤ cur.size)
    (hi : (P.info? ty).map (·.size) = some cs.length) (h1 : ∀ v ∈ cs, v.oneCell' = true) :
    (Instr.storeAt ty (.pointer (some ⟨g, f, none⟩)) (.agg cs.toArray)).run P w = .ok () (w.setRow g (lay cur f cs)) := by
  simp only [Instr.storeAt, Instr.sureAddr, Sem.run_bind, Sem.run_pure, Result.andThen_ok, run_storeVar_at w g f t ty cur cs hg hfit hi h1]
end
/-- A block's cells among those of many. -/
theorem flat_at (l : List (List UInt8)) (hl : ∀ b ∈ l, b.length = 512) (i : Nat) (b : List UInt8) (hb : l[i]? = some b) (j : Nat) (v : Value) (hv : (b.map U)[j]? = some v) :
    (l.flatMap (·.map U)).toArray[i * 512 + j]? = some v := by
  rw [Nat.mul_comm]
  induction l generalizing i with
  | nil => simp at hb
  | cons c r ih =>
    have hc : c.length = 512 := hl c (by simp)
    have hj : j < b.length := by
      rcases Nat.lt_or_ge j b.length with h | h
      · exact h
      · rw [List.getElem?_eq_none (by simpa using h)] at hv; cases hv
    cases i with
    | zero =>
      obtain rfl : c = b := by simpa using hb
      simp only [List.flatMap_cons, List.getElem?_toArray, Nat.mul_zero, Nat.zero_add]
      rw [List.getElem?_append_left (by simpa using hj)]
      exact hv
    | succ i =>
      have := ih (fun b hb => hl b (by simp [hb])) i (by simpa using hb)
      simp only [List.flatMap_cons, List.getElem?_toArray] at this ⊢
      rw [List.getElem?_append_right (by simp [hc]; omega)]
      rw [show 512 * (i + 1) + j - (c.map U).length = 512 * i + j by simp [hc]; omega]
      exact this
theorem flat_size (l : List (List UInt8)) (hl : ∀ b ∈ l, b.length = 512) : (l.flatMap (·.map U)).length = 512 * l.length := by
  induction l with
  | nil => simp
  | cons c r ih =>
    have hc : c.length = 512 := hl c (by simp)
    have := ih (fun b hb => hl b (by simp [hb]))
    simp [this, hc]; omega
theorem flat_lay (l : List (List UInt8)) (hl : ∀ b ∈ l, b.length = 512) (i : Nat) (b : List UInt8) (hb : b.length = 512) (hi : i < l.length) :
    lay (l.flatMap (·.map U)).toArray (i * 512) (b.map U) = ((l.set i b).flatMap (·.map U)).toArray := by
  rw [Nat.mul_comm]
  unfold lay
  congr 1
  induction l generalizing i with
  | nil => simp at hi
  | cons c r ih =>
    have hc : c.length = 512 := hl c (by simp)
    cases i with
    | zero =>
      simp only [List.flatMap_cons, List.set_cons_zero, Nat.mul_zero, List.take_zero, List.nil_append, Nat.zero_add, List.length_map, hb]
      rw [List.drop_append_of_le_length (by simp [hc]), List.drop_eq_nil_of_le (by simp [hc]), List.nil_append]
    | succ i =>
      have h2 := ih (fun b hb => hl b (by simp [hb])) i (by simpa using hi)
      simp only [List.flatMap_cons, List.set_cons_succ] at h2 ⊢
      rw [← h2, List.take_append, List.drop_append]
      have e1 : (c.map U).length = 512 := by simp [hc]
      rw [List.take_of_length_le (by omega), List.drop_eq_nil_of_le (by omega), e1, show 512 * (i + 1) - 512 = 512 * i by omega, show 512 * (i + 1) + (b.map U).length - 512 = 512 * i + (b.map U).length by omega]
      simp
end Go.Proofs.Ytcbfnbmkogeehaa
