/- Turns told from another beginning: the law's walk. -/
import Derived.Test.YtekhnacgejfmjaaE7
import Derived.Test.YtekhnacgejfmjaaZ0
import Derived.Test.YtekhnacgejfmjaaR2
namespace Go.Proofs.Ytekhnacgejfmjaa
open Go.RowKit

/-- What was seen. -/
def seen (s : List UInt32) (y : UInt32) : Option Value := if y ∈ s then some (.bool true) else none
theorem seen_nil : seen [] = fun _ => none := by funext x; simp [seen]
theorem seen_put (s t : List UInt32) (x : UInt32) (h : ∀ y, y ∈ t ↔ y = x ∨ y ∈ s) : (fun y => if y = x then some (.bool true) else seen s y) = seen t := by
  funext y
  unfold seen
  by_cases e : y = x
  · rw [if_pos e, if_pos ((h y).2 (.inl e))]
  · rw [if_neg e]
    by_cases hs : y ∈ s
    · rw [if_pos hs, if_pos ((h y).2 (.inr hs))]
    · rw [if_neg hs, if_neg (fun ht => ((h y).1 ht).elim e hs)]
theorem zero4 (w : World) : (zeroValue 4).run Try.prog w = .ok (.bool false) w := by kernel_rfl
theorem look51 {w : World} {mb n : Nat} {s : List UInt32} (h : Mu w mb n (seen s)) (x : UInt32) (b : Bool) (hb : decide (x ∈ s) = b) : (Instr.lookup 51 (.map (some mb)) (V x) false).run Try.prog w = .ok (.bool b) w := by
  have := h.look 51 4 Try.underlying51 (.bool false) (zero4 w) x
  rw [this]
  congr 1
  unfold seen
  by_cases hx : x ∈ s
  · rw [if_pos hx, ← hb, decide_eq_true hx]; rfl
  · rw [if_neg hx, ← hb, decide_eq_false hx]; rfl
section
variable {ops : Array Oper} {rest : List Oper} {o : Oper} {a : Act} {w : World} {Q : Exit → Act → World → Prop}
theorem wpList_insM (hgd : o.guard = none) (m x v : Operand) (t e : TypeId) (ho : o.op = .insert t m x v) (ht : Try.prog.underlying t = some (.map 37 e)) (mb n : Nat) (f : UInt32 → Option Value) (k : UInt32) (val : Value)
    (hm : a.eval m = .map (some mb)) (hx : a.eval x = V k) (hv : a.eval v = val) (hmu : Mu w mb n f) (hn : n < maxLen)
    (h : ∀ w', Mu w' mb (n + 1) (fun y => if y = k then some val else f y) → Ex mb w w' → w'.heap.size = w.heap.size → wpList Try.prog ops Q rest (a.put o.dst undef) w') : wpList Try.prog ops Q (o :: rest) a w := by
  refine wpList_plain hgd fun K hK => ?_
  obtain ⟨w', hrun, h1, h2, h3⟩ := hmu.put t e ht hn k val
  unfold Oper.wp
  simp only [execOp, ho, Sem.run_bind, Sem.run_pure, Result.andThen_ok, hm, hx, hv, hrun]
  exact hK _ _ (h w' h1 h2 h3)
end
section
variable {o : Oper} {a : Act} {w : World} {K : Act → World → Prop} {Q : Exit → Act → World → Prop}
theorem wp_slice_is (t : TypeId) (x : Operand) (lo hi : Option Operand) (ho : o.op = .slice t x lo hi none) (v v' : Value) (lv hv : Option Value) (hx : a.eval x = v) (hlo : lo.map a.eval = lv) (hhi : hi.map a.eval = hv)
    (hrun : ∀ w, (Instr.sliceAt t v lv hv none).run Try.prog w = .ok v' w) (hK : K (a.put o.dst v') w) : o.wp Try.prog a w K Q := by
  unfold Oper.wp execOp
  simp only [ho, Option.map_none, hx, hlo, hhi, Sem.run_bind, hrun, Result.andThen_ok, Sem.run_pure]
  exact hK
end
/-- Both slicings, as they run. -/
theorem cut_lo {w : World} {A : Option Addr} {c : Nat} {l : List UInt32} (k : Nat) (hk : k ≤ l.length) (hc : l.length ≤ c) (hr : Rd w A l) :
    ∃ A' c', Rd w A' (l.drop k) ∧ (l.drop k).length ≤ c' ∧ ∀ w2, (Instr.sliceAt 41 (.slice A l.length c) (some (.int .i64 (k : Int))) none none).run Try.prog w2 = .ok (.slice A' (l.drop k).length c') w2 := by
  have h4 : ∀ w, (sizeOf 37).run Try.prog w = .ok 1 w := fun w => by kernel_rfl
  refine ⟨if c = k then A else A.map (·.add k), c - k, ⟨by rw [List.length_drop]; have := hr.len; omega, fun h0 => ?_⟩, by rw [List.length_drop]; omega, fun w2 => ?_⟩
  · rw [List.length_drop] at h0
    obtain ⟨b, o2, rfl, hlt, hcell⟩ := hr.place (by omega)
    rw [if_neg (by omega)]
    refine ⟨b, o2 + k, by rw [Option.map_some, addr_add], hlt, fun i hi => ?_⟩
    rw [List.length_drop] at hi
    rw [show o2 + k + i = o2 + (k + i) by omega, hcell (k + i) (by omega), List.getElem_drop]
  · simp [Instr.sliceAt, Instr.slice, Instr.sliceBounds, Instr.sliceBound, asIntOf, run_underlying Try.underlying41, h4, hk]
theorem cut_hi {w : World} {A : Option Addr} {c : Nat} {l : List UInt32} (k : Nat) (hk : k ≤ l.length) (hc : l.length ≤ c) (hr : Rd w A l) :
    Rd w A (l.take k) ∧ (l.take k).length ≤ c ∧ ∀ w2, (Instr.sliceAt 41 (.slice A l.length c) none (some (.int .i64 (k : Int))) none).run Try.prog w2 = .ok (.slice A (l.take k).length c) w2 := by
  have h4 : ∀ w, (sizeOf 37).run Try.prog w = .ok 1 w := fun w => by kernel_rfl
  have hkc : k ≤ c := by omega
  have hln : (l.take k).length = k := by rw [List.length_take]; omega
  refine ⟨⟨by rw [hln]; have := hr.len; omega, fun h0 => ?_⟩, by rw [hln]; exact hkc, fun w2 => ?_⟩
  · rw [hln] at h0
    obtain ⟨b, o2, rfl, hlt, hcell⟩ := hr.place (by omega)
    refine ⟨b, o2, rfl, hlt, fun i hi => ?_⟩
    rw [hln] at hi
    rw [hcell i (by omega), List.getElem_take]
  · rw [hln]
    simp [Instr.sliceAt, Instr.slice, Instr.sliceBounds, Instr.sliceBound, asIntOf, run_underlying Try.underlying41, h4, hkc]
    cases A with
    | none => simp
    | some x => by_cases hc0 : c = 0 <;> simp [hc0, Addr.add]
/-- The turn told from there on, as the program makes it. -/
theorem two_appends (w : World) (A : Option Addr) (c : Nat) (l : List UInt32) (k : Nat) (hk : k ≤ l.length) (hc : l.length ≤ c) (hl : l.length ≤ 1000000) (hr : Rd w A l) :
    ∃ v45 v46 v49 v50 w46 w50, (∀ w2, (Instr.sliceAt 41 (.slice A l.length c) (some (.int .i64 (k : Int))) none none).run Try.prog w2 = .ok v45 w2) ∧
      (∀ w2, (Instr.sliceAt 41 (.slice A l.length c) none (some (.int .i64 (k : Int))) none).run Try.prog w2 = .ok v49 w2) ∧
      (Builtin.append_ #[41, 41] 41 #[.slice (some ⟨w.heap.size, 0, none⟩) 0 0, v45]).run Try.prog (w.drew.alloc (.cells #[] 37)) = .ok v46 w46 ∧
      (Builtin.append_ #[41, 41] 41 #[v46, v49]).run Try.prog w46 = .ok v50 w50 ∧ RV w50 v50 (rot l k) ∧ Below w.heap.size w w50 := by
  obtain ⟨A', c', h1, _, h3⟩ := cut_lo k hk hc hr
  obtain ⟨h4, _, h6⟩ := cut_hi k hk hc hr
  have hb0 : Below w.heap.size w (w.drew.alloc (.cells #[] 37)) := ⟨rfl, rfl, rfl, by simp, fun j hj => Below.heap_alloc w.drew _ j hj⟩
  have hl1 : (l.drop k).length + (l.take k).length = l.length := by rw [List.length_drop, List.length_take]; omega
  obtain ⟨v46, w46, r1, o1, b1⟩ := run_append_rd (w.drew.alloc (.cells #[] 37)) w.heap.size 41 (.slice (some ⟨w.heap.size, 0, none⟩) 0 0) [] (l.drop k) A' c' (Ow.made w.drew #[] w.heap.size (Nat.le_refl _) (Nat.zero_le _)) (h1.kept hb0 (Nat.le_refl _)) (by simp only [List.length_nil]; omega) hb0.size
  rw [List.nil_append] at o1
  have b01 := hb0.trans b1
  obtain ⟨v50, w50, r2, o2, b2⟩ := run_append_rd w46 w.heap.size 41 v46 (l.drop k) (l.take k) A c o1 (h4.kept b01 (Nat.le_refl _)) (by omega) b01.size
  exact ⟨_, v46, _, v50, w46, w50, h3, h6, r1, r2, o2.rv (by rw [List.length_append]; omega), b01.trans b2⟩
theorem wp_append_is {o : Oper} {a : Act} {w : World} {K : Act → World → Prop} {Q : Exit → Act → World → Prop} (s x : Operand) (ho : o.op = .call { callee := .builtin .append, args := #[s, x], argTypes := #[41, 41] }) (hty : o.type = 41) (v u : Value) (hs : a.eval s = v) (hx : a.eval x = u) {v' : Value} {w' : World}
    (hr : (Builtin.append_ #[41, 41] 41 #[v, u]).run Try.prog w = .ok v' w') (h : K (a.put o.dst v') w') : o.wp Try.prog a w K Q :=
  Lib.wp_append_run w s x 41 41 ho v u hs hx v' w' (by rw [hty]; exact hr) h
theorem conv_by (b : UInt8) (w : World) : (convert 5 3 (.int .u8 (b.toNat : Int))).run Try.prog w = .ok (.int .i64 (b.toNat : Int)) w := by
  have h := b.toNat_lt
  have e : (convert 5 3 (.int .u8 (b.toNat : Int))).run Try.prog w = .ok (.int .i64 (IntKind.i64.wrap (b.toNat : Int))) w := by
    simp [convert, run_underlying Try.underlying5, run_underlying Try.underlying3, Conv.intToInt]
  rw [e, IntWalk.i64_in] <;> omega
theorem run_remV (d n : UInt32) (hn : ¬ n.toNat = 0) (w : World) : (binOp .rem 37 (V d) (V n)).run Try.prog w = .ok (V (d % n)) w := by
  have h : (binOp .rem 37 (V d) (V n)).run Try.prog w = (Op.intDiv .rem .u32 (d.toNat : Int) (n.toNat : Int)).run Try.prog w := rfl
  rw [h]
  unfold Op.intDiv
  have h0 : ¬ ((n.toNat : Int) = 0) := by omega
  simp only [h0, if_false]
  show Result.ok (Value.int .u32 ((d.toNat : Int).tmod (n.toNat : Int))) w = _
  rw [rem_nat, V_def, UInt32.toNat_mod]
theorem conv_back (x : UInt32) (w : World) : (convert 37 3 (V x)).run Try.prog w = .ok (.int .i64 (x.toNat : Int)) w := by
  have h := x.toNat_lt
  have e : (convert 37 3 (.int .u32 (x.toNat : Int))).run Try.prog w = .ok (.int .i64 (IntKind.i64.wrap (x.toNat : Int))) w := by
    simp [convert, run_underlying Try.underlying37, run_underlying Try.underlying3, Conv.intToInt]
  have e2 : (convert 37 3 (V x)).run Try.prog w = (convert 37 3 (.int .u32 (x.toNat : Int))).run Try.prog w := rfl
  rw [e2, e, IntWalk.i64_in] <;> omega
theorem of_len (n : Nat) (h : n ≤ 60) : (UInt32.ofNat n).toNat = n := by show n % 4294967296 = n; omega
end Go.Proofs.Ytekhnacgejfmjaa
