/- Rows that are made: append, Grow, Concat, Clone. -/
import Derived.Test.YtbhoingiibcboaaA2
import Derived.Lib.AppendZeros
import Derived.Lib.SliceRun
namespace Go.Proofs.Ytbhoingiibcboaa
open Go.RowKit

/-- A row of one's own. -/
def Ow (w : World) (base : Nat) (v : Value) (l : List UInt32) : Prop := w.ownsRow base 31 1 v l.length (l.map V)
theorem Ow.nil (w : World) (base : Nat) : Ow w base (.slice none 0 0) [] := World.ownsRow_nil _ _ _ _
/-- A value that reads so. -/
def RV (w : World) (v : Value) (l : List UInt32) : Prop := ∃ A c, v = .slice A l.length c ∧ l.length ≤ c ∧ Rd w A l
theorem RV.kept {w w' : World} {v : Value} {l : List UInt32} (h : RV w v l) (hb : Below w.heap.size w w') : RV w' v l := by
  obtain ⟨A, c, h1, h2, h3⟩ := h
  exact ⟨A, c, h1, h2, h3.kept hb (Nat.le_refl _)⟩
theorem RV.nil (w : World) : RV w (.slice none 0 0) [] := ⟨none, 0, rfl, Nat.le_refl _, Rd.nil _ _⟩
theorem Ow.rv {w : World} {base : Nat} {v : Value} {l : List UInt32} (h : Ow w base v l) (hl : l.length ≤ 1000000) : RV w v l := by
  rcases h.2 with ⟨rfl, h0⟩ | ⟨b, cap, cur, rfl, hb, hgc, hcap, _, hsz, htake⟩
  · obtain rfl : l = [] := List.length_eq_zero_iff.1 h0
    exact RV.nil w
  · have hblk : Blk w b 31 cur := hgc
    refine ⟨_, cap, rfl, hcap, hl, fun h0 => ⟨b, 0, rfl, hblk.lt, fun i hi => ?_⟩⟩
    rw [Nat.zero_add, hblk.cell]
    have h1 : (cur.toList.take (l.length * 1))[i]? = (l.map V)[i]? := by rw [htake]
    rw [List.getElem?_take_of_lt (by omega)] at h1
    simpa [hi] using h1
theorem Ow.alloc {w : World} {base : Nat} {v : Value} {l : List UInt32} (h : Ow w base v l) (o : Obj) : Ow (w.alloc o) base v l := World.ownsRow.alloc h o
theorem Ow.made (w : World) (cur : Array Value) (base : Nat) (hb : base ≤ w.heap.size) (hs : cur.size ≤ maxLen) : Ow (w.alloc (.cells cur 31)) base (.slice (some ⟨w.heap.size, 0, none⟩) 0 cur.size) [] :=
  World.ownsRow_made w cur cur.size hb hs (by omega)
/-- What is kept grows below one's own rows. -/
theorem grown_below {w w' : World} {base : Nat} {v : Value} {n : Nat} {xs : List Value} (h : w.ownsRow base 31 1 v n xs) (hg : w.grownBy w' v.ownBlock) (hb : base ≤ w.heap.size) : Below base w w' :=
  ⟨hg.os, hg.tape, hg.output, hg.size, fun k hk => hg.block k (by omega) (fun e => by have := (h.lt k e.symm).1; omega)⟩
theorem V_one (l : List UInt32) : ∀ u ∈ l.map V, u.oneCell' = true := by
  intro u hu
  obtain ⟨x, _, rfl⟩ := List.mem_map.1 hu
  rfl
theorem addr_add (b o i : Nat) : (⟨b, o, none⟩ : Addr).add i = ⟨b, o + i, none⟩ := by unfold Addr.add; split <;> simp_all
theorem Rd.cells {w : World} {b o : Nat} {l : List UInt32} (hc : ∀ i (h : i < l.length), w.cell? ⟨b, o + i, none⟩ = some (V l[i])) : ∀ j u, (l.map V)[j]? = some u → w.cell? ((⟨b, o, none⟩ : Addr).add j) = some u := by
  intro j u hu
  rw [addr_add]
  rw [List.getElem?_map] at hu
  by_cases hj : j < l.length
  · rw [hc j hj]; simpa [hj] using hu
  · rw [List.getElem?_eq_none (by omega)] at hu; cases hu
/- append of what is read to a row of one's own. -/
set_option maxRecDepth 100000 in
theorem run_append_rd (w : World) (base : Nat) (ty : TypeId) (v : Value) (l m : List UInt32) (A : Option Addr) (c : Nat) (hown : Ow w base v l) (hr : Rd w A m) (hlen : l.length + m.length ≤ 1000000) (hb : base ≤ w.heap.size) :
    ∃ v' w', (Builtin.append_ #[22, 22] ty #[v, .slice A m.length c]).run Try.prog w = .ok v' w' ∧ Ow w' base v' (l ++ m) ∧ Below base w w' := by
  by_cases h0 : m.length = 0
  · obtain rfl : m = [] := List.length_eq_zero_iff.1 h0
    refine ⟨v, w, ?_, by rw [List.append_nil]; exact hown, Below.refl _ _⟩
    have hf : ∀ A : Option Addr, (Builtin.firstCells 1 0 (.slice A 0 c)).run Try.prog w = .ok #[] w := fun A => by cases A <;> rfl
    have hi : ∃ i, Try.prog.info? 31 = some i ∧ i.size = 1 := ⟨_, rfl, rfl⟩
    obtain ⟨i, hi, hi1⟩ := hi
    rcases hown.2 with ⟨rfl, h0⟩ | ⟨b, cap, cur, rfl, hb, hgc, hcap, _, hsz, htake⟩
    · have hl0 : l = [] := List.length_eq_zero_iff.1 h0
      subst hl0
      simp [Builtin.append_, run_underlying Try.underlying22, sizeOf, typeInfo, hi, hi1, Builtin.lenOf, hf]
    · have hst : (storeCells ((⟨b, 0, none⟩ : Addr).add l.length) []).run Try.prog w = .ok () w := rfl
      simp [Builtin.append_, run_underlying Try.underlying22, sizeOf, typeInfo, hi, hi1, Builtin.lenOf, hcap, hf, hst]
  · obtain ⟨b, o, rfl, hc⟩ := hr.spot (by omega)
    obtain ⟨v', w', h1, h2, h3, _⟩ := run_append_own (P := Try.prog) w base 22 ty 31 _ (.int .u32 0) 1 4 Try.underlying22 rfl rfl rfl rfl rfl (by decide) v l.length (l.map V) hown ⟨b, o, none⟩ m.length c (m.map V) (by simp) (Rd.cells hc) (V_one m) (by unfold maxLen; omega) (by omega) hb
    refine ⟨v', w', h1, ?_, grown_below hown h3 hb⟩
    unfold Ow
    rw [List.length_append, List.map_append]
    exact h2
theorem wpList_append_rd {w : World} {ops : Array Oper} {rest : List Oper} {o : Oper} {a : Act} {Q : Exit → Act → World → Prop} (hgd : o.guard = none) (s x : Operand)
    (ho : o.op = .call { callee := .builtin .append, args := #[s, x], argTypes := #[22, 22] }) (base : Nat) (v : Value) (l m : List UInt32) (A : Option Addr) (c : Nat) (hs : a.eval s = v) (hx : a.eval x = .slice A m.length c)
    (hown : Ow w base v l) (hr : Rd w A m) (hlen : l.length + m.length ≤ 1000000) (hb : base ≤ w.heap.size)
    (h : ∀ v' w', Ow w' base v' (l ++ m) → Below base w w' → wpList Try.prog ops Q rest (a.put o.dst v') w') : wpList Try.prog ops Q (o :: rest) a w := by
  obtain ⟨v', w', h1, h2, h3⟩ := run_append_rd w base o.type v l m A c hown hr hlen hb
  exact wpList_plain hgd fun _ hK => Lib.wp_append_run w s x 22 22 ho v _ hs hx v' w' h1 (hK _ _ (h v' w' h2 h3))
/-- A row that was just laid. -/
theorem Rd.fresh (w : World) (l : List UInt32) (hl : l.length ≤ 1000000) : Rd (w.alloc (.cells (l.map V).toArray 31)) (some ⟨w.heap.size, 0, none⟩) l :=
  ⟨hl, fun h0 => ⟨w.heap.size, 0, rfl, by simp, fun i hi => by rw [Nat.zero_add, (Blk.fresh w 31 _).cell]; simp [hi]⟩⟩

attribute [local irreducible] V
theorem nil_guard (p : BinOp) (t : TypeId) (o1 o2 : Operand) (A B : Option Addr) (n c m d : Nat) (w : World) : (eqGuard p t o1 o2 (.slice A n c) (.slice B m d)).run Try.prog w = .ok () w := by
  cases p <;> rfl
theorem nil_yes (n c : Nat) (w : World) : (binOp .eql 22 (.slice none n c) (.slice none 0 0)).run Try.prog w = .ok (.bool true) w := Lib.run_eql_slice_nil w 22 31 none n c 0 0 Try.underlying22
theorem nil_no (a : Addr) (n c : Nat) (w : World) : (binOp .eql 22 (.slice (some a) n c) (.slice none 0 0)).run Try.prog w = .ok (.bool false) w := Lib.run_eql_slice_nil w 22 31 (some a) n c 0 0 Try.underlying22
/-- slices.Clone of what is there. -/
theorem clone_walk (w : World) (A : Option Addr) (c : Nat) (l : List UInt32) (h : Rd w A l) (hc : l.length ≤ c) :
    Calls Try.prog 38 #[.slice A l.length c] w fun e w' => ∃ v, e = .returned v ∧ Ow w' w.heap.size v l ∧ Below w.heap.size w w' := by
  have hlen := h.len
  have H := Lib.hid h
  cases A with
  | none =>
    have h0 : l.length = 0 := by
      rcases Nat.eq_zero_or_pos l.length with h1 | h1
      · exact h1
      · obtain ⟨b, o, ha, _⟩ := h.spot h1; cases ha
    obtain rfl : l = [] := List.length_eq_zero_iff.1 h0
    have g1 := nil_guard
    have g2 := nil_yes
    clear h hc hlen
    go_enter Try.func38, Try.ntmps38
    go_wp2
    go_ret
    exact ⟨_, rfl, Ow.nil _ _, Below.refl _ _⟩
  | some a =>
    have g1 := nil_guard
    have g2 := nil_no
    clear h hc
    go_enter Try.func38, Try.ntmps38
    go_wp2_with (refine wpList_append_rd rfl (.tmp 5) (.tmp 6) rfl w.heap.size (.slice (some ⟨w.heap.size, 0, none⟩) 0 0) [] l (some a) c rfl rfl (Ow.made w #[] w.heap.size (Nat.le_refl _) (Nat.zero_le _)) (H.out.kept ((Below.refl _ w).alloc (Nat.le_refl _) _) (Nat.le_refl _)) (by simpa using hlen) (by simp) ?_; intro v2 w2 ho2 hb2; have HO := Lib.hid ho2; have HB := Lib.hid hb2; clear ho2 hb2)
    go_ret
    exact ⟨_, rfl, HO.out, ((Below.refl _ w).alloc (Nat.le_refl _) _).trans HB.out⟩
end Go.Proofs.Ytbhoingiibcboaa
