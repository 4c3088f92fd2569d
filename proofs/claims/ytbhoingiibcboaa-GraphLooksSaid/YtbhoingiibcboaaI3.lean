/- Rows of edges of one's own; slices.Clone of them. -/
import Derived.Test.YtbhoingiibcboaaI2
namespace Go.Proofs.Ytbhoingiibcboaa
open Go.RowKit

/-- The cells of a row of edges. -/
def ecs : List Eg → List Value
  | [] => []
  | e :: r => V e.id :: V e.a :: V e.b :: ecs r
theorem ecs_len : ∀ es : List Eg, (ecs es).length = es.length * 3
  | [] => rfl
  | e :: r => by simp only [ecs, List.length_cons, ecs_len r]; omega
theorem ecs_app : ∀ a b : List Eg, ecs (a ++ b) = ecs a ++ ecs b
  | [], _ => rfl
  | e :: r, b => by simp [ecs, ecs_app r b]
theorem ecs_at : ∀ (es : List Eg) (i : Nat), i < es.length → (ecs es)[i * 3]? = some (V (es.getD i e0).id) ∧ (ecs es)[i * 3 + 1]? = some (V (es.getD i e0).a) ∧ (ecs es)[i * 3 + 2]? = some (V (es.getD i e0).b)
  | e :: r, 0, _ => ⟨rfl, rfl, rfl⟩
  | e :: r, i + 1, h => by
    have hi : i < r.length := by simpa using h
    have := ecs_at r i hi
    rw [show (i + 1) * 3 = i * 3 + 1 + 1 + 1 by omega, show i * 3 + 1 + 1 + 1 + 1 = i * 3 + 1 + 1 + 1 + 1 from rfl]
    refine ⟨?_, ?_, ?_⟩
    · simpa [ecs] using this.1
    · have h2 := this.2.1
      rw [show i * 3 + 1 + 1 + 1 + 1 = (i * 3 + 1) + 1 + 1 + 1 by omega]
      simpa [ecs] using h2
    · have h2 := this.2.2
      rw [show i * 3 + 1 + 1 + 1 + 2 = (i * 3 + 2) + 1 + 1 + 1 by omega]
      simpa [ecs] using h2
theorem ecs_one (es : List Eg) : ∀ u ∈ ecs es, u.oneCell' = true := by
  induction es with
  | nil => intro u hu; cases hu
  | cons e r ih =>
    intro u hu
    simp only [ecs, List.mem_cons] at hu
    rcases hu with rfl | rfl | rfl | hu
    · rfl
    · rfl
    · rfl
    · exact ih u hu
theorem ecs_get {es : List Eg} {j : Nat} {u : Value} (h : (ecs es)[j]? = some u) : ∃ i, i < es.length ∧ ((j = i * 3 ∧ u = V (es.getD i e0).id) ∨ (j = i * 3 + 1 ∧ u = V (es.getD i e0).a) ∨ (j = i * 3 + 2 ∧ u = V (es.getD i e0).b)) := by
  have hj : j < (ecs es).length := by
    rcases Nat.lt_or_ge j (ecs es).length with q | q
    · exact q
    · rw [List.getElem?_eq_none q] at h; cases h
  rw [ecs_len] at hj
  have hi : j / 3 < es.length := by omega
  obtain ⟨h1, h2, h3⟩ := ecs_at es (j / 3) hi
  refine ⟨j / 3, hi, ?_⟩
  have hm : j % 3 = 0 ∨ j % 3 = 1 ∨ j % 3 = 2 := by omega
  rcases hm with q | q | q
  · left
    have e : j = j / 3 * 3 := by omega
    rw [← e, h] at h1
    exact ⟨e, by cases h1; rfl⟩
  · right; left
    have e : j = j / 3 * 3 + 1 := by omega
    rw [← e, h] at h2
    exact ⟨e, by cases h2; rfl⟩
  · right; right
    have e : j = j / 3 * 3 + 2 := by omega
    rw [← e, h] at h3
    exact ⟨e, by cases h3; rfl⟩
/-- A row of edges of one's own. -/
def OwE (w : World) (base : Nat) (v : Value) (es : List Eg) : Prop := w.ownsRow base 39 3 v es.length (ecs es)
/-- A value that reads as a row of edges. -/
def RVE (w : World) (v : Value) (es : List Eg) : Prop := ∃ A c, v = .slice A es.length c ∧ es.length ≤ c ∧ RdE w A es
theorem RVE.kept {w w' : World} {v : Value} {es : List Eg} (h : RVE w v es) (hb : Below w.heap.size w w') : RVE w' v es := by
  obtain ⟨A, c, h1, h2, h3⟩ := h
  exact ⟨A, c, h1, h2, h3.kept hb (Nat.le_refl _)⟩
theorem OwE.rve {w : World} {base : Nat} {v : Value} {es : List Eg} (h : OwE w base v es) (hl : es.length ≤ 1000000) : RVE w v es := by
  rcases h.2 with ⟨rfl, h0⟩ | ⟨b, cap, cur, rfl, hb, hgc, hcap, _, hsz, htake⟩
  · obtain rfl : es = [] := List.length_eq_zero_iff.1 h0
    exact ⟨none, 0, rfl, Nat.le_refl _, RdE.nil _ _⟩
  · have hblk : Blk w b 39 cur := hgc
    have hg : ∀ j, j < es.length * 3 → cur[j]? = (ecs es)[j]? := fun j hj => by
      have h1 : (cur.toList.take (es.length * 3))[j]? = (ecs es)[j]? := by rw [htake]
      rw [List.getElem?_take_of_lt hj, Array.getElem?_toList] at h1
      exact h1
    refine ⟨_, cap, rfl, hcap, hl, fun h0 => ⟨b, 0, rfl, hblk.lt, fun i hi => ?_⟩⟩
    obtain ⟨h1, h2, h3⟩ := ecs_at es i hi
    rw [Nat.zero_add]
    exact ⟨by rw [hblk.cell, hg _ (by omega)]; exact h1, by rw [hblk.cell, hg _ (by omega)]; exact h2, by rw [hblk.cell, hg _ (by omega)]; exact h3⟩
theorem RdE.cells {w : World} {b o : Nat} {es : List Eg} (hc : ∀ i, i < es.length → w.cell? ⟨b, o + i * 3, none⟩ = some (V (es.getD i e0).id) ∧ w.cell? ⟨b, o + i * 3 + 1, none⟩ = some (V (es.getD i e0).a) ∧ w.cell? ⟨b, o + i * 3 + 2, none⟩ = some (V (es.getD i e0).b)) :
    ∀ j u, (ecs es)[j]? = some u → w.cell? ((⟨b, o, none⟩ : Addr).add j) = some u := by
  intro j u hu
  rw [addr_add]
  obtain ⟨i, hi, h1 | h1 | h1⟩ := ecs_get hu
  · rw [h1.1, h1.2]; exact (hc i hi).1
  · rw [h1.1, h1.2, ← Nat.add_assoc]; exact (hc i hi).2.1
  · rw [h1.1, h1.2, ← Nat.add_assoc]; exact (hc i hi).2.2
theorem info39 : ∃ i, Try.prog.info? 39 = some i ∧ i.zero = some (.agg #[.int .u32 0, .int .u32 0, .int .u32 0]) ∧ i.size = 3 ∧ i.bytes = 12 := by
  have h : (Try.prog.info? 39).map (fun i => (i.zero, i.size, i.bytes)) = some (some (.agg #[.int .u32 0, .int .u32 0, .int .u32 0]), 3, 12) := by kernel_rfl
  cases hi : Try.prog.info? 39 with
  | none => rw [hi] at h; cases h
  | some i =>
    rw [hi] at h
    simp only [Option.map_some, Option.some.injEq, Prod.mk.injEq] at h
    exact ⟨i, rfl, h.1, h.2.1, h.2.2⟩
theorem owe_made (w : World) : OwE (w.alloc (.cells #[] 39)) w.heap.size (.slice (some ⟨w.heap.size, 0, none⟩) 0 0) [] :=
  ⟨rfl, .inr ⟨w.heap.size, 0, #[], rfl, Nat.le_refl _, heap_alloc_new w _, Nat.le_refl _, Nat.zero_le _, rfl, rfl⟩⟩
section
variable {ops : Array Oper} {rest : List Oper} {o : Oper} {a : Act} {w : World} {Q : Exit → Act → World → Prop}
set_option maxRecDepth 100000 in
theorem run_append_e (w : World) (ty : TypeId) (base : Nat) (v : Value) (l m : List Eg) (A : Option Addr) (c : Nat) (h : OwE w base v l) (hr : RdE w A m) (hl : l.length + m.length ≤ 1000000) (hb : base ≤ w.heap.size) :
    ∃ v' w', (Builtin.append_ #[23, 23] ty #[v, .slice A m.length c]).run Try.prog w = .ok v' w' ∧ OwE w' base v' (l ++ m) ∧ Below base w w' := by
  obtain ⟨i, hi, hz, hsz, hby⟩ := info39
  by_cases h0 : m.length = 0
  · obtain rfl : m = [] := List.length_eq_zero_iff.1 h0
    refine ⟨v, w, ?_, by rw [List.append_nil]; exact h, Below.refl _ _⟩
    have hf : ∀ A : Option Addr, (Builtin.firstCells 3 0 (.slice A 0 c)).run Try.prog w = .ok #[] w := fun A => by cases A <;> rfl
    rcases h.2 with ⟨rfl, h0⟩ | ⟨b, cap, cur, rfl, hb, hgc, hcap, _, hs, htake⟩
    · have hl0 : l = [] := List.length_eq_zero_iff.1 h0
      subst hl0
      simp [Builtin.append_, run_underlying Try.underlying23, sizeOf, typeInfo, hi, hsz, Builtin.lenOf, hf]
    · have hst : (storeCells ((⟨b, 0, none⟩ : Addr).add (l.length * 3)) []).run Try.prog w = .ok () w := rfl
      simp [Builtin.append_, run_underlying Try.underlying23, sizeOf, typeInfo, hi, hsz, Builtin.lenOf, hcap, hf, hst]
  · obtain ⟨b, off, rfl, hc⟩ := hr.spot (by omega)
    obtain ⟨v', w', hr, h1, h2, _, _⟩ := run_append_own_at (P := Try.prog) (w := w) base 23 ty 39 i _ 3 12 Try.underlying23 hi hz hsz hby rfl (by decide) v l.length (ecs l) h ⟨b, off, none⟩ m.length c (ecs m) (ecs_len m) (RdE.cells hc) (ecs_one m) (by unfold maxLen; omega) (by omega) hb
    refine ⟨v', w', hr, ?_, ⟨h2.os, h2.tape, h2.output, h2.size, fun k hk => h2.block k (Nat.lt_of_lt_of_le hk hb) (fun e => by
      rcases h.2 with ⟨rfl, _⟩ | ⟨g, cap, cur, rfl, hg, _⟩
      · cases e
      · cases e
        have hk2 : g < base := hk
        omega)⟩⟩
    unfold OwE
    rw [List.length_append, ecs_app]
    exact h1
theorem wpList_append_e (hgd : o.guard = none) (s x : Operand) (ho : o.op = .call { callee := .builtin .append, args := #[s, x], argTypes := #[23, 23] }) (base : Nat) (v : Value) (l m : List Eg) (A : Option Addr) (c : Nat)
    (hs : a.eval s = v) (hx : a.eval x = .slice A m.length c) (h : OwE w base v l) (hr : RdE w A m) (hl : l.length + m.length ≤ 1000000) (hb : base ≤ w.heap.size)
    (H : ∀ v' w', OwE w' base v' (l ++ m) → Below base w w' → wpList Try.prog ops Q rest (a.put o.dst v') w') : wpList Try.prog ops Q (o :: rest) a w := by
  obtain ⟨v', w', hr, h1, h2⟩ := run_append_e w o.type base v l m A c h hr hl hb
  exact wpList_plain hgd fun _ hK => Lib.wp_append_run w s x _ _ ho v _ hs hx v' w' hr (hK _ _ (H v' w' h1 h2))
end
theorem nilE_yes (n c : Nat) (w : World) : (binOp .eql 23 (.slice none n c) (.slice none 0 0)).run Try.prog w = .ok (.bool true) w := Lib.run_eql_slice_nil w 23 39 none n c 0 0 Try.underlying23
theorem nilE_no (a : Addr) (n c : Nat) (w : World) : (binOp .eql 23 (.slice (some a) n c) (.slice none 0 0)).run Try.prog w = .ok (.bool false) w := Lib.run_eql_slice_nil w 23 39 (some a) n c 0 0 Try.underlying23
attribute [local irreducible] V
attribute [local irreducible] wpList in
set_option maxRecDepth 100000 in
set_option maxHeartbeats 1000000 in
/-- slices.Clone of edges. -/
theorem clonee_walk (w : World) (A : Option Addr) (c : Nat) (es : List Eg) (h : RdE w A es) :
    Calls Try.prog 40 #[.slice A es.length c] w fun e w' => ∃ v, e = .returned v ∧ OwE w' w.heap.size v es ∧ Below w.heap.size w w' := by
  have hlen := h.len
  have H := Lib.hid h
  cases A with
  | none =>
    have h0 : es.length = 0 := by
      rcases Nat.eq_zero_or_pos es.length with h1 | h1
      · exact h1
      · obtain ⟨b, o, ha, _⟩ := h.spot h1; cases ha
    obtain rfl : es = [] := List.length_eq_zero_iff.1 h0
    have g1 := nil_guard
    have g2 := nilE_yes
    clear h hlen
    go_enter Try.func40, Try.ntmps40
    go_wp2
    go_ret
    exact ⟨_, rfl, World.ownsRow_nil _ _ _ _, Below.refl _ _⟩
  | some a =>
    have g1 := nil_guard
    have g2 := nilE_no
    clear h
    go_enter Try.func40, Try.ntmps40
    go_wp2_with (refine wpList_append_e rfl (.tmp 5) (.tmp 6) rfl w.heap.size (.slice (some ⟨w.heap.size, 0, none⟩) 0 0) [] es (some a) c rfl rfl (owe_made w) (H.out.kept ((Below.refl _ w).alloc (Nat.le_refl _) _) (Nat.le_refl _)) (by simpa using hlen) (by simp) ?_; intro v2 w2 ho2 hb2; have HO := Lib.hid ho2; have HB := Lib.hid hb2; clear ho2 hb2)
    go_ret
    exact ⟨_, rfl, HO.out, ((Below.refl _ w).alloc (Nat.le_refl _) _).trans HB.out⟩
end Go.Proofs.Ytbhoingiibcboaa
