/- The stable sort and CompactFunc of a row that rises; graph.rising of it. -/
import Derived.Test.YtcinbmekjlmdpaaGreatY0c

/-! The stable sort and CompactFunc of a row that rises; graph.rising of it. -/
namespace Go.Proofs.YtcinbmekjlmdpaaGreat
open Go.RowKit

theorem owns_base {w : World} {b b' e sz n : Nat} {v : Value} {xs : List Value} (hb : b' ≤ b) (h : w.ownsRow b e sz v n xs) : w.ownsRow b' e sz v n xs := by
  obtain ⟨h1, h2⟩ := h
  refine ⟨h1, ?_⟩
  rcases h2 with h2 | ⟨g, cap, cur, h3, h4, h5⟩
  · exact .inl h2
  · exact .inr ⟨g, cap, cur, h3, Nat.le_trans hb h4, h5⟩
def Eq2 (w : World) (x y : UInt32) (e : Ending) (w' : World) : Prop := e = .returned (.bool (x == y)) ∧ ∃ n, w' = w.drewN n
def Gives (w : World) (v : Value) (e : Ending) (w' : World) : Prop := e = .returned v ∧ ∃ n, w' = w.drewN n
attribute [local irreducible] V
attribute [local irreducible] wpList in
set_option maxRecDepth 100000 in
set_option maxHeartbeats 1000000 in
theorem stable_walk (w : World) (A : Option Addr) (c pb : Nat) (l : List UInt32) (h : Rd w A l) (hs : l.Pairwise (· < ·)) (hl : l.length < 20) (hp : Cl1 w pb) :
    Calls Tryz.prog 193 #[.slice A l.length c, .int .i64 l.length, .func (.func 170) #[] #[.pointer (some ⟨pb, 0, none⟩)]] w (Drew w) := by
  have HI := Lib.hid (isort_walk w A c pb l h hs hp)
  have q1 : ¬ (20 : Int) ≤ (l.length : Int) := by omega
  have q2 : ¬ (20 : Int) < (l.length : Int) := by omega
  clear h hs hp hl
  go_enter Tryz.func193, Tryz.ntmps193
  go_wp2
  go_loop [7, 8] (fun a b => a = .int .i64 0 ∧ b = .int .i64 20) (fun _ _ => 0)
  case atStart => exact ⟨rfl, rfl⟩
  case round =>
    obtain ⟨rfl, rfl⟩ := hrel
    go_wp2_with (go_at_call 202; refine HI.out.mono ?_; rintro e w1 ⟨rfl, n, rfl⟩)
    go_loop [6] (fun a => a = .int .i64 20) (fun _ => 0)
    case atStart => rfl
    case round =>
      obtain rfl := hrel
      go_wp2
      go_end0
      exact ⟨rfl, n, rfl⟩
set_option maxRecDepth 100000 in
theorem sortst_walk (w : World) (A : Option Addr) (c pb : Nat) (l : List UInt32) (h : Rd w A l) (hs : l.Pairwise (· < ·)) (hl : l.length < 20) (hp : Cl1 w pb) :
    Calls Tryz.prog 169 #[.slice A l.length c, .func (.func 170) #[] #[.pointer (some ⟨pb, 0, none⟩)]] w (Drew w) := by
  have HI := Lib.hid (stable_walk w A c pb l h hs hl hp)
  clear h hs hp hl
  go_enter Tryz.func169, Tryz.ntmps169
  go_wp2_with (go_at_call 193; refine HI.out.mono ?_; rintro e w1 ⟨rfl, n, rfl⟩)
  go_end0
  exact ⟨rfl, n, rfl⟩
attribute [local irreducible] wpList in
set_option maxRecDepth 100000 in
set_option maxHeartbeats 1000000 in
theorem clo2_walk (w : World) (pb : Nat) (x y : UInt32) (hp : Cl1 w pb) :
    Calls Tryz.prog 172 #[V x, V y, .pointer (some ⟨pb, 0, none⟩)] w (Eq2 w x y) := by
  have hp1 : w.cell? ⟨pb, 0, none⟩ = some (.func (.func 147) #[] #[]) := hp
  have g := run_guard
  have he := run_eql 34 x y
  clear hp
  go_enter Tryz.func172, Tryz.ntmps172
  go_wp2
  go_quiet ((go_at_call 147; exact Calls.quiet_of_same ((id_walk _ _).mono fun _ _ h => ⟨h.1, h.2.symm⟩)))
  go_wp2
  go_ret
  exact ⟨rfl, _, rfl⟩
attribute [local irreducible] wpList in
set_option maxRecDepth 100000 in
set_option maxHeartbeats 2000000 in
theorem compact_walk (w : World) (A : Option Addr) (c pb : Nat) (l : List UInt32) (h : Rd w A l) (hs : l.Pairwise (· < ·)) (hp : Cl1 w pb) :
    Calls Tryz.prog 171 #[.slice A l.length c, .func (.func 172) #[] #[.pointer (some ⟨pb, 0, none⟩)]] w (Gives w (.slice A l.length c)) := by
  have H := Lib.hid h
  have S := Lib.hid hs
  have HP := Lib.hid hp
  have hn := h.len
  clear h hs hp
  by_cases hl2 : l.length < 2
  · have q1 : (l.length : Int) < 2 := by omega
    clear hl2
    go_enter Tryz.func171, Tryz.ntmps171
    go_wp2
    go_ret
    exact ⟨rfl, 0, rfl⟩
  · have q1 : ¬ (l.length : Int) < 2 := by omega
    have HL2 := Lib.hid hl2
    clear hl2
    go_enter Tryz.func171, Tryz.ntmps171
    go_wp2
    clear q1
    go_loopw [5] (fun i wr => ∃ k n : Nat, 1 ≤ k ∧ k ≤ l.length ∧ i = .int .i64 k ∧ wr = w.drewN n) (fun i _ => l.length - (intOf i).toNat)
    case atStart => exact ⟨1, 0, Nat.le_refl _, by have := HL2.out; omega, rfl, rfl⟩
    case round =>
      obtain ⟨k, n, hk1, hk2, rfl, rfl⟩ := hrel
      by_cases hlt : k < l.length
      · obtain ⟨b, o, rfl, hc⟩ := H.out.spot (by omega)
        have c1 := hc k hlt
        have c2 := hc (k - 1) (by omega)
        rw [getD_at hlt] at c1
        rw [getD_at (by omega : k - 1 < l.length)] at c2
        have hr := rise_at S.out (by omega) hlt
        have hq : (k : Int) - 1 = ((k - 1 : Nat) : Int) := by omega
        have q1 : (1 : Int) ≤ (k : Int) := by omega
        have hjn : k - 1 < l.length := by omega
        have hbe : (l.getD k 0 == l.getD (k - 1) 0) = false := by
          rw [beq_eq_false_iff_ne]
          intro e
          exact u32_lt_ne hr e.symm
        have hcl2 : ∀ W, Cl1 W pb → Calls Tryz.prog 172 #[V (l.getD k 0), V (l.getD (k - 1) 0), .pointer (some ⟨pb, 0, none⟩)] W fun e w' => e = .returned (.bool false) ∧ ∃ m, w' = W.drewN m := fun W hW => (clo2_walk W pb _ _ hW).mono fun e w' hh => by
          obtain ⟨h1, h2⟩ := hh
          rw [hbe] at h1
          exact ⟨h1, h2⟩
        have HC2 := Lib.hid hcl2
        clear hr hcl2 hc hbe
        generalize l.getD k 0 = x at *
        generalize k - 1 = j at *
        generalize l.getD j 0 = y at *
        go_wp2
        have hwr : IntKind.i64.wrap ((j : Nat) : Int) = (j : Int) := IntWalk.i64_in _ (by omega)
        go_quiet ((go_at_call 172; exact quiet_sum (HC2.out _ (HP.out.dr _))))
        clear hwr hq
        go_wp2
        go_roundw
        case rel => exact ⟨k + 1, _, by omega, by omega, by go_num, rfl⟩
        case measure => simp [intOf]; omega
      · go_wp2
        go_ret
        exact ⟨rfl, _, rfl⟩
attribute [local irreducible] wpList in
set_option maxRecDepth 100000 in
set_option maxHeartbeats 2000000 in
/-- graph.rising of a row that rises. -/
theorem rising_walk (w : World) (A : Option Addr) (c : Nat) (l : List UInt32) (h : Rd w A l) (hc : l.length ≤ c) (hs : l.Pairwise (· < ·)) (hl : l.length < 20) :
    Calls Tryz.prog 146 #[.slice A l.length c, .func (.func 147) #[] #[]] w fun e w' => ∃ v, e = .returned v ∧ Ow w' w.heap.size v l ∧ Below w.heap.size w w' := by
  have HV : Hid (RV (w.alloc (.cells #[.func (.func 147) #[] #[]] 85)) (.slice A l.length c) l) := ⟨A, c, rfl, hc, h.kept ((Below.refl _ w).alloc (Nat.le_refl _) _) (Nat.le_refl _)⟩
  have HB : Hid (Below w.heap.size w (w.alloc (.cells #[.func (.func 147) #[] #[]] 85))) := (Below.refl _ w).alloc (Nat.le_refl _) _
  have HP : Hid (Blk (w.alloc (.cells #[.func (.func 147) #[] #[]] 85)) w.heap.size 85 #[.func (.func 147) #[] #[]]) := Blk.fresh _ _ _
  have HLL : Hid (l.length ≤ 1000000) := h.len
  have hmf : ∀ (fn : Fn) (first cap : Array Value) (w : World), (Instr.makeFunc fn first cap).run Tryz.prog w = .ok (.func fn first cap) w := fun _ _ _ _ => rfl
  have S := Lib.hid hs
  have HL := Lib.hid hl
  clear h hc hs hl
  go_enter Tryz.func146, Tryz.ntmps146
  go_wp2_with (first
    | (go_at_call 53; refine (clone_rv _ _ _ HV.out).mono ?_; rintro e w1 ⟨u, rfl, ho, hb⟩; have HO1 := Lib.hid ho; have hrv := ho.rv HLL.out; obtain ⟨A1, c1, rfl, hc1, hr1⟩ := hrv; have HR1 := Lib.hid hr1; have HC1 := Lib.hid hc1; have HB1 := Lib.hid hb; have HP1 : Hid (Cl1 w1 w.heap.size) := (HP.out.kept hb HP.out.lt).cell 0; clear ho hb hr1 hc1)
    | (go_at_call 169; refine (sortst_walk _ _ _ _ _ HR1.out S.out HL.out HP1.out).mono ?_; rintro e w2 ⟨rfl, n2, rfl⟩)
    | (go_at_call 171; refine (compact_walk (w1.drewN n2) _ _ _ l (HR1.out.kept (w' := w1.drewN n2) (B := w1.heap.size) ⟨rfl, rfl, rfl, Nat.le_refl _, fun _ _ => rfl⟩ (Nat.le_refl _)) S.out HP1.out).mono ?_; rintro e w3 ⟨rfl, n3, rfl⟩))
  go_ret
  refine ⟨_, rfl, owns_base (by simp) (show Ow w1 _ _ l from HO1.out), (HB.out.trans (Below.mono HB1.out HB.out.size)).trans ⟨rfl, rfl, rfl, Nat.le_refl _, fun _ _ => rfl⟩⟩
end Go.Proofs.YtcinbmekjlmdpaaGreat

/-! Rows of edges of one's own; slices.Clone of them. -/
namespace Go.Proofs.YtcinbmekjlmdpaaGreat
open Go.RowKit

/-- The cells of a row of edges. -/
def ecs : List Eg → List Value
  | [] => []
  | e :: r => V e.id :: V e.a :: V e.b :: ecs r
theorem ecs_len : ∀ es : List Eg, (ecs es).length = es.length * 3
  | [] => rfl
  | e :: r => by simp only [ecs, List.length_cons, ecs_len r]; omega
theorem ecs_app : ∀ a b : List Eg, ecs (a ++ b) = ecs a ++ ecs b
  | [], _ => rfl
  | e :: r, b => by simp [ecs, ecs_app r b]
theorem ecs_at : ∀ (es : List Eg) (i : Nat), i < es.length → (ecs es)[i * 3]? = some (V (es.getD i e0).id) ∧ (ecs es)[i * 3 + 1]? = some (V (es.getD i e0).a) ∧ (ecs es)[i * 3 + 2]? = some (V (es.getD i e0).b)
  | e :: r, 0, _ => ⟨rfl, rfl, rfl⟩
  | e :: r, i + 1, h => by
    have hi : i < r.length := by simpa using h
    have := ecs_at r i hi
    rw [show (i + 1) * 3 = i * 3 + 1 + 1 + 1 by omega, show i * 3 + 1 + 1 + 1 + 1 = i * 3 + 1 + 1 + 1 + 1 from rfl]
    refine ⟨?_, ?_, ?_⟩
    · simpa [ecs] using this.1
    · have h2 := this.2.1
      rw [show i * 3 + 1 + 1 + 1 + 1 = (i * 3 + 1) + 1 + 1 + 1 by omega]
      simpa [ecs] using h2
    · have h2 := this.2.2
      rw [show i * 3 + 1 + 1 + 1 + 2 = (i * 3 + 2) + 1 + 1 + 1 by omega]
      simpa [ecs] using h2
theorem ecs_one (es : List Eg) : ∀ u ∈ ecs es, u.oneCell' = true := by
  induction es with
  | nil => intro u hu; cases hu
  | cons e r ih =>
    intro u hu
    simp only [ecs, List.mem_cons] at hu
    rcases hu with rfl | rfl | rfl | hu
    · rfl
    · rfl
    · rfl
    · exact ih u hu
theorem ecs_get {es : List Eg} {j : Nat} {u : Value} (h : (ecs es)[j]? = some u) : ∃ i, i < es.length ∧ ((j = i * 3 ∧ u = V (es.getD i e0).id) ∨ (j = i * 3 + 1 ∧ u = V (es.getD i e0).a) ∨ (j = i * 3 + 2 ∧ u = V (es.getD i e0).b)) := by
  have hj : j < (ecs es).length := by
    rcases Nat.lt_or_ge j (ecs es).length with q | q
    · exact q
    · rw [List.getElem?_eq_none q] at h; cases h
  rw [ecs_len] at hj
  have hi : j / 3 < es.length := by omega
  obtain ⟨h1, h2, h3⟩ := ecs_at es (j / 3) hi
  refine ⟨j / 3, hi, ?_⟩
  have hm : j % 3 = 0 ∨ j % 3 = 1 ∨ j % 3 = 2 := by omega
  rcases hm with q | q | q
  · left
    have e : j = j / 3 * 3 := by omega
    rw [← e, h] at h1
    exact ⟨e, by cases h1; rfl⟩
  · right; left
    have e : j = j / 3 * 3 + 1 := by omega
    rw [← e, h] at h2
    exact ⟨e, by cases h2; rfl⟩
  · right; right
    have e : j = j / 3 * 3 + 2 := by omega
    rw [← e, h] at h3
    exact ⟨e, by cases h3; rfl⟩
/-- A row of edges of one's own. -/
def OwE (w : World) (base : Nat) (v : Value) (es : List Eg) : Prop := w.ownsRow base 67 3 v es.length (ecs es)
/-- A value that reads as a row of edges. -/
def RVE (w : World) (v : Value) (es : List Eg) : Prop := ∃ A c, v = .slice A es.length c ∧ es.length ≤ c ∧ RdE w A es
theorem RVE.kept {w w' : World} {v : Value} {es : List Eg} (h : RVE w v es) (hb : Below w.heap.size w w') : RVE w' v es := by
  obtain ⟨A, c, h1, h2, h3⟩ := h
  exact ⟨A, c, h1, h2, h3.kept hb (Nat.le_refl _)⟩
theorem OwE.rve {w : World} {base : Nat} {v : Value} {es : List Eg} (h : OwE w base v es) (hl : es.length ≤ 1000000) : RVE w v es := by
  rcases h.2 with ⟨rfl, h0⟩ | ⟨b, cap, cur, rfl, hb, hgc, hcap, _, hsz, htake⟩
  · obtain rfl : es = [] := List.length_eq_zero_iff.1 h0
    exact ⟨none, 0, rfl, Nat.le_refl _, RdE.nil _ _⟩
  · have hblk : Blk w b 67 cur := hgc
    have hg : ∀ j, j < es.length * 3 → cur[j]? = (ecs es)[j]? := fun j hj => by
      have h1 : (cur.toList.take (es.length * 3))[j]? = (ecs es)[j]? := by rw [htake]
      rw [List.getElem?_take_of_lt hj, Array.getElem?_toList] at h1
      exact h1
    refine ⟨_, cap, rfl, hcap, hl, fun h0 => ⟨b, 0, rfl, hblk.lt, fun i hi => ?_⟩⟩
    obtain ⟨h1, h2, h3⟩ := ecs_at es i hi
    rw [Nat.zero_add]
    exact ⟨by rw [hblk.cell, hg _ (by omega)]; exact h1, by rw [hblk.cell, hg _ (by omega)]; exact h2, by rw [hblk.cell, hg _ (by omega)]; exact h3⟩
theorem RdE.cells {w : World} {b o : Nat} {es : List Eg} (hc : ∀ i, i < es.length → w.cell? ⟨b, o + i * 3, none⟩ = some (V (es.getD i e0).id) ∧ w.cell? ⟨b, o + i * 3 + 1, none⟩ = some (V (es.getD i e0).a) ∧ w.cell? ⟨b, o + i * 3 + 2, none⟩ = some (V (es.getD i e0).b)) :
    ∀ j u, (ecs es)[j]? = some u → w.cell? ((⟨b, o, none⟩ : Addr).add j) = some u := by
  intro j u hu
  rw [addr_add]
  obtain ⟨i, hi, h1 | h1 | h1⟩ := ecs_get hu
  · rw [h1.1, h1.2]; exact (hc i hi).1
  · rw [h1.1, h1.2, ← Nat.add_assoc]; exact (hc i hi).2.1
  · rw [h1.1, h1.2, ← Nat.add_assoc]; exact (hc i hi).2.2
theorem info39 : ∃ i, Tryz.prog.info? 67 = some i ∧ i.zero = some (.agg #[.int .u32 0, .int .u32 0, .int .u32 0]) ∧ i.size = 3 ∧ i.bytes = 12 := by
  have h : (Tryz.prog.info? 67).map (fun i => (i.zero, i.size, i.bytes)) = some (some (.agg #[.int .u32 0, .int .u32 0, .int .u32 0]), 3, 12) := by kernel_rfl
  cases hi : Tryz.prog.info? 67 with
  | none => rw [hi] at h; cases h
  | some i =>
    rw [hi] at h
    simp only [Option.map_some, Option.some.injEq, Prod.mk.injEq] at h
    exact ⟨i, rfl, h.1, h.2.1, h.2.2⟩
theorem owe_made (w : World) : OwE (w.alloc (.cells #[] 67)) w.heap.size (.slice (some ⟨w.heap.size, 0, none⟩) 0 0) [] :=
  ⟨rfl, .inr ⟨w.heap.size, 0, #[], rfl, Nat.le_refl _, heap_alloc_new w _, Nat.le_refl _, Nat.zero_le _, rfl, rfl⟩⟩
section
variable {ops : Array Oper} {rest : List Oper} {o : Oper} {a : Act} {w : World} {Q : Exit → Act → World → Prop}
set_option maxRecDepth 100000 in
theorem run_append_e (w : World) (ty : TypeId) (base : Nat) (v : Value) (l m : List Eg) (A : Option Addr) (c : Nat) (h : OwE w base v l) (hr : RdE w A m) (hl : l.length + m.length ≤ 1000000) (hb : base ≤ w.heap.size) :
    ∃ v' w', (Builtin.append_ #[23, 23] ty #[v, .slice A m.length c]).run Tryz.prog w = .ok v' w' ∧ OwE w' base v' (l ++ m) ∧ Below base w w' := by
  obtain ⟨i, hi, hz, hsz, hby⟩ := info39
  by_cases h0 : m.length = 0
  · obtain rfl : m = [] := List.length_eq_zero_iff.1 h0
    refine ⟨v, w, ?_, by rw [List.append_nil]; exact h, Below.refl _ _⟩
    have hf : ∀ A : Option Addr, (Builtin.firstCells 3 0 (.slice A 0 c)).run Tryz.prog w = .ok #[] w := fun A => by cases A <;> rfl
    rcases h.2 with ⟨rfl, h0⟩ | ⟨b, cap, cur, rfl, hb, hgc, hcap, _, hs, htake⟩
    · have hl0 : l = [] := List.length_eq_zero_iff.1 h0
      subst hl0
      simp [Builtin.append_, run_underlying Tryz.underlying23, sizeOf, typeInfo, hi, hsz, Builtin.lenOf, hf]
    · have hst : (storeCells ((⟨b, 0, none⟩ : Addr).add (l.length * 3)) []).run Tryz.prog w = .ok () w := rfl
      simp [Builtin.append_, run_underlying Tryz.underlying23, sizeOf, typeInfo, hi, hsz, Builtin.lenOf, hcap, hf, hst]
  · obtain ⟨b, off, rfl, hc⟩ := hr.spot (by omega)
    obtain ⟨v', w', hr, h1, h2, _, _⟩ := run_append_own_at (P := Tryz.prog) (w := w) base 23 ty 67 i _ 3 12 Tryz.underlying23 hi hz hsz hby rfl (by decide) v l.length (ecs l) h ⟨b, off, none⟩ m.length c (ecs m) (ecs_len m) (RdE.cells hc) (ecs_one m) (by unfold maxLen; omega) (by omega) hb
    refine ⟨v', w', hr, ?_, ⟨h2.os, h2.tape, h2.output, h2.size, fun k hk => h2.block k (Nat.lt_of_lt_of_le hk hb) (fun e => by
      rcases h.2 with ⟨rfl, _⟩ | ⟨g, cap, cur, rfl, hg, _⟩
      · cases e
      · cases e
        have hk2 : g < base := hk
        omega)⟩⟩
    unfold OwE
    rw [List.length_append, ecs_app]
    exact h1
theorem wpList_append_e (hgd : o.guard = none) (s x : Operand) (ho : o.op = .call { callee := .builtin .append, args := #[s, x], argTypes := #[23, 23] }) (base : Nat) (v : Value) (l m : List Eg) (A : Option Addr) (c : Nat)
    (hs : a.eval s = v) (hx : a.eval x = .slice A m.length c) (h : OwE w base v l) (hr : RdE w A m) (hl : l.length + m.length ≤ 1000000) (hb : base ≤ w.heap.size)
    (H : ∀ v' w', OwE w' base v' (l ++ m) → Below base w w' → wpList Tryz.prog ops Q rest (a.put o.dst v') w') : wpList Tryz.prog ops Q (o :: rest) a w := by
  obtain ⟨v', w', hr, h1, h2⟩ := run_append_e w o.type base v l m A c h hr hl hb
  exact wpList_plain hgd fun _ hK => Lib.wp_append_run w s x _ _ ho v _ hs hx v' w' hr (hK _ _ (H v' w' h1 h2))
end
theorem nilE_yes (n c : Nat) (w : World) : (binOp .eql 23 (.slice none n c) (.slice none 0 0)).run Tryz.prog w = .ok (.bool true) w := Lib.run_eql_slice_nil w 23 67 none n c 0 0 Tryz.underlying23
theorem nilE_no (a : Addr) (n c : Nat) (w : World) : (binOp .eql 23 (.slice (some a) n c) (.slice none 0 0)).run Tryz.prog w = .ok (.bool false) w := Lib.run_eql_slice_nil w 23 67 (some a) n c 0 0 Tryz.underlying23
attribute [local irreducible] V
attribute [local irreducible] wpList in
set_option maxRecDepth 100000 in
set_option maxHeartbeats 1000000 in
/-- slices.Clone of edges. -/
theorem clonee_walk (w : World) (A : Option Addr) (c : Nat) (es : List Eg) (h : RdE w A es) :
    Calls Tryz.prog 117 #[.slice A es.length c] w fun e w' => ∃ v, e = .returned v ∧ OwE w' w.heap.size v es ∧ Below w.heap.size w w' := by
  have hlen := h.len
  have H := Lib.hid h
  cases A with
  | none =>
    have h0 : es.length = 0 := by
      rcases Nat.eq_zero_or_pos es.length with h1 | h1
      · exact h1
      · obtain ⟨b, o, ha, _⟩ := h.spot h1; cases ha
    obtain rfl : es = [] := List.length_eq_zero_iff.1 h0
    have g1 := nil_guard
    have g2 := nilE_yes
    clear h hlen
    go_enter Tryz.func117, Tryz.ntmps117
    go_wp2
    go_ret
    exact ⟨_, rfl, World.ownsRow_nil _ _ _ _, Below.refl _ _⟩
  | some a =>
    have g1 := nil_guard
    have g2 := nilE_no
    clear h
    go_enter Tryz.func117, Tryz.ntmps117
    go_wp2_with (refine wpList_append_e rfl (.tmp 5) (.tmp 6) rfl w.heap.size (.slice (some ⟨w.heap.size, 0, none⟩) 0 0) [] es (some a) c rfl rfl (owe_made w) (H.out.kept ((Below.refl _ w).alloc (Nat.le_refl _) _) (Nat.le_refl _)) (by simpa using hlen) (by simp) ?_; intro v2 w2 ho2 hb2; have HO := Lib.hid ho2; have HB := Lib.hid hb2; clear ho2 hb2)
    go_ret
    exact ⟨_, rfl, HO.out, ((Below.refl _ w).alloc (Nat.le_refl _) _).trans HB.out⟩
end Go.Proofs.YtcinbmekjlmdpaaGreat
