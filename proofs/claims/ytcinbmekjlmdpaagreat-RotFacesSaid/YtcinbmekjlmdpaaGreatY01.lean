/- Rows that are made: append, Grow, Concat, Clone. -/
import Derived.Test.YtcinbmekjlmdpaaGreatY00
import Derived.Lib.AppendZeros
import Derived.Lib.SliceRun

/-! Rows that are made: append, Grow, Concat, Clone. -/
namespace Go.Proofs.YtcinbmekjlmdpaaGreat
open Go.RowKit

/-- A row of one's own. -/
def Ow (w : World) (base : Nat) (v : Value) (l : List UInt32) : Prop := w.ownsRow base 34 1 v l.length (l.map V)
theorem Ow.nil (w : World) (base : Nat) : Ow w base (.slice none 0 0) [] := World.ownsRow_nil _ _ _ _
/-- A value that reads so. -/
def RV (w : World) (v : Value) (l : List UInt32) : Prop := ∃ A c, v = .slice A l.length c ∧ l.length ≤ c ∧ Rd w A l
theorem RV.kept {w w' : World} {v : Value} {l : List UInt32} (h : RV w v l) (hb : Below w.heap.size w w') : RV w' v l := by
  obtain ⟨A, c, h1, h2, h3⟩ := h
  exact ⟨A, c, h1, h2, h3.kept hb (Nat.le_refl _)⟩
theorem RV.nil (w : World) : RV w (.slice none 0 0) [] := ⟨none, 0, rfl, Nat.le_refl _, Rd.nil _ _⟩
theorem Ow.rv {w : World} {base : Nat} {v : Value} {l : List UInt32} (h : Ow w base v l) (hl : l.length ≤ 1000000) : RV w v l := by
  rcases h.2 with ⟨rfl, h0⟩ | ⟨b, cap, cur, rfl, hb, hgc, hcap, _, hsz, htake⟩
  · obtain rfl : l = [] := List.length_eq_zero_iff.1 h0
    exact RV.nil w
  · have hblk : Blk w b 34 cur := hgc
    refine ⟨_, cap, rfl, hcap, hl, fun h0 => ⟨b, 0, rfl, hblk.lt, fun i hi => ?_⟩⟩
    rw [Nat.zero_add, hblk.cell]
    have h1 : (cur.toList.take (l.length * 1))[i]? = (l.map V)[i]? := by rw [htake]
    rw [List.getElem?_take_of_lt (by omega)] at h1
    simpa [hi] using h1
theorem Ow.alloc {w : World} {base : Nat} {v : Value} {l : List UInt32} (h : Ow w base v l) (o : Obj) : Ow (w.alloc o) base v l := World.ownsRow.alloc h o
theorem Ow.made (w : World) (cur : Array Value) (base : Nat) (hb : base ≤ w.heap.size) (hs : cur.size ≤ maxLen) : Ow (w.alloc (.cells cur 34)) base (.slice (some ⟨w.heap.size, 0, none⟩) 0 cur.size) [] :=
  World.ownsRow_made w cur cur.size hb hs (by omega)
/-- What is kept grows below one's own rows. -/
theorem grown_below {w w' : World} {base : Nat} {v : Value} {n : Nat} {xs : List Value} (h : w.ownsRow base 34 1 v n xs) (hg : w.grownBy w' v.ownBlock) (hb : base ≤ w.heap.size) : Below base w w' :=
  ⟨hg.os, hg.tape, hg.output, hg.size, fun k hk => hg.block k (by omega) (fun e => by have := (h.lt k e.symm).1; omega)⟩
theorem V_one (l : List UInt32) : ∀ u ∈ l.map V, u.oneCell' = true := by
  intro u hu
  obtain ⟨x, _, rfl⟩ := List.mem_map.1 hu
  rfl
theorem addr_add (b o i : Nat) : (⟨b, o, none⟩ : Addr).add i = ⟨b, o + i, none⟩ := by unfold Addr.add; split <;> simp_all
theorem Rd.cells {w : World} {b o : Nat} {l : List UInt32} (hc : ∀ i (h : i < l.length), w.cell? ⟨b, o + i, none⟩ = some (V l[i])) : ∀ j u, (l.map V)[j]? = some u → w.cell? ((⟨b, o, none⟩ : Addr).add j) = some u := by
  intro j u hu
  rw [addr_add]
  rw [List.getElem?_map] at hu
  by_cases hj : j < l.length
  · rw [hc j hj]; simpa [hj] using hu
  · rw [List.getElem?_eq_none (by omega)] at hu; cases hu
/- append of what is read to a row of one's own. -/
set_option maxRecDepth 100000 in
theorem run_append_rd (w : World) (base : Nat) (ty : TypeId) (v : Value) (l m : List UInt32) (A : Option Addr) (c : Nat) (hown : Ow w base v l) (hr : Rd w A m) (hlen : l.length + m.length ≤ 1000000) (hb : base ≤ w.heap.size) :
    ∃ v' w', (Builtin.append_ #[22, 22] ty #[v, .slice A m.length c]).run Tryz.prog w = .ok v' w' ∧ Ow w' base v' (l ++ m) ∧ Below base w w' := by
  by_cases h0 : m.length = 0
  · obtain rfl : m = [] := List.length_eq_zero_iff.1 h0
    refine ⟨v, w, ?_, by rw [List.append_nil]; exact hown, Below.refl _ _⟩
    have hf : ∀ A : Option Addr, (Builtin.firstCells 1 0 (.slice A 0 c)).run Tryz.prog w = .ok #[] w := fun A => by cases A <;> rfl
    have hi : ∃ i, Tryz.prog.info? 34 = some i ∧ i.size = 1 := ⟨_, rfl, rfl⟩
    obtain ⟨i, hi, hi1⟩ := hi
    rcases hown.2 with ⟨rfl, h0⟩ | ⟨b, cap, cur, rfl, hb, hgc, hcap, _, hsz, htake⟩
    · have hl0 : l = [] := List.length_eq_zero_iff.1 h0
      subst hl0
      simp [Builtin.append_, run_underlying Tryz.underlying22, sizeOf, typeInfo, hi, hi1, Builtin.lenOf, hf]
    · have hst : (storeCells ((⟨b, 0, none⟩ : Addr).add l.length) []).run Tryz.prog w = .ok () w := rfl
      simp [Builtin.append_, run_underlying Tryz.underlying22, sizeOf, typeInfo, hi, hi1, Builtin.lenOf, hcap, hf, hst]
  · obtain ⟨b, o, rfl, hc⟩ := hr.spot (by omega)
    obtain ⟨v', w', h1, h2, h3, _⟩ := run_append_own (P := Tryz.prog) w base 22 ty 34 _ (.int .u32 0) 1 4 Tryz.underlying22 rfl rfl rfl rfl rfl (by decide) v l.length (l.map V) hown ⟨b, o, none⟩ m.length c (m.map V) (by simp) (Rd.cells hc) (V_one m) (by unfold maxLen; omega) (by omega) hb
    refine ⟨v', w', h1, ?_, grown_below hown h3 hb⟩
    unfold Ow
    rw [List.length_append, List.map_append]
    exact h2
theorem wpList_append_rd {w : World} {ops : Array Oper} {rest : List Oper} {o : Oper} {a : Act} {Q : Exit → Act → World → Prop} (hgd : o.guard = none) (s x : Operand)
    (ho : o.op = .call { callee := .builtin .append, args := #[s, x], argTypes := #[22, 22] }) (base : Nat) (v : Value) (l m : List UInt32) (A : Option Addr) (c : Nat) (hs : a.eval s = v) (hx : a.eval x = .slice A m.length c)
    (hown : Ow w base v l) (hr : Rd w A m) (hlen : l.length + m.length ≤ 1000000) (hb : base ≤ w.heap.size)
    (h : ∀ v' w', Ow w' base v' (l ++ m) → Below base w w' → wpList Tryz.prog ops Q rest (a.put o.dst v') w') : wpList Tryz.prog ops Q (o :: rest) a w := by
  obtain ⟨v', w', h1, h2, h3⟩ := run_append_rd w base o.type v l m A c hown hr hlen hb
  exact wpList_plain hgd fun _ hK => Lib.wp_append_run w s x 22 22 ho v _ hs hx v' w' h1 (hK _ _ (h v' w' h2 h3))
/-- A row that was just laid. -/
theorem Rd.fresh (w : World) (l : List UInt32) (hl : l.length ≤ 1000000) : Rd (w.alloc (.cells (l.map V).toArray 34)) (some ⟨w.heap.size, 0, none⟩) l :=
  ⟨hl, fun h0 => ⟨w.heap.size, 0, rfl, by simp, fun i hi => by rw [Nat.zero_add, (Blk.fresh w 34 _).cell]; simp [hi]⟩⟩

attribute [local irreducible] V
theorem nil_guard (p : BinOp) (t : TypeId) (o1 o2 : Operand) (A B : Option Addr) (n c m d : Nat) (w : World) : (eqGuard p t o1 o2 (.slice A n c) (.slice B m d)).run Tryz.prog w = .ok () w := by
  cases p <;> rfl
theorem nil_yes (n c : Nat) (w : World) : (binOp .eql 22 (.slice none n c) (.slice none 0 0)).run Tryz.prog w = .ok (.bool true) w := Lib.run_eql_slice_nil w 22 34 none n c 0 0 Tryz.underlying22
theorem nil_no (a : Addr) (n c : Nat) (w : World) : (binOp .eql 22 (.slice (some a) n c) (.slice none 0 0)).run Tryz.prog w = .ok (.bool false) w := Lib.run_eql_slice_nil w 22 34 (some a) n c 0 0 Tryz.underlying22
/-- slices.Clone of what is there. -/
theorem clone_walk (w : World) (A : Option Addr) (c : Nat) (l : List UInt32) (h : Rd w A l) (hc : l.length ≤ c) :
    Calls Tryz.prog 53 #[.slice A l.length c] w fun e w' => ∃ v, e = .returned v ∧ Ow w' w.heap.size v l ∧ Below w.heap.size w w' := by
  have hlen := h.len
  have H := Lib.hid h
  cases A with
  | none =>
    have h0 : l.length = 0 := by
      rcases Nat.eq_zero_or_pos l.length with h1 | h1
      · exact h1
      · obtain ⟨b, o, ha, _⟩ := h.spot h1; cases ha
    obtain rfl : l = [] := List.length_eq_zero_iff.1 h0
    have g1 := nil_guard
    have g2 := nil_yes
    clear h hc hlen
    go_enter Tryz.func53, Tryz.ntmps53
    go_wp2
    go_ret
    exact ⟨_, rfl, Ow.nil _ _, Below.refl _ _⟩
  | some a =>
    have g1 := nil_guard
    have g2 := nil_no
    clear h hc
    go_enter Tryz.func53, Tryz.ntmps53
    go_wp2_with (refine wpList_append_rd rfl (.tmp 5) (.tmp 6) rfl w.heap.size (.slice (some ⟨w.heap.size, 0, none⟩) 0 0) [] l (some a) c rfl rfl (Ow.made w #[] w.heap.size (Nat.le_refl _) (Nat.zero_le _)) (H.out.kept ((Below.refl _ w).alloc (Nat.le_refl _) _) (Nat.le_refl _)) (by simpa using hlen) (by simp) ?_; intro v2 w2 ho2 hb2; have HO := Lib.hid ho2; have HB := Lib.hid hb2; clear ho2 hb2)
    go_ret
    exact ⟨_, rfl, HO.out, ((Below.refl _ w).alloc (Nat.le_refl _) _).trans HB.out⟩
end Go.Proofs.YtcinbmekjlmdpaaGreat

/-! Grow and Concat. -/
namespace Go.Proofs.YtcinbmekjlmdpaaGreat
open Go.RowKit

set_option maxRecDepth 100000 in
theorem grow_run (w : World) (n : Nat) (h0 : 0 < n) (hn : n ≤ 1000000) : ∃ Z : Array Value, Z.size ≤ maxLen ∧ (Builtin.append_ #[22, 3] 22 #[.slice none 0 0, .int .i64 n]).run Tryz.prog w = .ok (.slice (some ⟨w.heap.size, 0, none⟩) n Z.size) (w.drew.alloc (.cells Z 34)) ∧ n ≤ Z.size := by
  have hr := Lib.run_append_nil_zeros (P := Tryz.prog) w 22 3 22 34 _ (.int .u32 0) .i64 .i64 Tryz.underlying22 Tryz.underlying3 rfl rfl n h0 (by decide) (by omega) (by show n * 4 ≤ _; omega)
  have h1 := grownCap_ge w n 0 34
  have h2 := grownCap_le_maxLen w n 0 34 (by unfold maxLen; omega)
  generalize grownCap w n 0 34 = cp at *
  have hs : (Builtin.zeroCells (Value.int .u32 0).cells n ++ Builtin.zeroCells (Value.int .u32 0).cells (cp - n)).size = cp := by
    simp [size_zeroCells, Value.cells]; omega
  refine ⟨Builtin.zeroCells (Value.int .u32 0).cells n ++ Builtin.zeroCells (Value.int .u32 0).cells (cp - n), ?_, ?_, ?_⟩
  · rw [hs]; exact h2
  · rw [hs]; exact hr
  · rw [hs]; exact h1
set_option maxRecDepth 100000 in
theorem wpList_append_ran (w : World) {ops : Array Oper} {rest : List Oper} {o : Oper} {a : Act} {Q : Exit → Act → World → Prop} (hgd : o.guard = none) (s x : Operand) (t tn : TypeId)
    (ho : o.op = .call { callee := .builtin .append, args := #[s, x], argTypes := #[t, tn] }) (v u : Value) (hs : a.eval s = v) (hx : a.eval x = u) {v' : Value} {w' : World}
    (hr : (Builtin.append_ #[t, tn] o.type #[v, u]).run Tryz.prog w = .ok v' w') (h : wpList Tryz.prog ops Q rest (a.put o.dst v') w') : wpList Tryz.prog ops Q (o :: rest) a w :=
  wpList_plain hgd fun _ hK => Lib.wp_append_run w s x t tn ho v u hs hx v' w' hr (hK _ _ h)
set_option maxRecDepth 100000 in
/-- slices.Grow of nil. -/
theorem grow_walk (w : World) (n : Nat) (hn : n ≤ 1000000) :
    Calls Tryz.prog 124 #[.slice none 0 0, .int .i64 n] w fun e w' => ∃ v, e = .returned v ∧ Ow w' w.heap.size v [] ∧ Below w.heap.size w w' := by
  by_cases h0 : n = 0
  · subst h0
    go_enter Tryz.func124, Tryz.ntmps124
    go_wp2
    go_ret
    exact ⟨_, rfl, Ow.nil _ _, Below.refl _ _⟩
  · obtain ⟨Z, hz, hr, hnz⟩ := grow_run w n (by omega) hn
    have HR := Lib.hid hr
    have HO : Hid (Ow (w.drew.alloc (.cells Z 34)) w.heap.size (.slice (some ⟨w.heap.size, 0, none⟩) 0 Z.size) []) := Ow.made w.drew Z w.heap.size (Nat.le_refl _) hz
    have HB : Hid (Below w.heap.size w (w.drew.alloc (.cells Z 34))) := ⟨rfl, rfl, rfl, by simp, fun k hk => Below.heap_alloc w.drew _ k hk⟩
    have hm : n ≤ maxLen := by unfold maxLen; omega
    clear hr
    go_enter Tryz.func124, Tryz.ntmps124
    go_wp2_with (at_builtin; refine wpList_append_ran w rfl _ _ _ _ rfl _ _ rfl rfl HR.out ?_)
    go_ret
    exact ⟨_, rfl, HO.out, HB.out⟩
/-- Rows that stand in a row. -/
def RowsAt (w : World) (b : Nat) (ls : List (List UInt32)) : Prop := ∀ i (h : i < ls.length), ∃ v, w.cell? ⟨b, i, none⟩ = some v ∧ RV w v ls[i]
set_option maxRecDepth 100000 in
theorem RowsAt.kept {w w' : World} {b : Nat} {ls : List (List UInt32)} (h : RowsAt w b ls) (hb : Below w.heap.size w w') : RowsAt w' b ls := fun i hi => by
  obtain ⟨v, h1, h2⟩ := h i hi
  exact ⟨v, (hb.cell (World.block_lt_of_cell? w _ h1)).trans h1, h2.kept hb⟩
set_option maxRecDepth 100000 in
theorem flat_succ (ls : List (List UInt32)) (k : Nat) (h : k < ls.length) : (ls.take (k + 1)).flatten = (ls.take k).flatten ++ ls[k] := by
  rw [List.take_succ_eq_append_getElem h, List.flatten_append]; simp
set_option maxRecDepth 100000 in
theorem flat_le (ls : List (List UInt32)) (k : Nat) : (ls.take k).flatten.length ≤ ls.flatten.length := by
  have h : (ls.take k).flatten ++ (ls.drop k).flatten = ls.flatten := by rw [← List.flatten_append, List.take_append_drop]
  rw [← h, List.length_append]; omega
set_option maxRecDepth 100000 in
set_option maxHeartbeats 1000000 in
/-- slices.Concat. -/
theorem concat_walk (w : World) (b c : Nat) (ls : List (List UInt32)) (h : RowsAt w b ls) (hn : ls.length ≤ 100) (ht : ls.flatten.length ≤ 1000000) :
    Calls Tryz.prog 99 #[.slice (some ⟨b, 0, none⟩) ls.length c] w fun e w' => ∃ v, e = .returned v ∧ Ow w' w.heap.size v ls.flatten ∧ Below w.heap.size w w' := by
  have H := Lib.hid h
  have HT := Lib.hid ht
  clear h ht
  go_enter Tryz.func99, Tryz.ntmps99
  go_wp2
  go_loop [3, 11] (fun s i => ∃ k : Nat, k ≤ ls.length ∧ i = .int .i64 k ∧ s = .int .i64 ((ls.take k).flatten.length : Nat)) (fun _ i => ls.length - (intOf i).toNat)
  case atStart => exact ⟨0, by omega, rfl, rfl⟩
  case round =>
    obtain ⟨k, hk, rfl, rfl⟩ := hrel
    have hf1 := Nat.le_trans (flat_le ls k) HT.out
    by_cases hlt : k < ls.length
    · obtain ⟨v, hv, A, d, rfl, _, _⟩ := H.out k hlt
      have hf2 := Nat.le_trans (flat_le ls (k + 1)) HT.out
      have hs := flat_succ ls k hlt
      have hs2 : (ls.take (k + 1)).flatten.length = (ls.take k).flatten.length + ls[k].length := by rw [hs, List.length_append]
      have HS := Lib.hid hs2
      rw [hs2] at hf2
      clear hs hs2
      generalize ls[k] = m at *
      generalize (ls.take k).flatten.length = p at *
      go_wp2
      go_round
      case rel => exact ⟨k + 1, by omega, by go_num, by rw [HS.out]; go_num⟩
      case measure => simp [intOf]; omega
    · obtain rfl : k = ls.length := by omega
      rw [List.take_length] at *
      have HG := Lib.hid (grow_walk w ls.flatten.length hf1)
      have HT2 := HT
      clear HT hf1
      generalize hq : ls.flatten.length = q at HG ⊢
      have HQ := Lib.hid hq
      clear hq
      go_wp2_with (go_at_call 124; refine HG.out.mono ?_; rintro e w1 ⟨v1, rfl, ho1, hb1⟩; have HO1 := Lib.hid ho1; have HB1 := Lib.hid hb1; clear ho1 hb1)
      go_loopw [6, 27] (fun v i wr => ∃ k : Nat, k ≤ ls.length ∧ i = .int .i64 k ∧ Ow wr w.heap.size v (ls.take k).flatten ∧ Below w.heap.size w wr) (fun _ i _ => ls.length - (intOf i).toNat)
      case atStart => exact ⟨0, by omega, rfl, HO1.out, HB1.out⟩
      case round =>
        obtain ⟨k, hk, rfl, ho, hb⟩ := hrel
        have HO := Lib.hid ho
        have HB := Lib.hid hb
        clear ho hb
        by_cases hlt : k < ls.length
        · obtain ⟨v, hv, A, d, rfl, hd, hr⟩ := (H.out.kept HB.out) k hlt
          have hf2 := Nat.le_trans (flat_le ls (k + 1)) HT2.out
          have hs := flat_succ ls k hlt
          have HS := Lib.hid hs
          have HR := Lib.hid hr
          rw [hs, List.length_append] at hf2
          clear hs hd hr
          generalize ls[k] = m at *
          generalize (ls.take k).flatten = p at *
          go_wp2_with (refine wpList_append_rd rfl (.tmp 31) (.tmp 32) rfl w.heap.size _ p m A d rfl rfl HO.out HR.out hf2 HB.out.size ?_; intro v2 w2 ho2 hb2; have HO2 := Lib.hid ho2; have HB2 := Lib.hid hb2; clear ho2 hb2)
          go_roundw
          case rel => exact ⟨k + 1, by omega, by go_num, by rw [HS.out]; exact HO2.out, HB.out.trans HB2.out⟩
          case measure => simp [intOf]; omega
        · obtain rfl : k = ls.length := by omega
          rw [List.take_length] at *
          go_wp2
          go_ret
          exact ⟨_, rfl, HO.out, HB.out⟩
end Go.Proofs.YtcinbmekjlmdpaaGreat
