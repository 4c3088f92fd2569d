/- Grow and Concat. -/
import Derived.Test.YtbhoingiibcboaaA3
namespace Go.Proofs.Ytbhoingiibcboaa
open Go.RowKit

set_option maxRecDepth 100000 in
theorem grow_run (w : World) (n : Nat) (h0 : 0 < n) (hn : n ≤ 1000000) : ∃ Z : Array Value, Z.size ≤ maxLen ∧ (Builtin.append_ #[22, 3] 22 #[.slice none 0 0, .int .i64 n]).run Try.prog w = .ok (.slice (some ⟨w.heap.size, 0, none⟩) n Z.size) (w.drew.alloc (.cells Z 31)) ∧ n ≤ Z.size := by
  have hr := Lib.run_append_nil_zeros (P := Try.prog) w 22 3 22 31 _ (.int .u32 0) .i64 .i64 Try.underlying22 Try.underlying3 rfl rfl n h0 (by decide) (by omega) (by show n * 4 ≤ _; omega)
  have h1 := grownCap_ge w n 0 31
  have h2 := grownCap_le_maxLen w n 0 31 (by unfold maxLen; omega)
  generalize grownCap w n 0 31 = cp at *
  have hs : (Builtin.zeroCells (Value.int .u32 0).cells n ++ Builtin.zeroCells (Value.int .u32 0).cells (cp - n)).size = cp := by
    simp [size_zeroCells, Value.cells]; omega
  refine ⟨Builtin.zeroCells (Value.int .u32 0).cells n ++ Builtin.zeroCells (Value.int .u32 0).cells (cp - n), ?_, ?_, ?_⟩
  · rw [hs]; exact h2
  · rw [hs]; exact hr
  · rw [hs]; exact h1
set_option maxRecDepth 100000 in
theorem wpList_append_ran (w : World) {ops : Array Oper} {rest : List Oper} {o : Oper} {a : Act} {Q : Exit → Act → World → Prop} (hgd : o.guard = none) (s x : Operand) (t tn : TypeId)
    (ho : o.op = .call { callee := .builtin .append, args := #[s, x], argTypes := #[t, tn] }) (v u : Value) (hs : a.eval s = v) (hx : a.eval x = u) {v' : Value} {w' : World}
    (hr : (Builtin.append_ #[t, tn] o.type #[v, u]).run Try.prog w = .ok v' w') (h : wpList Try.prog ops Q rest (a.put o.dst v') w') : wpList Try.prog ops Q (o :: rest) a w :=
  wpList_plain hgd fun _ hK => Lib.wp_append_run w s x t tn ho v u hs hx v' w' hr (hK _ _ h)
set_option maxRecDepth 100000 in
/-- slices.Grow of nil. -/
theorem grow_walk (w : World) (n : Nat) (hn : n ≤ 1000000) :
    Calls Try.prog 74 #[.slice none 0 0, .int .i64 n] w fun e w' => ∃ v, e = .returned v ∧ Ow w' w.heap.size v [] ∧ Below w.heap.size w w' := by
  by_cases h0 : n = 0
  · subst h0
    go_enter Try.func74, Try.ntmps74
    go_wp2
    go_ret
    exact ⟨_, rfl, Ow.nil _ _, Below.refl _ _⟩
  · obtain ⟨Z, hz, hr, hnz⟩ := grow_run w n (by omega) hn
    have HR := Lib.hid hr
    have HO : Hid (Ow (w.drew.alloc (.cells Z 31)) w.heap.size (.slice (some ⟨w.heap.size, 0, none⟩) 0 Z.size) []) := Ow.made w.drew Z w.heap.size (Nat.le_refl _) hz
    have HB : Hid (Below w.heap.size w (w.drew.alloc (.cells Z 31))) := ⟨rfl, rfl, rfl, by simp, fun k hk => Below.heap_alloc w.drew _ k hk⟩
    have hm : n ≤ maxLen := by unfold maxLen; omega
    clear hr
    go_enter Try.func74, Try.ntmps74
    go_wp2_with (at_builtin; refine wpList_append_ran w rfl _ _ _ _ rfl _ _ rfl rfl HR.out ?_)
    go_ret
    exact ⟨_, rfl, HO.out, HB.out⟩
/-- Rows that stand in a row. -/
def RowsAt (w : World) (b : Nat) (ls : List (List UInt32)) : Prop := ∀ i (h : i < ls.length), ∃ v, w.cell? ⟨b, i, none⟩ = some v ∧ RV w v ls[i]
set_option maxRecDepth 100000 in
theorem RowsAt.kept {w w' : World} {b : Nat} {ls : List (List UInt32)} (h : RowsAt w b ls) (hb : Below w.heap.size w w') : RowsAt w' b ls := fun i hi => by
  obtain ⟨v, h1, h2⟩ := h i hi
  exact ⟨v, (hb.cell (World.block_lt_of_cell? w _ h1)).trans h1, h2.kept hb⟩
set_option maxRecDepth 100000 in
theorem flat_succ (ls : List (List UInt32)) (k : Nat) (h : k < ls.length) : (ls.take (k + 1)).flatten = (ls.take k).flatten ++ ls[k] := by
  rw [List.take_succ_eq_append_getElem h, List.flatten_append]; simp
set_option maxRecDepth 100000 in
theorem flat_le (ls : List (List UInt32)) (k : Nat) : (ls.take k).flatten.length ≤ ls.flatten.length := by
  have h : (ls.take k).flatten ++ (ls.drop k).flatten = ls.flatten := by rw [← List.flatten_append, List.take_append_drop]
  rw [← h, List.length_append]; omega
set_option maxRecDepth 100000 in
set_option maxHeartbeats 1000000 in
/-- slices.Concat. -/
theorem concat_walk (w : World) (b c : Nat) (ls : List (List UInt32)) (h : RowsAt w b ls) (hn : ls.length ≤ 100) (ht : ls.flatten.length ≤ 1000000) :
    Calls Try.prog 62 #[.slice (some ⟨b, 0, none⟩) ls.length c] w fun e w' => ∃ v, e = .returned v ∧ Ow w' w.heap.size v ls.flatten ∧ Below w.heap.size w w' := by
  have H := Lib.hid h
  have HT := Lib.hid ht
  clear h ht
  go_enter Try.func62, Try.ntmps62
  go_wp2
  go_loop [3, 11] (fun s i => ∃ k : Nat, k ≤ ls.length ∧ i = .int .i64 k ∧ s = .int .i64 ((ls.take k).flatten.length : Nat)) (fun _ i => ls.length - (intOf i).toNat)
  case atStart => exact ⟨0, by omega, rfl, rfl⟩
  case round =>
    obtain ⟨k, hk, rfl, rfl⟩ := hrel
    have hf1 := Nat.le_trans (flat_le ls k) HT.out
    by_cases hlt : k < ls.length
    · obtain ⟨v, hv, A, d, rfl, _, _⟩ := H.out k hlt
      have hf2 := Nat.le_trans (flat_le ls (k + 1)) HT.out
      have hs := flat_succ ls k hlt
      have hs2 : (ls.take (k + 1)).flatten.length = (ls.take k).flatten.length + ls[k].length := by rw [hs, List.length_append]
      have HS := Lib.hid hs2
      rw [hs2] at hf2
      clear hs hs2
      generalize ls[k] = m at *
      generalize (ls.take k).flatten.length = p at *
      go_wp2
      go_round
      case rel => exact ⟨k + 1, by omega, by go_num, by rw [HS.out]; go_num⟩
      case measure => simp [intOf]; omega
    · obtain rfl : k = ls.length := by omega
      rw [List.take_length] at *
      have HG := Lib.hid (grow_walk w ls.flatten.length hf1)
      have HT2 := HT
      clear HT hf1
      generalize hq : ls.flatten.length = q at HG ⊢
      have HQ := Lib.hid hq
      clear hq
      go_wp2_with (go_at_call 74; refine HG.out.mono ?_; rintro e w1 ⟨v1, rfl, ho1, hb1⟩; have HO1 := Lib.hid ho1; have HB1 := Lib.hid hb1; clear ho1 hb1)
      go_loopw [6, 27] (fun v i wr => ∃ k : Nat, k ≤ ls.length ∧ i = .int .i64 k ∧ Ow wr w.heap.size v (ls.take k).flatten ∧ Below w.heap.size w wr) (fun _ i _ => ls.length - (intOf i).toNat)
      case atStart => exact ⟨0, by omega, rfl, HO1.out, HB1.out⟩
      case round =>
        obtain ⟨k, hk, rfl, ho, hb⟩ := hrel
        have HO := Lib.hid ho
        have HB := Lib.hid hb
        clear ho hb
        by_cases hlt : k < ls.length
        · obtain ⟨v, hv, A, d, rfl, hd, hr⟩ := (H.out.kept HB.out) k hlt
          have hf2 := Nat.le_trans (flat_le ls (k + 1)) HT2.out
          have hs := flat_succ ls k hlt
          have HS := Lib.hid hs
          have HR := Lib.hid hr
          rw [hs, List.length_append] at hf2
          clear hs hd hr
          generalize ls[k] = m at *
          generalize (ls.take k).flatten = p at *
          go_wp2_with (refine wpList_append_rd rfl (.tmp 31) (.tmp 32) rfl w.heap.size _ p m A d rfl rfl HO.out HR.out hf2 HB.out.size ?_; intro v2 w2 ho2 hb2; have HO2 := Lib.hid ho2; have HB2 := Lib.hid hb2; clear ho2 hb2)
          go_roundw
          case rel => exact ⟨k + 1, by omega, by go_num, by rw [HS.out]; exact HO2.out, HB.out.trans HB2.out⟩
          case measure => simp [intOf]; omega
        · obtain rfl : k = ls.length := by omega
          rw [List.take_length] at *
          go_wp2
          go_ret
          exact ⟨_, rfl, HO.out, HB.out⟩
end Go.Proofs.Ytbhoingiibcboaa
