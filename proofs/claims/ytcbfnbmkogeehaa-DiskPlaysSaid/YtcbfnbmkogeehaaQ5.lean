/- The document's disk made; two lists alike. -/
import Derived.Test.YtcbfnbmkogeehaaQ4
namespace Go.Proofs.Ytcbfnbmkogeehaa
open Go.RowKit

theorem make35 (n : Nat) (hn : n ≤ 4096) (W : World) : (Instr.makeSlice 35 (.int .i64 (n : Int)) (.int .i64 (n : Int))).run Try.prog W = .ok (.slice (some ⟨W.heap.size, 0, none⟩) n n) (W.alloc (.cells ((List.replicate n z512).flatMap (·.map U)).toArray 43)) := by
  cases hq : Try.prog.info? 43 with
  | none => have := size43; rw [hq] at this; cases this
  | some i =>
    have hs : i.size = 512 := by have := size43; rw [hq] at this; simpa using this
    have hz2 : i.zero = some (.agg Z) := by
      have h := zero43 W
      cases hzz : i.zero with
      | none => simp [zeroValue, typeInfo, hq, hzz] at h
      | some z => simp [zeroValue, typeInfo, hq, hzz] at h; rw [h]
    have hbt : i.bytes = 512 := by have h1 : (Try.prog.info? 43).map (·.bytes) = some 512 := by kernel_rfl
                                   rw [hq] at h1; simpa using h1
    have := run_makeSlice W 35 43 i (.agg Z) Try.underlying35 hq hz2 .i64 .i64 (n : Int) (n : Int) (by omega) (by omega) (by rw [hs]; simp; omega) (by rw [hbt]; omega) (by omega)
    rw [this, hs]
    simp only [Int.toNat_natCast]
    rw [← made43]
    rfl
theorem made4 (n : Nat) : madeCells #[.bool false] (n * 1) = ((List.replicate n false).map Value.bool).toArray := by
  rw [made_all #[.bool false] (.bool false) (by decide) (fun x hx => by simpa using hx), Nat.mul_one, List.map_replicate, ← List.toArray_replicate]
theorem make30 (n : Nat) (hn : n ≤ 4096) (W : World) : (Instr.makeSlice 30 (.int .i64 (n : Int)) (.int .i64 (n : Int))).run Try.prog W = .ok (.slice (some ⟨W.heap.size, 0, none⟩) n n) (W.alloc (.cells ((List.replicate n false).map Value.bool).toArray 4)) := by
  have h1 : (Try.prog.info? 4).map (fun i => (i.size, i.bytes, i.zero)) = some (1, 1, some (.bool false)) := by kernel_rfl
  cases hq : Try.prog.info? 4 with
  | none => rw [hq] at h1; cases h1
  | some i =>
    rw [hq] at h1
    simp only [Option.map_some, Option.some.injEq, Prod.mk.injEq] at h1
    obtain ⟨hs, hbt, hz2⟩ := h1
    have := run_makeSlice W 30 4 i (.bool false) Try.underlying30 hq hz2 .i64 .i64 (n : Int) (n : Int) (by omega) (by omega) (by rw [hs]; simp; omega) (by rw [hbt]; omega) (by omega)
    rw [this, hs]
    simp only [Int.toNat_natCast]
    rw [← made4]
    rfl
theorem at0 (w : World) (t : TypeId) (cs : Array Value) (b c d : Obj) : Blk ((((w.alloc (.cells cs t)).alloc b).alloc c).alloc d).drew w.heap.size t cs := ((((Blk.fresh w t cs).more b).more c).more d).drew
theorem at1 (w : World) (t : TypeId) (cs : Array Value) (a c d : Obj) : Blk ((((w.alloc a).alloc (.cells cs t)).alloc c).alloc d).drew (w.heap.size + 1) t cs := (((Blk.fresh_at (by simp) t cs).more c).more d).drew
theorem at2 (w : World) (t : TypeId) (cs : Array Value) (a b d : Obj) : Blk ((((w.alloc a).alloc b).alloc (.cells cs t)).alloc d).drew (w.heap.size + 1 + 1) t cs := ((Blk.fresh_at (by simp) t cs).more d).drew
theorem at3 (w : World) (t : TypeId) (cs : Array Value) (a b c : Obj) : Blk ((((w.alloc a).alloc b).alloc c).alloc (.cells cs t)).drew (w.heap.size + 1 + 1 + 1) t cs := (Blk.fresh_at (by simp) t cs).drew
theorem at_all (w : World) (a b c d : Obj) : Below w.heap.size w ((((w.alloc a).alloc b).alloc c).alloc d).drew := by
  have h1 := (Below.refl w.heap.size w).alloc (Nat.le_refl _) a
  have h2 := h1.alloc h1.size b
  have h3 := h2.alloc h2.size c
  exact (h3.alloc h3.size d).drew
set_option maxRecDepth 100000 in
theorem qnew_walk (w : World) (n : Nat) (h1 : 64 ≤ n) (h2 : n ≤ 4096) : Calls Try.prog 8 #[.int .i64 (n : Int)] w fun e w' => ∃ q sb lb wb, e = .returned (.pointer (some ⟨q, 0, none⟩)) ∧ Below w.heap.size w w' ∧
    w.heap.size ≤ q ∧ w.heap.size ≤ sb ∧ w.heap.size ≤ lb ∧ w.heap.size ≤ wb ∧ Rq w' q sb lb wb (Dk.new n) := by
  have hm35 := make35 n h2
  have hm30 := make30 n h2
  have q1 : ¬ (n : Int) < 64 := by omega
  have q2 : ¬ (4096 : Int) < (n : Int) := by omega
  have hfin : ∀ (W : World) (q sb lb wb : Nat), Blk W q 37 #[.slice (some ⟨sb, 0, none⟩) n n, .slice (some ⟨lb, 0, none⟩) n n, .slice (some ⟨wb, 0, none⟩) n n, .int .i64 0, .int .i64 (-1), .bool false] →
      Blk W sb 43 ((List.replicate n z512).flatMap (·.map U)).toArray → Blk W lb 43 ((List.replicate n z512).flatMap (·.map U)).toArray → Blk W wb 4 ((List.replicate n false).map Value.bool).toArray →
      sb ≠ q → lb ≠ q → wb ≠ q → lb ≠ sb → wb ≠ sb → wb ≠ lb → Rq W q sb lb wb (Dk.new n) := by
    intro W q sb lb wb b1 b2 b3 b4 a1 a2 a3 a4 a5 a6
    have e : Cq (Dk.new n) sb lb wb = #[.slice (some ⟨sb, 0, none⟩) n n, .slice (some ⟨lb, 0, none⟩) n n, .slice (some ⟨wb, 0, none⟩) n n, .int .i64 0, .int .i64 (-1), .bool false] := by
      show #[Value.slice (some ⟨sb, 0, none⟩) (List.replicate n z512).length (List.replicate n z512).length, .slice (some ⟨lb, 0, none⟩) (List.replicate n z512).length (List.replicate n z512).length, .slice (some ⟨wb, 0, none⟩) (List.replicate n z512).length (List.replicate n z512).length, .int .i64 0, .int .i64 (max (-1) (-1)), .bool false] = _
      rw [List.length_replicate]
      rfl
    exact ⟨Dk.new_ok n h1 h2, by rw [e]; exact b1, b2, b3, b4, a1, a2, a3, a4, a5, a6⟩
  have HFIN := Lib.hid hfin
  clear hfin h1 h2
  generalize ((List.replicate n z512).flatMap (·.map U)).toArray = L at *
  generalize ((List.replicate n false).map Value.bool).toArray = L4 at *
  go_enter Try.func8, Try.ntmps8
  go_wp2
  go_region
  all_goals (go_wp2; go_ret)
  · exact ⟨w.heap.size + 1 + 1 + 1, w.heap.size, (w.heap.size + 1), (w.heap.size + 1 + 1), rfl, at_all w _ _ _ _, by omega, by omega, by omega, by omega, HFIN.out _ _ _ _ _ (at3 w _ _ _ _ _) (at0 w _ _ _ _ _) (at1 w _ _ _ _ _) (at2 w _ _ _ _ _) (by omega) (by omega) (by omega) (by omega) (by omega) (by omega)⟩
  · exact ⟨w.heap.size + 1 + 1 + 1, w.heap.size, (w.heap.size + 1 + 1), (w.heap.size + 1), rfl, at_all w _ _ _ _, by omega, by omega, by omega, by omega, HFIN.out _ _ _ _ _ (at3 w _ _ _ _ _) (at0 w _ _ _ _ _) (at2 w _ _ _ _ _) (at1 w _ _ _ _ _) (by omega) (by omega) (by omega) (by omega) (by omega) (by omega)⟩
  · exact ⟨w.heap.size + 1 + 1 + 1, (w.heap.size + 1), w.heap.size, (w.heap.size + 1 + 1), rfl, at_all w _ _ _ _, by omega, by omega, by omega, by omega, HFIN.out _ _ _ _ _ (at3 w _ _ _ _ _) (at1 w _ _ _ _ _) (at0 w _ _ _ _ _) (at2 w _ _ _ _ _) (by omega) (by omega) (by omega) (by omega) (by omega) (by omega)⟩
  · exact ⟨w.heap.size + 1 + 1 + 1, (w.heap.size + 1 + 1), w.heap.size, (w.heap.size + 1), rfl, at_all w _ _ _ _, by omega, by omega, by omega, by omega, HFIN.out _ _ _ _ _ (at3 w _ _ _ _ _) (at2 w _ _ _ _ _) (at0 w _ _ _ _ _) (at1 w _ _ _ _ _) (by omega) (by omega) (by omega) (by omega) (by omega) (by omega)⟩
  · exact ⟨w.heap.size + 1 + 1 + 1, (w.heap.size + 1), (w.heap.size + 1 + 1), w.heap.size, rfl, at_all w _ _ _ _, by omega, by omega, by omega, by omega, HFIN.out _ _ _ _ _ (at3 w _ _ _ _ _) (at1 w _ _ _ _ _) (at2 w _ _ _ _ _) (at0 w _ _ _ _ _) (by omega) (by omega) (by omega) (by omega) (by omega) (by omega)⟩
  · exact ⟨w.heap.size + 1 + 1 + 1, (w.heap.size + 1 + 1), (w.heap.size + 1), w.heap.size, rfl, at_all w _ _ _ _, by omega, by omega, by omega, by omega, HFIN.out _ _ _ _ _ (at3 w _ _ _ _ _) (at2 w _ _ _ _ _) (at1 w _ _ _ _ _) (at0 w _ _ _ _ _) (by omega) (by omega) (by omega) (by omega) (by omega) (by omega)⟩
theorem qnew_none (w : World) (k : Int) (h : k < 64 ∨ 4096 < k) : Calls Try.prog 8 #[.int .i64 k] w fun e w' => e = .returned (.pointer none) ∧ w' = w := by
  by_cases h1 : k < 64
  · clear h
    go_enter Try.func8, Try.ntmps8
    go_wp2
    go_ret
    exact ⟨rfl, rfl⟩
  · have h2 : 4096 < k := by omega
    clear h
    go_enter Try.func8, Try.ntmps8
    go_wp2
    go_ret
    exact ⟨rfl, rfl⟩
theorem new_none (w : World) (k : Int) (h : k < 64 ∨ 4096 < k) : Calls Try.prog 7 #[.int .i64 k] w fun e w' => e = .returned (.tuple #[.pointer none, .int .i64 2]) ∧ w' = w := by
  by_cases h1 : k < 64
  · clear h
    go_enter Try.func7, Try.ntmps7
    go_wp2
    go_ret2
    exact ⟨rfl, rfl⟩
  · have h2 : 4096 < k := by omega
    clear h
    go_enter Try.func7, Try.ntmps7
    go_wp2
    go_ret2
    exact ⟨rfl, rfl⟩
theorem light_walk (w : World) (c0 c1 c2 : Value) (A : Option Addr) (n c : Nat) (h0 : c0.oneCell' = true) (h1 : c1.oneCell' = true) (h2 : c2.oneCell' = true) :
    Calls Try.prog 9 #[.agg #[c0, c1, c2, .slice A n c]] w fun e w' => e = .returned (.bool (decide (n ≤ 500))) ∧ Below w.heap.size w w' := by
  go_enter Try.func9, Try.ntmps9
  go_wp2
  go_ret
  refine ⟨?_, (Below.refl _ w).alloc (Nat.le_refl _) _⟩
  show Ending.returned (Value.bool (decide ((n : Int) ≤ 500))) = _
  rw [decide_eq_decide.2 (show (n : Int) ≤ 500 ↔ n ≤ 500 by omega)]
theorem Below.drewN' {B n : Nat} {a w : World} (h : Below B a w) : Below B a (w.drewN n) := ⟨h.os, h.tape, h.output, h.size, h.block⟩
set_option maxRecDepth 100000 in
/-- Two lists of the same numbers. -/
theorem ieq_walk (w : World) (A B : Option Addr) (c d : Nat) (l : List Nat) (hA : 0 < l.length → ∃ b, A = some ⟨b, 0, none⟩ ∧ ∀ j (h : j < l.length), w.cell? ⟨b, j, none⟩ = some (.int .i64 (l[j] : Int)))
    (hB : 0 < l.length → ∃ b, B = some ⟨b, 0, none⟩ ∧ ∀ j (h : j < l.length), w.cell? ⟨b, j, none⟩ = some (.int .i64 (l[j] : Int))) (hl : l.length ≤ 4096) :
    Calls Try.prog 28 #[.slice A l.length c, .slice B l.length d] w fun e w' => e = .returned (.bool true) ∧ Below w.heap.size w w' := by
  have HA := Lib.hid hA
  have HB := Lib.hid hB
  clear hA hB
  go_enter Try.func28, Try.ntmps28
  go_wp2
  go_loopw [13] (fun i wr => ∃ k : Nat, k ≤ l.length ∧ i = .int .i64 k ∧ Below w.heap.size w wr) (fun i _ => l.length - (intOf i).toNat)
  case atStart => exact ⟨0, Nat.zero_le _, rfl, Below.refl _ _⟩
  case round =>
    obtain ⟨k, hk, rfl, hb⟩ := hrel
    have HBB := Lib.hid hb
    clear hb
    by_cases hlt : k < l.length
    · obtain ⟨b1, rfl, hc1⟩ := HA.out (by omega)
      obtain ⟨b2, rfl, hc2⟩ := HB.out (by omega)
      have a1 := hc1 k hlt
      have a2 := hc2 k hlt
      have d1 : wr.cell? ⟨b1, k, none⟩ = some (.int .i64 (l[k] : Int)) := (HBB.out.cell (World.block_lt_of_cell? w _ a1)).trans a1
      have d2 : wr.cell? ⟨b2, k, none⟩ = some (.int .i64 (l[k] : Int)) := (HBB.out.cell (World.block_lt_of_cell? w _ a2)).trans a2
      generalize l[k] = x at *
      clear hc1 hc2 a1 a2
      go_wp2
      go_quiet (fail)
      go_wp2
      go_roundw
      case rel => exact ⟨k + 1, by omega, by go_num, Below.drewN' HBB.out⟩
      case measure => simp [intOf]; omega
    · obtain rfl : k = l.length := by omega
      go_wp2
      go_ret
      exact ⟨rfl, HBB.out⟩
end Go.Proofs.Ytcbfnbmkogeehaa
