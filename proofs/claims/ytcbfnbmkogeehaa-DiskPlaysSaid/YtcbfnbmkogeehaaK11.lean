/- New. -/
import Derived.Test.YtcbfnbmkogeehaaK10
import Derived.Laws.MakeOwn
import Derived.Carry
namespace Go.Proofs.Ytcbfnbmkogeehaa
open Go.RowKit
theorem made_all (c : Array Value) (v : Value) (hc : 0 < c.size) (h : ∀ x ∈ c, x = v) (n : Nat) : madeCells c n = Array.replicate n v := by
  apply Array.ext
  · simp [madeCells]
  · intro i h1 h2
    have hlt : i % c.size < c.size := Nat.mod_lt _ hc
    simp [madeCells, getElem!_pos, hlt]
    exact h _ (by simp)
theorem rep_U (n : Nat) : (List.replicate n (0 : UInt8)).map U = List.replicate n (Value.int .u8 0) := List.map_replicate
theorem z512_U : z512.map U = List.replicate 512 (Value.int .u8 0) := rep_U 512
theorem flat_zero (n : Nat) : ((List.replicate n z512).flatMap (·.map U)).toArray = Array.replicate (n * 512) (Value.int .u8 0) := by
  rw [← List.toArray_replicate]
  congr 1
  induction n with
  | zero => simp
  | succ n ih =>
    rw [List.replicate_succ, List.flatMap_cons, ih, show (n + 1) * 512 = 512 + n * 512 by omega, ← List.replicate_append_replicate]
    exact congrArg (· ++ List.replicate (n * 512) (Value.int .u8 0)) z512_U
theorem made43 (n : Nat) : madeCells Z (n * 512) = ((List.replicate n z512).flatMap (·.map U)).toArray := by
  rw [flat_zero]
  refine made_all Z _ (by rw [Z_size]; decide) (fun x hx => ?_) _
  unfold Z at hx
  have hx2 : x ∈ z512.map U := by simpa using hx
  obtain ⟨y, hy, rfl⟩ := List.mem_map.1 hx2
  have := List.eq_of_mem_replicate (show y ∈ List.replicate 512 (0 : UInt8) from hy)
  subst this
  rfl

def Cm : Array Value := #[.int .i64 (-1), .int .i64 0, .bool false]
theorem zero55 (w : World) : (zeroValue 55).run Try.prog w = .ok (.agg #[.int .i64 0, .int .i64 0, .bool false]) w := by kernel_rfl
theorem meter_walk (w : World) : Calls Try.prog 22 #[] w fun e w' => e = .returned (.agg Cm) ∧ Below w.heap.size w w' := by
  have hz := zero55
  go_enter Try.func22, Try.ntmps22
  go_wp2
  exact bodyPost_ret (results_cell_row rfl _ _ w.heap.size 55 Cm (0, 0) _ rfl (Blk.fresh w 55 Cm) Try.underlying55 rfl (by kernel_rfl)) rfl ⟨rfl, (Below.refl _ w).alloc (Nat.le_refl _) _⟩
theorem zero59 (w : World) : (zeroValue 59).run Try.prog w = .ok (.agg #[.slice none 0 0, .map none]) w := by kernel_rfl
set_option maxRecDepth 100000 in
theorem cache_walk (w : World) (n : Nat) (hn : n ≤ 4096) : Calls Try.prog 23 #[.int .i64 (n : Int)] w fun e w' => ∃ lb mb, e = .returned (.agg #[.slice (some ⟨lb, 0, none⟩) n n, .map (some mb)]) ∧ Below w.heap.size w w' ∧ w.heap.size ≤ lb ∧ lb < mb ∧
    Blk w' lb 43 ((List.replicate n z512).flatMap (·.map U)).toArray ∧ w'.heap[mb]? = some (.map #[] 0) := by
  have hz := zero59
  have hmk : ∀ W : World, (Instr.makeSlice 35 (.int .i64 (n : Int)) (.int .i64 (n : Int))).run Try.prog W = .ok (.slice (some ⟨W.heap.size, 0, none⟩) n n) (W.alloc (.cells ((List.replicate n z512).flatMap (·.map U)).toArray 43)) := by
    intro W
    cases hq : Try.prog.info? 43 with
    | none => have := size43; rw [hq] at this; cases this
    | some i =>
      have hs : i.size = 512 := by have := size43; rw [hq] at this; simpa using this
      have hz2 : i.zero = some (.agg Z) := by
        have h := zero43 W
        cases hzz : i.zero with
        | none => simp [zeroValue, typeInfo, hq, hzz] at h
        | some z => simp [zeroValue, typeInfo, hq, hzz] at h; rw [h]
      have hbt : i.bytes = 512 := by have h1 : (Try.prog.info? 43).map (·.bytes) = some 512 := by kernel_rfl
                                     rw [hq] at h1; simpa using h1
      have := run_makeSlice W 35 43 i (.agg Z) Try.underlying35 hq hz2 .i64 .i64 (n : Int) (n : Int) (by omega) (by omega) (by rw [hs]; simp; omega) (by rw [hbt]; omega) (by omega)
      rw [this, hs]
      simp only [Int.toNat_natCast]
      rw [← made43]
      rfl
  have hmm : ∀ W : World, (Instr.makeMap 57 none).run Try.prog W = .ok (.map (some W.heap.size)) (W.alloc (.map #[] 0)) := fun W => run_makeMap 57 W
  generalize ((List.replicate n z512).flatMap (·.map U)).toArray = L at *
  go_enter Try.func23, Try.ntmps23
  go_wp2
  have hb0 := ((Blk.fresh w 59 #[.slice (some ⟨w.heap.size + 1, 0, none⟩) n n, .map (some (w.heap.size + 1 + 1))]).more (.cells L 43)).more (.map #[] 0)
  refine bodyPost_ret (results_cell_row rfl _ _ w.heap.size 59 _ (0, 0) _ rfl hb0 Try.underlying59 rfl (by kernel_rfl)) rfl ⟨w.heap.size + 1, w.heap.size + 1 + 1, rfl, ?_, by omega, by omega, ?_, ?_⟩
  · exact (((Below.refl _ w).alloc (Nat.le_refl _) _).alloc (by simp) _).alloc (by simp; omega) _
  · exact (Blk.fresh_at (by simp) _ _).more _
  · have h := heap_alloc_new ((w.alloc (.cells #[.slice (some ⟨w.heap.size + 1, 0, none⟩) n n, .map (some (w.heap.size + 1 + 1))] 59)).alloc (.cells L 43)) (.map #[] 0)
    simpa using h
end Go.Proofs.Ytcbfnbmkogeehaa
