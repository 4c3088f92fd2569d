/- Reverse, Mirror, Same. -/
import Derived.Test.YtbhoingiibcboaaA6
namespace Go.Proofs.Ytbhoingiibcboaa
open Go.RowKit

set_option maxRecDepth 100000 in
theorem RBelow.set {B : Nat} {a w : World} (h : Below B a w) {g : Nat} (i : Nat) (hg : B ≤ g) (v : Value) : Below B a (w.setCell ⟨g, i, none⟩ v) :=
  h.trans ⟨rfl, rfl, rfl, by simp [World.setCell], fun k hk => heap_setCell_other w _ k v (by show k ≠ g; omega)⟩
set_option maxRecDepth 100000 in
theorem V_all (x : UInt32) : (V x).oneCell' = true := rfl
attribute [local irreducible] V
/-! Over values that read so. -/
set_option maxRecDepth 100000 in
theorem RV.len {w : World} {v : Value} {l : List UInt32} (h : RV w v l) : l.length ≤ 1000000 := by
  obtain ⟨A, c, _, _, h⟩ := h; exact h.len
set_option maxRecDepth 100000 in
theorem normal_rv (w : World) (v : Value) (l : List UInt32) (h : RV w v l) : Calls Try.prog 47 #[v] w fun e w' => ∃ v, e = .returned v ∧ RV w' v (norm l) ∧ Below w.heap.size w w' := by
  obtain ⟨A, c, rfl, hc, hr⟩ := h
  exact normal_walk w A c l hr hc
set_option maxRecDepth 100000 in
theorem rnorm_rv (w : World) (v : Value) (l : List UInt32) (h : RV w v l) : Calls Try.prog 23 #[v] w fun e w' => ∃ v, e = .returned v ∧ RV w' v (norm l) ∧ Below w.heap.size w w' := by
  obtain ⟨A, c, rfl, hc, hr⟩ := h
  exact rnorm_walk w A c l hr hc
set_option maxRecDepth 100000 in
theorem equal_rv (w : World) (v u : Value) (l m : List UInt32) (h : RV w v l) (h2 : RV w u m) : Calls Try.prog 77 #[v, u] w fun e w' => e = .returned (.bool (decide (l = m))) ∧ Below w.heap.size w w' := by
  obtain ⟨A, c, rfl, hc, hr⟩ := h
  obtain ⟨B, d, rfl, hd, hs⟩ := h2
  exact equal_walk w A B c d l m hr hs
set_option maxRecDepth 100000 in
theorem rsame_rv (w : World) (v u : Value) (l m : List UInt32) (h : RV w v l) (h2 : RV w u m) : Calls Try.prog 15 #[v, u] w fun e w' => e = .returned (.bool (decide (l = m))) ∧ Below w.heap.size w w' := by
  obtain ⟨A, c, rfl, hc, hr⟩ := h
  obtain ⟨B, d, rfl, hd, hs⟩ := h2
  exact same_walk w A B c d l m hr hs
set_option maxRecDepth 100000 in
theorem index_rv (w : World) (v : Value) (l : List UInt32) (d : UInt32) (h : RV w v l) : Calls Try.prog 60 #[v, V d] w fun e w' => e = .returned (.int .i64 (ix l d)) ∧ w = w' := by
  obtain ⟨A, c, rfl, hc, hr⟩ := h
  exact index_walk w A c l d hr
set_option maxRecDepth 100000 in
theorem clone_rv (w : World) (v : Value) (l : List UInt32) (h : RV w v l) : Calls Try.prog 38 #[v] w fun e w' => ∃ u, e = .returned u ∧ Ow w' w.heap.size u l ∧ Below w.heap.size w w' := by
  obtain ⟨A, c, rfl, hc, hr⟩ := h
  exact clone_walk w A c l hr hc
end Go.Proofs.Ytbhoingiibcboaa
