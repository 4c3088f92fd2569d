/- How a space lies in memory; the methods that only look. -/
import Derived.Test.YtoeniealmcihmaaP0
import Derived.Test.YtoeniealmcihmaaP1
namespace Go.Proofs.Ytoeniealmcihmaa
open Go.RowKit

/-- The space at block g: its first sector, and its row in block lb (none, of no sectors), behind which there is room. -/
structure Spc (w : World) (g lb : Nat) (fr : Int) (p : Option Addr) (mr : List Value) (f : List Bool) : Prop where
  blk : Blk w g 45 #[.int .i64 fr, .slice p f.length (f.length + mr.length)]
  nil : f.length = 0 → p = none ∧ mr = []
  pos : 0 < f.length → p = some ⟨lb, 0, none⟩ ∧ Blk w lb 4 (f.map Value.bool ++ mr).toArray
  ne : 0 < f.length → lb ≠ g
  cap : f.length + mr.length ≤ maxLen
  hi : f.length ≤ 4096
  lo : -9223372036854775808 ≤ fr
  end' : fr + (f.length : Int) ≤ 9223372036854775807
theorem Spc.cell0 {w : World} {g lb : Nat} {fr : Int} {p : Option Addr} {mr : List Value} {f : List Bool} (h : Spc w g lb fr p mr f) : w.cell? ⟨g, 0, none⟩ = some (.int .i64 fr) := h.blk.cell 0
theorem Spc.cell1 {w : World} {g lb : Nat} {fr : Int} {p : Option Addr} {mr : List Value} {f : List Bool} (h : Spc w g lb fr p mr f) : w.cell? ⟨g, 1, none⟩ = some (.slice p f.length (f.length + mr.length)) := h.blk.cell 1
theorem Spc.at {w : World} {g lb : Nat} {fr : Int} {p : Option Addr} {mr : List Value} {f : List Bool} (h : Spc w g lb fr p mr f) (i : Nat) (hi : i < f.length) : w.cell? ⟨lb, i, none⟩ = some (.bool (f.getD i false)) := by
  obtain ⟨_, hb⟩ := h.pos (by omega)
  rw [hb.cell, List.getElem?_toArray, List.getElem?_append_left (by simpa using hi), List.getElem?_map, List.getD_eq_getElem?_getD, List.getElem?_eq_getElem hi]
  rfl
theorem Spc.kept {w w' : World} {g lb B : Nat} {fr : Int} {p : Option Addr} {mr : List Value} {f : List Bool} (h : Spc w g lb fr p mr f) (hb : Below B w w') (hg : g < B) (hl : 0 < f.length → lb < B) : Spc w' g lb fr p mr f :=
  { h with blk := h.blk.kept hb hg, pos := fun h0 => ⟨(h.pos h0).1, (h.pos h0).2.kept hb (hl h0)⟩ }
theorem Spc.up {w w' : World} {g lb : Nat} {fr : Int} {p : Option Addr} {mr : List Value} {f : List Bool} (h : Spc w g lb fr p mr f) (hb : Below w.heap.size w w') : Spc w' g lb fr p mr f :=
  h.kept hb h.blk.lt (fun h0 => (h.pos h0).2.lt)
theorem Spc.more {w : World} {g lb : Nat} {fr : Int} {p : Option Addr} {mr : List Value} {f : List Bool} (h : Spc w g lb fr p mr f) (o : Obj) : Spc (w.alloc o) g lb fr p mr f := h.up ((Below.refl _ w).alloc (Nat.le_refl _) o)

/-! 'has' -/
theorem has_walk (w : World) (g lb : Nat) (fr : Int) (p : Option Addr) (mr : List Value) (f : List Bool) (k : Int) (h : Spc w g lb fr p mr f) :
    Calls Try.prog 20 #[.pointer (some ⟨g, 0, none⟩), .int .i64 k] w fun e w' => e = .returned (.bool (hasB fr f k)) ∧ ∃ n, w' = w.drewN n := by
  have c0 := h.cell0
  have c1 := h.cell1
  have lo := h.lo
  have en := h.end'
  have hi := h.hi
  have w0 : IntKind.i64.wrap (fr + (f.length : Int)) = fr + (f.length : Int) := IntWalk.i64_in _ (by omega)
  unfold hasB
  clear h
  by_cases h1 : fr ≤ k
  · have d1 : decide (fr ≤ k) = true := decide_eq_true h1
    go_enter Try.func20, Try.ntmps20
    go_wp2
    go_quiet (fail)
    go_wp2
    go_ret
    exact ⟨by rw [d1]; rfl, _, rfl⟩
  · have d1 : decide (fr ≤ k) = false := decide_eq_false h1
    go_enter Try.func20, Try.ntmps20
    go_wp2
    go_quiet (fail)
    go_wp2
    go_ret
    exact ⟨by rw [d1]; rfl, _, rfl⟩
end Go.Proofs.Ytoeniealmcihmaa
