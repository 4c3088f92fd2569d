import Derived.Test.YtcbfnbmkogeehaaDoorW0
import Derived.BigQuiet
import Derived.Deep.QuietTactic
import Derived.StillTailTactics
namespace Go.Proofs.YtcbfnbmkogeehaaDoor
open Go.RowKit

/-- Block g is just these cells, none of them frozen. -/
def Blk (w : World) (g : Nat) (t : TypeId) (cs : Array Value) : Prop := w.heap[g]? = some (.cells cs t (0, 0))
theorem Blk.cell {w : World} {g : Nat} {t : TypeId} {cs : Array Value} (h : Blk w g t cs) (i : Nat) : w.cell? ⟨g, i, none⟩ = cs[i]? := cell_of_row w g i cs t (0, 0) h
theorem Blk.thaw {w : World} {g : Nat} {t : TypeId} {cs : Array Value} (h : Blk w g t cs) (i : Nat) : w.frozen? ⟨g, i, none⟩ = false := frozen_of_row w g i cs t h
theorem Blk.fresh (w : World) (t : TypeId) (cs : Array Value) : Blk (w.alloc (.cells cs t)) w.heap.size t cs := heap_alloc_new w _
theorem Blk.lt {w : World} {g : Nat} {t : TypeId} {cs : Array Value} (h : Blk w g t cs) : g < w.heap.size := by
  rcases Nat.lt_or_ge g w.heap.size with h1 | h1
  · exact h1
  · unfold Blk at h; rw [Array.getElem?_eq_none h1] at h; cases h
theorem Blk.more {w : World} {g : Nat} {t : TypeId} {cs : Array Value} (h : Blk w g t cs) (o : Obj) : Blk (w.alloc o) g t cs := by
  have h1 := h.lt
  exact (Below.heap_alloc w o g h1).trans h
theorem Blk.put {w : World} {g : Nat} {t : TypeId} {cs : Array Value} (h : Blk w g t cs) (i : Nat) (v : Value) : Blk (w.setCell ⟨g, i, none⟩ v) g t (cs.setIfInBounds i v) := by
  unfold Blk at h ⊢
  simp [World.setCell, Array.getElem?_modify, h]
theorem Blk.off {w : World} {g : Nat} {t : TypeId} {cs : Array Value} (h : Blk w g t cs) {a : Addr} (hne : g ≠ a.block) (v : Value) : Blk (w.setCell a v) g t cs :=
  (heap_setCell_other w a g v hne).trans h
theorem Blk.drew {w : World} {g : Nat} {t : TypeId} {cs : Array Value} (h : Blk w g t cs) : Blk w.drew g t cs := h
theorem Blk.drewN {w : World} {g : Nat} {t : TypeId} {cs : Array Value} (h : Blk w g t cs) (n : Nat) : Blk (w.drewN n) g t cs := h
theorem Blk.kept {w w' : World} {g B : Nat} {t : TypeId} {cs : Array Value} (h : Blk w g t cs) (hb : Below B w w') (hg : g < B) : Blk w' g t cs := (hb.block g hg).trans h

/-- A byte as a value. -/
def U (x : UInt8) : Value := .int .u8 (x.toNat : Int)
theorem U_def (x : UInt8) : U x = .int .u8 (x.toNat : Int) := rfl
theorem run_conv (x : UInt8) (w : World) : (convert 5 52 (U x)).run Tryd.prog w = .ok (W x.toUInt32) w := by
  have h1 : ∀ w, (underlying 5).run Tryd.prog w = .ok (.int .u8) w := fun w => by kernel_rfl
  have h2 : ∀ w, (underlying 52).run Tryd.prog w = .ok (.int .u32) w := fun w => by kernel_rfl
  have := x.toNat_lt
  simp only [convert, Sem.run_bind, h1, h2, Result.andThen_ok, U_def, Conv.intToInt]
  show Result.ok (Value.int .u32 (IntKind.u32.wrap (x.toNat : Int))) w = _
  rw [wrap_u32_nat _ (by omega), W_def, UInt8.toNat_toUInt32]

theorem run_slice_arr {P : Program} (t elem : TypeId) (n lo hi : Nat) (a : Addr) (i : TypeInfo) (ht : P.underlying t = some (.array n elem)) (hi' : P.info? elem = some i) (hs : i.size = 1)
    (h1 : lo ≤ hi) (h2 : hi ≤ n) (h3 : lo < n) (w : World) :
    (Instr.sliceAt t (.pointer (some a)) (some (.int .i64 (lo : Int))) (some (.int .i64 (hi : Int))) none).run P w = .ok (.slice (some (a.add lo)) (hi - lo) (n - lo)) w := by
  have e1 : (0 : Int) ≤ (hi : Int) ∧ (hi : Int) ≤ ((n : Nat) : Int) := by omega
  have e2 : (0 : Int) ≤ (lo : Int) ∧ (lo : Int) ≤ ((hi : Nat) : Int) := by omega
  have e3 : ¬ n = lo := by omega
  simp [Instr.sliceAt, Instr.sliceBounds, Instr.sliceBound, run_underlying ht, sizeOf, typeInfo, hi', hs, h1, h2, e1, e2, e3, asIntOf, Instr.sureAddr]

theorem Blk.setRow {w : World} {g : Nat} {t : TypeId} {cs : Array Value} (h : Blk w g t cs) (cs' : Array Value) : Blk (w.setRow g cs') g t cs' := setRow_heap w g cs cs' t (0, 0) h
theorem Blk.setRow_off {w : World} {g k : Nat} {t : TypeId} {cs : Array Value} (h : Blk w g t cs) (cs' : Array Value) (hne : g ≠ k) : Blk (w.setRow k cs') g t cs := (setRow_other w k g cs' hne).trans h
theorem Below.setRow {B : Nat} {a w : World} (h : Below B a w) {g : Nat} (hg : B ≤ g) (cs : Array Value) : Below B a (w.setRow g cs) :=
  h.trans ⟨rfl, rfl, rfl, by simp, fun k hk => setRow_other w g k cs (by omega)⟩

/-! The words of a block, and the schedule. -/
def wd (m : Nat → UInt8) (j : Nat) : UInt32 := (m (4 * j)).toUInt32 <<< 24 ||| (m (4 * j + 1)).toUInt32 <<< 16 ||| (m (4 * j + 2)).toUInt32 <<< 8 ||| (m (4 * j + 3)).toUInt32
def sg0 (a : UInt32) : UInt32 := rotr a 7 ^^^ rotr a 18 ^^^ a >>> 3
def sg1 (b : UInt32) : UInt32 := rotr b 17 ^^^ rotr b 19 ^^^ b >>> 10
def nextW (l : List UInt32) : UInt32 := sg1 (l.getD (l.length - 2) 0) + l.getD (l.length - 7) 0 + sg0 (l.getD (l.length - 15) 0) + l.getD (l.length - 16) 0
def growW : Nat → List UInt32 → List UInt32
  | 0, l => l
  | k + 1, l => growW k l ++ [nextW (growW k l)]
def first16 (m : Nat → UInt8) : List UInt32 := (List.range 16).map (wd m)
def sched (m : Nat → UInt8) : List UInt32 := growW 48 (first16 m)
theorem growW_length (k : Nat) (l : List UInt32) : (growW k l).length = l.length + k := by
  induction k with
  | zero => rfl
  | succ k ih => simp [growW, ih]; omega
theorem sched_length (m : Nat → UInt8) : (sched m).length = 64 := by simp [sched, growW_length, first16]
end Go.Proofs.YtcbfnbmkogeehaaDoor
