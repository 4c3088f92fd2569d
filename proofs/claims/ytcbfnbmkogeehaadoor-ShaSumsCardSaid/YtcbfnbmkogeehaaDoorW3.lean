import Derived.Test.YtcbfnbmkogeehaaDoorW2
import Derived.Laws.CopyOwn
namespace Go.Proofs.YtcbfnbmkogeehaaDoor
open Go.RowKit

/-- What is kept, but for block g: below its own size the world is as it was. -/
structure Ex (g : Nat) (w w' : World) : Prop where
  os : w'.os = w.os
  tape : w'.tape = w.tape
  output : w'.output = w.output
  size : w.heap.size ≤ w'.heap.size
  block : ∀ k, k < w.heap.size → k ≠ g → w'.heap[k]? = w.heap[k]?
theorem Ex.refl (g : Nat) (w : World) : Ex g w w := ⟨rfl, rfl, rfl, Nat.le_refl _, fun _ _ _ => rfl⟩
theorem Ex.trans {g : Nat} {a b c : World} (h : Ex g a b) (k : Ex g b c) : Ex g a c :=
  ⟨k.os.trans h.os, k.tape.trans h.tape, k.output.trans h.output, Nat.le_trans h.size k.size, fun i hi hne => (k.block i (Nat.lt_of_lt_of_le hi h.size) hne).trans (h.block i hi hne)⟩
theorem Ex.of_below {g : Nat} {w w' : World} (h : Below w.heap.size w w') : Ex g w w' := ⟨h.os, h.tape, h.output, h.size, fun k hk _ => h.block k hk⟩
theorem Ex.setCell (g i : Nat) (w : World) (v : Value) : Ex g w (w.setCell ⟨g, i, none⟩ v) :=
  ⟨rfl, rfl, rfl, by simp [World.setCell], fun k _ hne => heap_setCell_other w _ k v hne⟩
theorem Ex.setRow (g : Nat) (w : World) (cs : Array Value) : Ex g w (w.setRow g cs) :=
  ⟨rfl, rfl, rfl, by simp, fun k _ hne => setRow_other w g k cs hne⟩
theorem Ex.drew (g : Nat) (w : World) : Ex g w w.drew := ⟨rfl, rfl, rfl, Nat.le_refl _, fun _ _ _ => rfl⟩
theorem Ex.alloc (g : Nat) (w : World) (o : Obj) : Ex g w (w.alloc o) := Ex.of_below ((Below.refl _ w).alloc (Nat.le_refl _) o)
theorem Ex.blk {g k : Nat} {w w' : World} {t : TypeId} {cs : Array Value} (h : Ex g w w') (hb : Blk w k t cs) (hne : k ≠ g) : Blk w' k t cs := (h.block k hb.lt hne).trans hb
/-- Of a block that is the call's own nothing is said outside. -/
theorem Ex.below {g B : Nat} {w w' w0 : World} (h0 : Below B w0 w) (h : Ex g w w') (hB : B ≤ g) (hw : B ≤ w.heap.size) : Below B w0 w' :=
  h0.trans ⟨h.os, h.tape, h.output, h.size, fun k hk => h.block k (by omega) (by omega)⟩

/-- A row stored into a block that was just laid for it. -/
theorem wpList_store_fresh {P : Program} {ops : Array Oper} {rest : List Oper} {o : Oper} {a : Act} {w0 : World} {old : Array Value} {t : TypeId} {Q : Exit → Act → World → Prop} (hgd : o.guard = none) (ty : TypeId) (x y : Operand) (ho : o.op = .store ty x y)
    (cells : Array Value) (hx : a.eval x = .pointer (some ⟨w0.heap.size, 0, none⟩)) (hy : a.eval y = .agg cells)
    (hi : (P.info? ty).map (·.size) = some cells.size) (hold : old.size = cells.size) (h1 : cells.all (·.oneCell') = true)
    (h : ∀ w2, Below w0.heap.size w0 w2 → w2.heap.size = w0.heap.size + 1 → Blk w2 w0.heap.size t cells → wpList P ops Q rest (a.put o.dst undef) w2) :
    wpList P ops Q (o :: rest) a (w0.alloc (.cells old t)) :=
  wpList_store_row hgd ty x y ho w0.heap.size cells hx hy t old (heap_alloc_new w0 _) hi hold h1
    (h _ (Below.setRow ((Below.refl _ w0).alloc (Nat.le_refl _) _) (Nat.le_refl _) _) (by simp) ((Blk.fresh w0 t old).setRow _))

/-- The eight words. -/
structure St where
  (a b c d e f g h : UInt32)
def St.list (s : St) : List UInt32 := [s.a, s.b, s.c, s.d, s.e, s.f, s.g, s.h]
def St.add (s r : St) : St := ⟨s.a + r.a, s.b + r.b, s.c + r.c, s.d + r.d, s.e + r.e, s.f + r.f, s.g + r.g, s.h + r.h⟩
/-- One round. -/
def St.turn (s : St) (k w : UInt32) : St :=
  let t := (s.h + k + w + (s.e &&& s.f ^^^ ~~~s.e &&& s.g)) + (rotr s.e 6 ^^^ rotr s.e 11 ^^^ rotr s.e 25)
  let u := (rotr s.a 2 ^^^ rotr s.a 13 ^^^ rotr s.a 22) + (s.a &&& s.b ^^^ s.a &&& s.c ^^^ s.b &&& s.c)
  ⟨t + u, s.a, s.b, s.c, s.d + t, s.e, s.f, s.g⟩
def kt : List UInt32 := [
  0x428a2f98, 0x71374491, 0xb5c0fbcf, 0xe9b5dba5, 0x3956c25b, 0x59f111f1, 0x923f82a4, 0xab1c5ed5,
  0xd807aa98, 0x12835b01, 0x243185be, 0x550c7dc3, 0x72be5d74, 0x80deb1fe, 0x9bdc06a7, 0xc19bf174,
  0xe49b69c1, 0xefbe4786, 0x0fc19dc6, 0x240ca1cc, 0x2de92c6f, 0x4a7484aa, 0x5cb0a9dc, 0x76f988da,
  0x983e5152, 0xa831c66d, 0xb00327c8, 0xbf597fc7, 0xc6e00bf3, 0xd5a79147, 0x06ca6351, 0x14292967,
  0x27b70a85, 0x2e1b2138, 0x4d2c6dfc, 0x53380d13, 0x650a7354, 0x766a0abb, 0x81c2c92e, 0x92722c85,
  0xa2bfe8a1, 0xa81a664b, 0xc24b8b70, 0xc76c51a3, 0xd192e819, 0xd6990624, 0xf40e3585, 0x106aa070,
  0x19a4c116, 0x1e376c08, 0x2748774c, 0x34b0bcb5, 0x391c0cb3, 0x4ed8aa4a, 0x5b9cca4f, 0x682e6ff3,
  0x748f82ee, 0x78a5636f, 0x84c87814, 0x8cc70208, 0x90befffa, 0xa4506ceb, 0xbef9a3f7, 0xc67178f2]
def St.turns (s : St) (ws : List UInt32) : Nat → St
  | 0 => s
  | k + 1 => (s.turns ws k).turn (kt.getD k 0) (ws.getD k 0)
def comp (s : St) (m : Nat → UInt8) : St := s.add (s.turns (sched m) 64)

/-- The cells of a hash: its words, its block, how much of that is filled, how long all is. -/
def HC (s : St) (bl : List UInt8) (f n : Int) : Array Value := (s.list.map W ++ bl.map U ++ [Value.int .i64 f, Value.int .u64 n]).toArray
theorem HC_size (s : St) (bl : List UInt8) (f n : Int) (h : bl.length = 64) : (HC s bl f n).size = 74 := by simp [HC, St.list, h]
theorem HC_byte (s : St) (bl : List UInt8) (f n : Int) (h : bl.length = 64) (j : Nat) (hj : j < 64) : (HC s bl f n)[8 + j]? = some (U (bl.getD j 0)) := by
  simp only [HC, St.list, List.getElem?_toArray, List.map_cons, List.map_nil]
  rw [List.getElem?_append_left (by simp; omega), List.getElem?_append_right (by simp)]
  simp [List.getD, h, hj]
theorem HC_fill (s : St) (bl : List UInt8) (f n : Int) (h : bl.length = 64) : (HC s bl f n)[72]? = some (.int .i64 f) := by
  simp only [HC, St.list, List.getElem?_toArray, List.map_cons, List.map_nil]
  rw [List.getElem?_append_right (by simp; omega)]
  simp [h]
theorem HC_len (s : St) (bl : List UInt8) (f n : Int) (h : bl.length = 64) : (HC s bl f n)[73]? = some (.int .u64 n) := by
  simp only [HC, St.list, List.getElem?_toArray, List.map_cons, List.map_nil]
  rw [List.getElem?_append_right (by simp; omega)]
  simp [h]
theorem HC_word (s : St) (bl : List UInt8) (f n : Int) (j : Nat) (hj : j < 8) : (HC s bl f n)[j]? = some (W (s.list.getD j 0)) := by
  simp only [HC, List.getElem?_toArray]
  rw [List.append_assoc, List.getElem?_append_left (by simp [St.list]; omega)]
  simp [List.getD, St.list]
  have : j = 0 ∨ j = 1 ∨ j = 2 ∨ j = 3 ∨ j = 4 ∨ j = 5 ∨ j = 6 ∨ j = 7 := by omega
  rcases this with rfl | rfl | rfl | rfl | rfl | rfl | rfl | rfl <;> rfl
def bytes (bl : List UInt8) (j : Nat) : UInt8 := bl.getD j 0
/-- The table of the rounds lies in block 0. -/
def Kt (w : World) : Prop := 0 < w.heap.size ∧ ∀ i, i < 64 → w.cell? ⟨0, i, none⟩ = some (W (kt.getD i 0))
theorem Kt.ex {g : Nat} {w w' : World} (h : Kt w) (he : Ex g w w') (hg : g ≠ 0) : Kt w' :=
  ⟨Nat.lt_of_lt_of_le h.1 he.size, fun i hi => (World.cell?_of_block (w := w) (he.block 0 h.1 (Ne.symm hg))).trans (h.2 i hi)⟩
end Go.Proofs.YtcbfnbmkogeehaaDoor
