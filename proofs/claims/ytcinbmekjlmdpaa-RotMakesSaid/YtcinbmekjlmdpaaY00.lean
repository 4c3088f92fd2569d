/- Whole known blocks, and what is kept beside one: laws over any program. -/
import Derived.Test.YtcinbmekjlmdpaaRows
import Derived.WalkKit
import Derived.WalkSpells
import Derived.WalkLawsBesides
import Derived.Lib.Hide
import Derived.BigQuiet
import Derived.Deep.QuietTactic
import Derived.StillTailTactics
import Derived.Laws.CopyOwn
import Derived.IntWalk

/-! Whole known blocks, and what is kept beside one: laws over any program. -/
namespace Go.Proofs.Ytcinbmekjlmdpaa
open Go.RowKit

/-- Block g is just these cells, none of them frozen. -/
def Blk (w : World) (g : Nat) (t : TypeId) (cs : Array Value) : Prop := w.heap[g]? = some (.cells cs t (0, 0))
theorem Blk.cell {w : World} {g : Nat} {t : TypeId} {cs : Array Value} (h : Blk w g t cs) (i : Nat) : w.cell? ⟨g, i, none⟩ = cs[i]? := cell_of_row w g i cs t (0, 0) h
theorem Blk.thaw {w : World} {g : Nat} {t : TypeId} {cs : Array Value} (h : Blk w g t cs) (i : Nat) : w.frozen? ⟨g, i, none⟩ = false := frozen_of_row w g i cs t h
theorem Blk.fresh (w : World) (t : TypeId) (cs : Array Value) : Blk (w.alloc (.cells cs t)) w.heap.size t cs := heap_alloc_new w _
theorem Blk.lt {w : World} {g : Nat} {t : TypeId} {cs : Array Value} (h : Blk w g t cs) : g < w.heap.size := by
  rcases Nat.lt_or_ge g w.heap.size with h1 | h1
  · exact h1
  · unfold Blk at h; rw [Array.getElem?_eq_none h1] at h; cases h
theorem Blk.more {w : World} {g : Nat} {t : TypeId} {cs : Array Value} (h : Blk w g t cs) (o : Obj) : Blk (w.alloc o) g t cs := by
  have h1 := h.lt
  exact (Below.heap_alloc w o g h1).trans h
theorem Blk.put {w : World} {g : Nat} {t : TypeId} {cs : Array Value} (h : Blk w g t cs) (i : Nat) (v : Value) : Blk (w.setCell ⟨g, i, none⟩ v) g t (cs.setIfInBounds i v) := by
  unfold Blk at h ⊢
  simp [World.setCell, Array.getElem?_modify, h]
theorem Blk.off {w : World} {g : Nat} {t : TypeId} {cs : Array Value} (h : Blk w g t cs) {a : Addr} (hne : g ≠ a.block) (v : Value) : Blk (w.setCell a v) g t cs :=
  (heap_setCell_other w a g v hne).trans h
theorem Blk.drew {w : World} {g : Nat} {t : TypeId} {cs : Array Value} (h : Blk w g t cs) : Blk w.drew g t cs := h
theorem Blk.drewN {w : World} {g : Nat} {t : TypeId} {cs : Array Value} (h : Blk w g t cs) (n : Nat) : Blk (w.drewN n) g t cs := h
theorem Blk.kept {w w' : World} {g B : Nat} {t : TypeId} {cs : Array Value} (h : Blk w g t cs) (hb : Below B w w') (hg : g < B) : Blk w' g t cs := (hb.block g hg).trans h

/-- A byte as a value. -/
def U (x : UInt8) : Value := .int .u8 (x.toNat : Int)
theorem U_def (x : UInt8) : U x = .int .u8 (x.toNat : Int) := rfl

theorem Blk.setRow {w : World} {g : Nat} {t : TypeId} {cs : Array Value} (h : Blk w g t cs) (cs' : Array Value) : Blk (w.setRow g cs') g t cs' := setRow_heap w g cs cs' t (0, 0) h
theorem Blk.setRow_off {w : World} {g k : Nat} {t : TypeId} {cs : Array Value} (h : Blk w g t cs) (cs' : Array Value) (hne : g ≠ k) : Blk (w.setRow k cs') g t cs := (setRow_other w k g cs' hne).trans h
theorem Below.setRow {B : Nat} {a w : World} (h : Below B a w) {g : Nat} (hg : B ≤ g) (cs : Array Value) : Below B a (w.setRow g cs) :=
  h.trans ⟨rfl, rfl, rfl, by simp, fun k hk => setRow_other w g k cs (by omega)⟩

/-! The words of a block, and the schedule. -/

/-- What is kept, but for block g: below its own size the world is as it was. -/
structure Ex (g : Nat) (w w' : World) : Prop where
  os : w'.os = w.os
  tape : w'.tape = w.tape
  output : w'.output = w.output
  size : w.heap.size ≤ w'.heap.size
  block : ∀ k, k < w.heap.size → k ≠ g → w'.heap[k]? = w.heap[k]?
theorem Ex.refl (g : Nat) (w : World) : Ex g w w := ⟨rfl, rfl, rfl, Nat.le_refl _, fun _ _ _ => rfl⟩
theorem Ex.trans {g : Nat} {a b c : World} (h : Ex g a b) (k : Ex g b c) : Ex g a c :=
  ⟨k.os.trans h.os, k.tape.trans h.tape, k.output.trans h.output, Nat.le_trans h.size k.size, fun i hi hne => (k.block i (Nat.lt_of_lt_of_le hi h.size) hne).trans (h.block i hi hne)⟩
theorem Ex.of_below {g : Nat} {w w' : World} (h : Below w.heap.size w w') : Ex g w w' := ⟨h.os, h.tape, h.output, h.size, fun k hk _ => h.block k hk⟩
theorem Ex.setCell (g i : Nat) (w : World) (v : Value) : Ex g w (w.setCell ⟨g, i, none⟩ v) :=
  ⟨rfl, rfl, rfl, by simp [World.setCell], fun k _ hne => heap_setCell_other w _ k v hne⟩
theorem Ex.setRow (g : Nat) (w : World) (cs : Array Value) : Ex g w (w.setRow g cs) :=
  ⟨rfl, rfl, rfl, by simp, fun k _ hne => setRow_other w g k cs hne⟩
theorem Ex.drew (g : Nat) (w : World) : Ex g w w.drew := ⟨rfl, rfl, rfl, Nat.le_refl _, fun _ _ _ => rfl⟩
theorem Ex.alloc (g : Nat) (w : World) (o : Obj) : Ex g w (w.alloc o) := Ex.of_below ((Below.refl _ w).alloc (Nat.le_refl _) o)
theorem Ex.blk {g k : Nat} {w w' : World} {t : TypeId} {cs : Array Value} (h : Ex g w w') (hb : Blk w k t cs) (hne : k ≠ g) : Blk w' k t cs := (h.block k hb.lt hne).trans hb
/-- Of a block that is the call's own nothing is said outside. -/
theorem Ex.below {g B : Nat} {w w' w0 : World} (h0 : Below B w0 w) (h : Ex g w w') (hB : B ≤ g) (hw : B ≤ w.heap.size) : Below B w0 w' :=
  h0.trans ⟨h.os, h.tape, h.output, h.size, fun k hk => h.block k (by omega) (by omega)⟩

/-- A row stored into a block that was just laid for it. -/
theorem wpList_store_fresh {P : Program} {ops : Array Oper} {rest : List Oper} {o : Oper} {a : Act} {w0 : World} {old : Array Value} {t : TypeId} {Q : Exit → Act → World → Prop} (hgd : o.guard = none) (ty : TypeId) (x y : Operand) (ho : o.op = .store ty x y)
    (cells : Array Value) (hx : a.eval x = .pointer (some ⟨w0.heap.size, 0, none⟩)) (hy : a.eval y = .agg cells)
    (hi : (P.info? ty).map (·.size) = some cells.size) (hold : old.size = cells.size) (h1 : cells.all (·.oneCell') = true)
    (h : ∀ w2, Below w0.heap.size w0 w2 → w2.heap.size = w0.heap.size + 1 → Blk w2 w0.heap.size t cells → wpList P ops Q rest (a.put o.dst undef) w2) :
    wpList P ops Q (o :: rest) a (w0.alloc (.cells old t)) :=
  wpList_store_row hgd ty x y ho w0.heap.size cells hx hy t old (heap_alloc_new w0 _) hi hold h1
    (h _ (Below.setRow ((Below.refl _ w0).alloc (Nat.le_refl _) _) (Nat.le_refl _) _) (by simp) ((Blk.fresh w0 t old).setRow _))


end Go.Proofs.Ytcinbmekjlmdpaa

/-! Rows of darts, and the calls that only look at one. -/
namespace Go.Proofs.Ytcinbmekjlmdpaa
open Go.RowKit

/-- A word of 32 bits as a value. -/
def V (x : UInt32) : Value := .int .u32 (x.toNat : Int)
theorem V_def (x : UInt32) : V x = .int .u32 (x.toNat : Int) := rfl
theorem run_eql (t : TypeId) (x y : UInt32) (w : World) : (binOp .eql t (V x) (V y)).run Try.prog w = .ok (.bool (x == y)) w := by
  have h : (binOp .eql t (V x) (V y)).run Try.prog w = .ok (.bool ((x.toNat : Int) == (y.toNat : Int))) w := rfl
  rw [h]
  congr 2
  rw [Bool.eq_iff_iff]
  simp [← UInt32.toNat_inj]
  omega
theorem run_neq (t : TypeId) (x y : UInt32) (w : World) : (binOp .neq t (V x) (V y)).run Try.prog w = .ok (.bool (x != y)) w := by
  have h : (binOp .neq t (V x) (V y)).run Try.prog w = .ok (.bool ((x.toNat : Int) != (y.toNat : Int))) w := rfl
  rw [h]
  congr 2
  rw [Bool.eq_iff_iff]
  simp [← UInt32.toNat_inj]
  omega
theorem run_guard (p : BinOp) (t : TypeId) (o1 o2 : Operand) (x y : UInt32) (w : World) : (eqGuard p t o1 o2 (V x) (V y)).run Try.prog w = .ok () w := by
  cases p <;> rfl
theorem run_lss (t : TypeId) (x y : UInt32) (w : World) : (binOp .lss t (V x) (V y)).run Try.prog w = .ok (.bool (decide (x < y))) w := by
  have h : (binOp .lss t (V x) (V y)).run Try.prog w = .ok (.bool (decide ((x.toNat : Int) < (y.toNat : Int)))) w := rfl
  rw [h]
  congr 2
  rw [Bool.eq_iff_iff]
  simp [UInt32.lt_iff_toNat_lt]
/-- The lesser one. -/
def mn (x y : UInt32) : UInt32 := if y < x then y else x
theorem run_min (ts : Array TypeId) (t : TypeId) (x y : UInt32) (w : World) : (Builtin.min_ ts t #[V x, V y]).run Try.prog w = .ok (V (mn x y)) w := by
  have h : (Builtin.min_ ts t #[V x, V y]).run Try.prog w = .ok (.int .u32 (if (y.toNat : Int) < (x.toNat : Int) then (y.toNat : Int) else (x.toNat : Int))) w := rfl
  rw [h]
  unfold mn
  by_cases c : y < x
  · have : (y.toNat : Int) < (x.toNat : Int) := by have := UInt32.lt_iff_toNat_lt.1 c; omega
    rw [if_pos c, if_pos this]; rfl
  · have : ¬ (y.toNat : Int) < (x.toNat : Int) := fun h => c (UInt32.lt_iff_toNat_lt.2 (by omega))
    rw [if_neg c, if_neg this]; rfl

/-- What a row reads. -/
structure Rd (w : World) (A : Option Addr) (l : List UInt32) : Prop where
  len : l.length ≤ 1000000
  place : 0 < l.length → ∃ b o, A = some ⟨b, o, none⟩ ∧ b < w.heap.size ∧ ∀ i (h : i < l.length), w.cell? ⟨b, o + i, none⟩ = some (V l[i])
theorem Rd.kept {w w' : World} {A : Option Addr} {B : Nat} {l : List UInt32} (h : Rd w A l) (hb : Below B w w') (hB : w.heap.size ≤ B) : Rd w' A l :=
  ⟨h.len, fun hn => by
    obtain ⟨b, o, ha, hlt, hc⟩ := h.place hn
    exact ⟨b, o, ha, Nat.lt_of_lt_of_le hlt hb.size, fun i hi => (hb.cell (Nat.lt_of_lt_of_le hlt hB)).trans (hc i hi)⟩⟩
theorem Rd.nil (w : World) (A : Option Addr) : Rd w A [] := ⟨by simp, fun h => absurd h (by simp)⟩
/-- The place of a row that has something. -/
theorem Rd.spot {w : World} {A : Option Addr} {l : List UInt32} (h : Rd w A l) (h0 : 0 < l.length) : ∃ b o, A = some ⟨b, o, none⟩ ∧ ∀ i (h : i < l.length), w.cell? ⟨b, o + i, none⟩ = some (V l[i]) := by
  obtain ⟨b, o, h1, _, h3⟩ := h.place h0
  exact ⟨b, o, h1, h3⟩

/-! The pure answers. -/
/-- The place of the first such one. -/
def fst (l : List UInt32) (x : UInt32) : Nat := l.findIdx (fun y => x == y)
def ix (l : List UInt32) (x : UInt32) : Int := if fst l x < l.length then (fst l x : Int) else -1
theorem fst_le (l : List UInt32) (x : UInt32) : fst l x ≤ l.length := List.findIdx_le_length
theorem fst_no (l : List UInt32) (x : UInt32) (k : Nat) (h : k < l.length) (hk : k < fst l x) : (x == l[k]) = false := by
  have := List.not_of_lt_findIdx (p := fun y => x == y) (xs := l) (i := k) hk
  simpa using this
theorem fst_yes (l : List UInt32) (x : UInt32) (h : fst l x < l.length) : (x == l[fst l x]) = true := List.findIdx_getElem (p := fun y => x == y) (xs := l) (w := h)
theorem ix_lt {l : List UInt32} {x : UInt32} (h : fst l x < l.length) : ix l x = (fst l x : Int) := if_pos h
theorem ix_ge {l : List UInt32} {x : UInt32} (h : ¬ fst l x < l.length) : ix l x = -1 := if_neg h
theorem ret_int {k : IntKind} {a b : Int} (h : a = b) : Ending.returned (.int k a) = .returned (.int k b) := by rw [h]
theorem beq_flip (x y : UInt32) : (x == y) = (y == x) := by
  rw [Bool.eq_iff_iff, beq_iff_eq, beq_iff_eq]
  exact eq_comm
theorem eqF {x y : UInt32} (h : (x == y) = false) (w : World) : (binOp .eql 30 (V x) (V y)).run Try.prog w = .ok (.bool false) w := h ▸ run_eql 30 x y w
theorem eqT {x y : UInt32} (h : (x == y) = true) (w : World) : (binOp .eql 30 (V x) (V y)).run Try.prog w = .ok (.bool true) w := h ▸ run_eql 30 x y w

attribute [local irreducible] V
/-- slices.Index. -/
theorem index_walk (w : World) (A : Option Addr) (c : Nat) (l : List UInt32) (x : UInt32) (h : Rd w A l) :
    Calls Try.prog 26 #[.slice A l.length c, V x] w fun e w' => e = .returned (.int .i64 (ix l x)) ∧ w = w' := by
  have H := Lib.hid h
  have hlen := h.len
  have HH := Lib.hid (fst_le l x)
  have hg := run_guard
  clear h
  go_enter Try.func26, Try.ntmps26
  go_wp2
  go_loop [8] (fun i => ∃ k : Nat, k ≤ fst l x ∧ i = .int .i64 k) (fun i => l.length - (intOf i).toNat)
  case atStart => exact ⟨0, Nat.zero_le _, rfl⟩
  case round =>
    obtain ⟨k, hk, rfl⟩ := hrel
    have hle := HH.out
    by_cases hlt : k < l.length
    · obtain ⟨b, o, rfl, hc⟩ := H.out.spot (by omega)
      have hcell := hc k hlt
      clear hc
      by_cases hkh : k < fst l x
      · have ht := eqF (fst_no l x k hlt hkh)
        generalize l[k] = y at *
        go_wp2
        go_round
        case rel => exact ⟨k + 1, by omega, by go_num⟩
        case measure => simp [intOf]; omega
      · obtain rfl : k = fst l x := by omega
        have ht := eqT (fst_yes l x hlt)
        have HX := Lib.hid (ix_lt hlt)
        go_wp2
        go_ret
        exact ⟨ret_int HX.out.symm, rfl⟩
    · have HX := Lib.hid (ix_ge (l := l) (x := x) (by omega))
      go_wp2
      go_ret
      exact ⟨ret_int HX.out.symm, rfl⟩
end Go.Proofs.Ytcinbmekjlmdpaa

/-! Min, Equal, Same, Next and Prev. -/
namespace Go.Proofs.Ytcinbmekjlmdpaa
open Go.RowKit

/-- The least one. -/
def mnl : List UInt32 → UInt32
  | [] => 0
  | x :: r => r.foldl mn x
theorem mnl_one (l : List UInt32) (h : 0 < l.length) : mnl (l.take 1) = l[0] := by
  cases l with
  | nil => simp at h
  | cons x r => rfl
theorem mnl_succ (l : List UInt32) (k : Nat) (h0 : 0 < k) (h : k < l.length) : mnl (l.take (k + 1)) = mn (mnl (l.take k)) l[k] := by
  cases l with
  | nil => simp at h
  | cons x r =>
    cases k with
    | zero => omega
    | succ k =>
      have hk : k < r.length := by simpa using h
      simp only [List.take_succ_cons, mnl, List.getElem_cons_succ]
      rw [List.take_succ_eq_append_getElem hk, List.foldl_append]
      rfl
attribute [local irreducible] V
/-- slices.Min. -/
theorem min_walk (w : World) (A : Option Addr) (c : Nat) (l : List UInt32) (h : Rd w A l) (h0 : 0 < l.length) :
    Calls Try.prog 27 #[.slice A l.length c] w fun e w' => e = .returned (V (mnl l)) ∧ w = w' := by
  obtain ⟨b, o, rfl, hc⟩ := h.spot h0
  have hcell := hc 0 h0
  have hlen := h.len
  have H := Lib.hid hc
  have HO := Lib.hid (mnl_one l h0)
  have hm := run_min
  rw [Nat.add_zero] at hcell
  rw [← HO.out] at hcell
  clear h hc
  go_enter Try.func27, Try.ntmps27
  go_wp2
  go_loop [3, 4] (fun m i => ∃ k : Nat, 0 < k ∧ k ≤ l.length ∧ i = .int .i64 k ∧ m = V (mnl (l.take k))) (fun _ i => l.length - (intOf i).toNat)
  case atStart => exact ⟨1, by omega, by omega, rfl, rfl⟩
  case round =>
    obtain ⟨k, hk0, hk, rfl, rfl⟩ := hrel
    by_cases hlt : k < l.length
    · have hcell2 := H.out k hlt
      have HS := Lib.hid (mnl_succ l k hk0 hlt)
      clear hcell
      generalize l[k] = y at *
      generalize mnl (l.take k) = z at *
      go_wp2
      go_round
      case rel => exact ⟨k + 1, by omega, by omega, by go_num, by rw [HS.out]⟩
      case measure => simp [intOf]; omega
    · obtain rfl : k = l.length := by omega
      rw [List.take_length]
      clear hcell
      go_wp2
      go_ret
      exact ⟨rfl, rfl⟩
theorem neT {x y : UInt32} (h : ¬ x = y) (w : World) : (binOp .neq 30 (V x) (V y)).run Try.prog w = .ok (.bool true) w := by
  rw [run_neq]; simp [h]
theorem neF {x y : UInt32} (h : x = y) (w : World) : (binOp .neq 30 (V x) (V y)).run Try.prog w = .ok (.bool false) w := by
  rw [run_neq]; simp [h]
theorem same_at {l m : List UInt32} {k : Nat} (h : l.take k = m.take k) (hl : k < l.length) (hm : k < m.length) (e : l[k] = m[k]) : l.take (k + 1) = m.take (k + 1) := by
  rw [List.take_succ_eq_append_getElem hl, List.take_succ_eq_append_getElem hm, h, e]
set_option maxHeartbeats 1000000 in
/-- slices.Equal. -/
theorem equal_walk (w : World) (A B : Option Addr) (c d : Nat) (l m : List UInt32) (h : Rd w A l) (h2 : Rd w B m) :
    Calls Try.prog 40 #[.slice A l.length c, .slice B m.length d] w fun e w' => e = .returned (.bool (decide (l = m))) ∧ Below w.heap.size w w' := by
  have hl := h.len
  have hm := h2.len
  by_cases hlm : l.length = m.length
  · have HLM := Lib.hid hlm
    have H := Lib.hid h
    have H2 := Lib.hid h2
    have hg := run_guard
    have hle : m.length ≤ l.length := by omega
    rw [hlm]
    clear h h2 hlm
    go_enter Try.func40, Try.ntmps40
    go_wp2
    go_loopw [13] (fun i wr => ∃ k n : Nat, k ≤ m.length ∧ i = .int .i64 k ∧ l.take k = m.take k ∧ wr = w.drewN n) (fun i _ => m.length - (intOf i).toNat)
    case atStart => exact ⟨0, 0, by omega, rfl, by simp, rfl⟩
    case round =>
      obtain ⟨k, n, hk, rfl, heq, rfl⟩ := hrel
      have HE := Lib.hid heq
      clear heq
      by_cases hlt : k < m.length
      · obtain ⟨b1, o1, rfl, hc1⟩ := H.out.spot (by omega)
        obtain ⟨b2, o2, rfl, hc2⟩ := H2.out.spot (by omega)
        have ca := hc1 k (by omega)
        have cb := hc2 k (by omega)
        clear hc1 hc2
        by_cases hxy : l[k] = m[k]
        · have HS := Lib.hid (same_at HE.out (by omega) hlt hxy)
          have hn := neF hxy
          clear hxy
          generalize l[k] = x at *
          generalize m[k] = y at *
          go_wp2
          go_quiet (fail)
          go_wp2
          go_roundw
          case rel => exact ⟨k + 1, _, by omega, by go_num, HS.out, rfl⟩
          case measure => simp [intOf]; omega
        · have HN : Hid (decide (l = m) = false) := by
            refine decide_eq_false fun e => hxy ?_
            subst e; rfl
          have hn := neT hxy
          clear hxy
          generalize l[k] = x at *
          generalize m[k] = y at *
          go_wp2
          go_quiet (fail)
          go_wp2
          go_ret
          exact ⟨by rw [HN.out]; rfl, ⟨rfl, rfl, rfl, Nat.le_refl _, fun _ _ => rfl⟩⟩
      · have HN : Hid (decide (l = m) = true) := by
          refine decide_eq_true ?_
          have := HE.out
          rwa [show k = m.length by omega, List.take_length, ← HLM.out, List.take_length] at this
        go_wp2
        go_ret
        exact ⟨by rw [HN.out]; rfl, ⟨rfl, rfl, rfl, Nat.le_refl _, fun _ _ => rfl⟩⟩
  · have ht : ((l.length : Int) != (m.length : Int)) = true := by simp; omega
    have HN : Hid (decide (l = m) = false) := decide_eq_false fun e => hlm (by rw [e])
    go_enter Try.func40, Try.ntmps40
    go_wp2
    go_ret
    exact ⟨by rw [HN.out]; rfl, Below.refl _ _⟩
set_option maxHeartbeats 1000000 in
/-- The document's Same. -/
theorem same_walk (w : World) (A B : Option Addr) (c d : Nat) (l m : List UInt32) (h : Rd w A l) (h2 : Rd w B m) :
    Calls Try.prog 8 #[.slice A l.length c, .slice B m.length d] w fun e w' => e = .returned (.bool (decide (l = m))) ∧ Below w.heap.size w w' := by
  have hl := h.len
  have hm := h2.len
  by_cases hlm : l.length = m.length
  · have HLM := Lib.hid hlm
    have H := Lib.hid h
    have H2 := Lib.hid h2
    have hg := run_guard
    have hle : m.length ≤ l.length := by omega
    rw [hlm]
    clear h h2 hlm
    go_enter Try.func8, Try.ntmps8
    go_wp2
    go_loopw [13] (fun i wr => ∃ k n : Nat, k ≤ m.length ∧ i = .int .i64 k ∧ l.take k = m.take k ∧ wr = w.drewN n) (fun i _ => m.length - (intOf i).toNat)
    case atStart => exact ⟨0, 0, by omega, rfl, by simp, rfl⟩
    case round =>
      obtain ⟨k, n, hk, rfl, heq, rfl⟩ := hrel
      have HE := Lib.hid heq
      clear heq
      by_cases hlt : k < m.length
      · obtain ⟨b1, o1, rfl, hc1⟩ := H.out.spot (by omega)
        obtain ⟨b2, o2, rfl, hc2⟩ := H2.out.spot (by omega)
        have ca := hc1 k (by omega)
        have cb := hc2 k (by omega)
        clear hc1 hc2
        by_cases hxy : l[k] = m[k]
        · have HS := Lib.hid (same_at HE.out (by omega) hlt hxy)
          have hn := neF hxy
          clear hxy
          generalize l[k] = x at *
          generalize m[k] = y at *
          go_wp2
          go_quiet (fail)
          go_wp2
          go_roundw
          case rel => exact ⟨k + 1, _, by omega, by go_num, HS.out, rfl⟩
          case measure => simp [intOf]; omega
        · have HN : Hid (decide (l = m) = false) := by
            refine decide_eq_false fun e => hxy ?_
            subst e; rfl
          have hn := neT hxy
          clear hxy
          generalize l[k] = x at *
          generalize m[k] = y at *
          go_wp2
          go_quiet (fail)
          go_wp2
          go_ret
          exact ⟨by rw [HN.out]; rfl, ⟨rfl, rfl, rfl, Nat.le_refl _, fun _ _ => rfl⟩⟩
      · have HN : Hid (decide (l = m) = true) := by
          refine decide_eq_true ?_
          have := HE.out
          rwa [show k = m.length by omega, List.take_length, ← HLM.out, List.take_length] at this
        go_wp2
        go_ret
        exact ⟨by rw [HN.out]; rfl, ⟨rfl, rfl, rfl, Nat.le_refl _, fun _ _ => rfl⟩⟩
  · have ht : ((l.length : Int) != (m.length : Int)) = true := by simp; omega
    have HN : Hid (decide (l = m) = false) := decide_eq_false fun e => hlm (by rw [e])
    go_enter Try.func8, Try.ntmps8
    go_wp2
    go_ret
    exact ⟨by rw [HN.out]; rfl, Below.refl _ _⟩
/-! Next and Prev. -/
def atp (l : List UInt32) (d : UInt32) (p : Nat) : UInt32 := if fst l d < l.length then l.getD ((fst l d + p) % l.length) 0 else 0
def nxt (l : List UInt32) (d : UInt32) : UInt32 := atp l d 1
def prv (l : List UInt32) (d : UInt32) : UInt32 := atp l d (l.length - 1)
theorem atp_lt {l : List UInt32} {d : UInt32} {p : Nat} (h : fst l d < l.length) : atp l d p = l.getD ((fst l d + p) % l.length) 0 := if_pos h
theorem atp_ge {l : List UInt32} {d : UInt32} {p : Nat} (h : ¬ fst l d < l.length) : atp l d p = 0 := if_neg h
theorem nxt_lt {l : List UInt32} {d : UInt32} (h : fst l d < l.length) : nxt l d = l.getD ((fst l d + 1) % l.length) 0 := if_pos h
theorem nxt_ge {l : List UInt32} {d : UInt32} (h : ¬ fst l d < l.length) : nxt l d = 0 := if_neg h
theorem prv_lt {l : List UInt32} {d : UInt32} (h : fst l d < l.length) : prv l d = l.getD ((fst l d + (l.length - 1)) % l.length) 0 := if_pos h
theorem prv_ge {l : List UInt32} {d : UInt32} (h : ¬ fst l d < l.length) : prv l d = 0 := if_neg h
theorem ret_V {x y : UInt32} (h : x = y) : Ending.returned (V x) = .returned (V y) := by rw [h]
theorem V0 : Value.int .u32 0 = V 0 := by unfold V; rfl
theorem getD_at {l : List UInt32} {i : Nat} (h : i < l.length) : l[i] = l.getD i 0 := by rw [List.getD_eq_getElem?_getD, List.getElem?_eq_getElem h, Option.getD_some]
theorem rem_nat (a n : Nat) : ((a : Int)).tmod (n : Int) = ((a % n : Nat) : Int) := by
  rw [Int.tmod_eq_emod_of_nonneg (by omega)]; simp
end Go.Proofs.Ytcinbmekjlmdpaa
