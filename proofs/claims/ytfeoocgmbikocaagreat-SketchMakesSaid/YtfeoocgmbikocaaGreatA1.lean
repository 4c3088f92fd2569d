/- Rows of darts, and the calls that only look at one. -/
import Derived.Test.YtfeoocgmbikocaaGreatA0
namespace Go.Proofs.YtfeoocgmbikocaaGreat
open Go.RowKit

/-- A word of 32 bits as a value. -/
def V (x : UInt32) : Value := .int .u32 (x.toNat : Int)
theorem V_def (x : UInt32) : V x = .int .u32 (x.toNat : Int) := rfl
theorem run_eql (t : TypeId) (x y : UInt32) (w : World) : (binOp .eql t (V x) (V y)).run Tryz.prog w = .ok (.bool (x == y)) w := by
  have h : (binOp .eql t (V x) (V y)).run Tryz.prog w = .ok (.bool ((x.toNat : Int) == (y.toNat : Int))) w := rfl
  rw [h]
  congr 2
  rw [Bool.eq_iff_iff]
  simp [← UInt32.toNat_inj]
  omega
theorem run_neq (t : TypeId) (x y : UInt32) (w : World) : (binOp .neq t (V x) (V y)).run Tryz.prog w = .ok (.bool (x != y)) w := by
  have h : (binOp .neq t (V x) (V y)).run Tryz.prog w = .ok (.bool ((x.toNat : Int) != (y.toNat : Int))) w := rfl
  rw [h]
  congr 2
  rw [Bool.eq_iff_iff]
  simp [← UInt32.toNat_inj]
  omega
theorem run_guard (p : BinOp) (t : TypeId) (o1 o2 : Operand) (x y : UInt32) (w : World) : (eqGuard p t o1 o2 (V x) (V y)).run Tryz.prog w = .ok () w := by
  cases p <;> rfl
theorem run_lss (t : TypeId) (x y : UInt32) (w : World) : (binOp .lss t (V x) (V y)).run Tryz.prog w = .ok (.bool (decide (x < y))) w := by
  have h : (binOp .lss t (V x) (V y)).run Tryz.prog w = .ok (.bool (decide ((x.toNat : Int) < (y.toNat : Int)))) w := rfl
  rw [h]
  congr 2
  rw [Bool.eq_iff_iff]
  simp [UInt32.lt_iff_toNat_lt]
/-- The lesser one. -/
def mn (x y : UInt32) : UInt32 := if y < x then y else x
theorem run_min (ts : Array TypeId) (t : TypeId) (x y : UInt32) (w : World) : (Builtin.min_ ts t #[V x, V y]).run Tryz.prog w = .ok (V (mn x y)) w := by
  have h : (Builtin.min_ ts t #[V x, V y]).run Tryz.prog w = .ok (.int .u32 (if (y.toNat : Int) < (x.toNat : Int) then (y.toNat : Int) else (x.toNat : Int))) w := rfl
  rw [h]
  unfold mn
  by_cases c : y < x
  · have : (y.toNat : Int) < (x.toNat : Int) := by have := UInt32.lt_iff_toNat_lt.1 c; omega
    rw [if_pos c, if_pos this]; rfl
  · have : ¬ (y.toNat : Int) < (x.toNat : Int) := fun h => c (UInt32.lt_iff_toNat_lt.2 (by omega))
    rw [if_neg c, if_neg this]; rfl

/-- What a row reads. -/
structure Rd (w : World) (A : Option Addr) (l : List UInt32) : Prop where
  len : l.length ≤ 1000000
  place : 0 < l.length → ∃ b o, A = some ⟨b, o, none⟩ ∧ b < w.heap.size ∧ ∀ i (h : i < l.length), w.cell? ⟨b, o + i, none⟩ = some (V l[i])
theorem Rd.kept {w w' : World} {A : Option Addr} {B : Nat} {l : List UInt32} (h : Rd w A l) (hb : Below B w w') (hB : w.heap.size ≤ B) : Rd w' A l :=
  ⟨h.len, fun hn => by
    obtain ⟨b, o, ha, hlt, hc⟩ := h.place hn
    exact ⟨b, o, ha, Nat.lt_of_lt_of_le hlt hb.size, fun i hi => (hb.cell (Nat.lt_of_lt_of_le hlt hB)).trans (hc i hi)⟩⟩
theorem Rd.nil (w : World) (A : Option Addr) : Rd w A [] := ⟨by simp, fun h => absurd h (by simp)⟩
/-- The place of a row that has something. -/
theorem Rd.spot {w : World} {A : Option Addr} {l : List UInt32} (h : Rd w A l) (h0 : 0 < l.length) : ∃ b o, A = some ⟨b, o, none⟩ ∧ ∀ i (h : i < l.length), w.cell? ⟨b, o + i, none⟩ = some (V l[i]) := by
  obtain ⟨b, o, h1, _, h3⟩ := h.place h0
  exact ⟨b, o, h1, h3⟩

/-! The pure answers. -/
/-- The place of the first such one. -/
def fst (l : List UInt32) (x : UInt32) : Nat := l.findIdx (fun y => x == y)
def ix (l : List UInt32) (x : UInt32) : Int := if fst l x < l.length then (fst l x : Int) else -1
theorem fst_le (l : List UInt32) (x : UInt32) : fst l x ≤ l.length := List.findIdx_le_length
theorem fst_no (l : List UInt32) (x : UInt32) (k : Nat) (h : k < l.length) (hk : k < fst l x) : (x == l[k]) = false := by
  have := List.not_of_lt_findIdx (p := fun y => x == y) (xs := l) (i := k) hk
  simpa using this
theorem fst_yes (l : List UInt32) (x : UInt32) (h : fst l x < l.length) : (x == l[fst l x]) = true := List.findIdx_getElem (p := fun y => x == y) (xs := l) (w := h)
theorem ix_lt {l : List UInt32} {x : UInt32} (h : fst l x < l.length) : ix l x = (fst l x : Int) := if_pos h
theorem ix_ge {l : List UInt32} {x : UInt32} (h : ¬ fst l x < l.length) : ix l x = -1 := if_neg h
theorem ret_int {k : IntKind} {a b : Int} (h : a = b) : Ending.returned (.int k a) = .returned (.int k b) := by rw [h]
theorem beq_flip (x y : UInt32) : (x == y) = (y == x) := by
  rw [Bool.eq_iff_iff, beq_iff_eq, beq_iff_eq]
  exact eq_comm
theorem eqF {x y : UInt32} (h : (x == y) = false) (w : World) : (binOp .eql 55 (V x) (V y)).run Tryz.prog w = .ok (.bool false) w := h ▸ run_eql 55 x y w
theorem eqT {x y : UInt32} (h : (x == y) = true) (w : World) : (binOp .eql 55 (V x) (V y)).run Tryz.prog w = .ok (.bool true) w := h ▸ run_eql 55 x y w

attribute [local irreducible] V
/-- slices.Index. -/
theorem index_walk (w : World) (A : Option Addr) (c : Nat) (l : List UInt32) (x : UInt32) (h : Rd w A l) :
    Calls Tryz.prog 74 #[.slice A l.length c, V x] w fun e w' => e = .returned (.int .i64 (ix l x)) ∧ w = w' := by
  have H := Lib.hid h
  have hlen := h.len
  have HH := Lib.hid (fst_le l x)
  have hg := run_guard
  clear h
  go_enter Tryz.func74, Tryz.ntmps74
  go_wp2
  go_loop [8] (fun i => ∃ k : Nat, k ≤ fst l x ∧ i = .int .i64 k) (fun i => l.length - (intOf i).toNat)
  case atStart => exact ⟨0, Nat.zero_le _, rfl⟩
  case round =>
    obtain ⟨k, hk, rfl⟩ := hrel
    have hle := HH.out
    by_cases hlt : k < l.length
    · obtain ⟨b, o, rfl, hc⟩ := H.out.spot (by omega)
      have hcell := hc k hlt
      clear hc
      by_cases hkh : k < fst l x
      · have ht := eqF (fst_no l x k hlt hkh)
        generalize l[k] = y at *
        go_wp2
        go_round
        case rel => exact ⟨k + 1, by omega, by go_num⟩
        case measure => simp [intOf]; omega
      · obtain rfl : k = fst l x := by omega
        have ht := eqT (fst_yes l x hlt)
        have HX := Lib.hid (ix_lt hlt)
        go_wp2
        go_ret
        exact ⟨ret_int HX.out.symm, rfl⟩
    · have HX := Lib.hid (ix_ge (l := l) (x := x) (by omega))
      go_wp2
      go_ret
      exact ⟨ret_int HX.out.symm, rfl⟩
end Go.Proofs.YtfeoocgmbikocaaGreat
