/- What the document's digest is made of. -/
import Derived.Test.YtcbfnbmkogeehaaDoorS2
import Derived.Test.YtcbfnbmkogeehaaDoorR1
namespace Go.Proofs.YtcbfnbmkogeehaaDoor
open Go.RowKit

theorem zero25 (w : World) : (zeroValue 25).run Tryd.prog w = .ok (.agg (Array.replicate 32 (.int .u8 0))) w := by kernel_rfl
def rowLen : Value → Nat | .slice _ n _ => n | _ => 0
theorem run_shr64 (n s : Nat) (hs : s < 64) (w : World) : (binOp .shr 27 (.int .u64 (n : Int)) (.int .i64 (s : Int))).run Tryd.prog w = .ok (.int .u64 ((n / 2 ^ s : Nat) : Int)) w := by
  have h0 : ¬ ((s : Int) < 0) := by omega
  have hm : min (s : Int).toNat IntKind.u64.bits = s := by show min (s : Int).toNat 64 = s; omega
  show (Op.shift .shr .u64 (n : Int) .i64 (s : Int)).run Tryd.prog w = _
  unfold Op.shift
  rw [if_neg h0]
  simp only [hm]
  show Result.ok (Value.int .u64 ((n : Int).fdiv (2 ^ s))) w = _
  have e : (n : Int).fdiv (2 ^ s) = ((n / 2 ^ s : Nat) : Int) := by
    rw [Int.fdiv_eq_ediv_of_nonneg _ (by exact Int.le_of_lt (Int.pow_pos (by decide)))]; simp
  rw [e]
theorem U_of (n : Nat) : Value.int .u8 ((n : Int) % 256) = U (UInt8.ofNat (n % 256)) := by
  rw [U_def, show (UInt8.ofNat (n % 256)).toNat = n % 256 % 256 from rfl]
  congr 1
  omega
theorem lenB_nat (n i : Nat) (hn : n < 1000000) : lenB (IntKind.u64.wrap (n : Int)) i = UInt8.ofNat (n * 8 / 2 ^ (56 - 8 * i) % 256) := by
  unfold lenB
  have e : IntKind.u64.wrap (IntKind.u64.wrap (n : Int) * 8) = ((n * 8 : Nat) : Int) := by rw [IntKind.wrap_u64, IntKind.wrap_u64]; omega
  rw [e, show ((n * 8 : Nat) : Int) / 2 ^ (56 - 8 * i) % 256 = ((n * 8 / 2 ^ (56 - 8 * i) % 256 : Nat) : Int) by simp]
  rfl
theorem make53 (W0 : World) : (Instr.makeSlice 53 (.int .i64 64) (.int .i64 64)).run Tryd.prog W0 = .ok (.slice (some ⟨W0.heap.size, 0, none⟩) 64 64) (W0.alloc (.cells (Array.replicate 64 (.int .u32 0)) 52)) := by
  have h1 : (Tryd.prog.info? 52).map (fun i => (i.size, i.bytes, i.zero)) = some (1, 4, some (.int .u32 0)) := by kernel_rfl
  cases hq : Tryd.prog.info? 52 with
  | none => rw [hq] at h1; cases h1
  | some i =>
    rw [hq] at h1
    simp only [Option.map_some, Option.some.injEq, Prod.mk.injEq] at h1
    obtain ⟨hs, hbt, hz2⟩ := h1
    have := run_makeSlice W0 53 52 i (.int .u32 0) Tryd.underlying53 hq hz2 .i64 .i64 64 64 (by omega) (by omega) (by rw [hs]; decide) (by rw [hbt]; decide) (by omega)
    rw [this, hs]
    show Result.ok (Value.slice (some ⟨W0.heap.size, 0, none⟩) 64 64) (W0.alloc (Obj.cells (madeCells #[Value.int .u32 0] 64) 52)) = _
    rw [show madeCells #[Value.int .u32 0] 64 = Array.replicate 64 (Value.int .u32 0) by kernel_rfl]
theorem run_subF (x : UInt32) (w : World) : (binOp .sub 52 (.int .u32 4294967295) (W x)).run Tryd.prog w = .ok (W (4294967295 - x)) w := by
  show Result.ok (Value.int .u32 (IntKind.u32.wrap (4294967295 - (x.toNat : Int)))) w = _
  have h := x.toNat_lt
  rw [W_def, UInt32.toNat_sub, IntKind.wrap_u32]
  congr 2
  show _ = (((4294967296 - x.toNat + 4294967295) % 4294967296 : Nat) : Int)
  omega
theorem add_getD (s r : St) (j : Nat) (hj : j < 8) : (s.add r).list.getD j 0 = s.list.getD j 0 + r.list.getD j 0 := by
  match j, hj with
  | 0, _ => rfl
  | 1, _ => rfl
  | 2, _ => rfl
  | 3, _ => rfl
  | 4, _ => rfl
  | 5, _ => rfl
  | 6, _ => rfl
  | 7, _ => rfl
/-- The words of which the first j are of one state, the others of another one. -/
def mixW (s t : St) (j : Nat) : List UInt32 := (List.range 8).map fun q => if q < j then t.list.getD q 0 else s.list.getD q 0
theorem mixW_zero (s t : St) : mixW s t 0 = s.list := rfl
theorem mixW_all (s t : St) : mixW s t 8 = t.list := rfl
theorem mixW_get (s t : St) (j q : Nat) (hq : q < 8) : (mixW s t j)[q]? = some (if q < j then t.list.getD q 0 else s.list.getD q 0) := by
  unfold mixW
  rw [List.getElem?_map, List.getElem?_range hq]
  rfl
theorem mixW_length (s t : St) (j : Nat) : (mixW s t j).length = 8 := by unfold mixW; rw [List.length_map, List.length_range]
theorem mixW_set (s t : St) (j : Nat) (hj : j < 8) : (mixW s t j).set j (t.list.getD j 0) = mixW s t (j + 1) := by
  apply List.ext_getElem?
  intro q
  by_cases hq : q < 8
  · by_cases e : q = j
    · subst e
      rw [List.getElem?_set_self (by rw [mixW_length]; exact hq), mixW_get _ _ _ _ hq, if_pos (by omega)]
    · rw [List.getElem?_set_ne (fun h => e h.symm), mixW_get _ _ _ _ hq, mixW_get _ _ _ _ hq]
      by_cases h : q < j
      · rw [if_pos h, if_pos (by omega)]
      · rw [if_neg h, if_neg (by omega)]
  · rw [List.getElem?_eq_none (by rw [List.length_set, mixW_length]; omega), List.getElem?_eq_none (by rw [mixW_length]; omega)]
theorem words_set (l : List UInt32) (i : Nat) (x : UInt32) : (l.map W).toArray.setIfInBounds i (W x) = ((l.set i x).map W).toArray := by
  rw [List.setIfInBounds_toArray, List.map_set]
/-- Some draws behind. -/
def DR (x y : World) : Prop := ∃ N, y = x.drewN N
theorem DR.refl (x : World) : DR x x := ⟨0, rfl⟩
theorem DR.trans {x y z : World} (h : DR x y) (k : DR y z) : DR x z := by
  obtain ⟨N, rfl⟩ := h
  obtain ⟨M, rfl⟩ := k
  exact ⟨N + M, by simp [World.drewN, Nat.add_assoc]⟩
theorem DR.drew (x : World) : DR x x.drew := ⟨1, rfl⟩
theorem DR.cell {x y : World} (h : DR x y) (a : Addr) : y.cell? a = x.cell? a := by obtain ⟨N, rfl⟩ := h; rfl
theorem DR.ex {x y : World} (h : DR x y) (g : Nat) : Ex g x y := by obtain ⟨N, rfl⟩ := h; exact ⟨rfl, rfl, rfl, Nat.le_refl _, fun _ _ _ => rfl⟩
theorem DR.size {x y : World} (h : DR x y) : y.heap.size = x.heap.size := by obtain ⟨N, rfl⟩ := h; rfl
theorem Below.drewN0 {B : Nat} {a w : World} (h : Below B a w) (n : Nat) : Below B a (w.drewN n) := ⟨h.os, h.tape, h.output, h.size, h.block⟩
theorem DR.blk {x y : World} (h : DR x y) {k : Nat} {t : TypeId} {cs : Array Value} (hb : Blk x k t cs) : Blk y k t cs := by obtain ⟨N, rfl⟩ := h; exact hb
abbrev wA (w : World) : World := w.alloc (.cells (Array.replicate 32 (.int .u8 0)) 25)

end Go.Proofs.YtcbfnbmkogeehaaDoor
