import Derived.Test.YtcbfnbmkogeehaaDoorW4
import Derived.Deep.RegionLaw
namespace Go.Proofs.YtcbfnbmkogeehaaDoor
open Go.RowKit

/-! Laws for copy out of a string, and for clear, into part of a known block. -/
section
variable {P : Program}
def lay (cur : Array Value) (o : Nat) (vs : List Value) : Array Value := (cur.toList.take o ++ vs ++ cur.toList.drop (o + vs.length)).toArray
theorem run_copy_str (w : World) (dT sT ty elem : TypeId) (g o dLen dCap n : Nat) (s : ByteArray) (cur : Array Value) (t : TypeId) (hu : P.underlying dT = some (.slice elem)) (hi : ((P.info? elem).map (·.size)).isSome = true)
    (hb : Blk w g t cur) (hn : n = min s.size dLen) (hfit : o + dLen ≤ cur.size) :
    (Builtin.copy_ #[dT, sT] ty #[.slice (some ⟨g, o, none⟩) dLen dCap, .string s]).run P w = .ok (goInt n) (w.setRow g (lay cur o ((s.data.toList.take n).map U))) := by
  cases hq : P.info? elem with
  | none => simp [hq] at hi
  | some i =>
    have hmin : s.size.min dLen = n := hn.symm
    have hcells : List.take n (List.map (fun b : UInt8 => Value.int .u8 (b.toNat : Int)) s.data.toList) = (s.data.toList.take n).map U := by rw [List.map_take]; rfl
    have hlen : ((s.data.toList.take n).map U).length = n := by
      have : s.data.toList.length = s.size := by simp
      simp only [List.length_map, List.length_take, this]
      omega
    have hst := run_storeCells_at (P := P) g o t ((s.data.toList.take n).map U) 0 cur w hb (by rw [hlen]; omega) (fun v hv => by obtain ⟨x, _, rfl⟩ := List.mem_map.1 hv; rfl)
    simp only [Nat.add_zero] at hst
    rw [← hcells] at hst ⊢
    simp [Builtin.copy_, run_underlying hu, Builtin.lenOf, Builtin.firstCells, sizeOf, typeInfo, hq, hmin]
    rw [hst]
    simp [lay]

theorem step_copy_str {ops : Array Oper} {o : Oper} {a : Act} {w : World} {K : Act → World → Prop} {Q : Exit → Act → World → Prop} {E : Prop} (hgd : o.guard = none) (d s : Operand) (dT sT : TypeId)
    (ho : o.op = .call { callee := .builtin .copy, args := #[d, s], argTypes := #[dT, sT] }) (elem : TypeId) (hu : P.underlying dT = some (.slice elem)) (hi : ((P.info? elem).map (·.size)).isSome = true)
    (g off dLen dCap n : Nat) (x : ByteArray) (hd : a.eval d = .slice (some ⟨g, off, none⟩) dLen dCap) (hs : a.eval s = .string x)
    (cur : Array Value) (t : TypeId) (hb : Blk w g t cur) (hn : n = min x.size dLen) (hfit : off + dLen ≤ cur.size)
    (h : ∀ w', Blk w' g t (lay cur off ((x.data.toList.take n).map U)) → Ex g w w' → K (a.put o.dst (goInt n)) w') :
    if Region.wanted o (yielded ops a.tmps) = true then Oper.wp P o a w K Q else E := by
  have hw : Region.wanted o (yielded ops a.tmps) = true := by simp [Region.wanted, hgd]
  rw [if_pos hw]
  have hrun := run_copy_str (P := P) w dT sT o.type elem g off dLen dCap n x cur t hu hi hb hn hfit
  unfold Oper.wp
  simp only [execOp, ho, resolve, invoke, builtin, Sem.run_bind, Sem.run_pure, Result.andThen_ok, List.map_toArray, List.map_cons, List.map_nil, hd, hs, hrun]
  exact h _ (hb.setRow _) (Ex.setRow g w _)

theorem run_slice_arr_from (t elem : TypeId) (n lo : Nat) (a : Addr) (i : TypeInfo) (ht : P.underlying t = some (.array n elem)) (hi' : P.info? elem = some i) (hs : i.size = 1)
    (h3 : lo < n) (w : World) :
    (Instr.sliceAt t (.pointer (some a)) (some (.int .i64 (lo : Int))) none none).run P w = .ok (.slice (some (a.add lo)) (n - lo) (n - lo)) w := by
  have e2 : (0 : Int) ≤ (lo : Int) ∧ (lo : Int) ≤ ((n : Nat) : Int) := by omega
  have e3 : ¬ n = lo := by omega
  have e4 : lo ≤ n := by omega
  simp [Instr.sliceAt, Instr.sliceBounds, Instr.sliceBound, run_underlying ht, sizeOf, typeInfo, hi', hs, e2, e3, e4, asIntOf, Instr.sureAddr]
end

/-- What is hashed, and what waits in the block. -/
structure Hs where
  s : St
  p : List UInt8
def Hs.push (h : Hs) (c : UInt8) : Hs := if h.p.length + 1 = 64 then ⟨comp h.s (bytes (h.p ++ [c])), []⟩ else ⟨h.s, h.p ++ [c]⟩
def Hs.feed (h : Hs) (l : List UInt8) : Hs := l.foldl Hs.push h
theorem Hs.feed_append (h : Hs) (a b : List UInt8) : h.feed (a ++ b) = (h.feed a).feed b := List.foldl_append
theorem Hs.feed_part (l : List UInt8) : ∀ h : Hs, h.p.length + l.length < 64 → h.feed l = ⟨h.s, h.p ++ l⟩ := by
  induction l with
  | nil => intro h _; simp [Hs.feed]
  | cons c l ih =>
    intro h hl
    simp only [List.length_cons] at hl
    show (h.push c).feed l = _
    have e : h.push c = ⟨h.s, h.p ++ [c]⟩ := by unfold Hs.push; rw [if_neg (by omega)]
    rw [e, ih _ (by simp; omega)]
    simp
theorem Hs.feed_full (h : Hs) (l : List UInt8) (hl : h.p.length + l.length = 64) (h0 : 0 < l.length) : h.feed l = ⟨comp h.s (bytes (h.p ++ l)), []⟩ := by
  rcases List.eq_nil_or_concat l with rfl | ⟨a, c, rfl⟩
  · simp at h0
  try rw [List.concat_eq_append] at hl h0 ⊢
  simp only [List.length_append, List.length_cons, List.length_nil] at hl
  rw [Hs.feed_append, Hs.feed_part a h (by omega)]
  show Hs.push _ c = _
  unfold Hs.push
  rw [if_pos (by simp; omega)]
  simp

/-- Block g is this hash; N bytes were fed to it. -/
def HI (w : World) (g : Nat) (h : Hs) (N : Int) : Prop :=
  h.p.length < 64 ∧ ∃ bl : List UInt8, bl.length = 64 ∧ bl.take h.p.length = h.p ∧ Blk w g 60 (HC h.s bl h.p.length N)
def strLen : Value → Nat | .string s => s.size | _ => 0

theorem lay_HC (s : St) (bl : List UInt8) (f n : Int) (hbl : bl.length = 64) (o : Nat) (l : List UInt8) (h : o + l.length ≤ 64) :
    lay (HC s bl f n) (8 + o) (l.map U) = HC s (bl.take o ++ l ++ bl.drop (o + l.length)) f n := by
  unfold lay HC
  simp only [List.length_map]
  congr 1
  have e8 : (s.list.map W).length = 8 := by simp [St.list]
  rw [List.append_assoc (s.list.map W), List.take_append, List.drop_append, List.take_of_length_le (by omega), e8, List.drop_eq_nil_of_le (by omega)]
  rw [show 8 + o - 8 = o by omega, show 8 + o + l.length - 8 = o + l.length by omega]
  rw [List.take_append_of_le_length (by simp; omega), List.drop_append_of_le_length (by simp; omega)]
  simp [List.map_take, List.map_drop]
theorem bl_step (bl p l : List UInt8) (hbl : bl.length = 64) (hp : bl.take p.length = p) (h : p.length + l.length ≤ 64) :
    (bl.take p.length ++ l ++ bl.drop (p.length + l.length)).length = 64 ∧ (bl.take p.length ++ l ++ bl.drop (p.length + l.length)).take (p.length + l.length) = p ++ l := by
  rw [hp]
  refine ⟨by simp; omega, ?_⟩
  rw [List.take_append_of_le_length (by simp), List.take_of_length_le (by simp)]
end Go.Proofs.YtcbfnbmkogeehaaDoor
