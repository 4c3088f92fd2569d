/- The methods that hand a sector back: Lasts, now, Read. -/
import Derived.Test.YtcbfnbmkogeehaaK3
namespace Go.Proofs.Ytcbfnbmkogeehaa
open Go.RowKit
def z512 : List UInt8 := List.replicate 512 0
def Z : Array Value := (z512.map U).toArray
theorem zero43 (w : World) : (zeroValue 43).run Try.prog w = .ok (.agg Z) w := by kernel_rfl
theorem built43 : Try.prog.built 43 [] = some Z := by kernel_rfl
theorem size43 : (Try.prog.info? 43).map (·.size) = some 512 := by kernel_rfl
theorem z512_length : z512.length = 512 := List.length_replicate
theorem Z_size : Z.size = 512 := by unfold Z; rw [List.size_toArray, List.length_map]; exact z512_length
theorem BRow (l : List UInt8) (h : l.length = 512) : (Try.prog.info? 43).map (·.size) = some (l.map U).toArray.size := by simp only [List.size_toArray, List.length_map, h]; exact size43
theorem BSize (l : List UInt8) (h : l.length = 512) : (l.map U).toArray.size = 512 := by rw [List.size_toArray, List.length_map]; exact h
theorem BAll (l : List UInt8) : (l.map U).toArray.all (·.oneCell') = true := by simp; intro x _; rfl
theorem BOne (l : List UInt8) : ∀ v ∈ l.map U, v.oneCell' = true := by simp; intro x _; rfl

/-- A block of nothing is put together. -/
theorem wpList_zero {ops : Array Oper} {rest : List Oper} {o : Oper} {a : Act} {w : World} {Q : Exit → Act → World → Prop} (hg : o.guard = none) (ho : o.op = .build 43 #[])
    (h : wpList Try.prog ops Q rest (a.put o.dst (.agg Z)) w) : wpList Try.prog ops Q (o :: rest) a w :=
  wpList_build hg 43 #[] ho (by rw [Array.map_empty]; show (Try.prog.built 43 []).isSome = true; rw [built43]; rfl) (by
    rw [Array.map_empty]
    show wpList Try.prog ops Q rest (a.put o.dst (.agg ((Try.prog.built 43 []).getD #[]))) w
    rw [built43]; exact h)

/-- What lasts in the sector; nothing, of none. -/
def Dk.lasts (s : Dk) (k : Int) : List UInt8 := if s.has k then s.last.getD k.toNat z512 else z512

set_option maxRecDepth 100000 in
theorem lasts_nil (w : World) (k : Int) : Calls Try.prog 16 #[.pointer none, .int .i64 k] w fun e w' => e = .returned (B z512) ∧ Below w.heap.size w w' := by
  have hz := zero43
  go_enter Try.func16, Try.ntmps16
  go_wp2_with (first | refine wpList_zero rfl rfl ?_ | (refine wpList_store_fresh rfl 43 _ _ rfl Z rfl rfl size43 rfl (BAll _) ?_; intro w2 hb2 hs2 hB2; have HB2 := Lib.hid hB2; have Hb2 := Lib.hid hb2; clear hb2 hs2 hB2))
  exact bodyPost_ret (results_cell_row rfl _ _ w.heap.size 43 Z (0, 0) _ rfl HB2.out Try.underlying43 rfl size43) rfl ⟨rfl, Hb2.out⟩

theorem wpList_store_blk {P : Program} {ops : Array Oper} {rest : List Oper} {o : Oper} {a : Act} {w : World} {Q : Exit → Act → World → Prop} (hgd : o.guard = none) (ty : TypeId) (x y : Operand) (ho : o.op = .store ty x y)
    (g : Nat) (cells : Array Value) (hx : a.eval x = .pointer (some ⟨g, 0, none⟩)) (hy : a.eval y = .agg cells) (t : TypeId) (old : Array Value) (hb : Blk w g t old)
    (hi : (P.info? ty).map (·.size) = some cells.size) (hold : old.size = cells.size) (h1 : cells.all (·.oneCell') = true)
    (h : ∀ w2, Ex g w w2 → Blk w2 g t cells → wpList P ops Q rest (a.put o.dst undef) w2) : wpList P ops Q (o :: rest) a w :=
  wpList_store_row hgd ty x y ho g cells hx hy t old hb hi hold h1 (h _ (Ex.setRow g w _) (hb.setRow _))

set_option maxRecDepth 100000 in
theorem lasts_none (w : World) (g lb mb : Nat) (s : Dk) (k : Int) (hb : Blk w g 62 (Cs s lb mb)) (hh : s.has k = false) :
    Calls Try.prog 16 #[.pointer (some ⟨g, 0, none⟩), .int .i64 k] w fun e w' => e = .returned (B z512) ∧ Below w.heap.size w w' := by
  have hz := zero43
  have hc := has_walk (w.alloc (.cells Z 43)) g lb mb s k (hb.more _)
  rw [hh] at hc
  go_enter Try.func16, Try.ntmps16
  go_wp2_with (first | (go_at_call 34; refine hc.mono ?_; rintro e w' ⟨rfl, rfl⟩) | refine wpList_zero rfl rfl ?_ | (refine wpList_store_fresh rfl 43 _ _ rfl Z rfl rfl size43 rfl (BAll _) ?_; intro w2 hb2 hs2 hB2; have HB2 := Lib.hid hB2; have Hb2 := Lib.hid hb2; clear hb2 hs2 hB2))
  exact bodyPost_ret (results_cell_row rfl _ _ w.heap.size 43 Z (0, 0) _ rfl HB2.out Try.underlying43 rfl size43) rfl ⟨rfl, Hb2.out⟩

set_option maxRecDepth 100000 in
theorem lasts_some (w : World) (g lb mb : Nat) (s : Dk) (i : Nat) (b : List UInt8) (ho : s.Ok) (hb : Blk w g 62 (Cs s lb mb)) (hl : Blk w lb 43 ((s.last.flatMap (·.map U)).toArray)) (hi : s.last[i]? = some b) :
    Calls Try.prog 16 #[.pointer (some ⟨g, 0, none⟩), .int .i64 (i : Int)] w fun e w' => e = .returned (B b) ∧ Below w.heap.size w w' := by
  have hz := zero43
  have hlt : i < s.last.length := (List.getElem?_eq_some_iff.1 hi).1
  have hh : s.has (i : Int) = true := by unfold Dk.has; simp; omega
  have hc := has_walk (w.alloc (.cells Z 43)) g lb mb s (i : Int) (hb.more _)
  rw [hh] at hc
  have h3 : (w.alloc (.cells Z 43)).cell? ⟨g, 3, none⟩ = some (.slice (some ⟨lb, 0, none⟩) s.last.length s.last.length) := (hb.more _).cell 3
  have hbl : b.length = 512 := ho.bl b (List.mem_of_getElem? hi)
  have hL := Lib.hid (hl.more (.cells Z 43))
  have HF := Lib.hid (flat_at s.last ho.bl i b hi)
  have HB := Lib.hid hbl
  have hlt2 : (i : Int) < (s.last.length : Int) := by omega
  clear hh hi ho hl hbl
  go_enter Try.func16, Try.ntmps16
  go_wp2_with (first | (go_at_call 34; refine hc.mono ?_; rintro e w' ⟨rfl, rfl⟩) | (refine wpList_store_fresh rfl 43 _ _ rfl (b.map U).toArray rfl rfl (BRow b HB.out) (Z_size.trans (BSize b HB.out).symm) (BAll _) ?_; intro w2 hb2 hs2 hB2; have HB2 := Lib.hid hB2; have Hb2 := Lib.hid hb2; clear hb2 hs2 hB2) | (refine wpList_load_at rfl 43 _ rfl lb (i * 512) rfl 43 _ (b.map U) _ hL.out HF.out Try.underlying43 rfl (by rw [List.length_map, HB.out]; exact size43) ?_))
  exact bodyPost_ret (results_cell_row rfl _ _ w.heap.size 43 _ (0, 0) _ rfl HB2.out Try.underlying43 rfl (BRow b HB.out)) rfl ⟨rfl, Hb2.out⟩

/-- Lasts, of any disk. -/
theorem lasts_walk (w : World) (g lb mb : Nat) (s : Dk) (k : Int) (ho : s.Ok) (hb : Blk w g 62 (Cs s lb mb)) (hl : Blk w lb 43 ((s.last.flatMap (·.map U)).toArray)) :
    Calls Try.prog 16 #[.pointer (some ⟨g, 0, none⟩), .int .i64 k] w fun e w' => e = .returned (B (s.lasts k)) ∧ Below w.heap.size w w' := by
  unfold Dk.lasts
  cases hh : s.has k with
  | false => exact lasts_none w g lb mb s k hb hh
  | true =>
    unfold Dk.has at hh
    simp only [Bool.and_eq_true, decide_eq_true_eq] at hh
    obtain ⟨i, rfl⟩ := Int.eq_ofNat_of_zero_le hh.1
    have hi : i < s.last.length := by omega
    rw [if_pos rfl, show ((i : Int)).toNat = i from rfl]
    exact lasts_some w g lb mb s i _ ho hb hl (by rw [List.getD_eq_getElem?_getD, List.getElem?_eq_getElem hi]; rfl)

theorem wf64 (k : Int) (h : -9223372036854775808 ≤ k ∧ k ≤ 9223372036854775807) : (Lit.int .i64 k).wf = true := by
  simp [Lit.wf, show IntKind.i64.min = -9223372036854775808 from rfl, show IntKind.i64.max = 9223372036854775807 from rfl]; omega
/-- What the map says of a sector that waits, and of one that doesn't. -/
theorem look_yes {w : World} {g lb mb : Nat} {s : Dk} {D : DataW Value} (h : Rep w g lb mb s D) (i : Nat) (l : List UInt8) (hi : i < 4096) (hw : s.waits[i]? = some true) (hs : s.shown[i]? = some l) :
    (Instr.lookup 57 (.map (some mb)) (.int .i64 (i : Int)) true).run Try.prog w = .ok (.tuple #[B l, .bool true]) w ∧ (Instr.lookup 57 (.map (some mb)) (.int .i64 (i : Int)) false).run Try.prog w = .ok (B l) w := by
  have hk : keyOf Try.prog 3 (.int .i64 (i : Int)) = some (.int .i64 (i : Int)) := Maps.keyOf_int_mk Try.underlying3 (wf64 _ (by omega))
  have K := Maps.int_keyed (P := Try.prog) Try.underlying3
  have hh : Maps.has D (.int .i64 (i : Int)) = true := by
    rw [h.has _ (wf64 _ (by omega))]
    simp [hw]
  constructor
  · obtain ⟨v, ps, h1, h2⟩ := h.own.look_ok K Try.underlying57 (zero43 w) (zd := .held (.agg Z)) (zp := []) rfl hk
    rw [h.val i l hw hs] at h2
    cases h2
    rw [hh] at h1
    exact h1
  · obtain ⟨v, ps, h1, h2⟩ := h.own.lookup K Try.underlying57 (zero43 w) (zd := .held (.agg Z)) (zp := []) rfl hk
    rw [h.val i l hw hs] at h2
    cases h2
    exact h1
theorem look_no {w : World} {g lb mb : Nat} {s : Dk} {D : DataW Value} (h : Rep w g lb mb s D) (i : Nat) (hi : i < 4096) (hw : s.waits[i]? ≠ some true) :
    ∃ v, (Instr.lookup 57 (.map (some mb)) (.int .i64 (i : Int)) true).run Try.prog w = .ok (.tuple #[v, .bool false]) w ∧ v = .agg Z := by
  have hk : keyOf Try.prog 3 (.int .i64 (i : Int)) = some (.int .i64 (i : Int)) := Maps.keyOf_int_mk Try.underlying3 (wf64 _ (by omega))
  have K := Maps.int_keyed (P := Try.prog) Try.underlying3
  have hh : Maps.has D (.int .i64 (i : Int)) = false := by
    rw [h.has _ (wf64 _ (by omega))]
    simp [hw]
  obtain ⟨v, ps, h1, h2⟩ := h.own.look_ok K Try.underlying57 (zero43 w) (zd := .held (.agg Z)) (zp := []) rfl hk
  have h3 : D.atKey (.int .i64 (i : Int)) (.held (.agg Z)) = .held (.agg Z) := Maps.atKey_of_not_has hh _
  rw [hh] at h1
  rw [h3] at h2
  cases h2
  exact ⟨_, h1, rfl⟩
end Go.Proofs.Ytcbfnbmkogeehaa
