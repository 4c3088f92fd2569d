/- Both disks are looked at. -/
import Derived.Test.YtcbfnbmkogeehaaQ6
namespace Go.Proofs.Ytcbfnbmkogeehaa
open Go.RowKit

theorem wpList_eq43 {ops : Array Oper} {rest : List Oper} {o : Oper} {a : Act} {w : World} {Q : Exit → Act → World → Prop} (x y : Operand) (t2 : TypeId) (ho : o.op = .binOp .eql 43 x y t2) (hgd : o.guard = none) (l : List UInt8) (hl : l.length = 512)
    (hx : a.eval x = B l) (hy : a.eval y = B l) (h : wpList Try.prog ops Q rest (a.put o.dst (.bool true)) w) : wpList Try.prog ops Q (o :: rest) a w :=
  wpList_plain hgd fun _ hK => wp_eq43 x y t2 ho l hl hx hy (hK _ _ h)
theorem wpList_load_B {ops : Array Oper} {rest : List Oper} {o : Oper} {a : Act} {w : World} {Q : Exit → Act → World → Prop} (x : Operand) (ho : o.op = .load 43 x) (hgd : o.guard = none)
    (g : Nat) (hx : a.eval x = .pointer (some ⟨g, 0, none⟩)) (l : List UInt8) (hl : l.length = 512) (hg : Blk w g 43 (l.map U).toArray) (h : wpList Try.prog ops Q rest (a.put o.dst (B l)) w) : wpList Try.prog ops Q (o :: rest) a w :=
  wpList_load_row hgd 43 x ho g hx 43 (l.map U).toArray (0, 0) _ hg Try.underlying43 rfl (BRow l hl) h
theorem Dk.read_length {s : Dk} (h : s.Ok) (k : Int) : (s.read k).1.length = 512 := by
  unfold Dk.read
  split
  · rename_i hr
    obtain ⟨i, rfl, hi, _⟩ := Dk.reach_zero hr
    have hi2 : i < s.shown.length := by rw [h.sh]; exact hi
    show (s.shown.getD ((i : Int)).toNat z512).length = 512
    rw [show ((i : Int)).toNat = i from rfl, List.getD_eq_getElem?_getD, List.getElem?_eq_getElem hi2]
    exact h.bs _ (List.getElem_mem hi2)
  · exact z512_length
attribute [local irreducible] wpList in
set_option maxRecDepth 100000 in
set_option maxHeartbeats 2000000 in
theorem do_read (w : World) (g lb mb q sb lc wb : Nat) (s : Dk) (h : Two w g lb mb q sb lc wb s) (x k : Int) (b : UInt8) (A : Option Addr) (n c : Nat) (r : Int) (hr : r = 2 ∨ r = -2) (hx : x.tmod 5 = r) :
    Calls Try.prog 10 #[.pointer (some ⟨g, 0, none⟩), .pointer (some ⟨q, 0, none⟩), .agg #[.int .i64 x, .int .i64 k, U b, .slice A n c]] w fun e w' => e = .returned (.bool true) ∧ Below w.heap.size w w' := by
  have hz43 := zero43
  have hb0 := boxed_below w x k b A n c
  have hrd : ∀ W, Below w.heap.size w W → Calls Try.prog 19 #[.pointer (some ⟨g, 0, none⟩), .int .i64 k] W fun e w' => e = .returned (BE (s.read k)) ∧ Below W.heap.size W w' := fun W hW => by
    obtain ⟨D, hr⟩ := (h.up hW).real
    exact read_walk W g lb mb s D k hr
  have hqd : ∀ W, Below w.heap.size w W → Calls Try.prog 25 #[.pointer (some ⟨q, 0, none⟩), .int .i64 k] W fun e w' => e = .returned (BE (s.read k)) ∧ Below W.heap.size W w' := fun W hW => qread_walk W q sb lc wb s k (h.up hW).doc
  have hl := Dk.read_length h.doc.ok k
  generalize s.read k = re at *
  obtain ⟨l, e0⟩ := re
  simp only at hl
  unfold BE at hrd hqd
  simp only at hrd hqd
  have hz : Z.size = (l.map U).toArray.size := by rw [Z_size, BSize _ hl]
  have HZ := Lib.hid hz
  have HL := Lib.hid hl
  have HB0 := Lib.hid hb0
  have HRD := Lib.hid hrd
  have HQD := Lib.hid hqd
  have HBC := Lib.hid (boxed_cells w x k b A n c)
  clear h hz hl hb0 hrd hqd
  rcases hr with rfl | rfl
  all_goals
    go_enter Try.func10, Try.ntmps10
    go_wp2_with (first
      | (go_at_call 19; refine (HRD.out _ HB0.out).mono ?_; rintro e w1 ⟨rfl, hb1⟩; have HB1 := Lib.hid (HB0.out.trans (hb1.mono HB0.out.size)); have HC1 := Lib.hid (HBC.out.kept hb1 HBC.out.lt); clear hb1)
      | (go_at_call 25; refine (HQD.out w2 HB2.out).mono ?_; rintro e w3 ⟨rfl, hb3⟩; have HK3 := Lib.hid (HK2.out.kept hb3 HK2.out.lt); have HB3 := Lib.hid (HB2.out.trans (hb3.mono HB2.out.size)); clear hb3)
      | (refine wpList_store_fresh rfl 43 (.tmp 7) _ rfl (l.map U).toArray rfl rfl (BRow l HL.out) HZ.out (BAll _) ?_; intro w2 hb2 hs2 hB2; have c2 : w2.cell? ⟨w.heap.size, 1, none⟩ = some (.int .i64 k) := (HC1.out.kept hb2 HC1.out.lt).cell 1; have HK2 := Lib.hid hB2; have HB2 := Lib.hid (HB1.out.trans (hb2.mono HB1.out.size)); clear hb2 hs2 hB2)
      | (refine wpList_store_fresh rfl 43 (.tmp 9) _ rfl (l.map U).toArray rfl rfl (BRow l HL.out) HZ.out (BAll _) ?_; intro w4 hb4 hs4 hB4; have HJ4 := Lib.hid hB4; have HK4 := Lib.hid (HK3.out.kept hb4 HK3.out.lt); have HB4 := Lib.hid (HB3.out.trans (hb4.mono HB3.out.size)); clear hb4 hs4 hB4)
      | (refine wpList_load_B (.tmp 7) rfl rfl _ rfl l HL.out HK4.out ?_)
      | (refine wpList_load_B (.tmp 9) rfl rfl _ rfl l HL.out HJ4.out ?_)
      | (refine wpList_eq43 (.tmp 63) (.tmp 64) _ rfl rfl l HL.out rfl rfl ?_))
    go_ret
    exact ⟨by simp, HB4.out⟩
end Go.Proofs.Ytcbfnbmkogeehaa
