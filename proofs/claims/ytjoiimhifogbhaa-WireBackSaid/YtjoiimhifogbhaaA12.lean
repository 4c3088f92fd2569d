/- A digest that is taken of none. -/
import Derived.Test.YtjoiimhifogbhaaA11
import Derived.Deep.RegionLaw
namespace Go.Proofs.Ytjoiimhifogbhaa
open Go.RowKit

/-! Laws for copy out of a string into a known block. -/
section
variable {P : Program}
theorem run_copy_str (w : World) (dT sT ty elem : TypeId) (g o dLen dCap n : Nat) (s : ByteArray) (cur : Array Value) (t : TypeId) (hu : P.underlying dT = some (.slice elem)) (hi : ((P.info? elem).map (·.size)).isSome = true)
    (hb : Blk w g t cur) (hn : n = min s.size dLen) (hfit : o + dLen ≤ cur.size) :
    (Builtin.copy_ #[dT, sT] ty #[.slice (some ⟨g, o, none⟩) dLen dCap, .string s]).run P w = .ok (goInt n) (w.setRow g (lay cur o ((s.data.toList.take n).map U))) := by
  cases hq : P.info? elem with
  | none => simp [hq] at hi
  | some i =>
    have hmin : s.size.min dLen = n := hn.symm
    have hcells : List.take n (List.map (fun b : UInt8 => Value.int .u8 (b.toNat : Int)) s.data.toList) = (s.data.toList.take n).map U := by rw [List.map_take]; rfl
    have hlen : ((s.data.toList.take n).map U).length = n := by
      have : s.data.toList.length = s.size := by simp
      simp only [List.length_map, List.length_take, this]
      omega
    have hst := run_storeCells_at (P := P) g o t ((s.data.toList.take n).map U) 0 cur w hb (by rw [hlen]; omega) (fun v hv => by obtain ⟨x, _, rfl⟩ := List.mem_map.1 hv; rfl)
    simp only [Nat.add_zero] at hst
    rw [← hcells] at hst ⊢
    simp [Builtin.copy_, run_underlying hu, Builtin.lenOf, Builtin.firstCells, sizeOf, typeInfo, hq, hmin]
    rw [hst]
    simp [lay]

theorem step_copy_str {ops : Array Oper} {o : Oper} {a : Act} {w : World} {K : Act → World → Prop} {Q : Exit → Act → World → Prop} {E : Prop} (hgd : o.guard = none) (d s : Operand) (dT sT : TypeId)
    (ho : o.op = .call { callee := .builtin .copy, args := #[d, s], argTypes := #[dT, sT] }) (elem : TypeId) (hu : P.underlying dT = some (.slice elem)) (hi : ((P.info? elem).map (·.size)).isSome = true)
    (g off dLen dCap n : Nat) (x : ByteArray) (hd : a.eval d = .slice (some ⟨g, off, none⟩) dLen dCap) (hs : a.eval s = .string x)
    (cur : Array Value) (t : TypeId) (hb : Blk w g t cur) (hn : n = min x.size dLen) (hfit : off + dLen ≤ cur.size)
    (h : ∀ w', Blk w' g t (lay cur off ((x.data.toList.take n).map U)) → Ex g w w' → K (a.put o.dst (goInt n)) w') :
    if Region.wanted o (yielded ops a.tmps) = true then Oper.wp P o a w K Q else E := by
  have hw : Region.wanted o (yielded ops a.tmps) = true := by simp [Region.wanted, hgd]
  rw [if_pos hw]
  have hrun := run_copy_str (P := P) w dT sT o.type elem g off dLen dCap n x cur t hu hi hb hn hfit
  unfold Oper.wp
  simp only [execOp, ho, resolve, invoke, builtin, Sem.run_bind, Sem.run_pure, Result.andThen_ok, List.map_toArray, List.map_cons, List.map_nil, hd, hs, hrun]
  exact h _ (hb.setRow _) (Ex.setRow g w _)

theorem run_slice_arr_from (t elem : TypeId) (n lo : Nat) (a : Addr) (i : TypeInfo) (ht : P.underlying t = some (.array n elem)) (hi' : P.info? elem = some i) (hs : i.size = 1)
    (h3 : lo < n) (w : World) :
    (Instr.sliceAt t (.pointer (some a)) (some (.int .i64 (lo : Int))) none none).run P w = .ok (.slice (some (a.add lo)) (n - lo) (n - lo)) w := by
  have e2 : (0 : Int) ≤ (lo : Int) ∧ (lo : Int) ≤ ((n : Nat) : Int) := by omega
  have e3 : ¬ n = lo := by omega
  have e4 : lo ≤ n := by omega
  simp [Instr.sliceAt, Instr.sliceBounds, Instr.sliceBound, run_underlying ht, sizeOf, typeInfo, hi', hs, e2, e3, e4, asIntOf, Instr.sureAddr]
end


def z32 : Array Value := Array.replicate 32 (.int .u8 0)
theorem Row32 (cs : Array Value) (h : cs.size = 32) : (Try.prog.info? 33).map (·.size) = some cs.size := by rw [h]; rfl
set_option maxRecDepth 100000 in
set_option maxHeartbeats 1000000 in
theorem digest_nil (w : World) : Calls Try.prog 26 #[.pointer none] w fun x w' => x = .returned (.agg z32) ∧ Below w.heap.size w w' := by
  have hcp : ∀ (b : Nat) (w : World), (Builtin.copy_ #[27, 9] 3 #[.slice (some ⟨b, 0, none⟩) 32 32, .string (bstr [])]).run Try.prog w = .ok (.int .i64 0) w := by
    intro b w
    simp [Builtin.copy_, run_underlying Try.underlying27, Builtin.lenOf, Builtin.firstCells, sizeOf, typeInfo, show Try.prog.info? 5 = some _ from rfl, bstr]
    rfl
  go_enter Try.func26, Try.ntmps26
  go_wp2
  have hb0 : Below w.heap.size w ((w.alloc (Obj.cells z32 33)).alloc (Obj.cells z32 33)).drew := (((Below.refl _ w).alloc (Nat.le_refl _) _).alloc (by simp) _).drew
  have hr0 : Blk ((w.alloc (Obj.cells z32 33)).alloc (Obj.cells z32 33)).drew w.heap.size 33 z32 := (Blk.fresh w 33 z32).more _
  have hr1 : Blk ((w.alloc (Obj.cells z32 33)).alloc (Obj.cells z32 33)).drew (w.heap.size + 1) 33 z32 := by
    refine Blk.drew ?_
    have h := Blk.fresh (w.alloc (Obj.cells z32 33)) 33 z32
    simpa using h
  have HB0 := Lib.hid hb0
  have HR0 := Lib.hid hr0
  have HR1 := Lib.hid hr1
  clear hb0 hr0 hr1
  go_region_with (go_at_call 33; refine (raw_nil _ _).mono ?_; rintro e w1 ⟨rfl, rfl⟩)
  all_goals
    generalize hW : (World.drew _) = W
    have hW2 : ((w.alloc (Obj.cells z32 33)).alloc (Obj.cells z32 33)).drew = W := hW
    rw [hW2] at HB0 HR0 HR1
    clear hW hW2
    go_wp2_with (first | (refine wpList_load_row rfl 33 _ rfl (w.heap.size + 1) rfl 33 _ (0, 0) _ HR1.out Try.underlying33 rfl (Row32 _ rfl) ?_) | (refine wpList_store_row rfl 33 _ _ rfl w.heap.size z32 rfl rfl 33 _ HR0.out (Row32 _ rfl) rfl (by kernel_rfl) ?_))
    refine bodyPost_ret (results_cell_row rfl _ _ w.heap.size 33 _ (0, 0) _ rfl (HR0.out.setRow _) Try.underlying33 rfl (Row32 _ rfl)) rfl ⟨rfl, ?_⟩
    exact Below.setRow HB0.out (Nat.le_refl _) _

def digV (d : List UInt8) : Value := .agg (d.map U).toArray
theorem lay_full (d : List UInt8) (h : d.length = 32) : lay z32 0 ((d.take 32).map U) = (d.map U).toArray := by
  rw [List.take_of_length_le (show d.length ≤ 32 by omega)]
  have hz : z32.toList.drop (0 + (d.map U).length) = [] := by
    apply List.drop_eq_nil_of_le
    rw [List.length_map, h]; decide
  unfold lay
  rw [hz, List.take_zero, List.nil_append, List.append_nil]
set_option maxRecDepth 100000 in
set_option maxHeartbeats 2000000 in
theorem digest_take (w : World) (g : Nat) (d r : List UInt8) (hd : d.length = 32) (h : InIs w g 0 (d ++ r)) :
    Calls Try.prog 26 #[inP g] w fun x w' => x = .returned (digV d) ∧ InIs w' g 0 r ∧ Ex g w w' := by
  have hb0 : Below w.heap.size w ((w.alloc (Obj.cells z32 33)).alloc (Obj.cells z32 33)).drew := (((Below.refl _ w).alloc (Nat.le_refl _) _).alloc (by simp) _).drew
  have hr0 : Blk ((w.alloc (Obj.cells z32 33)).alloc (Obj.cells z32 33)).drew w.heap.size 33 z32 := (Blk.fresh w 33 z32).more _
  have hr1 : Blk ((w.alloc (Obj.cells z32 33)).alloc (Obj.cells z32 33)).drew (w.heap.size + 1) 33 z32 := by
    refine Blk.drew ?_
    have h := Blk.fresh (w.alloc (Obj.cells z32 33)) 33 z32
    simpa using h
  have hcall := take_walk _ g d r (h.more hb0)
  rw [hd] at hcall
  have HB0 := Lib.hid hb0
  have HR0 := Lib.hid hr0
  have HR1 := Lib.hid hr1
  have HCALL := Lib.hid hcall
  have HD := Lib.hid hd
  have HG := Lib.hid (Blk.lt h)
  clear hb0 hr0 hr1 hcall hd h
  unfold inP at *
  go_enter Try.func26, Try.ntmps26
  go_wp2
  go_region_with (go_at_call 33; refine HCALL.out.mono ?_; rintro e w1 ⟨rfl, h2, h3⟩; have HR3 := Lib.hid (h3.blk HR1.out (by have := HG.out; omega)); have HR4 := Lib.hid (h3.blk HR0.out (by have := HG.out; omega)); have hcp := run_copy_str (P := Try.prog) w1 27 9 3 5 (w.heap.size + 1) 0 32 32 32 (bstr d) z32 33 Try.underlying27 (by kernel_rfl) HR3.out (by rw [bstr_size, HD.out]; rfl) (by decide); rw [bstr_data, lay_full d HD.out] at hcp; have H2 := Lib.hid h2; have H3 := Lib.hid h3; clear h2 h3)
  all_goals
    have HR5 : Hid (Blk (w1.setRow (w.heap.size + 1) (d.map U).toArray) (w.heap.size + 1) 33 (d.map U).toArray) := HR3.out.setRow _
    have HR6 : Hid (Blk (w1.setRow (w.heap.size + 1) (d.map U).toArray) w.heap.size 33 z32) := HR4.out.setRow_off _ (by omega)
    have HS : Hid ((d.map U).toArray.size = 32) := by show (d.map U).toArray.size = 32; simp [HD.out]
    have HA : Hid ((d.map U).toArray.all (·.oneCell') = true) := by show (d.map U).toArray.all (·.oneCell') = true; simp; intro x _; rfl
    go_wp2_with (first | (refine wpList_load_row rfl 33 _ rfl (w.heap.size + 1) rfl 33 _ (0, 0) _ HR5.out Try.underlying33 rfl (Row32 _ HS.out) ?_) | (refine wpList_store_row rfl 33 _ _ rfl w.heap.size (d.map U).toArray rfl rfl 33 _ HR6.out (Row32 _ HS.out) (by rw [HS.out]; rfl) HA.out ?_))
    refine bodyPost_ret (results_cell_row rfl _ _ w.heap.size 33 _ (0, 0) _ rfl (HR6.out.setRow _) Try.underlying33 rfl (Row32 _ HS.out)) rfl ⟨rfl, ?_, ?_⟩
    · have hg := HG.out
      exact ((Blk.setRow_off H2.out _ (by omega)).setRow_off _ (by omega))
    · have hg := HG.out
      have e1 : Ex g w w1 := (Ex.of_below HB0.out).trans H3.out
      refine ⟨e1.os, e1.tape, e1.output, ?_, fun k hk hne => ?_⟩
      · have := e1.size; simpa using this
      · rw [setRow_other _ _ _ _ (by omega), setRow_other _ _ _ _ (by omega)]
        exact e1.block k hk hne
end Go.Proofs.Ytjoiimhifogbhaa
