/- Digests laid behind what was laid. -/
import Derived.Test.YtjoiimhifogbhaaB0
namespace Go.Proofs.Ytjoiimhifogbhaa
open Go.RowKit

section
variable {P : Program}
/-- Cells from a place on, as one value. -/
theorem run_loadVar_cells (w : World) (g o : Nat) (ty : TypeId) (cs : List Value) (d : TypeDesc)
    (hc : ∀ j v, cs[j]? = some v → w.cell? ⟨g, o + j, none⟩ = some v)
    (hu : P.underlying ty = some d) (hd : (match d with | .struct _ | .array _ _ => true | _ => false) = true) (hi : (P.info? ty).map (·.size) = some cs.length) :
    (loadVar ty ⟨g, o, none⟩).run P w = .ok (.agg cs.toArray) w := by
  have hl : (loadCells ⟨g, o, none⟩ cs.length).run P w = .ok cs.toArray w :=
    run_loadCells_list (P := P) w ⟨g, o, none⟩ cs (fun j v hv => by
      have hadd : (⟨g, o, none⟩ : Addr).add j = ⟨g, o + j, none⟩ := by unfold Addr.add; split <;> simp_all
      rw [hadd]
      exact hc j v hv)
  cases hq : P.info? ty with
  | none => simp [hq] at hi
  | some i =>
    have hs : i.size = cs.length := by simpa [hq] using hi
    have hagg : (isAgg ty).run P w = .ok true w := by
      unfold isAgg
      rw [Sem.run_bind, run_underlying hu w]
      cases d <;> simp_all
    simp [loadVar, Sem.run_bind, hagg, sizeOf, typeInfo, hq, hs, hl]
theorem wpList_load_cells {ops : Array Oper} {rest : List Oper} {o : Oper} {a : Act} {w : World} {Q : Exit → Act → World → Prop} (hgd : o.guard = none) (ty : TypeId) (x : Operand) (ho : o.op = .load ty x)
    (g f : Nat) (hx : a.eval x = .pointer (some ⟨g, f, none⟩)) (cs : List Value) (d : TypeDesc)
    (hc : ∀ j v, cs[j]? = some v → w.cell? ⟨g, f + j, none⟩ = some v)
    (hu : P.underlying ty = some d) (hd : (match d with | .struct _ | .array _ _ => true | _ => false) = true) (hi : (P.info? ty).map (·.size) = some cs.length)
    (h : wpList P ops Q rest (a.put o.dst (.agg cs.toArray)) w) : wpList P ops Q (o :: rest) a w :=
  wpList_plain hgd fun _ hK => by
    unfold Oper.wp execOp
    simp only [ho, hx, Instr.loadAt, Instr.sureAddr, Sem.run_bind, Sem.run_pure, Result.andThen_ok, run_loadVar_cells w g f ty cs d hc hu hd hi]
    exact hK _ _ h
end
/-- A row of digests. -/
structure Digs (w : World) (A : Option Addr) (n : Nat) (ds : List (List UInt8)) : Prop where
  len : n = ds.length
  all : ∀ d ∈ ds, d.length = 32
  place : 0 < n → ∃ b o, A = some ⟨b, o, none⟩ ∧ b < w.heap.size ∧ ∀ i (h : i < ds.length) j v, (ds[i].map U)[j]? = some v → w.cell? ⟨b, o + i * 32 + j, none⟩ = some v
theorem Digs.kept {w w' : World} {A : Option Addr} {n B : Nat} {ds : List (List UInt8)} (h : Digs w A n ds) (hb : Below B w w') (hB : w.heap.size ≤ B) : Digs w' A n ds :=
  ⟨h.len, h.all, fun hn => by
    obtain ⟨b, o, ha, hlt, hc⟩ := h.place hn
    exact ⟨b, o, ha, Nat.lt_of_lt_of_le hlt hb.size, fun i hi j v hv => (hb.cell (Nat.lt_of_lt_of_le hlt hB)).trans (hc i hi j v hv)⟩⟩
theorem Digs.fresh (w : World) (d : List UInt8) (hd : d.length = 32) : Digs (w.alloc (.cells (d.map U).toArray 33)) (some ⟨w.heap.size, 0, none⟩) 1 [d] :=
  ⟨rfl, by intro x hx; obtain rfl := List.mem_singleton.1 hx; exact hd, fun _ => ⟨w.heap.size, 0, rfl, by simp, fun i hi j v hv => by
    obtain rfl : i = 0 := by simpa using hi
    rw [show 0 + 0 * 32 + j = j by omega, (Blk.fresh w 33 _).cell]
    simpa using hv⟩⟩

set_option maxRecDepth 100000 in
set_option maxHeartbeats 2000000 in
theorem dig_walk (w : World) (o : Value) (l : List UInt8) (A : Option Addr) (n c : Nat) (ds : List (List UInt8)) (ho : OutIs w o l) (hr : Digs w A n ds) (hn : n < 1000) :
    Calls Try.prog 14 #[o, .slice A n c] w fun e w' => ∃ v, e = .returned v ∧ OutIs w' v (l ++ ds.flatten) ∧ Below w.heap.size w w' := by
  obtain ⟨p, xs, rfl, hc, rfl⟩ := ho
  have HC := Lib.hid hc
  have HR := Lib.hid hr
  have HN := Lib.hid hn
  clear hc hr hn
  go_enter Try.func14, Try.ntmps14
  go_wp2
  go_loopw [9] (fun i wr => ∃ k : Nat, k ≤ n ∧ i = .int .i64 k ∧ Below w.heap.size w wr ∧ Blk wr (w.heap.size + 1) 37 #[.pointer none] ∧ ∃ q ys, Blk wr w.heap.size 37 #[.pointer q] ∧ Chain wr q ys ∧ joined ys.reverse = joined xs.reverse ++ (ds.take k).flatten) (fun i _ => n - (intOf i).toNat)
  case atStart =>
    have b1 : Below w.heap.size w ((w.alloc (Obj.cells #[Value.pointer p] 37)).alloc (Obj.cells #[Value.pointer none] 37)) := ((Below.refl _ w).alloc (Nat.le_refl _) _).alloc (by simp) _
    refine ⟨0, by omega, rfl, b1, ?_, p, xs, (Blk.fresh w 37 _).more _, HC.out.kept b1 (Nat.le_refl _), by simp⟩
    have h := Blk.fresh (w.alloc (Obj.cells #[Value.pointer p] 37)) 37 #[Value.pointer none]
    simpa using h
  case round =>
    obtain ⟨k, hk, rfl, hb, hres, q, ys, hbox, hch, hj⟩ := hrel
    have HB := Lib.hid hb
    have HE := Lib.hid hres
    have HCH := Lib.hid hch
    have HJ := Lib.hid hj
    have hcellr : wr.cell? ⟨w.heap.size + 1, 0, none⟩ = some (.pointer none) := by rw [hres.cell]; rfl
    have hfrr := hres.thaw 0
    have HBX := Lib.hid hbox
    clear hb hres hch hj
    have HN' := HN.out
    by_cases hlt : k < n
    · obtain ⟨b, off, rfl, hbl, hcs⟩ := HR.out.place (by omega)
      have hkp : k < ds.length := by have := HR.out.len; omega
      have hcell2 : ∀ j v, (ds[k].map U)[j]? = some v → wr.cell? ⟨b, off + k * 32 + j, none⟩ = some v := by
        intro j v hv; rw [HB.out.cell hbl]; exact hcs k hkp j v hv
      have hd32 := HR.out.all _ (List.getElem_mem hkp)
      have hj2 : (ds.take (k + 1)).flatten = (ds.take k).flatten ++ ds[k] := by
        rw [List.take_succ_eq_append_getElem hkp, List.flatten_append, List.flatten_singleton]
      clear hcs hbl hbox
      generalize ds[k] = d at *
      have HJ2 := Lib.hid hj2
      have HC2 := Lib.hid hcell2
      have HD := Lib.hid hd32
      have HS : Hid ((d.map U).toArray.size = 32) := by show (d.map U).toArray.size = 32; simp [HD.out]
      have HSL : Hid ((d.map U).length = 32) := by show (d.map U).length = 32; simp [HD.out]
      have HA : Hid ((d.map U).toArray.all (·.oneCell') = true) := by show (d.map U).toArray.all (·.oneCell') = true; simp; intro x _; rfl
      clear hkp hj2 hcell2 hd32
      go_wp2_with (first
        | (refine wpList_load_cells rfl 33 _ rfl b (off + k * 32) rfl (d.map U) _ HC2.out Try.underlying33 rfl (by rw [HSL.out]; rfl) ?_)
        | (refine wpList_store_fresh rfl 33 _ _ rfl (d.map U).toArray rfl rfl (Row32 _ HS.out) (by rw [HS.out]; rfl) HA.out ?_; intro w2 hb2 hs2 hB2; have HB2 := Lib.hid hB2; have Hb2 := Lib.hid hb2; have HS2 := Lib.hid hs2; clear hb2 hs2 hB2))
      have hB2 : Below wr.heap.size wr w2 := Hb2.out
      have hbx2 : Blk w2 w.heap.size 37 #[.pointer q] := HBX.out.kept hB2 HBX.out.lt
      have hcd : w2.drew.cell? ⟨w.heap.size, 0, none⟩ = some (.pointer q) := by refine (hbx2.drew.cell 0).trans ?_; rfl
      have hce : (w2.alloc (.cells #[.string (bstr d)] 9)).drew.cell? ⟨w.heap.size, 0, none⟩ = some (.pointer q) := by refine ((hbx2.more _).drew.cell 0).trans ?_; rfl
      have hcv : (convert 27 9 (.slice (some ⟨wr.heap.size, 0, none⟩) 32 32)).run Try.prog w2.drew = .ok (.string (bstr d)) w2.drew := by
        have h := run_convert_bytes_arg (P := Try.prog) w2.drew 27 5 Try.underlying27 Try.underlying5 wr.heap.size 0 32 32 (d.map fun b => (b.toNat : Int)) (by simpa using HD.out) (fun i hi => by
          rw [Nat.zero_add, (HB2.out.drew).cell i]
          have hid : i < d.length := by rw [HD.out]; exact hi
          simp [U_def, List.getD, hid]) 9 Try.underlying9
        rw [h, nums_bytes]
      have hb3 : Below wr.heap.size wr (w2.alloc (.cells #[.string (bstr d)] 9)).drew := (hB2.alloc hB2.size _).drew
      have hcall := raw_walk (w2.alloc (.cells #[.string (bstr d)] 9)).drew (.agg #[.pointer q]) _ (some ⟨w2.heap.size, 0, none⟩) 1 1 [bstr d] ⟨q, ys, rfl, HCH.out.kept hb3 (Nat.le_refl _), rfl⟩ (Row.of_blk (Blk.fresh w2 9 #[.string (bstr d)]).drew) (by omega)
      have HCALL := Lib.hid hcall
      have HB3 := Lib.hid hb3
      have HBX3 : Hid (Blk (w2.alloc (.cells #[.string (bstr d)] 9)).drew w.heap.size 37 #[.pointer q]) := (hbx2.more _).drew
      clear hB2 hbx2 hb3 hcall
      go_region_with (go_at_call 15; refine HCALL.out.mono ?_; rintro e w6 ⟨v6, rfl, ⟨q6, ys6, rfl, hch6, hj6⟩, hb6⟩; have HB6 := Lib.hid hb6; obtain ⟨hbx6, hc6, hf6⟩ := keep_cell HBX3.out hb6; have HBX6 := Lib.hid hbx6; have HCH6 := Lib.hid hch6; have HJ6 := Lib.hid hj6; clear hbx6 hch6 hj6 hb6)
      all_goals
        have HB7 : Hid (Below wr.heap.size wr w6) := HB3.out.trans (HB6.out.mono HB3.out.size)
        go_wp2
        go_roundw
        case rel =>
          have hb7 : Below w.heap.size w w6 := HB.out.trans (HB7.out.mono HB.out.size)
          refine ⟨k + 1, by omega, by go_num, Below.set hb7 0 (Nat.le_refl _) _, (HE.out.kept HB7.out HE.out.lt).off (by show w.heap.size + 1 ≠ w.heap.size; omega) _, q6, ys6, HBX6.out.put 0 _, HCH6.out.off HBX6.out (by decide) _, ?_⟩
          rw [HJ6.out, HJ2.out, HJ.out]
          simp [joined, bstr_data]
        case measure => simp [intOf]; omega
    · obtain rfl : k = n := by omega
      have hcell : wr.cell? ⟨w.heap.size, 0, none⟩ = some (.pointer q) := by rw [hbox.cell]; rfl
      have hfr := hbox.thaw 0
      clear hbox
      go_wp2
      have hb2 : Below w.heap.size w (wr.setCell ⟨w.heap.size + 1, 0, none⟩ (.pointer q)) := Below.set HB.out 0 (by omega) _
      have hl : ds.length = k := HR.out.len.symm
      have hrs := HE.out.put 0 (Value.pointer q)
      exact bodyPost_ret (results_cell_row rfl _ _ (w.heap.size + 1) 37 #[Value.pointer q] (0, 0) _ rfl hrs Try.underlying37 rfl (by kernel_rfl)) rfl
        ⟨_, rfl, ⟨q, ys, rfl, HCH.out.off HE.out (by decide) _, by rw [HJ.out, List.take_of_length_le (by omega)]⟩, hb2⟩
end Go.Proofs.Ytjoiimhifogbhaa
