/- Four, Eight, Byte and Text lay behind what was laid. -/
import Derived.Test.YtjoiimhifogbhaaA4
namespace Go.Proofs.Ytjoiimhifogbhaa
open Go.RowKit

/-- The result's cell, behind a call that lays. -/
theorem keep_cell {w w5 : World} {g : Nat} {v : Value} (h : Blk w g 37 #[v]) (hb : Below w.heap.size w w5) : Blk w5 g 37 #[v] ∧ w5.cell? ⟨g, 0, none⟩ = some v ∧ w5.frozen? ⟨g, 0, none⟩ = false := by
  have h5 := h.kept hb h.lt
  exact ⟨h5, by rw [h5.cell]; rfl, h5.thaw 0⟩

theorem one_text (w : World) (b : UInt8) : (convert 27 9 (.slice (some ⟨w.heap.size, 0, none⟩) 1 1)).run Try.prog (w.alloc (.cells #[U b] 5)) = .ok (.string (bstr [b])) (w.alloc (.cells #[U b] 5)) := by
  have h := run_convert_bytes_arg (P := Try.prog) (w.alloc (.cells #[U b] 5)) 27 5 Try.underlying27 Try.underlying5 w.heap.size 0 1 1 [(b.toNat : Int)] rfl (fun i hi => by
    obtain rfl : i = 0 := by omega
    rw [Nat.zero_add, (Blk.fresh w 5 #[U b]).cell]; rfl) 9 Try.underlying9
  rw [h]
  exact congrArg (fun z => Result.ok (Value.string z) _) (nums_bytes [b])

set_option maxRecDepth 100000 in
set_option maxHeartbeats 2000000 in
theorem four_walk (w : World) (o : Value) (l : List UInt8) (A : Option Addr) (n c : Nat) (ns : List Nat) (ho : OutIs w o l) (hr : Row w A n (ns.map V4)) (hn : n < 1000) :
    Calls Try.prog 11 #[o, .slice A n c] w fun e w' => ∃ v, e = .returned v ∧ OutIs w' v (l ++ all4 ns) ∧ Below w.heap.size w w' := by
  obtain ⟨p, xs, rfl, hc, rfl⟩ := ho
  have hb : Below w.heap.size w ((w.alloc (Obj.cells #[Value.pointer p] 37)).alloc (Obj.cells #[Value.pointer none] 37)) := ((Below.refl _ w).alloc (Nat.le_refl _) _).alloc (by simp) _
  have hcall := num4_walk ((w.alloc (Obj.cells #[Value.pointer p] 37)).alloc (Obj.cells #[Value.pointer none] 37)) (.agg #[.pointer p]) _ A n c ns ⟨p, xs, rfl, hc.kept hb (Nat.le_refl _), rfl⟩ (hr.kept hb (Nat.le_refl _)) hn
  have hres : Blk ((w.alloc (Obj.cells #[Value.pointer p] 37)).alloc (Obj.cells #[Value.pointer none] 37)) (w.heap.size + 1) 37 #[.pointer none] := by
    have h := Blk.fresh (w.alloc (Obj.cells #[Value.pointer p] 37)) 37 #[Value.pointer none]
    simpa using h
  have HB := Lib.hid hb
  have HCALL := Lib.hid hcall
  have HRES := Lib.hid hres
  clear hc hr hn hb hcall hres
  go_enter Try.func11, Try.ntmps11
  go_wp2_with (go_at_call 35; refine HCALL.out.mono ?_; rintro e w5 ⟨v, rfl, ⟨q, ys, rfl, hch, hj⟩, hb5⟩; obtain ⟨hR5, hc5, hf5⟩ := keep_cell HRES.out hb5; have HR5 := Lib.hid hR5; have HCH := Lib.hid hch; have HJ := Lib.hid hj; have HB5 := Lib.hid hb5; clear hR5 hch hj hb5)
  have hb6 : Below w.heap.size w (w5.setCell ⟨w.heap.size + 1, 0, none⟩ (.pointer q)) := Below.set (HB.out.trans (HB5.out.mono HB.out.size)) 0 (by omega) _
  exact bodyPost_ret (results_cell_row rfl _ _ (w.heap.size + 1) 37 #[Value.pointer q] (0, 0) _ rfl (HR5.out.put 0 _) Try.underlying37 rfl (by kernel_rfl)) rfl
    ⟨_, rfl, ⟨q, ys, rfl, HCH.out.off HR5.out (by decide) _, HJ.out⟩, hb6⟩

set_option maxRecDepth 100000 in
set_option maxHeartbeats 2000000 in
theorem eight_walk (w : World) (o : Value) (l : List UInt8) (A : Option Addr) (n c : Nat) (ns : List Nat) (ho : OutIs w o l) (hr : Row w A n (ns.map V8)) (hn : n < 1000) :
    Calls Try.prog 12 #[o, .slice A n c] w fun e w' => ∃ v, e = .returned v ∧ OutIs w' v (l ++ all8 ns) ∧ Below w.heap.size w w' := by
  obtain ⟨p, xs, rfl, hc, rfl⟩ := ho
  have hb : Below w.heap.size w ((w.alloc (Obj.cells #[Value.pointer p] 37)).alloc (Obj.cells #[Value.pointer none] 37)) := ((Below.refl _ w).alloc (Nat.le_refl _) _).alloc (by simp) _
  have hcall := num8_walk ((w.alloc (Obj.cells #[Value.pointer p] 37)).alloc (Obj.cells #[Value.pointer none] 37)) (.agg #[.pointer p]) _ A n c ns ⟨p, xs, rfl, hc.kept hb (Nat.le_refl _), rfl⟩ (hr.kept hb (Nat.le_refl _)) hn
  have hres : Blk ((w.alloc (Obj.cells #[Value.pointer p] 37)).alloc (Obj.cells #[Value.pointer none] 37)) (w.heap.size + 1) 37 #[.pointer none] := by
    have h := Blk.fresh (w.alloc (Obj.cells #[Value.pointer p] 37)) 37 #[Value.pointer none]
    simpa using h
  have HB := Lib.hid hb
  have HCALL := Lib.hid hcall
  have HRES := Lib.hid hres
  clear hc hr hn hb hcall hres
  go_enter Try.func12, Try.ntmps12
  go_wp2_with (go_at_call 36; refine HCALL.out.mono ?_; rintro e w5 ⟨v, rfl, ⟨q, ys, rfl, hch, hj⟩, hb5⟩; obtain ⟨hR5, hc5, hf5⟩ := keep_cell HRES.out hb5; have HR5 := Lib.hid hR5; have HCH := Lib.hid hch; have HJ := Lib.hid hj; have HB5 := Lib.hid hb5; clear hR5 hch hj hb5)
  have hb6 : Below w.heap.size w (w5.setCell ⟨w.heap.size + 1, 0, none⟩ (.pointer q)) := Below.set (HB.out.trans (HB5.out.mono HB.out.size)) 0 (by omega) _
  exact bodyPost_ret (results_cell_row rfl _ _ (w.heap.size + 1) 37 #[Value.pointer q] (0, 0) _ rfl (HR5.out.put 0 _) Try.underlying37 rfl (by kernel_rfl)) rfl
    ⟨_, rfl, ⟨q, ys, rfl, HCH.out.off HR5.out (by decide) _, HJ.out⟩, hb6⟩

set_option maxRecDepth 100000 in
set_option maxHeartbeats 2000000 in
theorem byte_walk (w : World) (o : Value) (l : List UInt8) (b : UInt8) (ho : OutIs w o l) :
    Calls Try.prog 10 #[o, U b] w fun e w' => ∃ v, e = .returned v ∧ OutIs w' v (l ++ [b]) ∧ Below w.heap.size w w' := by
  obtain ⟨p, xs, rfl, hc, rfl⟩ := ho
  have hb : Below w.heap.size w ((w.alloc (Obj.cells #[Value.pointer p] 37)).alloc (Obj.cells #[Value.pointer none] 37)) := ((Below.refl _ w).alloc (Nat.le_refl _) _).alloc (by simp) _
  have hres : Blk ((w.alloc (Obj.cells #[Value.pointer p] 37)).alloc (Obj.cells #[Value.pointer none] 37)) (w.heap.size + 1) 37 #[.pointer none] := by
    have h := Blk.fresh (w.alloc (Obj.cells #[Value.pointer p] 37)) 37 #[Value.pointer none]
    simpa using h
  have hsz2 : ((w.alloc (Obj.cells #[Value.pointer p] 37)).alloc (Obj.cells #[Value.pointer none] 37)).heap.size = w.heap.size + 1 + 1 := by simp
  have hcell : ((w.alloc (Obj.cells #[Value.pointer p] 37)).alloc (Obj.cells #[Value.pointer none] 37)).cell? ⟨w.heap.size, 0, none⟩ = some (.pointer p) := by rw [((Blk.fresh w 37 #[Value.pointer p]).more _).cell]; rfl
  have hone := one_text ((w.alloc (Obj.cells #[Value.pointer p] 37)).alloc (Obj.cells #[Value.pointer none] 37)) b
  rw [hsz2] at hone
  have r6 : ∀ x, (U x).cells = #[U x] := fun _ => rfl
  unfold Value.cells at r6
  have hb3 : Below ((w.alloc (Obj.cells #[Value.pointer p] 37)).alloc (Obj.cells #[Value.pointer none] 37)).heap.size ((w.alloc (Obj.cells #[Value.pointer p] 37)).alloc (Obj.cells #[Value.pointer none] 37)) (((w.alloc (Obj.cells #[Value.pointer p] 37)).alloc (Obj.cells #[Value.pointer none] 37)).alloc (Obj.cells #[U b] 5)) := (Below.refl _ _).alloc (Nat.le_refl _) _
  have hcall := raw_walk ((((w.alloc (Obj.cells #[Value.pointer p] 37)).alloc (Obj.cells #[Value.pointer none] 37)).alloc (Obj.cells #[U b] 5)).alloc (Obj.cells #[.string (bstr [b])] 9)) (.agg #[.pointer p]) (joined xs.reverse) (some ⟨w.heap.size + 1 + 1 + 1, 0, none⟩) 1 1 [bstr [b]]
    ⟨p, xs, rfl, hc.kept ((hb.alloc (by simp; omega) _).alloc (by simp; omega) _) (Nat.le_refl _), rfl⟩ (by have h := Row.fresh (((w.alloc (Obj.cells #[Value.pointer p] 37)).alloc (Obj.cells #[Value.pointer none] 37)).alloc (Obj.cells #[U b] 5)) 9 [.string (bstr [b])]; simpa using h) (by omega)
  have hres3 := (hres.more (Obj.cells #[U b] 5)).more (Obj.cells #[.string (bstr [b])] 9)
  have hb4 : Below w.heap.size w ((((w.alloc (Obj.cells #[Value.pointer p] 37)).alloc (Obj.cells #[Value.pointer none] 37)).alloc (Obj.cells #[U b] 5)).alloc (Obj.cells #[.string (bstr [b])] 9)) := (hb.alloc (by simp; omega) _).alloc (by simp; omega) _
  have HB := Lib.hid hb4
  have HCALL := Lib.hid hcall
  have HRES := Lib.hid hres3
  clear hc hb hb3 hb4 hcall hres hres3 hsz2
  go_enter Try.func10, Try.ntmps10
  go_wp2_with (go_at_call 15; refine HCALL.out.mono ?_; rintro e w5 ⟨v, rfl, ⟨q, ys, rfl, hch, hj⟩, hb5⟩; obtain ⟨hR5, hc5, hf5⟩ := keep_cell HRES.out hb5; have HR5 := Lib.hid hR5; have HCH := Lib.hid hch; have HJ := Lib.hid hj; have HB5 := Lib.hid hb5; clear hR5 hch hj hb5)
  have hb6 : Below w.heap.size w (w5.setCell ⟨w.heap.size + 1, 0, none⟩ (.pointer q)) := Below.set (HB.out.trans (HB5.out.mono HB.out.size)) 0 (by omega) _
  exact bodyPost_ret (results_cell_row rfl _ _ (w.heap.size + 1) 37 #[Value.pointer q] (0, 0) _ rfl (HR5.out.put 0 _) Try.underlying37 rfl (by kernel_rfl)) rfl
    ⟨_, rfl, ⟨q, ys, rfl, HCH.out.off HR5.out (by decide) _, by rw [HJ.out]; simp [joined, bstr_data]⟩, hb6⟩

end Go.Proofs.Ytjoiimhifogbhaa
