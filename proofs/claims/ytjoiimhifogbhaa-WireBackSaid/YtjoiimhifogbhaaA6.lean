/- Text lays texts, each with its length ahead. -/
import Derived.Test.YtjoiimhifogbhaaA5
namespace Go.Proofs.Ytjoiimhifogbhaa
open Go.RowKit

def textOf (s : ByteArray) : List UInt8 := be 4 s.size ++ s.data.toList
def texts (ps : List ByteArray) : List UInt8 := ps.flatMap textOf
theorem texts_take (ps : List ByteArray) (k : Nat) (h : k < ps.length) : texts (ps.take (k + 1)) = texts (ps.take k) ++ textOf ps[k] := by
  rw [List.take_succ_eq_append_getElem h, texts, List.flatMap_append]; simp [texts]

set_option maxRecDepth 100000 in
set_option maxHeartbeats 2000000 in
theorem text_walk (w : World) (o : Value) (l : List UInt8) (A : Option Addr) (n c : Nat) (ps : List ByteArray) (ho : OutIs w o l) (hr : Row w A n (ps.map Value.string)) (hn : n < 1000) (hps : ∀ x ∈ ps, x.size < 4294967296) :
    Calls Try.prog 13 #[o, .slice A n c] w fun e w' => ∃ v, e = .returned v ∧ OutIs w' v (l ++ texts ps) ∧ Below w.heap.size w w' := by
  obtain ⟨p, xs, rfl, hc, rfl⟩ := ho
  have HC := Lib.hid hc
  have HR := Lib.hid hr
  have HN := Lib.hid hn
  have HP := Lib.hid hps
  clear hc hr hn hps
  go_enter Try.func13, Try.ntmps13
  go_wp2
  go_loopw [9] (fun i wr => ∃ k : Nat, k ≤ n ∧ i = .int .i64 k ∧ Below w.heap.size w wr ∧ Blk wr (w.heap.size + 1) 37 #[.pointer none] ∧ ∃ q ys, Blk wr w.heap.size 37 #[.pointer q] ∧ Chain wr q ys ∧ joined ys.reverse = joined xs.reverse ++ texts (ps.take k)) (fun i _ => n - (intOf i).toNat)
  case atStart =>
    have b1 : Below w.heap.size w ((w.alloc (Obj.cells #[Value.pointer p] 37)).alloc (Obj.cells #[Value.pointer none] 37)) := ((Below.refl _ w).alloc (Nat.le_refl _) _).alloc (by simp) _
    refine ⟨0, by omega, rfl, b1, ?_, p, xs, (Blk.fresh w 37 _).more _, HC.out.kept b1 (Nat.le_refl _), by simp [texts]⟩
    have h := Blk.fresh (w.alloc (Obj.cells #[Value.pointer p] 37)) 37 #[Value.pointer none]
    simpa using h
  case round =>
    obtain ⟨k, hk, rfl, hb, hres, q, ys, hbox, hch, hj⟩ := hrel
    have HB := Lib.hid hb
    have HE := Lib.hid hres
    have HCH := Lib.hid hch
    have HJ := Lib.hid hj
    have hcell : wr.cell? ⟨w.heap.size, 0, none⟩ = some (.pointer q) := by rw [hbox.cell]; rfl
    have hfr := hbox.thaw 0
    have hcellr : wr.cell? ⟨w.heap.size + 1, 0, none⟩ = some (.pointer none) := by rw [hres.cell]; rfl
    have hfrr := hres.thaw 0
    have HBX := Lib.hid hbox
    clear hb hres hch hj hbox
    have HN' := HN.out
    by_cases hlt : k < n
    · obtain ⟨b, off, rfl, hbl, hcs⟩ := HR.out.place (by omega)
      have hkp : k < ps.length := by have := HR.out.len; simp at this; omega
      have hcell2 : wr.cell? ⟨b, off + k, none⟩ = some (.string ps[k]) := by
        rw [HB.out.cell hbl, hcs k (by simpa using hkp)]; simp
      have hj2 := texts_take ps k hkp
      have hx32 := HP.out _ (List.getElem_mem hkp)
      clear hcs hbl
      generalize ps[k] = x at *
      have HJ2 := Lib.hid hj2
      have hw32 : IntKind.u32.wrap (x.size : Int) = (x.size : Int) := by rw [IntWalk.u32_in]; omega
      clear hkp hj2
      -- the first call, over the row that was built
      have hcall := four_walk (wr.alloc (.cells #[V4 x.size] 28)) (.agg #[.pointer q]) _ (some ⟨wr.heap.size, 0, none⟩) 1 1 [x.size] ⟨q, ys, rfl, HCH.out.kept ((Below.refl _ wr).alloc (Nat.le_refl _) _) (Nat.le_refl _), rfl⟩ (Row.fresh wr 28 [V4 x.size]) (by omega)
      have HCALL := Lib.hid hcall
      have HX32 := Lib.hid hx32
      clear hcall hx32
      go_wp2_with (first
        | (go_at_call 11; refine HCALL.out.mono ?_; rintro e w5 ⟨v, rfl, hv, hb5⟩; have HV := Lib.hid hv; have HB5 := Lib.hid hb5; clear hv hb5)
        | (go_at_call 15; refine (raw_walk (w5.alloc (.cells #[.string x] 9)) v _ (some ⟨w5.heap.size, 0, none⟩) 1 1 [x] (HV.out.kept ((Below.refl _ w5).alloc (Nat.le_refl _) _) (Nat.le_refl _)) (Row.fresh w5 9 [.string x]) (by omega)).mono ?_
           rintro e w6 ⟨v6, rfl, ⟨q6, ys6, rfl, hch6, hj6⟩, hb6⟩
           have hB6 : Below wr.heap.size wr w6 := (((Below.refl _ wr).alloc (Nat.le_refl _) _).trans (HB5.out.mono (by simp))).trans ((((Below.refl _ w5).alloc (Nat.le_refl _) _).trans (hb6.mono (by simp))).mono (by have := HB5.out.size; simp at this; omega))
           obtain ⟨hbx6, hc6, hf6⟩ := keep_cell HBX.out hB6
           have HBX6 := Lib.hid hbx6
           have HCH6 := Lib.hid hch6
           have HJ6 := Lib.hid hj6
           have HB6 := Lib.hid hB6
           clear hbx6 hch6 hj6 hb6 hB6))
      go_roundw
      case rel =>
        have hb7 : Below w.heap.size w w6 := HB.out.trans (HB6.out.mono HB.out.size)
        refine ⟨k + 1, by omega, by go_num, Below.set hb7 0 (Nat.le_refl _) _, (HE.out.kept HB6.out HE.out.lt).off (by show w.heap.size + 1 ≠ w.heap.size; omega) _, q6, ys6, HBX6.out.put 0 _, HCH6.out.off HBX6.out (by decide) _, ?_⟩
        rw [HJ6.out, HJ2.out, HJ.out]
        simp [joined, textOf, all4]
      case measure => simp [intOf]; omega
    · obtain rfl : k = n := by omega
      go_wp2
      have hb2 : Below w.heap.size w (wr.setCell ⟨w.heap.size + 1, 0, none⟩ (.pointer q)) := Below.set HB.out 0 (by omega) _
      have hl : ps.length = k := by have := HR.out.len; simpa using this.symm
      have hrs := HE.out.put 0 (Value.pointer q)
      exact bodyPost_ret (results_cell_row rfl _ _ (w.heap.size + 1) 37 #[Value.pointer q] (0, 0) _ rfl hrs Try.underlying37 rfl (by kernel_rfl)) rfl
        ⟨_, rfl, ⟨q, ys, rfl, HCH.out.off HE.out (by decide) _, by rw [HJ.out, List.take_of_length_le (by omega)]⟩, hb2⟩
end Go.Proofs.Ytjoiimhifogbhaa
