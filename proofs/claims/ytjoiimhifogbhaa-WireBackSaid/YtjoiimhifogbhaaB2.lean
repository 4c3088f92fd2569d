/- Rows of texts laid. -/
import Derived.Test.YtjoiimhifogbhaaB1
namespace Go.Proofs.Ytjoiimhifogbhaa
open Go.RowKit

set_option maxRecDepth 100000 in
set_option maxHeartbeats 2000000 in
theorem lay18_walk (w : World) (o : Value) (l : List UInt8) (x : ByteArray) (ho : OutIs w o l) (hx : x.size < 4294967296) :
    Calls Try.prog 18 #[o, .string x] w fun e w' => ∃ v, e = .returned v ∧ OutIs w' v (l ++ textOf x) ∧ Below w.heap.size w w' := by
  obtain ⟨p, xs, rfl, hc, rfl⟩ := ho
  have hb : Below w.heap.size w ((w.alloc (Obj.cells #[Value.pointer p] 37)).alloc (Obj.cells #[Value.pointer none] 37)) := ((Below.refl _ w).alloc (Nat.le_refl _) _).alloc (by simp) _
  have hres : Blk ((w.alloc (Obj.cells #[Value.pointer p] 37)).alloc (Obj.cells #[Value.pointer none] 37)) (w.heap.size + 1) 37 #[.pointer none] := by
    have h := Blk.fresh (w.alloc (Obj.cells #[Value.pointer p] 37)) 37 #[Value.pointer none]
    simpa using h
  have hb3 : Below w.heap.size w (((w.alloc (Obj.cells #[Value.pointer p] 37)).alloc (Obj.cells #[Value.pointer none] 37)).alloc (Obj.cells #[.string x] 9)) := hb.alloc (by simp; omega) _
  have hcall := text_walk (((w.alloc (Obj.cells #[Value.pointer p] 37)).alloc (Obj.cells #[Value.pointer none] 37)).alloc (Obj.cells #[.string x] 9)) (.agg #[.pointer p]) _ (some ⟨w.heap.size + 1 + 1, 0, none⟩) 1 1 [x] ⟨p, xs, rfl, hc.kept hb3 (Nat.le_refl _), rfl⟩ (by have h := Row.fresh ((w.alloc (Obj.cells #[Value.pointer p] 37)).alloc (Obj.cells #[Value.pointer none] 37)) 9 [.string x]; simpa using h) (by decide) (by intro y hy; obtain rfl := List.mem_singleton.1 hy; exact hx)
  have HB := Lib.hid hb3
  have HCALL := Lib.hid hcall
  have HRES := Lib.hid (hres.more (Obj.cells #[.string x] 9))
  clear hc hb hb3 hcall hres hx
  go_enter Try.func18, Try.ntmps18
  go_wp2_with (go_at_call 13; refine HCALL.out.mono ?_; rintro e w5 ⟨v, rfl, ⟨q, ys, rfl, hch, hj⟩, hb5⟩; obtain ⟨hR5, hc5, hf5⟩ := keep_cell HRES.out hb5; have HR5 := Lib.hid hR5; have HCH := Lib.hid hch; have HJ := Lib.hid hj; have HB5 := Lib.hid hb5; clear hR5 hch hj hb5)
  have hb6 : Below w.heap.size w (w5.setCell ⟨w.heap.size + 1, 0, none⟩ (.pointer q)) := Below.set (HB.out.trans (HB5.out.mono HB.out.size)) 0 (by omega) _
  exact bodyPost_ret (results_cell_row rfl _ _ (w.heap.size + 1) 37 #[Value.pointer q] (0, 0) _ rfl (HR5.out.put 0 _) Try.underlying37 rfl (by kernel_rfl)) rfl
    ⟨_, rfl, ⟨q, ys, rfl, HCH.out.off HR5.out (by decide) _, by rw [HJ.out]; simp [texts]⟩, hb6⟩
set_option maxRecDepth 100000 in
set_option maxHeartbeats 2000000 in
theorem lay19_walk (w : World) (o : Value) (l : List UInt8) (x : ByteArray) (ho : OutIs w o l) (hx : x.size < 4294967296) :
    Calls Try.prog 19 #[o, .string x] w fun e w' => ∃ v, e = .returned v ∧ OutIs w' v (l ++ textOf x) ∧ Below w.heap.size w w' := by
  obtain ⟨p, xs, rfl, hc, rfl⟩ := ho
  have hb : Below w.heap.size w ((w.alloc (Obj.cells #[Value.pointer p] 37)).alloc (Obj.cells #[Value.pointer none] 37)) := ((Below.refl _ w).alloc (Nat.le_refl _) _).alloc (by simp) _
  have hres : Blk ((w.alloc (Obj.cells #[Value.pointer p] 37)).alloc (Obj.cells #[Value.pointer none] 37)) (w.heap.size + 1) 37 #[.pointer none] := by
    have h := Blk.fresh (w.alloc (Obj.cells #[Value.pointer p] 37)) 37 #[Value.pointer none]
    simpa using h
  have hb3 : Below w.heap.size w (((w.alloc (Obj.cells #[Value.pointer p] 37)).alloc (Obj.cells #[Value.pointer none] 37)).alloc (Obj.cells #[.string x] 9)) := hb.alloc (by simp; omega) _
  have hcall := text_walk (((w.alloc (Obj.cells #[Value.pointer p] 37)).alloc (Obj.cells #[Value.pointer none] 37)).alloc (Obj.cells #[.string x] 9)) (.agg #[.pointer p]) _ (some ⟨w.heap.size + 1 + 1, 0, none⟩) 1 1 [x] ⟨p, xs, rfl, hc.kept hb3 (Nat.le_refl _), rfl⟩ (by have h := Row.fresh ((w.alloc (Obj.cells #[Value.pointer p] 37)).alloc (Obj.cells #[Value.pointer none] 37)) 9 [.string x]; simpa using h) (by decide) (by intro y hy; obtain rfl := List.mem_singleton.1 hy; exact hx)
  have HB := Lib.hid hb3
  have HCALL := Lib.hid hcall
  have HRES := Lib.hid (hres.more (Obj.cells #[.string x] 9))
  clear hc hb hb3 hcall hres hx
  go_enter Try.func19, Try.ntmps19
  go_wp2_with (go_at_call 13; refine HCALL.out.mono ?_; rintro e w5 ⟨v, rfl, ⟨q, ys, rfl, hch, hj⟩, hb5⟩; obtain ⟨hR5, hc5, hf5⟩ := keep_cell HRES.out hb5; have HR5 := Lib.hid hR5; have HCH := Lib.hid hch; have HJ := Lib.hid hj; have HB5 := Lib.hid hb5; clear hR5 hch hj hb5)
  have hb6 : Below w.heap.size w (w5.setCell ⟨w.heap.size + 1, 0, none⟩ (.pointer q)) := Below.set (HB.out.trans (HB5.out.mono HB.out.size)) 0 (by omega) _
  exact bodyPost_ret (results_cell_row rfl _ _ (w.heap.size + 1) 37 #[Value.pointer q] (0, 0) _ rfl (HR5.out.put 0 _) Try.underlying37 rfl (by kernel_rfl)) rfl
    ⟨_, rfl, ⟨q, ys, rfl, HCH.out.off HR5.out (by decide) _, by rw [HJ.out]; simp [texts]⟩, hb6⟩
set_option maxRecDepth 100000 in
set_option maxHeartbeats 2000000 in
theorem row18_walk (w : World) (o : Value) (l : List UInt8) (A : Option Addr) (n c : Nat) (ps : List ByteArray) (ho : OutIs w o l) (hr : Row w A n (ps.map Value.string)) (hn : n < 1000) (hps : ∀ x ∈ ps, x.size < 4294967296) :
    Calls Try.prog 17 #[o, .slice A n c, .func (.func 18) #[] #[]] w fun e w' => ∃ v, e = .returned v ∧ OutIs w' v (l ++ be 4 ps.length ++ texts ps) ∧ Below w.heap.size w w' := by
  obtain ⟨p, xs, rfl, hc, rfl⟩ := ho
  have hlen : ps.length = n := by have := hr.len; simpa using this.symm
  have hb : Below w.heap.size w ((w.alloc (Obj.cells #[Value.pointer p] 37)).alloc (Obj.cells #[Value.pointer none] 37)) := ((Below.refl _ w).alloc (Nat.le_refl _) _).alloc (by simp) _
  have hres : Blk ((w.alloc (Obj.cells #[Value.pointer p] 37)).alloc (Obj.cells #[Value.pointer none] 37)) (w.heap.size + 1) 37 #[.pointer none] := by
    have h := Blk.fresh (w.alloc (Obj.cells #[Value.pointer p] 37)) 37 #[Value.pointer none]
    simpa using h
  have hbox : Blk ((w.alloc (Obj.cells #[Value.pointer p] 37)).alloc (Obj.cells #[Value.pointer none] 37)) w.heap.size 37 #[.pointer p] := (Blk.fresh w 37 _).more _
  have hw32 : IntKind.u32.wrap (n : Int) = (n : Int) := by rw [IntWalk.u32_in]; omega
  have hb3 : Below w.heap.size w (((w.alloc (Obj.cells #[Value.pointer p] 37)).alloc (Obj.cells #[Value.pointer none] 37)).alloc (Obj.cells #[V4 n] 28)) := hb.alloc (by simp; omega) _
  have hcall := four_walk (((w.alloc (Obj.cells #[Value.pointer p] 37)).alloc (Obj.cells #[Value.pointer none] 37)).alloc (Obj.cells #[V4 n] 28)) (.agg #[.pointer p]) _ (some ⟨w.heap.size + 1 + 1, 0, none⟩) 1 1 [n] ⟨p, xs, rfl, hc.kept hb3 (Nat.le_refl _), rfl⟩ (by have h := Row.fresh ((w.alloc (Obj.cells #[Value.pointer p] 37)).alloc (Obj.cells #[Value.pointer none] 37)) 28 [V4 n]; simpa using h) (by decide)
  have HB := Lib.hid hb3
  have HCALL := Lib.hid hcall
  have HRES := Lib.hid (hres.more (Obj.cells #[V4 n] 28))
  have HBOX := Lib.hid (hbox.more (Obj.cells #[V4 n] 28))
  have HR := Lib.hid hr
  have HN := Lib.hid hn
  have HP := Lib.hid hps
  have HL := Lib.hid hlen
  clear hc hb hb3 hcall hres hbox hr hn hps hlen
  go_enter Try.func17, Try.ntmps17
  go_wp2_with (go_at_call 11; refine HCALL.out.mono ?_; rintro e w5 ⟨v, rfl, ⟨q, ys, rfl, hch, hj⟩, hb5⟩; obtain ⟨hR5, hc5, hf5⟩ := keep_cell HBOX.out hb5; have HR5 := Lib.hid hR5; have HS5 := Lib.hid (keep_cell HRES.out hb5).1; have HCH := Lib.hid hch; have HJ := Lib.hid hj; have HB5 := Lib.hid hb5; clear hR5 hch hj hb5)
  have hb6 : Below w.heap.size w (w5.setCell ⟨w.heap.size, 0, none⟩ (.pointer q)) := Below.set (HB.out.trans (HB5.out.mono HB.out.size)) 0 (Nat.le_refl _) _
  have hbx6 : Blk (w5.setCell ⟨w.heap.size, 0, none⟩ (.pointer q)) w.heap.size 37 #[.pointer q] := HR5.out.put 0 _
  have hrs6 : Blk (w5.setCell ⟨w.heap.size, 0, none⟩ (.pointer q)) (w.heap.size + 1) 37 #[.pointer none] := HS5.out.off (by show w.heap.size + 1 ≠ w.heap.size; omega) _
  have hch6 : Chain (w5.setCell ⟨w.heap.size, 0, none⟩ (.pointer q)) q ys := HCH.out.off HR5.out (by decide) _
  generalize (w5.setCell ⟨w.heap.size, 0, none⟩ (.pointer q)) = w6 at *
  have HB6 := Lib.hid hb6
  have HBX6 := Lib.hid hbx6
  have HRS6 := Lib.hid hrs6
  have HCH6 := Lib.hid hch6
  clear hb6 hbx6 hrs6 hch6 HR5 HS5 HCH HB5 HCALL HRES HBOX hc5 hf5 HB
  go_loopw [17] (fun i wr => ∃ k : Nat, k ≤ n ∧ i = .int .i64 k ∧ Below w.heap.size w wr ∧ Blk wr (w.heap.size + 1) 37 #[.pointer none] ∧ ∃ q2 zs, Blk wr w.heap.size 37 #[.pointer q2] ∧ Chain wr q2 zs ∧ joined zs.reverse = joined xs.reverse ++ all4 [n] ++ texts (ps.take k)) (fun i _ => n - (intOf i).toNat)
  case atStart => exact ⟨0, by omega, rfl, HB6.out, HRS6.out, q, ys, HBX6.out, HCH6.out, by rw [HJ.out]; simp [texts]⟩
  case round =>
    obtain ⟨k, hk, rfl, hb, hres, q2, zs, hbox, hch, hj⟩ := hrel
    have HB := Lib.hid hb
    have HE := Lib.hid hres
    have HCHR := Lib.hid hch
    have HJR := Lib.hid hj
    have hcell : wr.cell? ⟨w.heap.size, 0, none⟩ = some (.pointer q2) := by rw [hbox.cell]; rfl
    have hcellr : wr.cell? ⟨w.heap.size + 1, 0, none⟩ = some (.pointer none) := by rw [hres.cell]; rfl
    have hfrr := hres.thaw 0
    have HBX := Lib.hid hbox
    clear hb hres hch hj hbox
    have HN' := HN.out
    by_cases hlt : k < n
    · obtain ⟨b, off, rfl, hbl, hcs⟩ := HR.out.place (by omega)
      have hkp : k < ps.length := by rw [HL.out]; exact hlt
      have hcell2 : wr.cell? ⟨b, off + k, none⟩ = some (.string ps[k]) := by
        rw [HB.out.cell hbl, hcs k (by simpa using hkp)]; simp
      have hj2 := texts_take ps k hkp
      have hx32 := HP.out _ (List.getElem_mem hkp)
      clear hcs hbl
      generalize ps[k] = x at *
      have HJ2 := Lib.hid hj2
      clear hkp hj2
      have hcall := lay18_walk wr (.agg #[.pointer q2]) _ x ⟨q2, zs, rfl, HCHR.out, rfl⟩ hx32
      have HCALL := Lib.hid hcall
      clear hcall hx32
      go_wp2_with (go_at_call 18; refine HCALL.out.mono ?_; rintro e w7 ⟨v7, rfl, ⟨q7, ys7, rfl, hch7, hj7⟩, hb7⟩; have HB7 := Lib.hid hb7; obtain ⟨hbx7, hc7, hf7⟩ := keep_cell HBX.out hb7; have HBX7 := Lib.hid hbx7; have HCH7 := Lib.hid hch7; have HJ7 := Lib.hid hj7; clear hbx7 hch7 hj7 hb7)
      go_roundw
      case rel =>
        have hb8 : Below w.heap.size w w7 := HB.out.trans (HB7.out.mono HB.out.size)
        refine ⟨k + 1, by omega, by go_num, Below.set hb8 0 (Nat.le_refl _) _, (HE.out.kept HB7.out HE.out.lt).off (by show w.heap.size + 1 ≠ w.heap.size; omega) _, q7, ys7, HBX7.out.put 0 _, HCH7.out.off HBX7.out (by decide) _, ?_⟩
        rw [HJ7.out, HJ2.out, HJR.out, List.append_assoc]
      case measure => simp [intOf]; omega
    · obtain rfl : k = n := by omega
      go_wp2
      have hb2 : Below w.heap.size w (wr.setCell ⟨w.heap.size + 1, 0, none⟩ (.pointer q2)) := Below.set HB.out 0 (by omega) _
      have hrs := HE.out.put 0 (Value.pointer q2)
      exact bodyPost_ret (results_cell_row rfl _ _ (w.heap.size + 1) 37 #[Value.pointer q2] (0, 0) _ rfl hrs Try.underlying37 rfl (by kernel_rfl)) rfl
        ⟨_, rfl, ⟨q2, zs, rfl, HCHR.out.off HE.out (by decide) _, by rw [HJR.out, List.take_of_length_le (by rw [HL.out]; omega), HL.out]; simp [all4]⟩, hb2⟩
set_option maxRecDepth 100000 in
set_option maxHeartbeats 2000000 in
theorem row19_walk (w : World) (o : Value) (l : List UInt8) (A : Option Addr) (n c : Nat) (ps : List ByteArray) (ho : OutIs w o l) (hr : Row w A n (ps.map Value.string)) (hn : n < 1000) (hps : ∀ x ∈ ps, x.size < 4294967296) :
    Calls Try.prog 17 #[o, .slice A n c, .func (.func 19) #[] #[]] w fun e w' => ∃ v, e = .returned v ∧ OutIs w' v (l ++ be 4 ps.length ++ texts ps) ∧ Below w.heap.size w w' := by
  obtain ⟨p, xs, rfl, hc, rfl⟩ := ho
  have hlen : ps.length = n := by have := hr.len; simpa using this.symm
  have hb : Below w.heap.size w ((w.alloc (Obj.cells #[Value.pointer p] 37)).alloc (Obj.cells #[Value.pointer none] 37)) := ((Below.refl _ w).alloc (Nat.le_refl _) _).alloc (by simp) _
  have hres : Blk ((w.alloc (Obj.cells #[Value.pointer p] 37)).alloc (Obj.cells #[Value.pointer none] 37)) (w.heap.size + 1) 37 #[.pointer none] := by
    have h := Blk.fresh (w.alloc (Obj.cells #[Value.pointer p] 37)) 37 #[Value.pointer none]
    simpa using h
  have hbox : Blk ((w.alloc (Obj.cells #[Value.pointer p] 37)).alloc (Obj.cells #[Value.pointer none] 37)) w.heap.size 37 #[.pointer p] := (Blk.fresh w 37 _).more _
  have hw32 : IntKind.u32.wrap (n : Int) = (n : Int) := by rw [IntWalk.u32_in]; omega
  have hb3 : Below w.heap.size w (((w.alloc (Obj.cells #[Value.pointer p] 37)).alloc (Obj.cells #[Value.pointer none] 37)).alloc (Obj.cells #[V4 n] 28)) := hb.alloc (by simp; omega) _
  have hcall := four_walk (((w.alloc (Obj.cells #[Value.pointer p] 37)).alloc (Obj.cells #[Value.pointer none] 37)).alloc (Obj.cells #[V4 n] 28)) (.agg #[.pointer p]) _ (some ⟨w.heap.size + 1 + 1, 0, none⟩) 1 1 [n] ⟨p, xs, rfl, hc.kept hb3 (Nat.le_refl _), rfl⟩ (by have h := Row.fresh ((w.alloc (Obj.cells #[Value.pointer p] 37)).alloc (Obj.cells #[Value.pointer none] 37)) 28 [V4 n]; simpa using h) (by decide)
  have HB := Lib.hid hb3
  have HCALL := Lib.hid hcall
  have HRES := Lib.hid (hres.more (Obj.cells #[V4 n] 28))
  have HBOX := Lib.hid (hbox.more (Obj.cells #[V4 n] 28))
  have HR := Lib.hid hr
  have HN := Lib.hid hn
  have HP := Lib.hid hps
  have HL := Lib.hid hlen
  clear hc hb hb3 hcall hres hbox hr hn hps hlen
  go_enter Try.func17, Try.ntmps17
  go_wp2_with (go_at_call 11; refine HCALL.out.mono ?_; rintro e w5 ⟨v, rfl, ⟨q, ys, rfl, hch, hj⟩, hb5⟩; obtain ⟨hR5, hc5, hf5⟩ := keep_cell HBOX.out hb5; have HR5 := Lib.hid hR5; have HS5 := Lib.hid (keep_cell HRES.out hb5).1; have HCH := Lib.hid hch; have HJ := Lib.hid hj; have HB5 := Lib.hid hb5; clear hR5 hch hj hb5)
  have hb6 : Below w.heap.size w (w5.setCell ⟨w.heap.size, 0, none⟩ (.pointer q)) := Below.set (HB.out.trans (HB5.out.mono HB.out.size)) 0 (Nat.le_refl _) _
  have hbx6 : Blk (w5.setCell ⟨w.heap.size, 0, none⟩ (.pointer q)) w.heap.size 37 #[.pointer q] := HR5.out.put 0 _
  have hrs6 : Blk (w5.setCell ⟨w.heap.size, 0, none⟩ (.pointer q)) (w.heap.size + 1) 37 #[.pointer none] := HS5.out.off (by show w.heap.size + 1 ≠ w.heap.size; omega) _
  have hch6 : Chain (w5.setCell ⟨w.heap.size, 0, none⟩ (.pointer q)) q ys := HCH.out.off HR5.out (by decide) _
  generalize (w5.setCell ⟨w.heap.size, 0, none⟩ (.pointer q)) = w6 at *
  have HB6 := Lib.hid hb6
  have HBX6 := Lib.hid hbx6
  have HRS6 := Lib.hid hrs6
  have HCH6 := Lib.hid hch6
  clear hb6 hbx6 hrs6 hch6 HR5 HS5 HCH HB5 HCALL HRES HBOX hc5 hf5 HB
  go_loopw [17] (fun i wr => ∃ k : Nat, k ≤ n ∧ i = .int .i64 k ∧ Below w.heap.size w wr ∧ Blk wr (w.heap.size + 1) 37 #[.pointer none] ∧ ∃ q2 zs, Blk wr w.heap.size 37 #[.pointer q2] ∧ Chain wr q2 zs ∧ joined zs.reverse = joined xs.reverse ++ all4 [n] ++ texts (ps.take k)) (fun i _ => n - (intOf i).toNat)
  case atStart => exact ⟨0, by omega, rfl, HB6.out, HRS6.out, q, ys, HBX6.out, HCH6.out, by rw [HJ.out]; simp [texts]⟩
  case round =>
    obtain ⟨k, hk, rfl, hb, hres, q2, zs, hbox, hch, hj⟩ := hrel
    have HB := Lib.hid hb
    have HE := Lib.hid hres
    have HCHR := Lib.hid hch
    have HJR := Lib.hid hj
    have hcell : wr.cell? ⟨w.heap.size, 0, none⟩ = some (.pointer q2) := by rw [hbox.cell]; rfl
    have hcellr : wr.cell? ⟨w.heap.size + 1, 0, none⟩ = some (.pointer none) := by rw [hres.cell]; rfl
    have hfrr := hres.thaw 0
    have HBX := Lib.hid hbox
    clear hb hres hch hj hbox
    have HN' := HN.out
    by_cases hlt : k < n
    · obtain ⟨b, off, rfl, hbl, hcs⟩ := HR.out.place (by omega)
      have hkp : k < ps.length := by rw [HL.out]; exact hlt
      have hcell2 : wr.cell? ⟨b, off + k, none⟩ = some (.string ps[k]) := by
        rw [HB.out.cell hbl, hcs k (by simpa using hkp)]; simp
      have hj2 := texts_take ps k hkp
      have hx32 := HP.out _ (List.getElem_mem hkp)
      clear hcs hbl
      generalize ps[k] = x at *
      have HJ2 := Lib.hid hj2
      clear hkp hj2
      have hcall := lay19_walk wr (.agg #[.pointer q2]) _ x ⟨q2, zs, rfl, HCHR.out, rfl⟩ hx32
      have HCALL := Lib.hid hcall
      clear hcall hx32
      go_wp2_with (go_at_call 19; refine HCALL.out.mono ?_; rintro e w7 ⟨v7, rfl, ⟨q7, ys7, rfl, hch7, hj7⟩, hb7⟩; have HB7 := Lib.hid hb7; obtain ⟨hbx7, hc7, hf7⟩ := keep_cell HBX.out hb7; have HBX7 := Lib.hid hbx7; have HCH7 := Lib.hid hch7; have HJ7 := Lib.hid hj7; clear hbx7 hch7 hj7 hb7)
      go_roundw
      case rel =>
        have hb8 : Below w.heap.size w w7 := HB.out.trans (HB7.out.mono HB.out.size)
        refine ⟨k + 1, by omega, by go_num, Below.set hb8 0 (Nat.le_refl _) _, (HE.out.kept HB7.out HE.out.lt).off (by show w.heap.size + 1 ≠ w.heap.size; omega) _, q7, ys7, HBX7.out.put 0 _, HCH7.out.off HBX7.out (by decide) _, ?_⟩
        rw [HJ7.out, HJ2.out, HJR.out, List.append_assoc]
      case measure => simp [intOf]; omega
    · obtain rfl : k = n := by omega
      go_wp2
      have hb2 : Below w.heap.size w (wr.setCell ⟨w.heap.size + 1, 0, none⟩ (.pointer q2)) := Below.set HB.out 0 (by omega) _
      have hrs := HE.out.put 0 (Value.pointer q2)
      exact bodyPost_ret (results_cell_row rfl _ _ (w.heap.size + 1) 37 #[Value.pointer q2] (0, 0) _ rfl hrs Try.underlying37 rfl (by kernel_rfl)) rfl
        ⟨_, rfl, ⟨q2, zs, rfl, HCHR.out.off HE.out (by decide) _, by rw [HJR.out, List.take_of_length_le (by rw [HL.out]; omega), HL.out]; simp [all4]⟩, hb2⟩
end Go.Proofs.Ytjoiimhifogbhaa
