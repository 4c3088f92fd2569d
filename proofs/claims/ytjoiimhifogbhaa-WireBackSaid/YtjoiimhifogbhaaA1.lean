/- Raw lays texts behind what was laid. -/
import Derived.Test.YtjoiimhifogbhaaA0
namespace Go.Proofs.Ytjoiimhifogbhaa
open Go.RowKit

theorem joined_take (ps : List ByteArray) (k : Nat) (h : k < ps.length) : joined (ps.take (k + 1)) = joined (ps.take k) ++ ps[k].data.toList := by
  rw [List.take_succ_eq_append_getElem h, joined_append]; simp [joined]
theorem size_zero (x : ByteArray) (h : ¬ 0 < x.size) : x.data.toList = [] := by
  have h1 : x = ByteArray.empty := by simpa using h
  rw [h1]; rfl

set_option maxRecDepth 100000 in
set_option maxHeartbeats 2000000 in
theorem raw_walk (w : World) (o : Value) (l : List UInt8) (A : Option Addr) (n c : Nat) (ps : List ByteArray) (ho : OutIs w o l) (hr : Row w A n (ps.map Value.string)) (hn : n < 1000) :
    Calls Try.prog 15 #[o, .slice A n c] w fun e w' => ∃ v, e = .returned v ∧ OutIs w' v (l ++ joined ps) ∧ Below w.heap.size w w' := by
  obtain ⟨p, xs, rfl, hc, rfl⟩ := ho
  have HC := Lib.hid hc
  have HR := Lib.hid hr
  have HN := Lib.hid hn
  clear hc hr hn
  go_enter Try.func15, Try.ntmps15
  go_wp2
  go_loopw [9] (fun i wr => ∃ k : Nat, k ≤ n ∧ i = .int .i64 k ∧ Below w.heap.size w wr ∧ w.heap.size + 2 ≤ wr.heap.size ∧ Blk wr (w.heap.size + 1) 37 #[.pointer none] ∧ ∃ q ys, Blk wr w.heap.size 37 #[.pointer q] ∧ Chain wr q ys ∧ joined ys.reverse = joined xs.reverse ++ joined (ps.take k)) (fun i _ => n - (intOf i).toNat)
  case atStart =>
    have b1 : Below w.heap.size w ((w.alloc (Obj.cells #[Value.pointer p] 37)).alloc (Obj.cells #[Value.pointer none] 37)) := ((Below.refl _ w).alloc (Nat.le_refl _) _).alloc (by simp) _
    refine ⟨0, by omega, rfl, b1, by simp, ?_, p, xs, (Blk.fresh w 37 _).more _, HC.out.kept b1 (Nat.le_refl _), by simp [joined]⟩
    have h := Blk.fresh (w.alloc (Obj.cells #[Value.pointer p] 37)) 37 #[Value.pointer none]
    simpa using h
  case round =>
    obtain ⟨k, hk, rfl, hb, hsz, hres, q, ys, hbox, hch, hj⟩ := hrel
    have HB := Lib.hid hb
    have HS := Lib.hid hsz
    have HE := Lib.hid hres
    have HCH := Lib.hid hch
    have HJ := Lib.hid hj
    have hcell : wr.cell? ⟨w.heap.size, 0, none⟩ = some (.pointer q) := by rw [hbox.cell]; rfl
    have hfr := hbox.thaw 0
    have hcellr : wr.cell? ⟨w.heap.size + 1, 0, none⟩ = some (.pointer none) := by rw [hres.cell]; rfl
    have hfrr := hres.thaw 0
    have HBX := Lib.hid hbox
    clear hb hsz hres hch hj hbox
    have HN' := HN.out
    by_cases hlt : k < n
    · obtain ⟨b, off, rfl, hbl, hcs⟩ := HR.out.place (by omega)
      have hkp : k < ps.length := by have := HR.out.len; simp at this; omega
      have hcell2 : wr.cell? ⟨b, off + k, none⟩ = some (.string ps[k]) := by
        rw [HB.out.cell hbl, hcs k (by simpa using hkp)]; simp
      have HK := Lib.hid hkp
      have HBL := Lib.hid hbl
      clear hcs hbl
      generalize hs : ps[k] = x at *
      have HXX := Lib.hid hs
      clear hs hkp
      have hj2 : joined (ps.take (k + 1)) = joined (ps.take k) ++ x.data.toList := by rw [joined_take ps k HK.out]; exact congrArg (fun z : ByteArray => joined (ps.take k) ++ z.data.toList) HXX.out
      have HJ2 := Lib.hid hj2
      clear hj2
      by_cases he : x.toList.isEmpty = true
      · have hx0 : x.data.toList = [] := by rw [ByteArray.toList_eq] at he; simpa using he
        go_wp2
        go_roundw
        case rel =>
          refine ⟨k + 1, by omega, by go_num, HB.out, HS.out, HE.out, q, ys, HBX.out, HCH.out, ?_⟩
          rw [HJ.out, HJ2.out, hx0, List.append_nil]
        case measure => simp [intOf]; omega
      · have he' : x.toList.isEmpty = false := by simpa using he
        clear he
        have hx0 : 0 < x.size := by
          rw [ByteArray.toList_eq] at he'
          rcases Nat.eq_zero_or_pos x.size with h | h
          · rw [show x = ByteArray.empty by simpa using h] at he'; cases he'
          · exact h
        have HX0 := Lib.hid hx0
        clear hx0
        have c2 := (HBX.out.more (Obj.cells #[Value.pointer q, Value.string x] 66)).cell 0
        rw [show (#[Value.pointer q] : Array Value)[0]? = some (.pointer q) from rfl] at c2
        have f2 := (HBX.out.more (Obj.cells #[Value.pointer q, Value.string x] 66)).thaw 0
        go_wp2
        go_roundw
        case rel =>
          have b1 : Below w.heap.size w (wr.alloc (Obj.cells #[Value.pointer q, Value.string x] 66)) := HB.out.alloc HB.out.size _
          have hch := HCH.out.kept ((Below.refl wr.heap.size wr).alloc (Nat.le_refl _) (Obj.cells #[Value.pointer q, Value.string x] 66)) (Nat.le_refl _)
          have hbx := (HBX.out.more (Obj.cells #[Value.pointer q, Value.string x] 66)).put 0 (Value.pointer (some ⟨wr.heap.size, 0, none⟩))
          have hnew := (Blk.fresh wr 66 #[Value.pointer q, Value.string x]).off (a := ⟨w.heap.size, 0, none⟩) (by show wr.heap.size ≠ w.heap.size; have := HS.out; omega) (Value.pointer (some ⟨wr.heap.size, 0, none⟩))
          refine ⟨k + 1, by omega, by go_num, Below.set b1 0 (Nat.le_refl _) _, ?_, (HE.out.more _).off (by show w.heap.size + 1 ≠ w.heap.size; omega) _, some ⟨wr.heap.size, 0, none⟩, x :: ys, hbx, ⟨wr.heap.size, q, rfl, HX0.out, hnew, hch.off (HBX.out.more _) (by decide) _⟩, ?_⟩
          · have := HS.out; simp [World.setCell]; omega
          · rw [List.reverse_cons, joined_append, HJ.out, HJ2.out, List.append_assoc]; simp [joined]
        case measure => simp [intOf]; omega
    · obtain rfl : k = n := by omega
      go_wp2
      have hb2 : Below w.heap.size w (wr.setCell ⟨w.heap.size + 1, 0, none⟩ (.pointer q)) := Below.set HB.out 0 (by omega) _
      have hl : ps.length = k := by have := HR.out.len; simpa using this.symm
      have hrs := HE.out.put 0 (Value.pointer q)
      exact bodyPost_ret (results_cell_row rfl _ _ (w.heap.size + 1) 37 #[Value.pointer q] (0, 0) _ rfl hrs Try.underlying37 rfl (by kernel_rfl)) rfl
        ⟨_, rfl, ⟨q, ys, rfl, HCH.out.off HE.out (by decide) _, by rw [HJ.out, List.take_of_length_le (by omega)]⟩, hb2⟩
end Go.Proofs.Ytjoiimhifogbhaa
