/- Numbers of eight bytes laid behind what was laid. -/
import Derived.Test.YtjoiimhifogbhaaA3
namespace Go.Proofs.Ytjoiimhifogbhaa
open Go.RowKit

/-- A number as a value. -/
def V8 (x : Nat) : Value := .int .u64 (x : Int)
theorem shr8 (x m : Nat) (hm : m < 8) (w : World) : (binOp .shr 30 (V8 x) (.int .i64 (8 * (m : Int)))).run Try.prog w = .ok (V8 (x / 256 ^ m)) w := by
  have h0 : ¬ (8 * (m : Int)) < 0 := by omega
  have hb : min (8 * (m : Int)).toNat IntKind.u64.bits = 8 * m := by rw [show IntKind.u64.bits = 64 from rfl]; omega
  have e2 : ((2 : Int) ^ (8 * m)) = ((256 ^ m : Nat) : Int) := by rw [show (256 : Nat) = 2 ^ 8 from rfl, ← Nat.pow_mul]; norm_cast
  have e : (x : Int).fdiv (2 ^ (8 * m)) = ((x / 256 ^ m : Nat) : Int) := by
    rw [Int.fdiv_eq_ediv_of_nonneg _ (Int.le_of_lt (Int.pow_pos (by decide))), e2]
    norm_cast
  have h := show (binOp .shr 30 (V8 x) (.int .i64 (8 * (m : Int)))).run Try.prog w = (Op.shift .shr .u64 (x : Int) .i64 (8 * (m : Int))).run Try.prog w from rfl
  rw [h, V8]
  simp only [Op.shift, h0, if_false, hb, e]
  rfl
theorem cut8 (x : Nat) (w : World) : (convert 30 5 (V8 x)).run Try.prog w = .ok (U (UInt8.ofNat x)) w := by
  show Result.ok (Value.int .u8 (IntKind.u8.wrap (x : Int))) w = _
  rw [U_def, IntKind.wrap_u8]
  simp
def all8 (ns : List Nat) : List UInt8 := ns.flatMap (be 8)
theorem all8_take (ns : List Nat) (k : Nat) (h : k < ns.length) : all8 (ns.take (k + 1)) = all8 (ns.take k) ++ be 8 ns[k] := by
  rw [List.take_succ_eq_append_getElem h, all8, List.flatMap_append]; simp [all8]
theorem all8_length (ns : List Nat) : (all8 ns).length = 8 * ns.length := by
  induction ns with
  | nil => rfl
  | cons x r ih => simp only [all8, List.flatMap_cons, List.length_append, be_length, List.length_cons] at *; omega

set_option maxRecDepth 100000 in
set_option maxHeartbeats 2000000 in
theorem num8_walk (w : World) (o : Value) (l : List UInt8) (A : Option Addr) (n c : Nat) (ns : List Nat) (ho : OutIs w o l) (hr : Row w A n (ns.map V8)) (hn : n < 1000) :
    Calls Try.prog 36 #[o, .int .i64 8, .slice A n c] w fun e w' => ∃ v, e = .returned v ∧ OutIs w' v (l ++ all8 ns) ∧ Below w.heap.size w w' := by
  obtain ⟨p, xs, rfl, hc, rfl⟩ := ho
  have HC := Lib.hid hc
  have HR := Lib.hid hr
  have HN := Lib.hid hn
  have hw : IntKind.i64.wrap (8 * (n : Int)) = 8 * (n : Int) := by rw [IntWalk.i64_in]; omega
  obtain ⟨Z, hZ, hZs⟩ : ∃ Z : Array Value, Z = madeCells (Value.int .u8 0).cells (8 * n * 1) ∧ Z.size = 8 * n := ⟨_, rfl, by rw [size_madeCells]; omega⟩
  have hmk : ∀ w, (Instr.makeSlice 27 (.int .i64 0) (.int .i64 (8 * (n : Int)))).run Try.prog w = .ok (.slice (some ⟨w.heap.size, 0, none⟩) 0 (8 * n)) (w.alloc (.cells Z 5)) := by
    intro w
    have h := run_make (P := Try.prog) w 27 5 _ (.int .u8 0) Try.underlying27 (show Try.prog.info? 5 = some _ from rfl) rfl .i64 .i64 0 (8 * (n : Int)) (by omega) (by omega) (by show ((1 : Nat) : Int) * _ ≤ _; omega) (by omega)
    rw [h, hZ]
    have e : (8 * (n : Int)).toNat = 8 * n := by omega
    rw [e]; rfl
  have HZS := Lib.hid hZs
  clear hc hr hn hZ hZs
  go_enter Try.func36, Try.ntmps36
  go_wp2
  have hbA : Below w.heap.size w (((w.alloc (Obj.cells #[Value.pointer p] 37)).alloc (Obj.cells #[Value.pointer none] 37)).alloc (Obj.cells Z 5)) := (((Below.refl _ w).alloc (Nat.le_refl _) _).alloc (by simp) _).alloc (by simp; omega) _
  have hb0 : Blk (((w.alloc (Obj.cells #[Value.pointer p] 37)).alloc (Obj.cells #[Value.pointer none] 37)).alloc (Obj.cells Z 5)) w.heap.size 37 #[.pointer p] := ((Blk.fresh w 37 _).more _).more _
  have hb1 : Blk (((w.alloc (Obj.cells #[Value.pointer p] 37)).alloc (Obj.cells #[Value.pointer none] 37)).alloc (Obj.cells Z 5)) (w.heap.size + 1) 37 #[.pointer none] := by
    have h := (Blk.fresh (w.alloc (Obj.cells #[Value.pointer p] 37)) 37 #[Value.pointer none]).more (Obj.cells Z 5)
    simpa using h
  have hb2 : Buf (((w.alloc (Obj.cells #[Value.pointer p] 37)).alloc (Obj.cells #[Value.pointer none] 37)).alloc (Obj.cells Z 5)) (w.heap.size + 1 + 1) (8 * n) [] := by
    have h := Blk.fresh ((w.alloc (Obj.cells #[Value.pointer p] 37)).alloc (Obj.cells #[Value.pointer none] 37)) 5 Z
    exact ⟨Z, by simpa using h, HZS.out, rfl⟩
  clear hmk
  have HBA := Lib.hid hbA
  have HB0 := Lib.hid hb0
  have HB1 := Lib.hid hb1
  have HB2 := Lib.hid hb2
  clear hbA hb0 hb1 hb2
  generalize (((w.alloc (Obj.cells #[Value.pointer p] 37)).alloc (Obj.cells #[Value.pointer none] 37)).alloc (Obj.cells Z 5)) = wA at *
  obtain ⟨g, hg⟩ : ∃ g, g = w.heap.size + 1 + 1 := ⟨_, rfl⟩
  rw [← hg] at HB2 ⊢
  have HG := Lib.hid hg
  clear hg HZS
  go_loopw [7, 18] (fun v i wr => ∃ k : Nat, k ≤ n ∧ i = .int .i64 k ∧ v = .slice (some ⟨g, 0, none⟩) (8 * k) (8 * n) ∧ Ex g wA wr ∧ Buf wr g (8 * n) (all8 (ns.take k))) (fun _ i _ => n - (intOf i).toNat)
  case atStart => exact ⟨0, by omega, rfl, rfl, Ex.refl _ _, HB2.out⟩
  case round =>
    obtain ⟨k, hk, rfl, rfl, hex, hbuf⟩ := hrel
    have HE := Lib.hid hex
    have HBF := Lib.hid hbuf
    clear hex hbuf
    have HN' := HN.out
    by_cases hlt : k < n
    · obtain ⟨b, off, rfl, hbl, hcs⟩ := HR.out.place (by omega)
      have hkp : k < ns.length := by have := HR.out.len; simp at this; omega
      have hcell2 : wr.cell? ⟨b, off + k, none⟩ = some (V8 ns[k]) := by
        rw [World.cell?_of_block (w := wA) (HE.out.block b (Nat.lt_of_lt_of_le hbl HBA.out.size) (by have := HG.out; omega)), HBA.out.cell hbl, hcs k (by simpa using hkp)]; simp
      have hj2 : all8 (ns.take (k + 1)) = all8 (ns.take k) ++ be 8 ns[k] := all8_take ns k hkp
      have hlen : (all8 (ns.take k)).length = 8 * k := by rw [all8_length, List.length_take]; omega
      have HL := Lib.hid hlen
      clear hcs hbl hlen
      generalize ns[k] = x at *
      have HJ2 := Lib.hid hj2
      clear hj2 hkp
      go_wp2
      go_loopw [7, 10] (fun v i wi => ∃ m : Nat, m ≤ 8 ∧ i = .int .i64 ((m : Int) - 1) ∧ v = .slice (some ⟨g, 0, none⟩) (8 * k + (8 - m)) (8 * n) ∧ Ex g wA wi ∧ ∃ D, D ++ be m x = be 8 x ∧ D.length = 8 - m ∧ Buf wi g (8 * n) (all8 (ns.take k) ++ D)) (fun _ i _ => (intOf i + 1).toNat)
      case atStart => exact ⟨8, by omega, rfl, rfl, HE.out, [], rfl, rfl, by rw [List.append_nil]; exact HBF.out⟩
      case round =>
        obtain ⟨m, hm, rfl, rfl, hexi, D, hD, hDl, cur, hcb, hcs, hct⟩ := hrel
        have HEI := Lib.hid hexi
        have HD := Lib.hid hD
        have HDL := Lib.hid hDl
        have HCB := Lib.hid hcb
        have HCS := Lib.hid hcs
        have HCT := Lib.hid hct
        clear hexi hD hDl hcb hcs hct
        cases m with
        | zero =>
          rw [show (((0 : Nat) : Int) - 1) = -1 from rfl]
          go_wp2
          go_roundw
          case rel =>
            have e : D = be 8 x := by have := HD.out; rwa [be, List.append_nil] at this
            refine ⟨k + 1, by omega, by go_num, by rw [show 8 * (k + 1) = 8 * k + (8 - 0) by omega], HEI.out, cur, HCB.out, HCS.out, ?_⟩
            rw [HJ2.out, ← e]
            exact HCT.out
          case measure => simp [intOf]; omega
        | succ m =>
          rw [show (((m + 1 : Nat) : Int) - 1) = (m : Int) by omega]
          have q1 := shr8 x m (by omega)
          have q2 := cut8 (x / 256 ^ m)
          have hw8 : IntKind.i64.wrap (8 * (m : Int)) = 8 * (m : Int) := by rw [IntWalk.i64_in]; omega
          have r6 : ∀ x, (U x).cells = #[U x] := fun _ => rfl
          unfold Value.cells at r6
          have hdl2 : (all8 (ns.take k) ++ D).length = 8 * k + (8 - (m + 1)) := by rw [List.length_append, HL.out, HDL.out]
          have HDL2 := Lib.hid hdl2
          clear hdl2
          go_wp2_with (refine wpList_append_fit rfl (.tmp 28) (.tmp 34) 27 rfl 5 _ Try.underlying27 rfl rfl g 5 (8 * k + (8 - (m + 1))) (8 * n) cur rfl (HCB.out.more _) ⟨wr.heap.size, 0, none⟩ 1 1 [U (UInt8.ofNat (x / 256 ^ m))] rfl rfl (cells_of_blk (Blk.fresh wr 5 _)) (by simp; rfl) (by omega) (by rw [HCS.out]; omega) ?_; intro w4 hb4 hx4; have HB4 := Lib.hid hb4; have HX4 := Lib.hid hx4; clear hb4 hx4)
          go_roundw
          case rel =>
            have hl2 := HDL2.out
            have hlt := lay_take cur (all8 (ns.take k) ++ D) (UInt8.ofNat (x / 256 ^ m)) HCT.out (by rw [HCS.out, hl2]; omega)
            rw [hl2] at hlt
            refine ⟨m, by omega, by go_num, by congr 1; omega, (HEI.out.trans (Ex.alloc g wr _)).trans HX4.out, D ++ [UInt8.ofNat (x / 256 ^ m)], ?_, ?_, _, HB4.out, by rw [hlt.2, HCS.out], ?_⟩
            · have h := HD.out
              rw [be] at h
              rw [List.append_assoc]; exact h
            · rw [List.length_append, HDL.out, List.length_singleton]; omega
            · rw [← List.append_assoc]; exact hlt.1
          case measure => simp [intOf]
    · obtain rfl : k = n := by omega
      have hln : ns.length = k := by have := HR.out.len; simpa using this.symm
      have hbf := HBF.out
      rw [List.take_of_length_le (by omega)] at hbf
      have hl : (all8 ns).length = 8 * k := by rw [all8_length, hln]
      have hcv : (convert 27 9 (.slice (some ⟨g, 0, none⟩) (8 * k) (8 * k))).run Try.prog wr = .ok (.string (bstr (all8 ns))) wr := by
        have h := run_convert_bytes_arg (P := Try.prog) wr 27 5 Try.underlying27 Try.underlying5 g 0 (8 * k) (8 * k) ((all8 ns).map fun b => (b.toNat : Int)) (by simpa using hl) (fun i hi => by
          rw [Nat.zero_add, hbf.bytes i (by omega)]
          simp [U_def, List.getD, hl, hi]) 9 Try.underlying9
        rw [h, nums_bytes]
      have hbw : Below w.heap.size w wr := Ex.below HBA.out HE.out (by have := HG.out; omega) HBA.out.size
      have hbx := HE.out.blk HB0.out (by have := HG.out; omega)
      have hrs := HE.out.blk HB1.out (by have := HG.out; omega)
      have hc0 : wr.cell? ⟨w.heap.size, 0, none⟩ = some (.pointer p) := by rw [hbx.cell]; rfl
      have hszr := hrs.lt
      have hcall := raw_walk (wr.alloc (.cells #[.string (bstr (all8 ns))] 9)) (.agg #[.pointer p]) (joined xs.reverse) (some ⟨wr.heap.size, 0, none⟩) 1 1 [bstr (all8 ns)] ⟨p, xs, rfl, HC.out.kept (hbw.alloc hbw.size _) (Nat.le_refl _), rfl⟩ (Row.fresh wr 9 [_]) (by omega)
      have HCALL := Lib.hid hcall
      have HBW := Lib.hid hbw
      have HRS := Lib.hid hrs
      have HSZ := Lib.hid hszr
      clear hcall hbf hl hbw hbx hrs hszr hln
      go_wp2_with (go_at_call 15; refine HCALL.out.mono ?_; rintro e w5 ⟨v, rfl, ⟨q, ys, rfl, hch, hj⟩, hb5⟩; have HR5 : Hid (Blk w5 (w.heap.size + 1) 37 #[.pointer none]) := (HRS.out.more _).kept hb5 (by have := HSZ.out; simp; omega); have hc5 : w5.cell? ⟨w.heap.size + 1, 0, none⟩ = some (.pointer none) := by { rw [HR5.out.cell]; rfl }; have hf5 := HR5.out.thaw 0; have HCH := Lib.hid hch; have HJ := Lib.hid hj; have HB5 := Lib.hid hb5; clear hch hj hb5)
      have hb6 : Below w.heap.size w (w5.setCell ⟨w.heap.size + 1, 0, none⟩ (.pointer q)) := Below.set (HBW.out.trans ((((Below.refl _ wr).alloc (Nat.le_refl _) _).trans (HB5.out.mono (by simp))).mono HBW.out.size)) 0 (by omega) _
      exact bodyPost_ret (results_cell_row rfl _ _ (w.heap.size + 1) 37 #[Value.pointer q] (0, 0) _ rfl (HR5.out.put 0 _) Try.underlying37 rfl (by kernel_rfl)) rfl
        ⟨_, rfl, ⟨q, ys, rfl, HCH.out.off HR5.out (by decide) _, by rw [HJ.out]; simp [joined, bstr_data]⟩, hb6⟩
end Go.Proofs.Ytjoiimhifogbhaa
