/- The chapter's example of a disk. -/
import Derived.Test.YtcbfnbmkogeehaaK17
namespace Go.Proofs.Ytcbfnbmkogeehaa
open Go.RowKit

def b1 : List UInt8 := 1 :: List.replicate 511 0
def b2 : List UInt8 := 2 :: List.replicate 511 0
theorem built_1 : Try.prog.built 43 [(0, .int .u8 1)] = some (b1.map U).toArray := by kernel_rfl
theorem built_2 : Try.prog.built 43 [(0, .int .u8 2)] = some (b2.map U).toArray := by kernel_rfl
theorem b1_length : b1.length = 512 := by rw [b1, List.length_cons, List.length_replicate]
theorem b2_length : b2.length = 512 := by rw [b2, List.length_cons, List.length_replicate]
theorem parts_one (a : Act) (v : Value) : (#[(0, Operand.const v)].map fun ((i, x) : Nat × Operand) => (i, a.eval x)).toList = [(0, v)] := by
  rw [Array.toList_map]; rfl
theorem wpList_one1 {ops : Array Oper} {rest : List Oper} {o : Oper} {a : Act} {w : World} {Q : Exit → Act → World → Prop} (hg : o.guard = none) (ho : o.op = .build 43 #[(0, .const (.int .u8 1))])
    (h : wpList Try.prog ops Q rest (a.put o.dst (B b1)) w) : wpList Try.prog ops Q (o :: rest) a w :=
  wpList_build hg 43 #[(0, .const (.int .u8 1))] ho (by rw [parts_one a (.int .u8 1), built_1]; rfl) (by
    rw [parts_one a (.int .u8 1), built_1]; exact h)
theorem wpList_one2 {ops : Array Oper} {rest : List Oper} {o : Oper} {a : Act} {w : World} {Q : Exit → Act → World → Prop} (hg : o.guard = none) (ho : o.op = .build 43 #[(0, .const (.int .u8 2))])
    (h : wpList Try.prog ops Q rest (a.put o.dst (B b2)) w) : wpList Try.prog ops Q (o :: rest) a w :=
  wpList_build hg 43 #[(0, .const (.int .u8 2))] ho (by rw [parts_one a (.int .u8 2), built_2]; rfl) (by
    rw [parts_one a (.int .u8 2), built_2]; exact h)
def d0 : Dk := Dk.new 64
def d1 : Dk := d0.write 5 b1
def d2 : Dk := (d1.settled []).restored
def d3 : Dk := d2.write 5 b2
def d4 : Dk := d3.step.synced
def d5 : Dk := (d4.settled []).restored
theorem ew1 : d0.writeE 5 = 0 := by kernel_rfl
theorem er1 : d1.read 5 = (b1, 0) := by kernel_rfl
theorem er2 : d2.read 5 = (z512, 0) := by kernel_rfl
theorem ew2 : d2.writeE 5 = 0 := by kernel_rfl
theorem es3 : d3.stop = false := by kernel_rfl
theorem el5 : d5.lasts 5 = b2 := by kernel_rfl
theorem ed0 : d0.done + 1 < 1000000000 := of_decide_eq_true (by kernel_rfl)
theorem ed2 : d2.done + 1 < 1000000000 := of_decide_eq_true (by kernel_rfl)
theorem ed3 : d3.done + 1 < 1000000000 := of_decide_eq_true (by kernel_rfl)
theorem at_2 (w : World) : (Instr.index 43 (B b2) (.int .i64 0)).run Try.prog w = .ok (.int .u8 2) w := by kernel_rfl

theorem Fr.below {g lb mb B : Nat} {w0 w w' : World} (h0 : Below B w0 w) (h : Fr g lb mb w w') (h1 : B ≤ g) (h2 : B ≤ lb) (h3 : B ≤ mb) (hw : B ≤ w.heap.size) : Below B w0 w' :=
  h0.trans ⟨h.os, h.tape, h.output, h.size, fun k hk => h.block k (by omega) (by omega) (by omega) (by omega)⟩
theorem Rep.apart {w : World} {g lb mb : Nat} {s : Dk} {D : DataW Value} (h : Rep w g lb mb s D) : g < w.heap.size ∧ lb < w.heap.size ∧ mb < w.heap.size := ⟨h.blk.lt, h.lst.lt, h.own.lt⟩
set_option maxRecDepth 100000 in
set_option maxHeartbeats 4000000 in
theorem awake_walk (w : World) : Calls Try.prog 6 #[] w fun e w' => e = .returned (.bool true) ∧ Below w.heap.size w w' := by
  have hat := at_2
  have hz := zero43
  have z1 : Z.size = (b1.map U).toArray.size := by rw [Z_size, BSize _ b1_length]
  have Z1 := Lib.hid z1
  clear z1
  go_enter Try.func6, Try.ntmps6
  go_wp2_with (first
    | refine wpList_one1 rfl rfl ?_
    | refine wpList_one2 rfl rfl ?_
    | (refine wpList_store_fresh rfl 43 (.tmp 4) (.tmp 26) rfl (b1.map U).toArray rfl rfl (BRow _ b1_length) Z1.out (BAll _) ?_; intro w4 hb4 hs4 hB4; have HB4 := Lib.hid hb4; have HK4 := Lib.hid hB4; have HR4 := Lib.hid (HR3.out.up hb4); clear hb4 hs4 hB4)
    | (refine wpList_store_fresh rfl 43 (.tmp 6) (.tmp 33) rfl Z rfl rfl size43 rfl (BAll _) ?_; intro w7 hb7 hs7 hB7; have HB7 := Lib.hid hb7; have HK7 := Lib.hid hB7; have HR7 := Lib.hid (HR6.out.up hb7); clear hb7 hs7 hB7)
    | (go_at_call 7; refine (new_walk _ 64 (by decide) (by decide)).mono ?_; rintro e w1 ⟨g, lb, mb, rfl, hB1, hg, hlb, hmb, hr0⟩; have HB1 := Lib.hid hB1; have HG := Lib.hid hg; have HLB := Lib.hid hlb; have HMB := Lib.hid hmb; have HR0 : Hid (Rep w1 g lb mb d0 (.map [])) := hr0; clear hB1 hg hlb hmb hr0)
    | (go_at_call 14; first
        | (have hs := write_walk w7 g lb mb d2 (.map []) 5 b2 HR7.out b2_length ed2; rw [ew2] at hs; refine hs.mono ?_; rintro e w8 ⟨rfl, hx8, D8, hr8⟩; have HF8 : Hid (Fr g lb mb w7 w8) := Fr.of_ex2 hx8; have HR8 : Hid (Rep w8 g lb mb d3 D8) := hr8; clear hs hx8 hr8)
        | (have hs := write_walk w1 g lb mb d0 (.map []) 5 b1 HR0.out b1_length ed0; rw [ew1] at hs; refine hs.mono ?_; rintro e w2 ⟨rfl, hx2, D2, hr2⟩; have HF2 : Hid (Fr g lb mb w1 w2) := Fr.of_ex2 hx2; have HR2 : Hid (Rep w2 g lb mb d1 D2) := hr2; clear hs hx2 hr2))
    | (go_at_call 19; first
        | (have hs := read_walk w5 g lb mb d2 (.map []) 5 HR5.out; rw [er2] at hs; unfold BE at hs; refine hs.mono ?_; rintro e w6 ⟨rfl, hb6⟩; have HB6 := Lib.hid hb6; have HR6 := Lib.hid (HR5.out.up hb6); clear hs hb6)
        | (have hs := read_walk w2 g lb mb d1 D2 5 HR2.out; rw [er1] at hs; unfold BE at hs; refine hs.mono ?_; rintro e w3 ⟨rfl, hb3⟩; have HB3 := Lib.hid hb3; have HR3 := Lib.hid (HR2.out.up hb3); clear hs hb3))
    | (go_at_call 18; first
        | (have hs := crash_walk w9 g lb mb d4 D9 HR9.out; refine hs.mono ?_; rintro e wa ⟨rfl, hfa, hra⟩
           have HRA : Hid (Rep wa g lb mb d5 (.map [])) := hra
           have HFA := Lib.hid hfa
           have a3 := HR3.out.apart
           have a6 := HR6.out.apart
           have HF4A : Hid (Fr g lb mb w4 wa) := ((((HF5.out.trans (Fr.of_below HB6.out)).trans (Fr.of_below HB7.out)).trans HF8.out).trans HF9.out).trans hfa
           have HF7A : Hid (Fr g lb mb w7 wa) := (HF8.out.trans HF9.out).trans hfa
           have ca4 : wa.cell? ⟨w3.heap.size, 0, none⟩ = some (.int .u8 1) := (HF4A.out.blk HK4.out (by omega) (by omega) (by omega)).cell 0
           have ca6 : wa.cell? ⟨w6.heap.size, 0, none⟩ = some (.int .u8 0) := (HF7A.out.blk HK7.out (by omega) (by omega) (by omega)).cell 0
           clear hs hfa hra a3 a6)
        | (have hs := crash_walk w4 g lb mb d1 D2 HR4.out; refine hs.mono ?_; rintro e w5 ⟨rfl, hf5, hr5⟩; have HF5 := Lib.hid hf5; have HR5 : Hid (Rep w5 g lb mb d2 (.map [])) := hr5; clear hs hf5 hr5))
    | (go_at_call 15; have hs := barrier_good w8 g lb mb d3 D8 HR8.out ed3 es3; refine hs.mono ?_; rintro e w9 ⟨rfl, hf9, D9, hr9⟩; have HF9 := Lib.hid hf9; have HR9 : Hid (Rep w9 g lb mb d4 D9) := hr9; clear hs hf9 hr9)
    | (go_at_call 16; have hs := lasts_walk wa g lb mb d5 5 HRA.out.ok HRA.out.blk HRA.out.lst; rw [el5] at hs; refine hs.mono ?_; rintro e wb ⟨rfl, hbb⟩; have HBB := Lib.hid hbb; clear hs hbb))
  go_ret
  refine ⟨rfl, ?_⟩
  have e1 := HB1.out
  have f2 := Fr.below e1 HF2.out HG.out HLB.out HMB.out e1.size
  have f3 := f2.trans (HB3.out.mono f2.size)
  have f4 := f3.trans (HB4.out.mono f3.size)
  have fa := Fr.below f4 HF4A.out HG.out HLB.out HMB.out f4.size
  exact fa.trans (HBB.out.mono fa.size)
end Go.Proofs.Ytcbfnbmkogeehaa
