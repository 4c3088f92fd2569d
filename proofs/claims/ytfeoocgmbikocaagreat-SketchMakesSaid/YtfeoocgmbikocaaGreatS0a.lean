/- Steps of a sketch: how they lie; what makes them (first parts of S0 and T2, which stand alone). -/
import Derived.Test.YtfeoocgmbikocaaGreatA1
namespace Go.Proofs.YtfeoocgmbikocaaGreat
open Go.RowKit

/-- A step. -/
structure St where
  k : Int
  id : UInt32
  a : UInt32
  b : UInt32
  pa : UInt32
  pb : UInt32
def sc (s : St) : Array Value := #[.int .i64 s.k, V s.id, V s.a, V s.b, V s.pa, V s.pb]
def sv (s : St) : Value := .agg (sc s)
theorem zeroSt (w : World) : (zeroValue 57).run Tryz.prog w = .ok (.agg #[.int .i64 0, .int .u32 0, .int .u32 0, .int .u32 0, .int .u32 0, .int .u32 0]) w := by kernel_rfl
theorem sv_def (s : St) : sv s = .agg #[.int .i64 s.k, .int .u32 s.id.toNat, .int .u32 s.a.toNat, .int .u32 s.b.toNat, .int .u32 s.pa.toNat, .int .u32 s.pb.toNat] := by
  unfold sv sc
  rw [V_def, V_def, V_def, V_def, V_def]
attribute [local irreducible] wpList in
set_option maxRecDepth 100000 in
theorem vertex_walk (w : World) (x : UInt32) : Calls Tryz.prog 27 #[V x] w fun e w' => e = .returned (sv ⟨1, x, 0, 0, 0, 0⟩) ∧ Below w.heap.size w w' := by
  have hz := zeroSt
  have HE := Lib.hid (sv_def ⟨1, x, 0, 0, 0, 0⟩)
  rw [V_def]
  generalize (x.toNat : Int) = i at *
  have HB : Hid (Below w.heap.size w (w.alloc (.cells #[.int .i64 1, .int .u32 i, .int .u32 0, .int .u32 0, .int .u32 0, .int .u32 0] 57))) := (Below.refl _ w).alloc (Nat.le_refl _) _
  go_enter Tryz.func27, Tryz.ntmps27
  go_wp2
  exact bodyPost_ret (v := .agg #[.int .i64 1, .int .u32 i, .int .u32 0, .int .u32 0, .int .u32 0, .int .u32 0]) (by simp [results, Tryz.results27, go_sem]) rfl ⟨by rw [HE.out]; rfl, HB.out⟩
attribute [local irreducible] wpList in
set_option maxRecDepth 100000 in
theorem novertex_walk (w : World) (x : UInt32) : Calls Tryz.prog 28 #[V x] w fun e w' => e = .returned (sv ⟨2, x, 0, 0, 0, 0⟩) ∧ Below w.heap.size w w' := by
  have hz := zeroSt
  have HE := Lib.hid (sv_def ⟨2, x, 0, 0, 0, 0⟩)
  rw [V_def]
  generalize (x.toNat : Int) = i at *
  have HB : Hid (Below w.heap.size w (w.alloc (.cells #[.int .i64 2, .int .u32 i, .int .u32 0, .int .u32 0, .int .u32 0, .int .u32 0] 57))) := (Below.refl _ w).alloc (Nat.le_refl _) _
  go_enter Tryz.func28, Tryz.ntmps28
  go_wp2
  exact bodyPost_ret (v := .agg #[.int .i64 2, .int .u32 i, .int .u32 0, .int .u32 0, .int .u32 0, .int .u32 0]) (by simp [results, Tryz.results28, go_sem]) rfl ⟨by rw [HE.out]; rfl, HB.out⟩
attribute [local irreducible] wpList in
set_option maxRecDepth 100000 in
theorem nolink_walk (w : World) (x : UInt32) : Calls Tryz.prog 26 #[V x] w fun e w' => e = .returned (sv ⟨4, x, 0, 0, 0, 0⟩) ∧ Below w.heap.size w w' := by
  have hz := zeroSt
  have HE := Lib.hid (sv_def ⟨4, x, 0, 0, 0, 0⟩)
  rw [V_def]
  generalize (x.toNat : Int) = i at *
  have HB : Hid (Below w.heap.size w (w.alloc (.cells #[.int .i64 4, .int .u32 i, .int .u32 0, .int .u32 0, .int .u32 0, .int .u32 0] 57))) := (Below.refl _ w).alloc (Nat.le_refl _) _
  go_enter Tryz.func26, Tryz.ntmps26
  go_wp2
  exact bodyPost_ret (v := .agg #[.int .i64 4, .int .u32 i, .int .u32 0, .int .u32 0, .int .u32 0, .int .u32 0]) (by simp [results, Tryz.results26, go_sem]) rfl ⟨by rw [HE.out]; rfl, HB.out⟩
attribute [local irreducible] wpList in
set_option maxRecDepth 100000 in
set_option maxHeartbeats 1000000 in
theorem link_walk (w : World) (x a b p q : UInt32) : Calls Tryz.prog 25 #[.agg #[V x, V a, V b], V p, V q] w fun e w' => e = .returned (sv ⟨3, x, a, b, p, q⟩) ∧ Below w.heap.size w w' := by
  have hz := zeroSt
  have HE := Lib.hid (sv_def ⟨3, x, a, b, p, q⟩)
  rw [V_def, V_def, V_def, V_def, V_def]
  generalize (x.toNat : Int) = i at *
  generalize (a.toNat : Int) = a at *
  generalize (b.toNat : Int) = b at *
  generalize (p.toNat : Int) = p at *
  generalize (q.toNat : Int) = q at *
  have HB : Hid (Below w.heap.size w ((w.alloc (.cells #[.int .u32 i, .int .u32 a, .int .u32 b] 60)).alloc (.cells #[.int .i64 3, .int .u32 i, .int .u32 a, .int .u32 b, .int .u32 p, .int .u32 q] 57))) := ((Below.refl _ w).alloc (Nat.le_refl _) _).alloc (by simp) _
  have HK0 : Hid (Blk (w.alloc (.cells #[.int .u32 i, .int .u32 a, .int .u32 b] 60)) w.heap.size 60 #[.int .u32 i, .int .u32 a, .int .u32 b]) := Blk.fresh w _ _
  have HK1 := Lib.hid (HK0.out.more (.cells #[.int .i64 0, .int .u32 0, .int .u32 0, .int .u32 0, .int .u32 0, .int .u32 0] 57))
  have k0 := HK1.out.cell 0
  have k1 := HK1.out.cell 1
  have k2 := HK1.out.cell 2
  go_enter Tryz.func25, Tryz.ntmps25
  go_wp2
  exact bodyPost_ret (v := .agg #[.int .i64 3, .int .u32 i, .int .u32 a, .int .u32 b, .int .u32 p, .int .u32 q]) (by simp [results, Tryz.results25, go_sem]) rfl ⟨by rw [HE.out], HB.out⟩
end Go.Proofs.YtfeoocgmbikocaaGreat
