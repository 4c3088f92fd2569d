/- The small methods of a disk that is one. -/
import Derived.Test.YtcbfnbmkogeehaaK22
namespace Go.Proofs.Ytcbfnbmkogeehaa
open Go.RowKit

def Dk.fused (s : Dk) (k : Int) : Dk := { s with fuse := k }
theorem Rep.fused {w w' : World} {g lb mb : Nat} {s : Dk} {D : DataW Value} (h : Rep w g lb mb s D) (k : Int) (h1 : -9223372036854775808 ≤ k) (h2 : k ≤ 9223372036854775807) (hx : Ex g w w') (hb : Blk w' g 62 (Cs (s.fused k) lb mb)) : Rep w' g lb mb (s.fused k) D := by
  refine { ok := { h.ok with f0 := h1, f1 := h2 }, blk := hb, lst := hx.blk h.lst h.lg, own := ?_, cnt := h.cnt, lg := h.lg, mg := h.mg, ml := h.ml, has := h.has, val := h.val }
  obtain ⟨es, clock, h1, r⟩ := h.own
  exact ⟨es, clock, (hx.block mb h.own.lt h.mg).trans h1, r⟩
theorem fuse_walk (w : World) (g lb mb : Nat) (s : Dk) (D : DataW Value) (h : Rep w g lb mb s D) (k : Int) (h1 : -9223372036854775808 ≤ k) (h2 : k ≤ 9223372036854775807) :
    Calls Try.prog 20 #[.pointer (some ⟨g, 0, none⟩), .int .i64 k] w fun e w' => e = .returned (.tuple #[]) ∧ Fr g lb mb w w' ∧ Rep w' g lb mb (s.fused k) D := by
  have c0 : w.cell? ⟨g, 0, none⟩ = some (.int .i64 s.fuse) := h.blk.cell 0
  have f0 := h.blk.thaw 0
  have H := Lib.hid h
  clear h
  go_enter Try.func20, Try.ntmps20
  go_wp2
  go_end0
  exact ⟨rfl, Fr.of_ex (Ex.setCell _ _ _ _), H.out.fused k h1 h2 (Ex.setCell _ _ _ _) (H.out.blk.put 0 _)⟩
theorem down_walk (w : World) (g lb mb : Nat) (s : Dk) (D : DataW Value) (h : Rep w g lb mb s D) :
    Calls Try.prog 11 #[.pointer (some ⟨g, 0, none⟩)] w fun e w' => e = .returned (.bool s.down) ∧ w' = w := by
  have c0 : w.cell? ⟨g, 2, none⟩ = some (.bool s.down) := h.blk.cell 2
  clear h
  generalize s.down = b at *
  cases b
  · go_enter Try.func11, Try.ntmps11
    go_wp2
    go_ret
    exact ⟨rfl, rfl⟩
  · go_enter Try.func11, Try.ntmps11
    go_wp2
    go_ret
    exact ⟨rfl, rfl⟩
theorem steps_walk (w : World) (g lb mb : Nat) (s : Dk) (D : DataW Value) (h : Rep w g lb mb s D) :
    Calls Try.prog 12 #[.pointer (some ⟨g, 0, none⟩)] w fun e w' => e = .returned (.int .i64 s.done) ∧ w' = w := by
  have c0 : w.cell? ⟨g, 1, none⟩ = some (.int .i64 s.done) := h.blk.cell 1
  clear h
  go_enter Try.func12, Try.ntmps12
  go_wp2
  go_ret
  exact ⟨rfl, rfl⟩
theorem sectors_walk (w : World) (g lb mb : Nat) (s : Dk) (D : DataW Value) (h : Rep w g lb mb s D) :
    Calls Try.prog 21 #[.pointer (some ⟨g, 0, none⟩)] w fun e w' => e = .returned (.int .i64 (s.last.length : Int)) ∧ w' = w := by
  have c0 : w.cell? ⟨g, 3, none⟩ = some (.slice (some ⟨lb, 0, none⟩) s.last.length s.last.length) := h.blk.cell 3
  clear h
  go_enter Try.func21, Try.ntmps21
  go_wp2
  go_ret
  exact ⟨rfl, rfl⟩
theorem Waits_walk (w : World) (g lb mb : Nat) (s : Dk) (D : DataW Value) (h : Rep w g lb mb s D) :
    Calls Try.prog 17 #[.pointer (some ⟨g, 0, none⟩)] w fun e w' => ∃ v, e = .returned v ∧ Ws g lb mb s v w' ∧ Below w.heap.size w w' := by
  have hw := waits_rising w g lb mb s D h
  have HW := Lib.hid hw
  clear hw h
  go_enter Try.func17, Try.ntmps17
  go_wp2_with (go_at_call 33; refine HW.out.mono ?_; rintro e w1 ⟨v, rfl, hv, hb1⟩; have HV := Lib.hid hv; have HB := Lib.hid hb1; clear hv hb1)
  go_ret
  exact ⟨_, rfl, HV.out, HB.out⟩
end Go.Proofs.Ytcbfnbmkogeehaa
