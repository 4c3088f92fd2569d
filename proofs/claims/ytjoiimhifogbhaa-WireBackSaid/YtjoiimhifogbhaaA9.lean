/- An In: what is left, and the error. -/
import Derived.Test.YtjoiimhifogbhaaA8
namespace Go.Proofs.Ytjoiimhifogbhaa
open Go.RowKit

theorem extract_head (a r : List UInt8) : (bstr (a ++ r)).extract 0 a.length = bstr a := by
  apply ByteArray.ext
  rw [ByteArray.data_extract]
  simp [bstr]
theorem extract_tail (a r : List UInt8) : (bstr (a ++ r)).extract a.length (a ++ r).length = bstr r := by
  apply ByteArray.ext
  rw [ByteArray.data_extract]
  simp [bstr]
/-- An In at block g: its error, and the bytes that are left. -/
def InIs (w : World) (g : Nat) (e : Int) (l : List UInt8) : Prop := Blk w g 73 #[.int .i64 e, .string (bstr l)]
def inP (g : Nat) : Value := .pointer (some ⟨g, 0, none⟩)

theorem of_walk (w : World) (l : List UInt8) :
    Calls Try.prog 22 #[.string (bstr l)] w fun e w' => e = .returned (inP w.heap.size) ∧ InIs w' w.heap.size 0 l ∧ Below w.heap.size w w' := by
  go_enter Try.func22, Try.ntmps22
  go_wp2
  go_ret
  exact ⟨rfl, Blk.fresh w 73 _, (Below.refl _ w).alloc (Nat.le_refl _) _⟩
theorem err_walk (w : World) (g : Nat) (e : Int) (l : List UInt8) (h : InIs w g e l) : Calls Try.prog 28 #[inP g] w fun r w' => r = .returned (.int .i64 e) ∧ w' = w := by
  have c0 : w.cell? ⟨g, 0, none⟩ = some (.int .i64 e) := by rw [h.cell]; rfl
  unfold inP
  go_enter Try.func28, Try.ntmps28
  go_wp2
  go_ret
  exact ⟨rfl, rfl⟩
theorem err_nil (w : World) : Calls Try.prog 28 #[.pointer none] w fun r w' => r = .returned (.int .i64 1) ∧ w' = w := by
  go_enter Try.func28, Try.ntmps28
  go_wp2
  go_ret
  exact ⟨rfl, rfl⟩
theorem left_walk (w : World) (g : Nat) (e : Int) (l : List UInt8) (h : InIs w g e l) : Calls Try.prog 34 #[inP g] w fun r w' => r = .returned (.int .i64 (l.length : Int)) ∧ w' = w := by
  have c0 : w.cell? ⟨g, 1, none⟩ = some (.string (bstr l)) := by rw [h.cell]; rfl
  have hs := bstr_size l
  unfold inP
  go_enter Try.func34, Try.ntmps34
  go_wp2
  go_ret
  exact ⟨by simp, rfl⟩
theorem left_nil (w : World) : Calls Try.prog 34 #[.pointer none] w fun r w' => r = .returned (.int .i64 0) ∧ w' = w := by
  go_enter Try.func34, Try.ntmps34
  go_wp2
  go_ret
  exact ⟨rfl, rfl⟩
theorem fail_nil (w : World) (e : Int) : Calls Try.prog 29 #[.pointer none, .int .i64 e] w fun r w' => r = .returned (.tuple #[]) ∧ w' = w := by
  go_enter Try.func29, Try.ntmps29
  go_wp2
  go_end0
  exact ⟨rfl, rfl⟩
theorem fault_walk (w : World) (g : Nat) (e : Int) (l : List UInt8) (h : InIs w g 0 l) : Calls Try.prog 41 #[inP g, .int .i64 e] w fun r w' => r = .returned (.tuple #[]) ∧ InIs w' g e l ∧ Ex g w w' := by
  have c0 : w.cell? ⟨g, 0, none⟩ = some (.int .i64 0) := by rw [h.cell]; rfl
  have f0 := h.thaw 0
  unfold inP
  go_enter Try.func41, Try.ntmps41
  go_wp2
  go_end0
  exact ⟨rfl, h.put 0 _, Ex.setCell g 0 w _⟩
theorem fail_walk (w : World) (g : Nat) (e : Int) (l : List UInt8) (h : InIs w g 0 l) : Calls Try.prog 29 #[inP g, .int .i64 e] w fun r w' => r = .returned (.tuple #[]) ∧ InIs w' g e l ∧ Ex g w w' := by
  unfold inP
  go_enter Try.func29, Try.ntmps29
  go_wp2_with (go_at_call 41; refine (fault_walk _ g e l h).mono ?_; rintro r w' ⟨rfl, h2, h3⟩)
  go_end0
  exact ⟨rfl, h2, h3⟩
theorem end_walk (w : World) (g : Nat) (h : InIs w g 0 []) : Calls Try.prog 27 #[inP g] w fun r w' => r = .returned (.int .i64 0) ∧ w' = w := by
  unfold inP
  go_enter Try.func27, Try.ntmps27
  go_wp2_with (first | (go_at_call 28; refine (err_walk _ g _ _ h).mono ?_; rintro e w' ⟨rfl, rfl⟩) | (go_at_call 34; refine (left_walk _ g _ _ h).mono ?_; rintro e w' ⟨rfl, rfl⟩))
  go_ret
  exact ⟨rfl, rfl⟩
theorem end_nil (w : World) : Calls Try.prog 27 #[.pointer none] w fun r w' => r = .returned (.int .i64 1) ∧ w' = w := by
  go_enter Try.func27, Try.ntmps27
  go_wp2_with (first | (go_at_call 28; refine (err_nil _).mono ?_; rintro e w' ⟨rfl, rfl⟩) | (go_at_call 34; refine (left_nil _).mono ?_; rintro e w' ⟨rfl, rfl⟩))
  go_ret
  exact ⟨rfl, rfl⟩
theorem raw_nil (w : World) (n : Int) : Calls Try.prog 33 #[.pointer none, .int .i64 n] w fun r w' => r = .returned (.string (bstr [])) ∧ w' = w := by
  go_enter Try.func33, Try.ntmps33
  go_wp2_with (go_at_call 28; refine (err_nil _).mono ?_; rintro e w' ⟨rfl, rfl⟩)
  go_ret
  exact ⟨rfl, rfl⟩
theorem take_walk (w : World) (g : Nat) (a r : List UInt8) (h : InIs w g 0 (a ++ r)) : Calls Try.prog 33 #[inP g, .int .i64 (a.length : Int)] w fun e w' => e = .returned (.string (bstr a)) ∧ InIs w' g 0 r ∧ Ex g w w' := by
  have c0 : w.cell? ⟨g, 1, none⟩ = some (.string (bstr (a ++ r))) := by rw [h.cell]; rfl
  have f0 := h.thaw 1
  have hz := bstr_size (a ++ r)
  have hl : (a ++ r).length = a.length + r.length := List.length_append
  have H := Lib.hid h
  clear h
  unfold inP
  go_enter Try.func33, Try.ntmps33
  go_wp2_with (go_at_call 28; refine (err_walk _ g _ _ H.out).mono ?_; rintro e w' ⟨rfl, rfl⟩)
  rw [extract_head, show a.length + r.length = (a ++ r).length from hl.symm, extract_tail]
  go_ret
  exact ⟨rfl, H.out.put 1 _, Ex.setCell g 1 _ _⟩
end Go.Proofs.Ytjoiimhifogbhaa
