/- Counts, texts and digests that are taken. -/
import Derived.Test.YtjoiimhifogbhaaA10
namespace Go.Proofs.Ytjoiimhifogbhaa
open Go.RowKit

theorem gt8 (x m : Nat) (w : World) : (binOp .gtr 30 (V8 x) (V8 m)).run Try.prog w = .ok (.bool (decide (m < x))) w := by
  have h := show (binOp .gtr 30 (V8 x) (V8 m)).run Try.prog w = .ok (.bool (decide ((m : Int) < (x : Int)))) w from rfl
  rw [h]
  simp
theorem int8 (x : Nat) (hx : x < 4294967296) (w : World) : (convert 30 3 (V8 x)).run Try.prog w = .ok (.int .i64 (x : Int)) w := by
  have h := show (convert 30 3 (V8 x)).run Try.prog w = .ok (.int .i64 (IntKind.i64.wrap (x : Int))) w from rfl
  rw [h, IntWalk.i64_in]; omega
theorem of_int8 (x : Nat) (hx : x < 4294967296) (w : World) : (convert 3 30 (.int .i64 (x : Int))).run Try.prog w = .ok (V8 x) w := by
  have h := show (convert 3 30 (.int .i64 (x : Int))).run Try.prog w = .ok (.int .u64 (IntKind.u64.wrap (x : Int))) w from rfl
  rw [h, IntKind.wrap_u64, V8]
  have e : (x : Int) % 18446744073709551616 = (x : Int) := by omega
  rw [e]

set_option maxHeartbeats 1000000 in
theorem count_ok (w : World) (g : Nat) (most : Nat) (e : Int) (a r : List UInt8) (ha : a.length = 4) (hm : num a ≤ most) (hm2 : most < 4294967296) (h : InIs w g 0 (a ++ r)) :
    Calls Try.prog 39 #[inP g, .int .i64 (most : Int), .int .i64 e] w fun x w' => x = .returned (.int .i64 (num a : Int)) ∧ InIs w' g 0 r ∧ Ex g w w' := by
  have hn := number_walk w g a r (by omega) h
  rw [ha] at hn
  have hx : num a < 4294967296 := by omega
  generalize num a = x at *
  have q1 := gt8 x most
  have q2 := int8 x hx
  have q3 := of_int8 most hm2
  have hd : decide (most < x) = false := by simp; omega
  rw [hd] at q1
  have HN := Lib.hid hn
  clear hn hx hm hd h
  unfold inP at *
  go_enter Try.func39, Try.ntmps39
  go_wp2_with (go_at_call 40; refine HN.out.mono ?_; rintro e w1 ⟨rfl, h2, h3⟩; have H2 := Lib.hid h2; have H3 := Lib.hid h3; clear h2 h3)
  go_ret
  exact ⟨rfl, H2.out, H3.out⟩
set_option maxHeartbeats 1000000 in
theorem count_over (w : World) (g : Nat) (most : Nat) (e : Int) (a r : List UInt8) (ha : a.length = 4) (hm : most < num a) (h : InIs w g 0 (a ++ r)) :
    Calls Try.prog 39 #[inP g, .int .i64 (most : Int), .int .i64 e] w fun x w' => x = .returned (.int .i64 0) ∧ InIs w' g e r ∧ Ex g w w' := by
  have hn := number_walk w g a r (by omega) h
  have hx : num a < 4294967296 := by have := num_lt a; rw [ha] at this; exact this
  rw [ha] at hn
  generalize num a = x at *
  have q1 := gt8 x most
  have q3 := of_int8 most (by omega)
  have hd : decide (most < x) = true := by simp; omega
  rw [hd] at q1
  have HN := Lib.hid hn
  clear hn hx hm hd h
  unfold inP at *
  go_enter Try.func39, Try.ntmps39
  go_wp2_with (first
    | (go_at_call 40; refine HN.out.mono ?_; rintro e1 w1 ⟨rfl, h2, h3⟩; have H2 := Lib.hid h2; have H3 := Lib.hid h3; clear h2 h3)
    | (go_at_call 29; refine (fail_walk _ g e r H2.out).mono ?_; rintro e2 w2 ⟨rfl, h4, h5⟩; have H4 := Lib.hid h4; have H5 := Lib.hid h5; clear h4 h5))
  go_ret
  exact ⟨rfl, H4.out, H3.out.trans H5.out⟩
set_option maxHeartbeats 1000000 in
theorem count_nil (w : World) (most : Nat) (e : Int) (hm2 : most < 4294967296) :
    Calls Try.prog 39 #[.pointer none, .int .i64 (most : Int), .int .i64 e] w fun x w' => x = .returned (.int .i64 0) ∧ Below w.heap.size w w' := by
  have hn := number_nil w 4
  have q1 := gt8 0 most
  have q2 := int8 0 (by decide)
  have q3 := of_int8 most hm2
  have hd : decide (most < 0) = false := by simp
  rw [hd] at q1
  have HN := Lib.hid hn
  clear hn hd
  go_enter Try.func39, Try.ntmps39
  go_wp2_with (go_at_call 40; refine HN.out.mono ?_; rintro e1 w1 ⟨rfl, h2⟩; have H2 := Lib.hid h2; clear h2)
  go_ret
  exact ⟨rfl, H2.out⟩
theorem num_be4 (n : Nat) (hn : n < 4294967296) : num (be 4 n) = n := by rw [num_be]; exact Nat.mod_eq_of_lt hn
theorem text_take (w : World) (g : Nat) (most : Nat) (t r : List UInt8) (ht : t.length ≤ most) (hm2 : most < 4294967296) (h : InIs w g 0 (textOf (bstr t) ++ r)) :
    Calls Try.prog 21 #[inP g, .int .i64 (most : Int)] w fun x w' => x = .returned (.string (bstr t)) ∧ InIs w' g 0 r ∧ Ex g w w' := by
  have hnb := num_be4 t.length (by omega)
  have hin : InIs w g 0 (be 4 t.length ++ (t ++ r)) := by
    have h' := h
    rw [textOf, bstr_data, bstr_size, List.append_assoc] at h'; exact h'
  have hc := count_ok w g most 5 (be 4 t.length) (t ++ r) (be_length _ _) (by omega) hm2 hin
  rw [hnb] at hc
  have HC := Lib.hid hc
  clear hc h hin hnb
  unfold inP at *
  go_enter Try.func21, Try.ntmps21
  go_wp2_with (first
    | (go_at_call 39; refine HC.out.mono ?_; rintro e1 w1 ⟨rfl, h2, h3⟩; have H2 := Lib.hid h2; have H3 := Lib.hid h3; clear h2 h3)
    | (go_at_call 33; refine (take_walk _ g t r H2.out).mono ?_; rintro e2 w2 ⟨rfl, h4, h5⟩; have H4 := Lib.hid h4; have H5 := Lib.hid h5; clear h4 h5))
  go_ret
  exact ⟨rfl, H4.out, H3.out.trans H5.out⟩
theorem text_nil (w : World) (most : Nat) (hm2 : most < 4294967296) :
    Calls Try.prog 21 #[.pointer none, .int .i64 (most : Int)] w fun x w' => x = .returned (.string (bstr [])) ∧ Below w.heap.size w w' := by
  have hc := count_nil w most 5 hm2
  have HC := Lib.hid hc
  clear hc
  go_enter Try.func21, Try.ntmps21
  go_wp2_with (first
    | (go_at_call 39; refine HC.out.mono ?_; rintro e1 w1 ⟨rfl, h2⟩; have H2 := Lib.hid h2; clear h2)
    | (go_at_call 33; refine (raw_nil _ _).mono ?_; rintro e2 w2 ⟨rfl, rfl⟩))
  go_ret
  exact ⟨rfl, H2.out⟩
theorem Count_ok (w : World) (g : Nat) (most : Nat) (a r : List UInt8) (ha : a.length = 4) (hm : num a ≤ most) (hm2 : most < 4294967296) (h : InIs w g 0 (a ++ r)) :
    Calls Try.prog 32 #[inP g, .int .i64 (most : Int)] w fun x w' => x = .returned (.int .i64 (num a : Int)) ∧ InIs w' g 0 r ∧ Ex g w w' := by
  have hc := count_ok w g most 6 a r ha hm hm2 h
  unfold inP at *
  go_enter Try.func32, Try.ntmps32
  go_wp2_with (go_at_call 39; refine hc.mono ?_; rintro e1 w1 ⟨rfl, h2, h3⟩)
  go_ret
  exact ⟨rfl, h2, h3⟩
theorem Count_over (w : World) (g : Nat) (most : Nat) (a r : List UInt8) (ha : a.length = 4) (hm : most < num a) (h : InIs w g 0 (a ++ r)) :
    Calls Try.prog 32 #[inP g, .int .i64 (most : Int)] w fun x w' => x = .returned (.int .i64 0) ∧ InIs w' g 6 r ∧ Ex g w w' := by
  have hc := count_over w g most 6 a r ha hm h
  unfold inP at *
  go_enter Try.func32, Try.ntmps32
  go_wp2_with (go_at_call 39; refine hc.mono ?_; rintro e1 w1 ⟨rfl, h2, h3⟩)
  go_ret
  exact ⟨rfl, h2, h3⟩
theorem Count_nil (w : World) (most : Nat) (hm2 : most < 4294967296) :
    Calls Try.prog 32 #[.pointer none, .int .i64 (most : Int)] w fun x w' => x = .returned (.int .i64 0) ∧ Below w.heap.size w w' := by
  have hc := count_nil w most 6 hm2
  go_enter Try.func32, Try.ntmps32
  go_wp2_with (go_at_call 39; refine hc.mono ?_; rintro e1 w1 ⟨rfl, h2⟩)
  go_ret
  exact ⟨rfl, h2⟩
end Go.Proofs.Ytjoiimhifogbhaa
