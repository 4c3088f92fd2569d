/- The chapter's example. -/
import Derived.Test.YtjoiimhifogbhaaA12
namespace Go.Proofs.Ytjoiimhifogbhaa
open Go.RowKit

/-- An Out that a call gave, laid on; and its text. -/
theorem eg_bytes : (([] : List UInt8) ++ all4 [258]) ++ texts [⟨#[97]⟩] = be 4 258 ++ (textOf (bstr [97]) ++ []) := by rfl
theorem eg_text : bstr (be 4 258 ++ (textOf (bstr [97]) ++ [])) = ⟨#[0, 0, 1, 2, 0, 0, 0, 1, 97]⟩ := by decide +kernel

set_option maxRecDepth 100000 in
set_option maxHeartbeats 2000000 in
theorem awake_walk (w : World) : Calls Try.prog 6 #[] w fun x w' => x = .returned (.bool true) ∧ Below w.heap.size w w' := by
  have hf := four_walk (w.alloc (.cells #[V4 258] 28)) (.agg #[.pointer none]) [] (some ⟨w.heap.size, 0, none⟩) 1 1 [258] (OutIs.nil _) (Row.fresh w 28 [V4 258]) (by decide)
  have HF := Lib.hid hf
  clear hf
  go_enter Try.func6, Try.ntmps6
  go_wp2_with (first
    | (go_at_call 11; refine HF.out.mono ?_; rintro e w1 ⟨v1, rfl, hv1, hb1⟩; have HV1 := Lib.hid hv1; have HB1 := Lib.hid hb1; clear hv1 hb1)
    | (go_at_call 13; refine (text_walk (w1.alloc (.cells #[.string ⟨#[97]⟩] 9)) v1 _ (some ⟨w1.heap.size, 0, none⟩) 1 1 [⟨#[97]⟩] (HV1.out.kept ((Below.refl _ w1).alloc (Nat.le_refl _) _) (Nat.le_refl _)) (Row.fresh w1 9 [.string ⟨#[97]⟩]) (by decide) (by intro x hx; obtain rfl := List.mem_singleton.1 hx; decide)).mono ?_; rintro e w2 ⟨v2, rfl, hv2, hb2⟩; have HV2 := Lib.hid hv2; have HB2 := Lib.hid hb2; clear hv2 hb2)
    | (go_at_call 16; have hs3 := string_walk w2 v2 _ HV2.out (by decide); rw [eg_bytes, eg_text] at hs3; refine hs3.mono ?_; rintro e w3 ⟨rfl, hb3⟩; have HB3 := Lib.hid hb3; clear hs3 hb3)
    | (go_at_call 22; have ho := of_walk w3 (be 4 258 ++ (textOf (bstr [97]) ++ [])); rw [eg_text] at ho; refine ho.mono ?_; unfold inP; rintro e w4 ⟨rfl, hi4, hb4⟩; have HI4 := Lib.hid hi4; have HB4 := Lib.hid hb4; clear ho hi4 hb4)
    | (go_at_call 31; have h4 := four_take w4 w3.heap.size (be 4 258) (textOf (bstr [97]) ++ []) (be_length _ _) HI4.out; rw [num_be4 258 (by decide)] at h4; unfold V4 inP at h4; refine h4.mono ?_; rintro e w5 ⟨rfl, hi5, hx5⟩; have HI5 := Lib.hid hi5; have HX5 := Lib.hid hx5; clear h4 hi5 hx5)
    | (go_at_call 21; have h5 := text_take w5 w3.heap.size 1 [97] [] (by decide) (by decide) HI5.out; unfold inP at h5; rw [show bstr [97] = ⟨#[97]⟩ from rfl] at h5; refine h5.mono ?_; rintro e w6 ⟨rfl, hi6, hx6⟩; have HI6 := Lib.hid hi6; have HX6 := Lib.hid hx6; clear h5 hi6 hx6)
    | (go_at_call 27; have h6 := end_walk w6 w3.heap.size HI6.out; unfold inP at h6; refine h6.mono ?_; rintro e w7 ⟨rfl, rfl⟩; clear h6))
  go_ret
  refine ⟨rfl, ?_⟩
  have e1 : Below w.heap.size w w1 := ((Below.refl _ w).alloc (Nat.le_refl _) _).trans (HB1.out.mono (by simp))
  have e2 : Below w.heap.size w w2 := (e1.alloc e1.size _).trans (HB2.out.mono (by have := e1.size; simp; omega))
  have e4 : Below w.heap.size w w4 := (e2.trans (HB3.out.mono e2.size)).trans (HB4.out.mono (by have := e2.size; have := HB3.out.size; omega))
  exact Ex.below e4 (HX5.out.trans HX6.out) (by have := e2.size; have := HB3.out.size; omega) e4.size
end Go.Proofs.Ytjoiimhifogbhaa
