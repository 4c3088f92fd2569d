/- The chapter's example; the law of a space that is none. -/
import Derived.Test.YtoeniealmcihmaaPd
namespace Go.Proofs.Ytoeniealmcihmaa
open Go.RowKit

set_option maxHeartbeats 1000000 in
theorem awake_walk (w : World) : Calls Try.prog 6 #[] w fun e w' => e = .returned (.bool true) ∧ Below w.heap.size w w' := by
  have hnew := new_walk w 5 9 (by decide) (by decide) (by decide) (by decide)
  rw [show many 5 9 = 4 from by decide] at hnew
  have HT := Lib.hid (show tkA 5 (tf 0 4) 3 = ((5, 0), tf 3 1) by
    unfold tkA
    rw [if_neg (by decide), show (3 : Int) = ((3 : Nat) : Int) from rfl, tk_tf, if_pos (by omega)]
    rfl)
  have H8 := Lib.hid (show isB 5 (tf 3 1) 8 = true from isB_tf 5 3 1 3 (by omega))
  have H5 := Lib.hid (show isB 5 (tf 3 1) 5 = false from isB_tf 5 3 1 0 (by omega))
  have HF := Lib.hid (told_tf 3 1)
  go_enter Try.func6, Try.ntmps6
  go_wp2_with (first
    | (go_at_call 7; refine hnew.mono ?_; rintro e w1 ⟨g, lb, p, mr, rfl, hs, hg, hlb, hb⟩; rw [tf_zero] at hs; have HS := Lib.hid hs; have HB := Lib.hid hb; clear hs hb)
    | (go_at_call 10; refine (take_walk w1 g lb 5 p mr (tf 0 4) 3 (by decide) HS.out).mono ?_; rintro e w2 ⟨he, hx, hs⟩; rw [HT.out] at he hs; subst he; obtain ⟨lb2, p2, mr2, hs2, hl2⟩ := hs; have HS2 := Lib.hid hs2; have HX := Lib.hid hx; clear hs2 hx hl2)
    | (go_at_call 9; refine (free_walk w2 g lb2 5 p2 mr2 (tf 3 1) HS2.out).mono ?_; rintro e w3 ⟨he, hb3⟩; rw [HF.out] at he; subst he; have HB3 := Lib.hid hb3; have HS3 := Lib.hid (HS2.out.up hb3); clear hb3)
    | (go_at_call 14; refine (is_walk (w3.drewN n1) g lb2 5 p2 mr2 (tf 3 1) 5 (HS3.out.drewN _)).mono ?_; rintro e w4 ⟨he, n2, rfl⟩; rw [H5.out] at he; subst he)
    | (go_at_call 14; refine (is_walk w3 g lb2 5 p2 mr2 (tf 3 1) 8 HS3.out).mono ?_; rintro e w4 ⟨he, n1, rfl⟩; rw [H8.out] at he; subst he))
  go_ret
  have h2 : Below w.heap.size w w2 := Ex.below HB.out HX.out hg HB.out.size
  exact ⟨rfl, (h2.trans (HB3.out.mono h2.size)).trans (below_drewN _ _ _)⟩

end Go.Proofs.Ytoeniealmcihmaa
