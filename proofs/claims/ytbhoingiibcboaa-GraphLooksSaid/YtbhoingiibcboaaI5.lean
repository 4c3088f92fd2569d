/- The chapter's example of graphs. -/
import Derived.Test.YtbhoingiibcboaaI4
import Derived.Test.YtbhoingiibcboaaH6
import Derived.Test.YtbhoingiibcboaaB5
namespace Go.Proofs.Ytbhoingiibcboaa
open Go.RowKit

theorem chk_ex : chk ⟨[1, 2, 3], [⟨1, 1, 2⟩]⟩ = 0 := by decide
theorem parts_ex : (parts ⟨[1, 2, 3], [⟨1, 1, 2⟩]⟩).length = 2 := by decide
theorem alone_ex : alone ⟨[1, 2, 3], [⟨1, 1, 2⟩]⟩ = 1 := by decide
theorem awake8_walk (w : World) : Calls Try.prog 25 #[] w fun e w' => e = .returned (.bool true) ∧ Below w.heap.size w w' := by
  go_enter Try.func25, Try.ntmps25
  go_wp2_with (go_at_call 52; refine (awake_walk w).mono ?_; rintro e w1 ⟨rfl, hb⟩; have HB := Lib.hid hb; clear hb)
  go_ret
  exact ⟨rfl, HB.out⟩
theorem three (w : World) : Rd ((w.alloc (.cells #[.int .u32 1, .int .u32 2, .int .u32 3] 31)).alloc (.cells #[.int .u32 1, .int .u32 1, .int .u32 2] 39)) (some ⟨w.heap.size, 0, none⟩) [1, 2, 3] :=
  (Rd.fresh w [1, 2, 3] (by decide)).kept ((Below.refl _ _).alloc (Nat.le_refl _) _) (Nat.le_refl _)
theorem oneE (w : World) : RdE ((w.alloc (.cells #[.int .u32 1, .int .u32 2, .int .u32 3] 31)).alloc (.cells #[.int .u32 1, .int .u32 1, .int .u32 2] 39)) (some ⟨w.heap.size + 1, 0, none⟩) [⟨1, 1, 2⟩] := by
  refine ⟨by decide, fun _ => ⟨w.heap.size + 1, 0, rfl, by simp, fun i hi => ?_⟩⟩
  have : i = 0 := by simp at hi; omega
  subst this
  have hk : Blk ((w.alloc (.cells #[.int .u32 1, .int .u32 2, .int .u32 3] 31)).alloc (.cells #[.int .u32 1, .int .u32 1, .int .u32 2] 39)) (w.heap.size + 1) 39 #[.int .u32 1, .int .u32 1, .int .u32 2] := by
    have := Blk.fresh (w.alloc (.cells #[.int .u32 1, .int .u32 2, .int .u32 3] 31)) 39 #[.int .u32 1, .int .u32 1, .int .u32 2]
    simpa using this
  exact ⟨hk.cell 0, hk.cell 1, hk.cell 2⟩
attribute [local irreducible] V
attribute [local irreducible] wpList in
set_option maxRecDepth 100000 in
set_option maxHeartbeats 1000000 in
/-- The example. -/
theorem awake9_walk (w : World) : Calls Try.prog 6 #[] w fun e w' => e = .returned (.bool true) ∧ Below w.heap.size w w' := by
  have HB0 : Hid (Below w.heap.size w ((w.alloc (.cells #[.int .u32 1, .int .u32 2, .int .u32 3] 31)).alloc (.cells #[.int .u32 1, .int .u32 1, .int .u32 2] 39))) := ((Below.refl _ w).alloc (Nat.le_refl _) _).alloc (by simp) _
  have HM := Lib.hid (make_walk _ (some ⟨w.heap.size, 0, none⟩) (some ⟨w.heap.size + 1, 0, none⟩) 3 1 [1, 2, 3] ⟨1, 1, 2⟩ (three w) (by decide) (by decide) (by decide) (oneE w))
  have hz := zero25
  go_enter Try.func6, Try.ntmps6
  go_wp2_with (first
    | (go_at_call 24; refine HM.out.mono ?_; rintro e w1 ⟨v, rfl, hv, hb⟩; have HV := Lib.hid hv; obtain ⟨A1, c1, A2, c2, hv2, _⟩ := hv; have hv3 : v = .agg #[.slice A1 3 c1, .slice A2 1 c2] := hv2; clear hv2; subst hv3; have HB1 := Lib.hid (HB0.out.trans (Below.mono hb HB0.out.size)); have HB2 : Hid (Below w1.heap.size w1 (w1.alloc (.cells #[.slice A1 3 c1, .slice A2 1 c2] 25))) := (Below.refl _ w1).alloc (Nat.le_refl _) _; have HK2 : Hid (Blk (w1.alloc (.cells #[.slice A1 3 c1, .slice A2 1 c2] 25)) w1.heap.size 25 #[.slice A1 3 c1, .slice A2 1 c2]) := Blk.fresh _ _ _; clear hb)
    | (go_at_call 7; refine (check_walk _ _ _ (HV.out.kept HB2.out)).mono ?_; rintro e w3 ⟨he, hb3⟩; rw [chk_ex] at he; subst he; have HB3 := Lib.hid hb3; have k30 := (HK2.out.kept hb3 HK2.out.lt).cell 0; have k31 := (HK2.out.kept hb3 HK2.out.lt).cell 1; clear hb3)
    | (go_at_call 10; refine (parts_walk _ _ _ ((HV.out.kept HB2.out).kept HB3.out) (May.of chk_ex)).mono ?_; rintro e w4 ⟨u, rfl, hu, hb4⟩; obtain ⟨A4, c4, hu4, _⟩ := hu; rw [parts_ex] at hu4; subst hu4; have HB4 := Lib.hid hb4; have k40 := ((HK2.out.kept HB3.out HK2.out.lt).kept hb4 (HK2.out.kept HB3.out HK2.out.lt).lt).cell 0; have k41 := ((HK2.out.kept HB3.out HK2.out.lt).kept hb4 (HK2.out.kept HB3.out HK2.out.lt).lt).cell 1; clear hb4)
    | (go_at_call 17; refine (alone_walk _ _ _ (((HV.out.kept HB2.out).kept HB3.out).kept HB4.out) (by decide) (by decide)).mono ?_; rintro e w5 ⟨he, hb5⟩; rw [alone_ex] at he; subst he; have HB5 := Lib.hid hb5; clear hb5)
    | (go_at_call 25; refine (awake8_walk _).mono ?_; rintro e w6 ⟨rfl, hb6⟩; have HB6 := Lib.hid hb6; clear hb6))
  go_ret
  refine ⟨rfl, ?_⟩
  have h2 := HB1.out.trans (Below.mono HB2.out HB1.out.size)
  have h3 := h2.trans (Below.mono HB3.out h2.size)
  have h4 := h3.trans (Below.mono HB4.out h3.size)
  have h5 := h4.trans (Below.mono HB5.out h4.size)
  exact h5.trans (Below.mono HB6.out h5.size)
end Go.Proofs.Ytbhoingiibcboaa
