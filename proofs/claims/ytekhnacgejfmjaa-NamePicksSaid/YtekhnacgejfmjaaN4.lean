/- Object, Pack; the chapter's examples. -/
import Derived.Test.YtekhnacgejfmjaaN3
namespace Go.Proofs.Ytekhnacgejfmjaa
open Go.RowKit

/-- A file's name. -/
def nmT (k : UInt8) (ds : List UInt8) : List UInt8 := k :: 46 :: hexOf ds
theorem nmT_length (k : UInt8) (ds : List UInt8) (h : ds.length = 32) : (nmT k ds).length = 66 := by
  unfold nmT
  rw [List.length_cons, List.length_cons, hexOf_length, h]
theorem cat_o (ds : List UInt8) (h : ds.length = 32) (w : World) : (binOp .add 9 (.string ⟨#[111, 46]⟩) (.string (bstr (hexOf ds)))).run Try.prog w = .ok (.string (bstr (nmT 111 ds))) w :=
  cat [111, 46] (hexOf ds) (by rw [hexOf_length, h]; decide) w
theorem cat_p (ds : List UInt8) (h : ds.length = 32) (w : World) : (binOp .add 9 (.string ⟨#[112, 46]⟩) (.string (bstr (hexOf ds)))).run Try.prog w = .ok (.string (bstr (nmT 112 ds))) w :=
  cat [112, 46] (hexOf ds) (by rw [hexOf_length, h]; decide) w
theorem bstr_size (l : List UInt8) : (bstr l).size = l.length := rfl
theorem wpList_catS {ops : Array Oper} {rest : List Oper} {o : Oper} {a : Act} {w : World} {Q : Exit → Act → World → Prop} (hgd : o.guard = none) (x y : Operand) (t2 : TypeId) (ho : o.op = .binOp .add 9 x y t2) (p q r : ByteArray)
    (hx : a.eval x = .string p) (hy : a.eval y = .string q) (hr : ∀ w, (binOp .add 9 (.string p) (.string q)).run Try.prog w = .ok (.string r) w) (h : wpList Try.prog ops Q rest (a.put o.dst (.string r)) w) : wpList Try.prog ops Q (o :: rest) a w := by
  refine wpList_plain hgd fun K hK => ?_
  have hg : (eqGuard .add 9 x y (.string p) (.string q)).run Try.prog w = .ok () w := rfl
  unfold Oper.wp execOp
  simp only [ho, hx, hy, Sem.run_bind, hg, hr, Result.andThen_ok, Sem.run_pure]
  exact hK _ _ h
attribute [local irreducible] bstr nmT hexOf
theorem object_walk (w : World) (ds : List UInt8) (hds : ds.length = 32) :
    Calls Try.prog 13 #[.agg (ds.map U).toArray] w fun e w' => e = .returned (.string (bstr (nmT 111 ds))) ∧ Below w.heap.size w w' := by
  have HI := Lib.hid (b_size ds hds)
  have H := Lib.hid hds
  have HC := Lib.hid (cat_o ds hds)
  clear hds
  go_enter Try.func13, Try.ntmps13
  go_wp2_with (first
    | (refine wpList_load_row rfl 25 _ rfl w.heap.size rfl 25 _ (0, 0) _ (Blk.fresh w 25 _) Try.underlying25 rfl HI.out ?_)
    | (refine wpList_catS rfl _ _ _ rfl _ _ _ rfl rfl HC.out ?_)
    | (go_at_call 39; refine (hex_walk _ ds H.out).mono ?_; rintro e w1 ⟨rfl, hb⟩; have HB := Lib.hid (((Below.refl _ w).alloc (Nat.le_refl _) _).trans (Below.mono hb (by simp))); clear hb))
  go_ret
  exact ⟨rfl, HB.out⟩
theorem pack_walk (w : World) (ds : List UInt8) (hds : ds.length = 32) :
    Calls Try.prog 14 #[.agg (ds.map U).toArray] w fun e w' => e = .returned (.string (bstr (nmT 112 ds))) ∧ Below w.heap.size w w' := by
  have HI := Lib.hid (b_size ds hds)
  have H := Lib.hid hds
  have HC := Lib.hid (cat_p ds hds)
  clear hds
  go_enter Try.func14, Try.ntmps14
  go_wp2_with (first
    | (refine wpList_load_row rfl 25 _ rfl w.heap.size rfl 25 _ (0, 0) _ (Blk.fresh w 25 _) Try.underlying25 rfl HI.out ?_)
    | (refine wpList_catS rfl _ _ _ rfl _ _ _ rfl rfl HC.out ?_)
    | (go_at_call 39; refine (hex_walk _ ds H.out).mono ?_; rintro e w1 ⟨rfl, hb⟩; have HB := Lib.hid (((Below.refl _ w).alloc (Nat.le_refl _) _).trans (Below.mono hb (by simp))); clear hb))
  go_ret
  exact ⟨rfl, HB.out⟩
theorem ref_main (w : World) : Calls Try.prog 11 #[.string ⟨#[109, 97, 105, 110]⟩] w fun e w' => e = .returned (.bool true) ∧ Below w.heap.size w w' := by
  have h := ref_walk ⟨#[109, 97, 105, 110]⟩ w (by decide)
  rw [show refB (⟨#[109, 97, 105, 110]⟩ : ByteArray).data.toList = true from by decide] at h
  exact h
theorem ref_1a (w : World) : Calls Try.prog 11 #[.string ⟨#[49, 97]⟩] w fun e w' => e = .returned (.bool false) ∧ Below w.heap.size w w' := by
  have h := ref_walk ⟨#[49, 97]⟩ w (by decide)
  rw [show refB (⟨#[49, 97]⟩ : ByteArray).data.toList = false from by decide] at h
  exact h
theorem zero_len : zero32.length = 32 := by decide
theorem object_zero (w : World) : Calls Try.prog 13 #[.agg (zero32.map U).toArray] w fun e w' => ∃ s : ByteArray, e = .returned (.string s) ∧ s.size = 66 ∧ Below w.heap.size w w' := by
  refine (object_walk w zero32 zero_len).mono ?_
  rintro e w' ⟨rfl, hb⟩
  exact ⟨_, rfl, by rw [bstr_size]; exact nmT_length 111 zero32 zero_len, hb⟩
set_option maxRecDepth 100000 in
set_option maxHeartbeats 4000000 in
theorem awake7_walk (w : World) : Calls Try.prog 10 #[] w fun e w' => e = .returned (.bool true) ∧ Below w.heap.size w w' := by
  have h1 := ref_main
  have h2 := ref_1a
  have h3 := object_zero
  rw [← zeros_eq] at h3
  have H1 := Lib.hid h1
  have H2 := Lib.hid h2
  have H3 := Lib.hid h3
  clear h1 h2 h3
  go_enter Try.func10, Try.ntmps10
  go_wp2_with (first
    | (have T := HB2; go_at_call 13; refine (H3.out _).mono ?_; rintro e w3 ⟨s, rfl, hs, hb3⟩; have HB3 := Lib.hid (HB2.out.trans (Below.mono hb3 HB2.out.size)); have ht : ((s.size : Int) == 66) = true := (by rw [hs]; rfl); clear hb3 hs)
    | (have T := HB1; go_at_call 11; refine (H2.out _).mono ?_; rintro e w2 ⟨rfl, hb2⟩; have HB2 := Lib.hid (HB1.out.trans (Below.mono hb2 HB1.out.size)); clear hb2)
    | (go_at_call 11; refine (H1.out _).mono ?_; rintro e w1 ⟨rfl, hb1⟩; have HB1 := Lib.hid hb1; clear hb1))
  go_ret
  exact ⟨rfl, HB3.out⟩
theorem refs_walk (w : World) (s : ByteArray) (hs : s.size ≤ maxLen) : Calls Try.prog 3 #[.string s] w fun e w' => e = .returned (.bool true) ∧ Below w.heap.size w w' := by
  have H1 := fun W => ref_walk s W hs
  have H2 := fun W => rref_walk s W hs
  have HS := Lib.hid hs
  by_cases h : s.size ≤ 200
  · have h' : (s.size : Int) ≤ 200 := by omega
    clear hs
    generalize refB s.data.toList = q at *
    have H1 := Lib.hid H1
    have H2 := Lib.hid H2
    go_enter Try.func3, Try.ntmps3
    go_wp2_with (first
      | (go_at_call 10; refine (awake7_walk _).mono ?_; rintro e w1 ⟨rfl, hb1⟩; have HB1 := Lib.hid hb1; clear hb1)
      | (go_at_call 11; refine (H1.out _).mono ?_; rintro e w2 ⟨rfl, hb2⟩; have HB2 := Lib.hid (HB1.out.trans (Below.mono hb2 HB1.out.size)); clear hb2)
      | (go_at_call 12; refine (H2.out _).mono ?_; rintro e w3 ⟨rfl, rfl⟩))
    go_ret
    exact ⟨by simp, HB2.out⟩
  · have h' : ¬ (s.size : Int) ≤ 200 := by omega
    clear hs H1 H2
    go_enter Try.func3, Try.ntmps3
    go_wp2_with (go_at_call 10; refine (awake7_walk _).mono ?_; rintro e w1 ⟨rfl, hb1⟩; have HB1 := Lib.hid hb1; clear hb1)
    go_ret
    exact ⟨by simp, HB1.out⟩
end Go.Proofs.Ytekhnacgejfmjaa
