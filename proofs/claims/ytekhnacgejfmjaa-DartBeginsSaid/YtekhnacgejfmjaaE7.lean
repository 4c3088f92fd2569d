/- What comes of any rows of darts: the law's walk. -/
import Derived.Test.YtekhnacgejfmjaaE5
namespace Go.Proofs.Ytekhnacgejfmjaa
open Go.RowKit

theorem same_self (w : World) (v u : Value) (l : List UInt32) (h : RV w v l) (h2 : RV w u l) : Calls Try.prog 24 #[v, u] w fun e w' => e = .returned (.bool true) ∧ Below w.heap.size w w' := by
  have := rsame_rv w v u l l h h2
  simpa using this
theorem sam_same (w : World) (v u : Value) (l m : List UInt32) (h : RV w v (norm l)) (h2 : RV w u (norm m)) : Calls Try.prog 24 #[v, u] w fun e w' => e = .returned (.bool (sam l m)) ∧ Below w.heap.size w w' := rsame_rv w v u _ _ h h2
theorem rev_succ (l : List UInt32) (k : Nat) (h : k < l.length) : l.reverse.take (k + 1) = l.reverse.take k ++ [l.getD (l.length - 1 - k) 0] := by
  rw [List.take_succ_eq_append_getElem (by rw [List.length_reverse]; exact h), List.getElem_reverse, ← getD_at]
attribute [local irreducible] V
set_option maxRecDepth 100000 in
set_option maxHeartbeats 4000000 in
theorem turns_walk (w : World) (v u : Value) (l m : List UInt32) (d : UInt32) (h : RV w v l) (h2 : RV w u m) (hl : l.length ≤ 60) (hm : m.length ≤ 60) :
    Calls Try.prog 8 #[v, u, V d] w fun e w' => e = .returned (.bool true) ∧ Below w.heap.size w w' := by
  have HRV := Lib.hid h
  have HRM := Lib.hid h2
  obtain ⟨A, c, rfl, hc, hr⟩ := h
  obtain ⟨B, c2, rfl, hc2, hr2⟩ := h2
  have HR := Lib.hid hr
  have HLM : Hid (l.length + m.length ≤ 1000000) := by show _ ≤ _; omega
  have g := run_guard
  have e1 := eqT (beq_self_eq_true (nxt l d))
  have e2 := eqT (beq_self_eq_true (prv l d))
  clear hr hr2 hc hc2
  go_enter Try.func8, Try.ntmps8
  go_wp2_with (go_at_call 20; refine (awake_walk w).mono ?_; rintro e w0 ⟨rfl, hb⟩; have HB0 := Lib.hid hb; clear hb)
  go_loopw [7, 8] (fun b i wr => ∃ k : Nat, k ≤ l.length ∧ i = .int .i64 ((l.length : Int) - 1 - k) ∧ Ow wr w.heap.size b (l.reverse.take k) ∧ Below w.heap.size w wr) (fun _ i _ => (intOf i + 1).toNat)
  case atStart => exact ⟨0, by omega, by simp, Ow.nil _ _, HB0.out⟩
  case round =>
    obtain ⟨k, hk, rfl, ho, hb⟩ := hrel
    have HO := Lib.hid ho
    have HB := Lib.hid hb
    clear ho hb
    by_cases hlt : k < l.length
    · obtain ⟨b, o, rfl, hcell⟩ := (HR.out.kept HB.out (Nat.le_refl _)).spot (by omega)
      have hj : (l.length : Int) - 1 - k = ((l.length - 1 - k : Nat) : Int) := by omega
      have hjn : l.length - 1 - k < l.length := by omega
      have hc1 := hcell _ hjn
      rw [getD_at hjn] at hc1
      have HS := Lib.hid (rev_succ l k hlt)
      have HLN : Hid ((l.reverse.take k).length ≤ 60) := by show _ ≤ _; rw [List.length_take, List.length_reverse]; omega
      have hq : (l.length : Int) - 1 - k - 1 = (l.length : Int) - 1 - ((k + 1 : Nat) : Int) := by omega
      have HQ := Lib.hid hq
      have HJ := Lib.hid (show (((l.length - 1 - k : Nat) : Int) + 1).toNat = l.length - k by omega)
      rw [hj] at HQ ⊢
      clear hj hq hcell
      generalize l.length - 1 - k = j at *
      generalize l.getD j 0 = x at *
      have r6 := V_cells x
      unfold Value.cells at r6
      go_wp2_with (refine wpList_append_rd rfl (.tmp 26) (.tmp 31) rfl w.heap.size _ _ [x] (some ⟨wr.heap.size, 0, none⟩) 1 rfl rfl (HO.out.alloc _) (Rd.fresh wr [x] (by simp)) (by have := HLN.out; simp only [List.length_singleton]; omega) (by have := HB.out.size; simp; omega) ?_; intro v2 w2 ho2 hb2; have HO2 := Lib.hid ho2; have HB2 := Lib.hid ((HB.out.alloc HB.out.size _).trans hb2); clear ho2 hb2)
      go_roundw
      case rel => exact ⟨k + 1, by omega, by rw [HQ.out], by rw [HS.out]; exact HO2.out, HB2.out⟩
      case measure => simp [intOf]
    · obtain rfl : k = l.length := by omega
      have ho := HO.out
      rw [List.take_of_length_le (by rw [List.length_reverse]; exact Nat.le_refl _)] at ho
      have HK := Lib.hid (ho.rv (by rw [List.length_reverse]; omega))
      have HL := Lib.hid (HRV.out.kept HB.out)
      have HM := Lib.hid (HRM.out.kept HB.out)
      have HC0 : Hid (Below wr.heap.size wr wr) := Below.refl _ _
      have hneg : (l.length : Int) - 1 - (l.length : Int) = -1 := by omega
      rw [hneg]
      clear ho hneg
      go_wp2_with (first
        | (go_at_call 24; refine (same_self _ _ _ _ (H18.out.kept S19.out) H19.out).mono ?_; rintro e w20 ⟨rfl, hb20⟩; have HC20 := Lib.hid (HC19.out.trans (Below.mono hb20 HC19.out.size)); have S20 := Lib.hid hb20; clear hb20)
        | (go_at_call 26; refine (rnorm_rv _ _ _ (HK.out.kept HC18.out)).mono ?_; rintro e w19 ⟨v19, rfl, h19, hb19⟩; have H19 := Lib.hid h19; clear h19; have HC19 := Lib.hid (HC18.out.trans (Below.mono hb19 HC18.out.size)); have S19 := Lib.hid hb19; clear hb19)
        | (go_at_call 36; refine (mirror_rv _ _ l (HL.out.kept HC17.out)).mono ?_; rintro e w18 ⟨v18, rfl, h18, hb18⟩; have H18 := Lib.hid h18; clear h18; have HC18 := Lib.hid (HC17.out.trans (Below.mono hb18 HC17.out.size)); have S18 := Lib.hid hb18; clear hb18)
        | (go_at_call 24; refine (sam_same _ _ _ l m (H15.out.kept S16.out) H16.out).mono ?_; rintro e w17 ⟨rfl, hb17⟩; have HC17 := Lib.hid (HC16.out.trans (Below.mono hb17 HC16.out.size)); have S17 := Lib.hid hb17; clear hb17)
        | (go_at_call 26; refine (rnorm_rv _ _ _ (HM.out.kept HC15.out)).mono ?_; rintro e w16 ⟨v16, rfl, h16, hb16⟩; have H16 := Lib.hid h16; clear h16; have HC16 := Lib.hid (HC15.out.trans (Below.mono hb16 HC15.out.size)); have S16 := Lib.hid hb16; clear hb16)
        | (go_at_call 26; refine (rnorm_rv _ _ _ (HL.out.kept HC14.out)).mono ?_; rintro e w15 ⟨v15, rfl, h15, hb15⟩; have H15 := Lib.hid h15; clear h15; have HC15 := Lib.hid (HC14.out.trans (Below.mono hb15 HC14.out.size)); have S15 := Lib.hid hb15; clear hb15)
        | (go_at_call 35; refine (dsame_rv _ _ _ l m (HL.out.kept HC13.out) (HM.out.kept HC13.out)).mono ?_; rintro e w14 ⟨rfl, hb14⟩; have HC14 := Lib.hid (HC13.out.trans (Below.mono hb14 HC13.out.size)); have S14 := Lib.hid hb14; clear hb14)
        | (go_at_call 24; refine (same_self _ _ _ _ (H11.out.kept S12.out) H12.out).mono ?_; rintro e w13 ⟨rfl, hb13⟩; have HC13 := Lib.hid (HC12.out.trans (Below.mono hb13 HC12.out.size)); have S13 := Lib.hid hb13; clear hb13)
        | (go_at_call 34; refine (rwithout_rv _ _ _ l m (HL.out.kept HC11.out) (HM.out.kept HC11.out)).mono ?_; rintro e w12 ⟨v12, rfl, h12, hb12⟩; have H12 := Lib.hid h12; clear h12; have HC12 := Lib.hid (HC11.out.trans (Below.mono hb12 HC11.out.size)); have S12 := Lib.hid hb12; clear hb12)
        | (go_at_call 33; refine (without_rv _ _ _ l m (HL.out.kept HC10.out) (HM.out.kept HC10.out)).mono ?_; rintro e w11 ⟨v11, rfl, h11, hb11⟩; have H11 := Lib.hid h11; clear h11; have HC11 := Lib.hid (HC10.out.trans (Below.mono hb11 HC10.out.size)); have S11 := Lib.hid hb11; clear hb11)
        | (go_at_call 24; refine (same_self _ _ _ _ (H8.out.kept S9.out) H9.out).mono ?_; rintro e w10 ⟨rfl, hb10⟩; have HC10 := Lib.hid (HC9.out.trans (Below.mono hb10 HC9.out.size)); have S10 := Lib.hid hb10; clear hb10)
        | (go_at_call 32; refine (rinsert_rv _ _ _ l m d (HL.out.kept HC8.out) (HM.out.kept HC8.out) HLM.out).mono ?_; rintro e w9 ⟨v9, rfl, h9, hb9⟩; have H9 := Lib.hid h9; clear h9; have HC9 := Lib.hid (HC8.out.trans (Below.mono hb9 HC8.out.size)); have S9 := Lib.hid hb9; clear hb9)
        | (go_at_call 31; refine (insert_rv _ _ _ l m d (HL.out.kept HC3.out) (HM.out.kept HC3.out) HLM.out).mono ?_; rintro e w8 ⟨v8, rfl, h8, hb8⟩; have H8 := Lib.hid h8; clear h8; have HC8 := Lib.hid (HC3.out.trans (Below.mono hb8 HC3.out.size)); have S8 := Lib.hid hb8; clear hb8)
        | (go_at_call 30; refine (rprev_rv _ _ l d (HL.out.kept HC3.out)).mono ?_; rintro e w' ⟨rfl, rfl⟩)
        | (go_at_call 29; refine (prev_rv _ _ l d (HL.out.kept HC3.out)).mono ?_; rintro e w' ⟨rfl, rfl⟩)
        | (go_at_call 28; refine (rnext_rv _ _ l d (HL.out.kept HC3.out)).mono ?_; rintro e w' ⟨rfl, rfl⟩)
        | (go_at_call 27; refine (next_rv _ _ l d (HL.out.kept HC3.out)).mono ?_; rintro e w' ⟨rfl, rfl⟩)
        | (go_at_call 24; refine (same_self _ _ _ _ (H1.out.kept S2.out) H2.out).mono ?_; rintro e w3 ⟨rfl, hb3⟩; have HC3 := Lib.hid (HC2.out.trans (Below.mono hb3 HC2.out.size)); have S3 := Lib.hid hb3; clear hb3)
        | (go_at_call 26; refine (rnorm_rv _ _ _ (HL.out.kept HC1.out)).mono ?_; rintro e w2 ⟨v2, rfl, h2, hb2⟩; have H2 := Lib.hid h2; clear h2; have HC2 := Lib.hid (HC1.out.trans (Below.mono hb2 HC1.out.size)); have S2 := Lib.hid hb2; clear hb2)
        | (go_at_call 25; refine (normal_rv _ _ _ HL.out).mono ?_; rintro e w1 ⟨v1, rfl, h1, hb1⟩; have H1 := Lib.hid h1; clear h1; have HC1 := Lib.hid (HC0.out.trans (Below.mono hb1 HC0.out.size)); have S1 := Lib.hid hb1; clear hb1))
      go_ret
      exact ⟨rfl, HB.out.trans (Below.mono HC20.out HB.out.size)⟩
end Go.Proofs.Ytekhnacgejfmjaa
