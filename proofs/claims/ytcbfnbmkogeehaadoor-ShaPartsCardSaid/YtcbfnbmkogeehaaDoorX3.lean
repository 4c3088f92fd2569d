/- The walk of the law for texts of at most 2,000 bytes. -/
import Derived.Test.YtcbfnbmkogeehaaDoorX2
namespace Go.Proofs.YtcbfnbmkogeehaaDoor
open Go.RowKit
set_option maxRecDepth 100000 in
set_option maxHeartbeats 1000000 in
theorem parts_small (s : ByteArray) (p q : Int) (w : World) (hk : Kt w) (hs : s.size ≤ 2000) :
    Calls Tryd.prog 5 #[.string s, .int .i64 p, .int .i64 q] w fun e w' => e = .returned (.bool true) ∧ Below w.heap.size w w' := by
  have HK := Lib.hid hk
  clear hk
  obtain ⟨i, hi, h1⟩ := tmod_nat p s.size
  obtain ⟨j, hj, h2'⟩ := tmod_nat q (s.size - i)
  have h2 : (IntKind.u64.wrap q).tmod ((s.size : Int) - i + 1) = (j : Int) := by rwa [show ((s.size - i : Nat) : Int) = (s.size : Int) - i by omega] at h2'
  have hij : i + j ≤ s.size := by omega
  clear h2' hj
  go_enter Tryd.func5, Tryd.ntmps5
  go_wp2_with (go_at_call 6; refine (awake_walk _ HK.out).mono ?_; rintro e w1 ⟨rfl, hb1⟩; have HB1 := Lib.hid hb1; clear hb1)
  have HU : Hid (∀ W, Up w1.drew W → Below w.heap.size w W) := fun W hR => (HB1.out.drew).trans (Below.mono hR HB1.out.size)
  have HUK : Hid (∀ W, Up w1.drew W → Kt W) := fun W hR => HK.out.below (HU.out W hR) HK.out.1
  have HS0 : Hid (s.size ≤ maxLen) := by show s.size ≤ _; unfold maxLen; omega
  have HS1 : Hid ((s.extract 0 i).size ≤ maxLen) := by show (s.extract 0 i).size ≤ _; unfold maxLen; simp; omega
  have HS2 : Hid ((s.extract i (i + j)).size ≤ maxLen) := by show (s.extract i (i + j)).size ≤ _; unfold maxLen; simp; omega
  have HS3 : Hid ((s.extract (i + j) s.size).size ≤ maxLen) := by show (s.extract (i + j) s.size).size ≤ _; unfold maxLen; simp; omega
  have q1 : (0 : Int) ≤ (i : Int) + j ∧ (i : Int) + j ≤ (s.size : Int) := by omega
  have q2 : (i : Int) ≤ (i : Int) + j := by omega
  have q3 : ((i : Int) + j).toNat = i + j := by omega
  refine wp_region_up (by kernel_rfl) [[0], [7], [34, 35], [0], [7], [8], [37, 38, 39], [0], [8], [41, 42], [36, 40, 43], [44], [0], [46], [47], [45, 48], [49], [50], [50], [52, 50], [51, 53, 50], [50, 54], [55], [0, 56], [57, 56], [58, 56], [0, 56], [60, 56], [61, 56], [59, 62, 56], [56, 63], [64]] [(34, Sp.is (.string s)), (35, Sp.is (.int .i64 (i : Int))), (36, Sp.is (.string (s.extract 0 i))), (37, Sp.is (.string s)), (38, Sp.is (.int .i64 (i : Int))), (39, Sp.is (.int .i64 ((i : Int) + j))), (40, Sp.is (.string (s.extract i (i + j)))), (41, Sp.is (.string s)), (42, Sp.is (.int .i64 ((i : Int) + j))), (43, Sp.is (.string (s.extract (i + j) s.size))), (44, Sp.row 3 9 [.string (s.extract 0 i), .string (s.extract i (i + j)), .string (s.extract (i + j) s.size)]), (45, Sp.is (.agg ((SUM s.data.toList).map U).toArray)), (46, Sp.is (.string s)), (47, Sp.row 1 9 [.string s]), (48, Sp.is (.agg ((SUM s.data.toList).map U).toArray)), (49, Sp.is (.bool true)), (50, Sp.is (.bool true)), (51, Sp.is (.agg ((SUM []).map U).toArray)), (52, Sp.row 1 9 [.string ⟨#[]⟩]), (53, Sp.is (.agg ((SUM []).map U).toArray)), (54, Sp.is (.bool true)), (55, Sp.is (.bool true)), (56, Sp.is (.bool true)), (57, Sp.is (.string s)), (58, Sp.row 2 9 [.string s, .string ⟨#[]⟩]), (59, Sp.is (.agg ((SUM s.data.toList).map U).toArray)), (60, Sp.is (.string s)), (61, Sp.row 1 9 [.string s]), (62, Sp.is (.agg ((SUM s.data.toList).map U).toArray)), (63, Sp.is (.bool true)), (64, Sp.is (.bool true)), (6, Sp.is (.bool true))] 65 rfl (by kernel_rfl) (by kernel_rfl) (by kernel_rfl) ?_ ?_
  · refine ⟨?_, ?_, ?_, ?_, ?_, ?_, ?_, ?_, ?_, ?_, ?_, ?_, ?_, ?_, ?_, ?_, ?_, ?_, ?_, ?_, ?_, ?_, ?_, ?_, ?_, ?_, ?_, ?_, ?_, ?_, ?_, ?_, trivial⟩
    · as_aux_lemma =>
      refine UpOb.plain rfl fun a W hR hl K hK => ?_
      have h0 : a.tmps.getD 0 undef = (.string s) := hl 0 (by decide)
      replace hK : ∀ v W2, Up W W2 → v = (.string s) → K (a.put (some 34) v) W2 := fun v W2 h1 h2 => hK v W2 h1 (fun d hd => by cases hd; exact h2)
      clear hl
      simp only [Array.getD_eq_getD_getElem?] at h0
      go_simp
      exact hK _ W (Up.refl W) rfl
    · as_aux_lemma =>
      refine UpOb.plain rfl fun a W hR hl K hK => ?_
      have h7 : a.tmps.getD 7 undef = (.int .i64 (i : Int)) := hl 7 (by decide)
      replace hK : ∀ v W2, Up W W2 → v = (.int .i64 (i : Int)) → K (a.put (some 35) v) W2 := fun v W2 h1 h2 => hK v W2 h1 (fun d hd => by cases hd; exact h2)
      clear hl
      simp only [Array.getD_eq_getD_getElem?] at h7
      go_simp
      exact hK _ W (Up.refl W) rfl
    · as_aux_lemma =>
      refine UpOb.plain rfl fun a W hR hl K hK => ?_
      have h34 : a.tmps.getD 34 undef = (.string s) := hl 34 (by decide)
      have h35 : a.tmps.getD 35 undef = (.int .i64 (i : Int)) := hl 35 (by decide)
      replace hK : ∀ v W2, Up W W2 → v = (.string (s.extract 0 i)) → K (a.put (some 36) v) W2 := fun v W2 h1 h2 => hK v W2 h1 (fun d hd => by cases hd; exact h2)
      clear hl
      simp only [Array.getD_eq_getD_getElem?] at h34 h35
      go_simp
      exact hK _ W (Up.refl W) rfl
    · as_aux_lemma =>
      refine UpOb.plain rfl fun a W hR hl K hK => ?_
      have h0 : a.tmps.getD 0 undef = (.string s) := hl 0 (by decide)
      replace hK : ∀ v W2, Up W W2 → v = (.string s) → K (a.put (some 37) v) W2 := fun v W2 h1 h2 => hK v W2 h1 (fun d hd => by cases hd; exact h2)
      clear hl
      simp only [Array.getD_eq_getD_getElem?] at h0
      go_simp
      exact hK _ W (Up.refl W) rfl
    · as_aux_lemma =>
      refine UpOb.plain rfl fun a W hR hl K hK => ?_
      have h7 : a.tmps.getD 7 undef = (.int .i64 (i : Int)) := hl 7 (by decide)
      replace hK : ∀ v W2, Up W W2 → v = (.int .i64 (i : Int)) → K (a.put (some 38) v) W2 := fun v W2 h1 h2 => hK v W2 h1 (fun d hd => by cases hd; exact h2)
      clear hl
      simp only [Array.getD_eq_getD_getElem?] at h7
      go_simp
      exact hK _ W (Up.refl W) rfl
    · as_aux_lemma =>
      refine UpOb.plain rfl fun a W hR hl K hK => ?_
      have h8 : a.tmps.getD 8 undef = (.int .i64 ((i : Int) + j)) := hl 8 (by decide)
      replace hK : ∀ v W2, Up W W2 → v = (.int .i64 ((i : Int) + j)) → K (a.put (some 39) v) W2 := fun v W2 h1 h2 => hK v W2 h1 (fun d hd => by cases hd; exact h2)
      clear hl
      simp only [Array.getD_eq_getD_getElem?] at h8
      go_simp
      exact hK _ W (Up.refl W) rfl
    · as_aux_lemma =>
      refine UpOb.plain rfl fun a W hR hl K hK => ?_
      have h37 : a.tmps.getD 37 undef = (.string s) := hl 37 (by decide)
      have h38 : a.tmps.getD 38 undef = (.int .i64 (i : Int)) := hl 38 (by decide)
      have h39 : a.tmps.getD 39 undef = (.int .i64 ((i : Int) + j)) := hl 39 (by decide)
      replace hK : ∀ v W2, Up W W2 → v = (.string (s.extract i (i + j))) → K (a.put (some 40) v) W2 := fun v W2 h1 h2 => hK v W2 h1 (fun d hd => by cases hd; exact h2)
      clear hl
      simp only [Array.getD_eq_getD_getElem?] at h37 h38 h39
      go_simp
      exact hK _ W (Up.refl W) rfl
    · as_aux_lemma =>
      refine UpOb.plain rfl fun a W hR hl K hK => ?_
      have h0 : a.tmps.getD 0 undef = (.string s) := hl 0 (by decide)
      replace hK : ∀ v W2, Up W W2 → v = (.string s) → K (a.put (some 41) v) W2 := fun v W2 h1 h2 => hK v W2 h1 (fun d hd => by cases hd; exact h2)
      clear hl
      simp only [Array.getD_eq_getD_getElem?] at h0
      go_simp
      exact hK _ W (Up.refl W) rfl
    · as_aux_lemma =>
      refine UpOb.plain rfl fun a W hR hl K hK => ?_
      have h8 : a.tmps.getD 8 undef = (.int .i64 ((i : Int) + j)) := hl 8 (by decide)
      replace hK : ∀ v W2, Up W W2 → v = (.int .i64 ((i : Int) + j)) → K (a.put (some 42) v) W2 := fun v W2 h1 h2 => hK v W2 h1 (fun d hd => by cases hd; exact h2)
      clear hl
      simp only [Array.getD_eq_getD_getElem?] at h8
      go_simp
      exact hK _ W (Up.refl W) rfl
    · as_aux_lemma =>
      refine UpOb.plain rfl fun a W hR hl K hK => ?_
      have h41 : a.tmps.getD 41 undef = (.string s) := hl 41 (by decide)
      have h42 : a.tmps.getD 42 undef = (.int .i64 ((i : Int) + j)) := hl 42 (by decide)
      replace hK : ∀ v W2, Up W W2 → v = (.string (s.extract (i + j) s.size)) → K (a.put (some 43) v) W2 := fun v W2 h1 h2 => hK v W2 h1 (fun d hd => by cases hd; exact h2)
      clear hl
      simp only [Array.getD_eq_getD_getElem?] at h41 h42
      go_simp
      exact hK _ W (Up.refl W) rfl
    · as_aux_lemma =>
      refine UpOb.plain rfl fun a W hR hl K hK => ?_
      have h36 : a.tmps.getD 36 undef = (.string (s.extract 0 i)) := hl 36 (by decide)
      have h40 : a.tmps.getD 40 undef = (.string (s.extract i (i + j))) := hl 40 (by decide)
      have h43 : a.tmps.getD 43 undef = (.string (s.extract (i + j) s.size)) := hl 43 (by decide)
      replace hK : ∀ W2 b, Up W W2 → Blk W2 b 9 ([.string (s.extract 0 i), .string (s.extract i (i + j)), .string (s.extract (i + j) s.size)] : List Value).toArray → K (a.put (some 44) (.slice (some ⟨b, 0, none⟩) 3 3)) W2 := fun W2 b h1 h2 => hK _ W2 h1 (fun d hd => by cases hd; exact ⟨b, rfl, h2⟩)
      clear hl
      simp only [Array.getD_eq_getD_getElem?] at h36 h40 h43
      go_simp
      exact hK _ _ ((Below.refl _ W).alloc (Nat.le_refl _) _) (Blk.fresh W 9 _)
    · as_aux_lemma =>
      refine UpOb.plain rfl fun a W hR hl K hK => ?_
      obtain ⟨b44, h44, k44⟩ : ∃ b, a.tmps.getD 44 undef = .slice (some ⟨b, 0, none⟩) 3 3 ∧ Blk W b 9 ([.string (s.extract 0 i), .string (s.extract i (i + j)), .string (s.extract (i + j) s.size)] : List Value).toArray := hl 44 (by decide)
      replace hK : ∀ v W2, Up W W2 → v = (.agg ((SUM s.data.toList).map U).toArray) → K (a.put (some 45) v) W2 := fun v W2 h1 h2 => hK v W2 h1 (fun d hd => by cases hd; exact h2)
      clear hl
      simp only [Array.getD_eq_getD_getElem?] at h44
      have hh := HUK.out W hR
      clear hR
      go_simp
      refine (sum_three W b44 s i j HS1.out HS2.out HS3.out k44 hh).mono ?_
      rintro e w4 ⟨rfl, hb4⟩
      exact hK _ w4 hb4 rfl
    · as_aux_lemma =>
      refine UpOb.plain rfl fun a W hR hl K hK => ?_
      have h0 : a.tmps.getD 0 undef = (.string s) := hl 0 (by decide)
      replace hK : ∀ v W2, Up W W2 → v = (.string s) → K (a.put (some 46) v) W2 := fun v W2 h1 h2 => hK v W2 h1 (fun d hd => by cases hd; exact h2)
      clear hl
      simp only [Array.getD_eq_getD_getElem?] at h0
      go_simp
      exact hK _ W (Up.refl W) rfl
    · as_aux_lemma =>
      refine UpOb.plain rfl fun a W hR hl K hK => ?_
      have h46 : a.tmps.getD 46 undef = (.string s) := hl 46 (by decide)
      replace hK : ∀ W2 b, Up W W2 → Blk W2 b 9 ([.string s] : List Value).toArray → K (a.put (some 47) (.slice (some ⟨b, 0, none⟩) 1 1)) W2 := fun W2 b h1 h2 => hK _ W2 h1 (fun d hd => by cases hd; exact ⟨b, rfl, h2⟩)
      clear hl
      simp only [Array.getD_eq_getD_getElem?] at h46
      go_simp
      exact hK _ _ ((Below.refl _ W).alloc (Nat.le_refl _) _) (Blk.fresh W 9 _)
    · as_aux_lemma =>
      refine UpOb.plain rfl fun a W hR hl K hK => ?_
      obtain ⟨b47, h47, k47⟩ : ∃ b, a.tmps.getD 47 undef = .slice (some ⟨b, 0, none⟩) 1 1 ∧ Blk W b 9 ([.string s] : List Value).toArray := hl 47 (by decide)
      replace hK : ∀ v W2, Up W W2 → v = (.agg ((SUM s.data.toList).map U).toArray) → K (a.put (some 48) v) W2 := fun v W2 h1 h2 => hK v W2 h1 (fun d hd => by cases hd; exact h2)
      clear hl
      simp only [Array.getD_eq_getD_getElem?] at h47
      have hh := HUK.out W hR
      clear hR
      go_simp
      refine (sum_one W b47 s HS0.out k47 hh).mono ?_
      rintro e w4 ⟨rfl, hb4⟩
      exact hK _ w4 hb4 rfl
    · as_aux_lemma =>
      refine UpOb.plain rfl fun a W hR hl K hK => ?_
      have h45 : a.tmps.getD 45 undef = (.agg ((SUM s.data.toList).map U).toArray) := hl 45 (by decide)
      have h48 : a.tmps.getD 48 undef = (.agg ((SUM s.data.toList).map U).toArray) := hl 48 (by decide)
      replace hK : ∀ v W2, Up W W2 → v = (.bool true) → K (a.put (some 49) v) W2 := fun v W2 h1 h2 => hK v W2 h1 (fun d hd => by cases hd; exact h2)
      clear hl
      exact wp_eq25 _ _ _ rfl (SUM (s.data.toList)) (SUM_length _) h45 h48 (hK _ W (Up.refl W) rfl)
    · as_aux_lemma =>
      refine UpOb.plain rfl fun a W hR hl K hK => ?_
      have h49 : a.tmps.getD 49 undef = (.bool true) := hl 49 (by decide)
      replace hK : ∀ v W2, Up W W2 → v = (.bool true) → K (a.put (some 50) v) W2 := fun v W2 h1 h2 => hK v W2 h1 (fun d hd => by cases hd; exact h2)
      clear hl
      simp only [Array.getD_eq_getD_getElem?] at h49
      go_simp
      exact hK _ W (Up.refl W) rfl
    · as_aux_lemma =>
      refine UpOb.guarded (d := 50) rfl rfl (fun a W hl => hl 50 (by decide)) fun a W hR hl K hK => ?_
      have h50 : a.tmps.getD 50 undef = (.bool true) := hl 50 (by decide)
      replace hK : ∀ v W2, Up W W2 → v = (.agg ((SUM []).map U).toArray) → K (a.put (some 51) v) W2 := fun v W2 h1 h2 => hK v W2 h1 (fun d hd => by cases hd; exact h2)
      clear hl
      simp only [Array.getD_eq_getD_getElem?] at h50
      have hh := HUK.out W hR
      clear hR
      go_simp
      refine (sum_none W hh).mono ?_
      rintro e w4 ⟨rfl, hb4⟩
      exact hK _ w4 hb4 rfl
    · as_aux_lemma =>
      refine UpOb.guarded (d := 50) rfl rfl (fun a W hl => hl 50 (by decide)) fun a W hR hl K hK => ?_
      have h50 : a.tmps.getD 50 undef = (.bool true) := hl 50 (by decide)
      replace hK : ∀ W2 b, Up W W2 → Blk W2 b 9 ([.string ⟨#[]⟩] : List Value).toArray → K (a.put (some 52) (.slice (some ⟨b, 0, none⟩) 1 1)) W2 := fun W2 b h1 h2 => hK _ W2 h1 (fun d hd => by cases hd; exact ⟨b, rfl, h2⟩)
      clear hl
      simp only [Array.getD_eq_getD_getElem?] at h50
      go_simp
      exact hK _ _ ((Below.refl _ W).alloc (Nat.le_refl _) _) (Blk.fresh W 9 _)
    · as_aux_lemma =>
      refine UpOb.guarded (d := 50) rfl rfl (fun a W hl => hl 50 (by decide)) fun a W hR hl K hK => ?_
      obtain ⟨b52, h52, k52⟩ : ∃ b, a.tmps.getD 52 undef = .slice (some ⟨b, 0, none⟩) 1 1 ∧ Blk W b 9 ([.string ⟨#[]⟩] : List Value).toArray := hl 52 (by decide)
      have h50 : a.tmps.getD 50 undef = (.bool true) := hl 50 (by decide)
      replace hK : ∀ v W2, Up W W2 → v = (.agg ((SUM []).map U).toArray) → K (a.put (some 53) v) W2 := fun v W2 h1 h2 => hK v W2 h1 (fun d hd => by cases hd; exact h2)
      clear hl
      simp only [Array.getD_eq_getD_getElem?] at h52 h50
      have hh := HUK.out W hR
      clear hR
      go_simp
      refine (sum_zero W b52 k52 hh).mono ?_
      rintro e w4 ⟨rfl, hb4⟩
      exact hK _ w4 hb4 rfl
    · as_aux_lemma =>
      refine UpOb.guarded (d := 50) rfl rfl (fun a W hl => hl 50 (by decide)) fun a W hR hl K hK => ?_
      have h51 : a.tmps.getD 51 undef = (.agg ((SUM []).map U).toArray) := hl 51 (by decide)
      have h53 : a.tmps.getD 53 undef = (.agg ((SUM []).map U).toArray) := hl 53 (by decide)
      have h50 : a.tmps.getD 50 undef = (.bool true) := hl 50 (by decide)
      replace hK : ∀ v W2, Up W W2 → v = (.bool true) → K (a.put (some 54) v) W2 := fun v W2 h1 h2 => hK v W2 h1 (fun d hd => by cases hd; exact h2)
      clear hl
      exact wp_eq25 _ _ _ rfl (SUM []) (SUM_length _) h51 h53 (hK _ W (Up.refl W) rfl)
    · as_aux_lemma =>
      refine UpOb.plain rfl fun a W hR hl K hK => ?_
      have h50 : a.tmps.getD 50 undef = (.bool true) := hl 50 (by decide)
      have h54 : a.tmps.getD 54 undef = (.bool true) := hl 54 (by decide)
      replace hK : ∀ v W2, Up W W2 → v = (.bool true) → K (a.put (some 55) v) W2 := fun v W2 h1 h2 => hK v W2 h1 (fun d hd => by cases hd; exact h2)
      clear hl
      simp only [Array.getD_eq_getD_getElem?] at h50 h54
      go_simp
      exact hK _ W (Up.refl W) rfl
    · as_aux_lemma =>
      refine UpOb.plain rfl fun a W hR hl K hK => ?_
      have h55 : a.tmps.getD 55 undef = (.bool true) := hl 55 (by decide)
      replace hK : ∀ v W2, Up W W2 → v = (.bool true) → K (a.put (some 56) v) W2 := fun v W2 h1 h2 => hK v W2 h1 (fun d hd => by cases hd; exact h2)
      clear hl
      simp only [Array.getD_eq_getD_getElem?] at h55
      go_simp
      exact hK _ W (Up.refl W) rfl
    · as_aux_lemma =>
      refine UpOb.guarded (d := 56) rfl rfl (fun a W hl => hl 56 (by decide)) fun a W hR hl K hK => ?_
      have h0 : a.tmps.getD 0 undef = (.string s) := hl 0 (by decide)
      have h56 : a.tmps.getD 56 undef = (.bool true) := hl 56 (by decide)
      replace hK : ∀ v W2, Up W W2 → v = (.string s) → K (a.put (some 57) v) W2 := fun v W2 h1 h2 => hK v W2 h1 (fun d hd => by cases hd; exact h2)
      clear hl
      simp only [Array.getD_eq_getD_getElem?] at h0 h56
      go_simp
      exact hK _ W (Up.refl W) rfl
    · as_aux_lemma =>
      refine UpOb.guarded (d := 56) rfl rfl (fun a W hl => hl 56 (by decide)) fun a W hR hl K hK => ?_
      have h57 : a.tmps.getD 57 undef = (.string s) := hl 57 (by decide)
      have h56 : a.tmps.getD 56 undef = (.bool true) := hl 56 (by decide)
      replace hK : ∀ W2 b, Up W W2 → Blk W2 b 9 ([.string s, .string ⟨#[]⟩] : List Value).toArray → K (a.put (some 58) (.slice (some ⟨b, 0, none⟩) 2 2)) W2 := fun W2 b h1 h2 => hK _ W2 h1 (fun d hd => by cases hd; exact ⟨b, rfl, h2⟩)
      clear hl
      simp only [Array.getD_eq_getD_getElem?] at h57 h56
      go_simp
      exact hK _ _ ((Below.refl _ W).alloc (Nat.le_refl _) _) (Blk.fresh W 9 _)
    · as_aux_lemma =>
      refine UpOb.guarded (d := 56) rfl rfl (fun a W hl => hl 56 (by decide)) fun a W hR hl K hK => ?_
      obtain ⟨b58, h58, k58⟩ : ∃ b, a.tmps.getD 58 undef = .slice (some ⟨b, 0, none⟩) 2 2 ∧ Blk W b 9 ([.string s, .string ⟨#[]⟩] : List Value).toArray := hl 58 (by decide)
      have h56 : a.tmps.getD 56 undef = (.bool true) := hl 56 (by decide)
      replace hK : ∀ v W2, Up W W2 → v = (.agg ((SUM s.data.toList).map U).toArray) → K (a.put (some 59) v) W2 := fun v W2 h1 h2 => hK v W2 h1 (fun d hd => by cases hd; exact h2)
      clear hl
      simp only [Array.getD_eq_getD_getElem?] at h58 h56
      have hh := HUK.out W hR
      clear hR
      go_simp
      refine (sum_two W b58 s HS0.out k58 hh).mono ?_
      rintro e w4 ⟨rfl, hb4⟩
      exact hK _ w4 hb4 rfl
    · as_aux_lemma =>
      refine UpOb.guarded (d := 56) rfl rfl (fun a W hl => hl 56 (by decide)) fun a W hR hl K hK => ?_
      have h0 : a.tmps.getD 0 undef = (.string s) := hl 0 (by decide)
      have h56 : a.tmps.getD 56 undef = (.bool true) := hl 56 (by decide)
      replace hK : ∀ v W2, Up W W2 → v = (.string s) → K (a.put (some 60) v) W2 := fun v W2 h1 h2 => hK v W2 h1 (fun d hd => by cases hd; exact h2)
      clear hl
      simp only [Array.getD_eq_getD_getElem?] at h0 h56
      go_simp
      exact hK _ W (Up.refl W) rfl
    · as_aux_lemma =>
      refine UpOb.guarded (d := 56) rfl rfl (fun a W hl => hl 56 (by decide)) fun a W hR hl K hK => ?_
      have h60 : a.tmps.getD 60 undef = (.string s) := hl 60 (by decide)
      have h56 : a.tmps.getD 56 undef = (.bool true) := hl 56 (by decide)
      replace hK : ∀ W2 b, Up W W2 → Blk W2 b 9 ([.string s] : List Value).toArray → K (a.put (some 61) (.slice (some ⟨b, 0, none⟩) 1 1)) W2 := fun W2 b h1 h2 => hK _ W2 h1 (fun d hd => by cases hd; exact ⟨b, rfl, h2⟩)
      clear hl
      simp only [Array.getD_eq_getD_getElem?] at h60 h56
      go_simp
      exact hK _ _ ((Below.refl _ W).alloc (Nat.le_refl _) _) (Blk.fresh W 9 _)
    · as_aux_lemma =>
      refine UpOb.guarded (d := 56) rfl rfl (fun a W hl => hl 56 (by decide)) fun a W hR hl K hK => ?_
      obtain ⟨b61, h61, k61⟩ : ∃ b, a.tmps.getD 61 undef = .slice (some ⟨b, 0, none⟩) 1 1 ∧ Blk W b 9 ([.string s] : List Value).toArray := hl 61 (by decide)
      have h56 : a.tmps.getD 56 undef = (.bool true) := hl 56 (by decide)
      replace hK : ∀ v W2, Up W W2 → v = (.agg ((SUM s.data.toList).map U).toArray) → K (a.put (some 62) v) W2 := fun v W2 h1 h2 => hK v W2 h1 (fun d hd => by cases hd; exact h2)
      clear hl
      simp only [Array.getD_eq_getD_getElem?] at h61 h56
      have hh := HUK.out W hR
      clear hR
      go_simp
      refine (sum_one W b61 s HS0.out k61 hh).mono ?_
      rintro e w4 ⟨rfl, hb4⟩
      exact hK _ w4 hb4 rfl
    · as_aux_lemma =>
      refine UpOb.guarded (d := 56) rfl rfl (fun a W hl => hl 56 (by decide)) fun a W hR hl K hK => ?_
      have h59 : a.tmps.getD 59 undef = (.agg ((SUM s.data.toList).map U).toArray) := hl 59 (by decide)
      have h62 : a.tmps.getD 62 undef = (.agg ((SUM s.data.toList).map U).toArray) := hl 62 (by decide)
      have h56 : a.tmps.getD 56 undef = (.bool true) := hl 56 (by decide)
      replace hK : ∀ v W2, Up W W2 → v = (.bool true) → K (a.put (some 63) v) W2 := fun v W2 h1 h2 => hK v W2 h1 (fun d hd => by cases hd; exact h2)
      clear hl
      exact wp_eq25 _ _ _ rfl (SUM (s.data.toList)) (SUM_length _) h59 h62 (hK _ W (Up.refl W) rfl)
    · as_aux_lemma =>
      refine UpOb.plain rfl fun a W hR hl K hK => ?_
      have h56 : a.tmps.getD 56 undef = (.bool true) := hl 56 (by decide)
      have h63 : a.tmps.getD 63 undef = (.bool true) := hl 63 (by decide)
      replace hK : ∀ v W2, Up W W2 → v = (.bool true) → K (a.put (some 64) v) W2 := fun v W2 h1 h2 => hK v W2 h1 (fun d hd => by cases hd; exact h2)
      clear hl
      simp only [Array.getD_eq_getD_getElem?] at h56 h63
      go_simp
      exact hK _ W (Up.refl W) rfl
    · as_aux_lemma =>
      refine UpOb.plain rfl fun a W hR hl K hK => ?_
      have h64 : a.tmps.getD 64 undef = (.bool true) := hl 64 (by decide)
      replace hK : ∀ v W2, Up W W2 → v = (.bool true) → K (a.put (some 6) v) W2 := fun v W2 h1 h2 => hK v W2 h1 (fun d hd => by cases hd; exact h2)
      clear hl
      simp only [Array.getD_eq_getD_getElem?] at h64
      go_simp
      exact hK _ W (Up.refl W) rfl
  · intro a W hd hR hl
    have h6 : a.tmps.getD 6 undef = .bool true := hl 6
    go_wp2
    refine bodyPost_ret (v := .bool true) ?_ hd ⟨rfl, HU.out W hR⟩
    rw [results_tmp rfl, h6]
end Go.Proofs.YtcbfnbmkogeehaaDoor
