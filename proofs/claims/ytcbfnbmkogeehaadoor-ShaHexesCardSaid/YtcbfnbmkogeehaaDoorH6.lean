/- The law for digests as text, for texts of at most 200 bytes. -/
import Derived.Test.YtcbfnbmkogeehaaDoorH4
namespace Go.Proofs.YtcbfnbmkogeehaaDoor
open Go.RowKit
set_option maxRecDepth 100000 in
set_option maxHeartbeats 1000000 in
theorem hexes_yes (la lb : List UInt8) (s : ByteArray) (w : World) (hk : Kt w) (hs : s.size ≤ 200) (ha : la.length = 32) (hb : lb.length = 32) (yd : List UInt8) (hyd : yd.length = 32) (hn : parseL s.data.toList = some yd) (hsy : s = bstr (hexOf yd)) :
    Calls Tryd.prog 4 #[.agg (la.map U).toArray, .agg (lb.map U).toArray, .string s] w fun e w' => e = .returned (.bool true) ∧ Below w.heap.size w w' := by
  have HK := Lib.hid hk
  have HA := Lib.hid ha
  have HBB := Lib.hid hb
  have hp1 : parseD (bstr (hexOf la)).data.toList = (la, true) := by
    show parseD (hexOf la) = _
    unfold parseD
    rw [parseL_hex la ha]
  have HP1 := Lib.hid hp1
  have hp2 : parseD s.data.toList = (yd, true) := by unfold parseD; rw [hn]
  subst hsy
  have HP2 := Lib.hid hp2
  have HY := Lib.hid hyd
  clear hp2 hn hyd
  have hz : (bstr (hexOf la)).size ≤ maxLen := by
    show (hexOf la).toArray.size ≤ _
    rw [List.size_toArray, hexOf_length, ha]; decide
  have hz2 : (bstr (hexOf yd)).size ≤ maxLen := by unfold maxLen; omega
  have HZ := Lib.hid hz
  have HZ2 := Lib.hid hz2
  have HBox : Hid (Blk ((w.alloc (.cells (la.map U).toArray 25)).alloc (.cells (lb.map U).toArray 25)) w.heap.size 25 (la.map U).toArray) := (Blk.fresh w 25 _).more _
  have HBox2 : Hid (Blk ((w.alloc (.cells (la.map U).toArray 25)).alloc (.cells (lb.map U).toArray 25)) (w.heap.size + 1) 25 (lb.map U).toArray) := Blk.fresh_at (by simp) _ _
  have HW0 : Hid (Below w.heap.size w ((w.alloc (.cells (la.map U).toArray 25)).alloc (.cells (lb.map U).toArray 25))) := ((Below.refl _ w).alloc (Nat.le_refl _) _).alloc (by simp) _
  clear hk ha hb hp1 hz hz2
  go_enter Tryd.func4, Tryd.ntmps4
  go_wp2_with fail
  generalize World.alloc _ _ = w0 at *
  have HS0 : Hid (w.heap.size + 1 < w0.heap.size) := HBox2.out.lt
  go_wp2_with (first | (go_at_call 6; refine (awake_walk _ (HK.out.below HW0.out HK.out.1)).mono ?_; rintro e w1 ⟨rfl, hb1⟩; have HB1 := Lib.hid hb1; have HBA : Hid (Blk w1 w.heap.size 25 (la.map U).toArray) := HBox.out.kept hb1 HBox.out.lt; have HBB2 : Hid (Blk w1 (w.heap.size + 1) 25 (lb.map U).toArray) := HBox2.out.kept hb1 HBox2.out.lt; clear hb1) | (refine wpList_load_row rfl 25 (.tmp 3) rfl w.heap.size rfl 25 _ (0, 0) _ HBA.out Tryd.underlying25 rfl (b_size la HA.out) ?_) | (go_at_call 12; refine (hex_walk _ la HA.out).mono ?_; rintro e w2 ⟨rfl, hb2⟩; have HB2 := Lib.hid hb2; clear hb2) | (go_at_call 11; with_reducible refine (parse_walk (bstr (hexOf la)) _ HZ.out).mono ?_; rw [HP1.out]; rintro e w3 ⟨rfl, hb3⟩; have HB3 := Lib.hid hb3; clear hb3) | (refine wpList_store_fresh rfl 25 (.tmp 7) _ rfl _ rfl rfl (b_size la HA.out) (S32 la HA.out) (SAll la) ?_; intro w4 hb4 hs4 hB4; have HB4 := Lib.hid hb4; have HX4 := Lib.hid hB4; clear hb4 hs4 hB4) | (go_at_call 11; with_reducible refine (parse_walk (bstr (hexOf yd)) _ HZ2.out).mono ?_; rw [HP2.out]; rintro e w5 ⟨rfl, hb5⟩; have HB5 := Lib.hid hb5; clear hb5) | (refine wpList_store_fresh rfl 25 (.tmp 9) _ rfl _ rfl rfl (b_size yd HY.out) (S32 yd HY.out) (SAll yd) ?_; intro w6 hb6 hs6 hB6; have HB6 := Lib.hid hb6; have HX6 := Lib.hid hB6; clear hb6 hs6 hB6))
  have u36 : Up w3 w6 := Up.trans _ _ _ HB4.out (Up.trans _ _ _ HB5.out HB6.out)
  have u16 : Up w1 w6 := Up.trans _ _ _ HB2.out (Up.trans _ _ _ HB3.out u36)
  have ud : Up w6 w6.drew := (Below.refl _ w6).drew
  have b06 : Below w.heap.size w w6 := (HW0.out.trans (HB1.out.mono HW0.out.size)).trans (Below.mono u16 (HW0.out.trans (HB1.out.mono HW0.out.size)).size)
  have HU : Hid (∀ W, Up w6.drew W → Below w.heap.size w W) := fun W hR => (b06.drew).trans (Below.mono hR b06.size)
  have hA6 : Blk w6 w.heap.size 25 (la.map U).toArray := HBA.out.kept u16 HBA.out.lt
  have hB6 : Blk w6 (w.heap.size + 1) 25 (lb.map U).toArray := HBB2.out.kept u16 HBB2.out.lt
  have hX6 : Blk w6 w3.heap.size 25 (la.map U).toArray := HX4.out.kept (Up.trans _ _ _ HB5.out HB6.out) HX4.out.lt
  have HUA : Hid (∀ W, Up w6.drew W → Blk W w.heap.size 25 (la.map U).toArray) := fun W hR => hA6.drew.kept hR hA6.drew.lt
  have HUB : Hid (∀ W, Up w6.drew W → Blk W (w.heap.size + 1) 25 (lb.map U).toArray) := fun W hR => hB6.drew.kept hR hB6.drew.lt
  have HUX : Hid (∀ W, Up w6.drew W → Blk W w3.heap.size 25 (la.map U).toArray) := fun W hR => hX6.drew.kept hR hX6.drew.lt
  have HUY : Hid (∀ W, Up w6.drew W → Blk W w5.heap.size 25 (yd.map U).toArray) := fun W hR => HX6.out.drew.kept hR HX6.out.drew.lt
  clear u36 u16 ud b06 hA6 hB6 hX6
  refine wp_region_up (by kernel_rfl) [[3], [27], [3], [29], [28, 30], [31], [8, 32], [32, 33], [34], [7, 35], [3, 35], [36, 37, 35], [35, 38], [39], [10, 40], [41, 40], [42, 40], [9, 43], [43], [44, 45, 43], [43, 46, 40], [47, 40], [10, 48], [49, 48], [9, 50], [51, 50], [2, 50], [52, 53, 50], [50, 54, 48], [48, 55, 40], [40, 56], [57], [3, 58], [4, 58], [59, 60, 58], [3, 58], [62, 58], [4, 58], [64, 58], [63, 65, 58], [61, 66, 58], [58, 67], [68]] [(27, Sp.is (.agg (la.map U).toArray)), (28, Sp.is (.string (bstr (hexOf la)))), (29, Sp.is (.agg (la.map U).toArray)), (30, Sp.is (.string (bstr (hexOf la)))), (31, Sp.is (.bool true)), (32, Sp.is (.bool true)), (33, Sp.is (.bool true)), (34, Sp.is (.bool true)), (35, Sp.is (.bool true)), (36, Sp.is (.agg (la.map U).toArray)), (37, Sp.is (.agg (la.map U).toArray)), (38, Sp.is (.bool true)), (39, Sp.is (.bool true)), (40, Sp.is (.bool true)), (41, Sp.is (.bool true)), (42, Sp.is (.bool false)), (43, Sp.is (.bool false)), (44, Sp.is undef), (45, Sp.is undef), (46, Sp.is undef), (47, Sp.is (.bool false)), (48, Sp.is (.bool false)), (49, Sp.is (.bool true)), (50, Sp.is (.bool true)), (51, Sp.is (.agg (yd.map U).toArray)), (52, Sp.is (.string (bstr (hexOf yd)))), (53, Sp.is (.string (bstr (hexOf yd)))), (54, Sp.is (.bool true)), (55, Sp.is (.bool true)), (56, Sp.is (.bool true)), (57, Sp.is (.bool true)), (58, Sp.is (.bool true)), (59, Sp.is (.agg (la.map U).toArray)), (60, Sp.is (.agg (lb.map U).toArray)), (61, Sp.is (.bool (decide (Lib.compareBytes la lb < 0)))), (62, Sp.is (.agg (la.map U).toArray)), (63, Sp.is (.string (bstr (hexOf la)))), (64, Sp.is (.agg (lb.map U).toArray)), (65, Sp.is (.string (bstr (hexOf lb)))), (66, Sp.is (.bool (Op.bytesLess (hexOf la) (hexOf lb)))), (67, Sp.is (.bool true)), (68, Sp.is (.bool true)), (6, Sp.is (.bool true))] 69 rfl (by kernel_rfl) (by kernel_rfl) (by kernel_rfl) ?_ ?_
  · refine ⟨?_, ?_, ?_, ?_, ?_, ?_, ?_, ?_, ?_, ?_, ?_, ?_, ?_, ?_, ?_, ?_, ?_, ?_, ?_, ?_, ?_, ?_, ?_, ?_, ?_, ?_, ?_, ?_, ?_, ?_, ?_, ?_, ?_, ?_, ?_, ?_, ?_, ?_, ?_, ?_, ?_, ?_, ?_, trivial⟩
    · as_aux_lemma =>
      refine UpOb.plain rfl fun a W hR hl K hK => ?_
      have h3 : a.tmps.getD 3 undef = (.pointer (some ⟨w.heap.size, 0, none⟩)) := hl 3 (by decide)
      replace hK : ∀ v W2, Up W W2 → v = (.agg (la.map U).toArray) → K (a.put (some 27) v) W2 := fun v W2 h1 h2 => hK v W2 h1 (fun d hd => by cases hd; exact h2)
      clear hl
      exact wp_load_row 25 _ rfl w.heap.size h3 25 _ (0, 0) _ (HUA.out W hR) Tryd.underlying25 rfl (b_size la HA.out) (hK _ W (Up.refl W) rfl)
    · as_aux_lemma =>
      refine UpOb.plain rfl fun a W hR hl K hK => ?_
      have h27 : a.tmps.getD 27 undef = (.agg (la.map U).toArray) := hl 27 (by decide)
      replace hK : ∀ v W2, Up W W2 → v = (.string (bstr (hexOf la))) → K (a.put (some 28) v) W2 := fun v W2 h1 h2 => hK v W2 h1 (fun d hd => by cases hd; exact h2)
      clear hl
      clear hR
      simp only [Array.getD_eq_getD_getElem?] at h27
      go_simp
      refine (hex_walk W la HA.out).mono ?_
      rintro e w8 ⟨rfl, hb8⟩
      exact hK _ w8 hb8 rfl
    · as_aux_lemma =>
      refine UpOb.plain rfl fun a W hR hl K hK => ?_
      have h3 : a.tmps.getD 3 undef = (.pointer (some ⟨w.heap.size, 0, none⟩)) := hl 3 (by decide)
      replace hK : ∀ v W2, Up W W2 → v = (.agg (la.map U).toArray) → K (a.put (some 29) v) W2 := fun v W2 h1 h2 => hK v W2 h1 (fun d hd => by cases hd; exact h2)
      clear hl
      exact wp_load_row 25 _ rfl w.heap.size h3 25 _ (0, 0) _ (HUA.out W hR) Tryd.underlying25 rfl (b_size la HA.out) (hK _ W (Up.refl W) rfl)
    · as_aux_lemma =>
      refine UpOb.plain rfl fun a W hR hl K hK => ?_
      have h29 : a.tmps.getD 29 undef = (.agg (la.map U).toArray) := hl 29 (by decide)
      replace hK : ∀ v W2, Up W W2 → v = (.string (bstr (hexOf la))) → K (a.put (some 30) v) W2 := fun v W2 h1 h2 => hK v W2 h1 (fun d hd => by cases hd; exact h2)
      clear hl
      clear hR
      simp only [Array.getD_eq_getD_getElem?] at h29
      go_simp
      refine (refhex_walk W la HA.out).mono ?_
      rintro e w8 ⟨rfl, hb8⟩
      exact hK _ w8 hb8 rfl
    · as_aux_lemma =>
      refine UpOb.plain rfl fun a W hR hl K hK => ?_
      have h28 : a.tmps.getD 28 undef = (.string (bstr (hexOf la))) := hl 28 (by decide)
      have h30 : a.tmps.getD 30 undef = (.string (bstr (hexOf la))) := hl 30 (by decide)
      replace hK : ∀ v W2, Up W W2 → v = (.bool true) → K (a.put (some 31) v) W2 := fun v W2 h1 h2 => hK v W2 h1 (fun d hd => by cases hd; exact h2)
      clear hl
      exact wp_eqS _ _ _ rfl (hexOf la) h28 h30 (hK _ W (Up.refl W) rfl)
    · as_aux_lemma =>
      refine UpOb.plain rfl fun a W hR hl K hK => ?_
      have h31 : a.tmps.getD 31 undef = (.bool true) := hl 31 (by decide)
      replace hK : ∀ v W2, Up W W2 → v = (.bool true) → K (a.put (some 32) v) W2 := fun v W2 h1 h2 => hK v W2 h1 (fun d hd => by cases hd; exact h2)
      clear hl
      simp only [Array.getD_eq_getD_getElem?] at h31
      go_simp
      exact hK _ W (Up.refl W) rfl
    · as_aux_lemma =>
      refine UpOb.guarded (d := 32) rfl rfl (fun a W hl => hl 32 (by decide)) fun a W hR hl K hK => ?_
      have h8 : a.tmps.getD 8 undef = (.bool true) := hl 8 (by decide)
      have h32 : a.tmps.getD 32 undef = (.bool true) := hl 32 (by decide)
      replace hK : ∀ v W2, Up W W2 → v = (.bool true) → K (a.put (some 33) v) W2 := fun v W2 h1 h2 => hK v W2 h1 (fun d hd => by cases hd; exact h2)
      clear hl
      simp only [Array.getD_eq_getD_getElem?] at h8 h32
      go_simp
      exact hK _ W (Up.refl W) rfl
    · as_aux_lemma =>
      refine UpOb.plain rfl fun a W hR hl K hK => ?_
      have h32 : a.tmps.getD 32 undef = (.bool true) := hl 32 (by decide)
      have h33 : a.tmps.getD 33 undef = (.bool true) := hl 33 (by decide)
      replace hK : ∀ v W2, Up W W2 → v = (.bool true) → K (a.put (some 34) v) W2 := fun v W2 h1 h2 => hK v W2 h1 (fun d hd => by cases hd; exact h2)
      clear hl
      simp only [Array.getD_eq_getD_getElem?] at h32 h33
      go_simp
      exact hK _ W (Up.refl W) rfl
    · as_aux_lemma =>
      refine UpOb.plain rfl fun a W hR hl K hK => ?_
      have h34 : a.tmps.getD 34 undef = (.bool true) := hl 34 (by decide)
      replace hK : ∀ v W2, Up W W2 → v = (.bool true) → K (a.put (some 35) v) W2 := fun v W2 h1 h2 => hK v W2 h1 (fun d hd => by cases hd; exact h2)
      clear hl
      simp only [Array.getD_eq_getD_getElem?] at h34
      go_simp
      exact hK _ W (Up.refl W) rfl
    · as_aux_lemma =>
      refine UpOb.guarded (d := 35) rfl rfl (fun a W hl => hl 35 (by decide)) fun a W hR hl K hK => ?_
      have h7 : a.tmps.getD 7 undef = (.pointer (some ⟨w3.heap.size, 0, none⟩)) := hl 7 (by decide)
      have h35 : a.tmps.getD 35 undef = (.bool true) := hl 35 (by decide)
      replace hK : ∀ v W2, Up W W2 → v = (.agg (la.map U).toArray) → K (a.put (some 36) v) W2 := fun v W2 h1 h2 => hK v W2 h1 (fun d hd => by cases hd; exact h2)
      clear hl
      exact wp_load_row 25 _ rfl w3.heap.size h7 25 _ (0, 0) _ (HUX.out W hR) Tryd.underlying25 rfl (b_size la HA.out) (hK _ W (Up.refl W) rfl)
    · as_aux_lemma =>
      refine UpOb.guarded (d := 35) rfl rfl (fun a W hl => hl 35 (by decide)) fun a W hR hl K hK => ?_
      have h3 : a.tmps.getD 3 undef = (.pointer (some ⟨w.heap.size, 0, none⟩)) := hl 3 (by decide)
      have h35 : a.tmps.getD 35 undef = (.bool true) := hl 35 (by decide)
      replace hK : ∀ v W2, Up W W2 → v = (.agg (la.map U).toArray) → K (a.put (some 37) v) W2 := fun v W2 h1 h2 => hK v W2 h1 (fun d hd => by cases hd; exact h2)
      clear hl
      exact wp_load_row 25 _ rfl w.heap.size h3 25 _ (0, 0) _ (HUA.out W hR) Tryd.underlying25 rfl (b_size la HA.out) (hK _ W (Up.refl W) rfl)
    · as_aux_lemma =>
      refine UpOb.guarded (d := 35) rfl rfl (fun a W hl => hl 35 (by decide)) fun a W hR hl K hK => ?_
      have h36 : a.tmps.getD 36 undef = (.agg (la.map U).toArray) := hl 36 (by decide)
      have h37 : a.tmps.getD 37 undef = (.agg (la.map U).toArray) := hl 37 (by decide)
      have h35 : a.tmps.getD 35 undef = (.bool true) := hl 35 (by decide)
      replace hK : ∀ v W2, Up W W2 → v = (.bool true) → K (a.put (some 38) v) W2 := fun v W2 h1 h2 => hK v W2 h1 (fun d hd => by cases hd; exact h2)
      clear hl
      exact wp_eq25 _ _ _ rfl la HA.out h36 h37 (hK _ W (Up.refl W) rfl)
    · as_aux_lemma =>
      refine UpOb.plain rfl fun a W hR hl K hK => ?_
      have h35 : a.tmps.getD 35 undef = (.bool true) := hl 35 (by decide)
      have h38 : a.tmps.getD 38 undef = (.bool true) := hl 38 (by decide)
      replace hK : ∀ v W2, Up W W2 → v = (.bool true) → K (a.put (some 39) v) W2 := fun v W2 h1 h2 => hK v W2 h1 (fun d hd => by cases hd; exact h2)
      clear hl
      simp only [Array.getD_eq_getD_getElem?] at h35 h38
      go_simp
      exact hK _ W (Up.refl W) rfl
    · as_aux_lemma =>
      refine UpOb.plain rfl fun a W hR hl K hK => ?_
      have h39 : a.tmps.getD 39 undef = (.bool true) := hl 39 (by decide)
      replace hK : ∀ v W2, Up W W2 → v = (.bool true) → K (a.put (some 40) v) W2 := fun v W2 h1 h2 => hK v W2 h1 (fun d hd => by cases hd; exact h2)
      clear hl
      simp only [Array.getD_eq_getD_getElem?] at h39
      go_simp
      exact hK _ W (Up.refl W) rfl
    · as_aux_lemma =>
      refine UpOb.guarded (d := 40) rfl rfl (fun a W hl => hl 40 (by decide)) fun a W hR hl K hK => ?_
      have h10 : a.tmps.getD 10 undef = (.bool true) := hl 10 (by decide)
      have h40 : a.tmps.getD 40 undef = (.bool true) := hl 40 (by decide)
      replace hK : ∀ v W2, Up W W2 → v = (.bool true) → K (a.put (some 41) v) W2 := fun v W2 h1 h2 => hK v W2 h1 (fun d hd => by cases hd; exact h2)
      clear hl
      simp only [Array.getD_eq_getD_getElem?] at h10 h40
      go_simp
      exact hK _ W (Up.refl W) rfl
    · as_aux_lemma =>
      refine UpOb.guarded (d := 40) rfl rfl (fun a W hl => hl 40 (by decide)) fun a W hR hl K hK => ?_
      have h41 : a.tmps.getD 41 undef = (.bool true) := hl 41 (by decide)
      have h40 : a.tmps.getD 40 undef = (.bool true) := hl 40 (by decide)
      replace hK : ∀ v W2, Up W W2 → v = (.bool false) → K (a.put (some 42) v) W2 := fun v W2 h1 h2 => hK v W2 h1 (fun d hd => by cases hd; exact h2)
      clear hl
      simp only [Array.getD_eq_getD_getElem?] at h41 h40
      go_simp
      exact hK _ W (Up.refl W) rfl
    · as_aux_lemma =>
      refine UpOb.guarded (d := 40) rfl rfl (fun a W hl => hl 40 (by decide)) fun a W hR hl K hK => ?_
      have h42 : a.tmps.getD 42 undef = (.bool false) := hl 42 (by decide)
      have h40 : a.tmps.getD 40 undef = (.bool true) := hl 40 (by decide)
      replace hK : ∀ v W2, Up W W2 → v = (.bool false) → K (a.put (some 43) v) W2 := fun v W2 h1 h2 => hK v W2 h1 (fun d hd => by cases hd; exact h2)
      clear hl
      simp only [Array.getD_eq_getD_getElem?] at h42 h40
      go_simp
      exact hK _ W (Up.refl W) rfl
    · as_aux_lemma =>
      exact UpOb.skip (d := 43) rfl rfl (.bool false) (fun a W hl => hl 43 (by decide)) (by simp) (by intro d W hd; cases hd; rfl)
    · as_aux_lemma =>
      exact UpOb.skip (d := 43) rfl rfl (.bool false) (fun a W hl => hl 43 (by decide)) (by simp) (by intro d W hd; cases hd; rfl)
    · as_aux_lemma =>
      exact UpOb.skip (d := 43) rfl rfl (.bool false) (fun a W hl => hl 43 (by decide)) (by simp) (by intro d W hd; cases hd; rfl)
    · as_aux_lemma =>
      refine UpOb.guarded (d := 40) rfl rfl (fun a W hl => hl 40 (by decide)) fun a W hR hl K hK => ?_
      have h43 : a.tmps.getD 43 undef = (.bool false) := hl 43 (by decide)
      have h46 : a.tmps.getD 46 undef = (undef) := hl 46 (by decide)
      have h40 : a.tmps.getD 40 undef = (.bool true) := hl 40 (by decide)
      replace hK : ∀ v W2, Up W W2 → v = (.bool false) → K (a.put (some 47) v) W2 := fun v W2 h1 h2 => hK v W2 h1 (fun d hd => by cases hd; exact h2)
      clear hl
      simp only [Array.getD_eq_getD_getElem?] at h43 h46 h40
      go_simp
      exact hK _ W (Up.refl W) rfl
    · as_aux_lemma =>
      refine UpOb.guarded (d := 40) rfl rfl (fun a W hl => hl 40 (by decide)) fun a W hR hl K hK => ?_
      have h47 : a.tmps.getD 47 undef = (.bool false) := hl 47 (by decide)
      have h40 : a.tmps.getD 40 undef = (.bool true) := hl 40 (by decide)
      replace hK : ∀ v W2, Up W W2 → v = (.bool false) → K (a.put (some 48) v) W2 := fun v W2 h1 h2 => hK v W2 h1 (fun d hd => by cases hd; exact h2)
      clear hl
      simp only [Array.getD_eq_getD_getElem?] at h47 h40
      go_simp
      exact hK _ W (Up.refl W) rfl
    · as_aux_lemma =>
      refine UpOb.guarded (d := 48) rfl rfl (fun a W hl => hl 48 (by decide)) fun a W hR hl K hK => ?_
      have h10 : a.tmps.getD 10 undef = (.bool true) := hl 10 (by decide)
      have h48 : a.tmps.getD 48 undef = (.bool false) := hl 48 (by decide)
      replace hK : ∀ v W2, Up W W2 → v = (.bool true) → K (a.put (some 49) v) W2 := fun v W2 h1 h2 => hK v W2 h1 (fun d hd => by cases hd; exact h2)
      clear hl
      simp only [Array.getD_eq_getD_getElem?] at h10 h48
      go_simp
      exact hK _ W (Up.refl W) rfl
    · as_aux_lemma =>
      refine UpOb.guarded (d := 48) rfl rfl (fun a W hl => hl 48 (by decide)) fun a W hR hl K hK => ?_
      have h49 : a.tmps.getD 49 undef = (.bool true) := hl 49 (by decide)
      have h48 : a.tmps.getD 48 undef = (.bool false) := hl 48 (by decide)
      replace hK : ∀ v W2, Up W W2 → v = (.bool true) → K (a.put (some 50) v) W2 := fun v W2 h1 h2 => hK v W2 h1 (fun d hd => by cases hd; exact h2)
      clear hl
      simp only [Array.getD_eq_getD_getElem?] at h49 h48
      go_simp
      exact hK _ W (Up.refl W) rfl
    · as_aux_lemma =>
      refine UpOb.guarded (d := 50) rfl rfl (fun a W hl => hl 50 (by decide)) fun a W hR hl K hK => ?_
      have h9 : a.tmps.getD 9 undef = (.pointer (some ⟨w5.heap.size, 0, none⟩)) := hl 9 (by decide)
      have h50 : a.tmps.getD 50 undef = (.bool true) := hl 50 (by decide)
      replace hK : ∀ v W2, Up W W2 → v = (.agg (yd.map U).toArray) → K (a.put (some 51) v) W2 := fun v W2 h1 h2 => hK v W2 h1 (fun d hd => by cases hd; exact h2)
      clear hl
      exact wp_load_row 25 _ rfl w5.heap.size h9 25 _ (0, 0) _ (HUY.out W hR) Tryd.underlying25 rfl (b_size yd HY.out) (hK _ W (Up.refl W) rfl)
    · as_aux_lemma =>
      refine UpOb.guarded (d := 50) rfl rfl (fun a W hl => hl 50 (by decide)) fun a W hR hl K hK => ?_
      have h51 : a.tmps.getD 51 undef = (.agg (yd.map U).toArray) := hl 51 (by decide)
      have h50 : a.tmps.getD 50 undef = (.bool true) := hl 50 (by decide)
      replace hK : ∀ v W2, Up W W2 → v = (.string (bstr (hexOf yd))) → K (a.put (some 52) v) W2 := fun v W2 h1 h2 => hK v W2 h1 (fun d hd => by cases hd; exact h2)
      clear hl
      clear hR
      simp only [Array.getD_eq_getD_getElem?] at h51 h50
      go_simp
      refine (hex_walk W yd HY.out).mono ?_
      rintro e w8 ⟨rfl, hb8⟩
      exact hK _ w8 hb8 rfl
    · as_aux_lemma =>
      refine UpOb.guarded (d := 50) rfl rfl (fun a W hl => hl 50 (by decide)) fun a W hR hl K hK => ?_
      have h2 : a.tmps.getD 2 undef = (.string (bstr (hexOf yd))) := hl 2 (by decide)
      have h50 : a.tmps.getD 50 undef = (.bool true) := hl 50 (by decide)
      replace hK : ∀ v W2, Up W W2 → v = (.string (bstr (hexOf yd))) → K (a.put (some 53) v) W2 := fun v W2 h1 h2 => hK v W2 h1 (fun d hd => by cases hd; exact h2)
      clear hl
      simp only [Array.getD_eq_getD_getElem?] at h2 h50
      go_simp
      exact hK _ W (Up.refl W) rfl
    · as_aux_lemma =>
      refine UpOb.guarded (d := 50) rfl rfl (fun a W hl => hl 50 (by decide)) fun a W hR hl K hK => ?_
      have h52 : a.tmps.getD 52 undef = (.string (bstr (hexOf yd))) := hl 52 (by decide)
      have h53 : a.tmps.getD 53 undef = (.string (bstr (hexOf yd))) := hl 53 (by decide)
      have h50 : a.tmps.getD 50 undef = (.bool true) := hl 50 (by decide)
      replace hK : ∀ v W2, Up W W2 → v = (.bool true) → K (a.put (some 54) v) W2 := fun v W2 h1 h2 => hK v W2 h1 (fun d hd => by cases hd; exact h2)
      clear hl
      exact wp_eqS _ _ _ rfl (hexOf yd) h52 h53 (hK _ W (Up.refl W) rfl)
    · as_aux_lemma =>
      refine UpOb.guarded (d := 48) rfl rfl (fun a W hl => hl 48 (by decide)) fun a W hR hl K hK => ?_
      have h50 : a.tmps.getD 50 undef = (.bool true) := hl 50 (by decide)
      have h54 : a.tmps.getD 54 undef = (.bool true) := hl 54 (by decide)
      have h48 : a.tmps.getD 48 undef = (.bool false) := hl 48 (by decide)
      replace hK : ∀ v W2, Up W W2 → v = (.bool true) → K (a.put (some 55) v) W2 := fun v W2 h1 h2 => hK v W2 h1 (fun d hd => by cases hd; exact h2)
      clear hl
      simp only [Array.getD_eq_getD_getElem?] at h50 h54 h48
      go_simp
      exact hK _ W (Up.refl W) rfl
    · as_aux_lemma =>
      refine UpOb.guarded (d := 40) rfl rfl (fun a W hl => hl 40 (by decide)) fun a W hR hl K hK => ?_
      have h48 : a.tmps.getD 48 undef = (.bool false) := hl 48 (by decide)
      have h55 : a.tmps.getD 55 undef = (.bool true) := hl 55 (by decide)
      have h40 : a.tmps.getD 40 undef = (.bool true) := hl 40 (by decide)
      replace hK : ∀ v W2, Up W W2 → v = (.bool true) → K (a.put (some 56) v) W2 := fun v W2 h1 h2 => hK v W2 h1 (fun d hd => by cases hd; exact h2)
      clear hl
      simp only [Array.getD_eq_getD_getElem?] at h48 h55 h40
      go_simp
      exact hK _ W (Up.refl W) rfl
    · as_aux_lemma =>
      refine UpOb.plain rfl fun a W hR hl K hK => ?_
      have h40 : a.tmps.getD 40 undef = (.bool true) := hl 40 (by decide)
      have h56 : a.tmps.getD 56 undef = (.bool true) := hl 56 (by decide)
      replace hK : ∀ v W2, Up W W2 → v = (.bool true) → K (a.put (some 57) v) W2 := fun v W2 h1 h2 => hK v W2 h1 (fun d hd => by cases hd; exact h2)
      clear hl
      simp only [Array.getD_eq_getD_getElem?] at h40 h56
      go_simp
      exact hK _ W (Up.refl W) rfl
    · as_aux_lemma =>
      refine UpOb.plain rfl fun a W hR hl K hK => ?_
      have h57 : a.tmps.getD 57 undef = (.bool true) := hl 57 (by decide)
      replace hK : ∀ v W2, Up W W2 → v = (.bool true) → K (a.put (some 58) v) W2 := fun v W2 h1 h2 => hK v W2 h1 (fun d hd => by cases hd; exact h2)
      clear hl
      simp only [Array.getD_eq_getD_getElem?] at h57
      go_simp
      exact hK _ W (Up.refl W) rfl
    · as_aux_lemma =>
      refine UpOb.guarded (d := 58) rfl rfl (fun a W hl => hl 58 (by decide)) fun a W hR hl K hK => ?_
      have h3 : a.tmps.getD 3 undef = (.pointer (some ⟨w.heap.size, 0, none⟩)) := hl 3 (by decide)
      have h58 : a.tmps.getD 58 undef = (.bool true) := hl 58 (by decide)
      replace hK : ∀ v W2, Up W W2 → v = (.agg (la.map U).toArray) → K (a.put (some 59) v) W2 := fun v W2 h1 h2 => hK v W2 h1 (fun d hd => by cases hd; exact h2)
      clear hl
      exact wp_load_row 25 _ rfl w.heap.size h3 25 _ (0, 0) _ (HUA.out W hR) Tryd.underlying25 rfl (b_size la HA.out) (hK _ W (Up.refl W) rfl)
    · as_aux_lemma =>
      refine UpOb.guarded (d := 58) rfl rfl (fun a W hl => hl 58 (by decide)) fun a W hR hl K hK => ?_
      have h4 : a.tmps.getD 4 undef = (.pointer (some ⟨w.heap.size + 1, 0, none⟩)) := hl 4 (by decide)
      have h58 : a.tmps.getD 58 undef = (.bool true) := hl 58 (by decide)
      replace hK : ∀ v W2, Up W W2 → v = (.agg (lb.map U).toArray) → K (a.put (some 60) v) W2 := fun v W2 h1 h2 => hK v W2 h1 (fun d hd => by cases hd; exact h2)
      clear hl
      exact wp_load_row 25 _ rfl (w.heap.size + 1) h4 25 _ (0, 0) _ (HUB.out W hR) Tryd.underlying25 rfl (b_size lb HBB.out) (hK _ W (Up.refl W) rfl)
    · as_aux_lemma =>
      refine UpOb.guarded (d := 58) rfl rfl (fun a W hl => hl 58 (by decide)) fun a W hR hl K hK => ?_
      have h59 : a.tmps.getD 59 undef = (.agg (la.map U).toArray) := hl 59 (by decide)
      have h60 : a.tmps.getD 60 undef = (.agg (lb.map U).toArray) := hl 60 (by decide)
      have h58 : a.tmps.getD 58 undef = (.bool true) := hl 58 (by decide)
      replace hK : ∀ v W2, Up W W2 → v = (.bool (decide (Lib.compareBytes la lb < 0))) → K (a.put (some 61) v) W2 := fun v W2 h1 h2 => hK v W2 h1 (fun d hd => by cases hd; exact h2)
      clear hl
      clear hR
      simp only [Array.getD_eq_getD_getElem?] at h59 h60 h58
      go_simp
      refine (less_walk W la lb HA.out HBB.out).mono ?_
      rintro e w8 ⟨rfl, hb8⟩
      exact hK _ w8 hb8 rfl
    · as_aux_lemma =>
      refine UpOb.guarded (d := 58) rfl rfl (fun a W hl => hl 58 (by decide)) fun a W hR hl K hK => ?_
      have h3 : a.tmps.getD 3 undef = (.pointer (some ⟨w.heap.size, 0, none⟩)) := hl 3 (by decide)
      have h58 : a.tmps.getD 58 undef = (.bool true) := hl 58 (by decide)
      replace hK : ∀ v W2, Up W W2 → v = (.agg (la.map U).toArray) → K (a.put (some 62) v) W2 := fun v W2 h1 h2 => hK v W2 h1 (fun d hd => by cases hd; exact h2)
      clear hl
      exact wp_load_row 25 _ rfl w.heap.size h3 25 _ (0, 0) _ (HUA.out W hR) Tryd.underlying25 rfl (b_size la HA.out) (hK _ W (Up.refl W) rfl)
    · as_aux_lemma =>
      refine UpOb.guarded (d := 58) rfl rfl (fun a W hl => hl 58 (by decide)) fun a W hR hl K hK => ?_
      have h62 : a.tmps.getD 62 undef = (.agg (la.map U).toArray) := hl 62 (by decide)
      have h58 : a.tmps.getD 58 undef = (.bool true) := hl 58 (by decide)
      replace hK : ∀ v W2, Up W W2 → v = (.string (bstr (hexOf la))) → K (a.put (some 63) v) W2 := fun v W2 h1 h2 => hK v W2 h1 (fun d hd => by cases hd; exact h2)
      clear hl
      clear hR
      simp only [Array.getD_eq_getD_getElem?] at h62 h58
      go_simp
      refine (hex_walk W la HA.out).mono ?_
      rintro e w8 ⟨rfl, hb8⟩
      exact hK _ w8 hb8 rfl
    · as_aux_lemma =>
      refine UpOb.guarded (d := 58) rfl rfl (fun a W hl => hl 58 (by decide)) fun a W hR hl K hK => ?_
      have h4 : a.tmps.getD 4 undef = (.pointer (some ⟨w.heap.size + 1, 0, none⟩)) := hl 4 (by decide)
      have h58 : a.tmps.getD 58 undef = (.bool true) := hl 58 (by decide)
      replace hK : ∀ v W2, Up W W2 → v = (.agg (lb.map U).toArray) → K (a.put (some 64) v) W2 := fun v W2 h1 h2 => hK v W2 h1 (fun d hd => by cases hd; exact h2)
      clear hl
      exact wp_load_row 25 _ rfl (w.heap.size + 1) h4 25 _ (0, 0) _ (HUB.out W hR) Tryd.underlying25 rfl (b_size lb HBB.out) (hK _ W (Up.refl W) rfl)
    · as_aux_lemma =>
      refine UpOb.guarded (d := 58) rfl rfl (fun a W hl => hl 58 (by decide)) fun a W hR hl K hK => ?_
      have h64 : a.tmps.getD 64 undef = (.agg (lb.map U).toArray) := hl 64 (by decide)
      have h58 : a.tmps.getD 58 undef = (.bool true) := hl 58 (by decide)
      replace hK : ∀ v W2, Up W W2 → v = (.string (bstr (hexOf lb))) → K (a.put (some 65) v) W2 := fun v W2 h1 h2 => hK v W2 h1 (fun d hd => by cases hd; exact h2)
      clear hl
      clear hR
      simp only [Array.getD_eq_getD_getElem?] at h64 h58
      go_simp
      refine (hex_walk W lb HBB.out).mono ?_
      rintro e w8 ⟨rfl, hb8⟩
      exact hK _ w8 hb8 rfl
    · as_aux_lemma =>
      refine UpOb.guarded (d := 58) rfl rfl (fun a W hl => hl 58 (by decide)) fun a W hR hl K hK => ?_
      have h63 : a.tmps.getD 63 undef = (.string (bstr (hexOf la))) := hl 63 (by decide)
      have h65 : a.tmps.getD 65 undef = (.string (bstr (hexOf lb))) := hl 65 (by decide)
      have h58 : a.tmps.getD 58 undef = (.bool true) := hl 58 (by decide)
      replace hK : ∀ v W2, Up W W2 → v = (.bool (Op.bytesLess (hexOf la) (hexOf lb))) → K (a.put (some 66) v) W2 := fun v W2 h1 h2 => hK v W2 h1 (fun d hd => by cases hd; exact h2)
      clear hl
      exact wp_lsS _ _ _ rfl (hexOf la) (hexOf lb) h63 h65 (hK _ W (Up.refl W) rfl)
    · as_aux_lemma =>
      refine UpOb.guarded (d := 58) rfl rfl (fun a W hl => hl 58 (by decide)) fun a W hR hl K hK => ?_
      have h61 : a.tmps.getD 61 undef = (.bool (decide (Lib.compareBytes la lb < 0))) := hl 61 (by decide)
      have h66 : a.tmps.getD 66 undef = (.bool (Op.bytesLess (hexOf la) (hexOf lb))) := hl 66 (by decide)
      have h58 : a.tmps.getD 58 undef = (.bool true) := hl 58 (by decide)
      replace hK : ∀ v W2, Up W W2 → v = (.bool true) → K (a.put (some 67) v) W2 := fun v W2 h1 h2 => hK v W2 h1 (fun d hd => by cases hd; exact h2)
      clear hl
      exact wp_eqB _ _ _ rfl _ _ ((hex_less la lb (HA.out.trans HBB.out.symm)).symm) h61 h66 (hK _ W (Up.refl W) rfl)
    · as_aux_lemma =>
      refine UpOb.plain rfl fun a W hR hl K hK => ?_
      have h58 : a.tmps.getD 58 undef = (.bool true) := hl 58 (by decide)
      have h67 : a.tmps.getD 67 undef = (.bool true) := hl 67 (by decide)
      replace hK : ∀ v W2, Up W W2 → v = (.bool true) → K (a.put (some 68) v) W2 := fun v W2 h1 h2 => hK v W2 h1 (fun d hd => by cases hd; exact h2)
      clear hl
      simp only [Array.getD_eq_getD_getElem?] at h58 h67
      go_simp
      exact hK _ W (Up.refl W) rfl
    · as_aux_lemma =>
      refine UpOb.plain rfl fun a W hR hl K hK => ?_
      have h68 : a.tmps.getD 68 undef = (.bool true) := hl 68 (by decide)
      replace hK : ∀ v W2, Up W W2 → v = (.bool true) → K (a.put (some 6) v) W2 := fun v W2 h1 h2 => hK v W2 h1 (fun d hd => by cases hd; exact h2)
      clear hl
      simp only [Array.getD_eq_getD_getElem?] at h68
      go_simp
      exact hK _ W (Up.refl W) rfl
  · intro a W hd hR hl
    have h6 : a.tmps.getD 6 undef = .bool true := hl 6
    go_wp2
    refine bodyPost_ret (v := .bool true) ?_ hd ⟨rfl, HU.out W hR⟩
    rw [results_tmp rfl, h6]
end Go.Proofs.YtcbfnbmkogeehaaDoor
