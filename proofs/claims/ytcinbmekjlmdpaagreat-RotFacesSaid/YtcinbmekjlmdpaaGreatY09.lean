/- Insert. -/
import Derived.Test.YtcinbmekjlmdpaaGreatY04
import Derived.Maps.OwnSet

/-! Insert. -/
namespace Go.Proofs.YtcinbmekjlmdpaaGreat
open Go.RowKit

/-- Behind which place it is put. -/
def ip (l : List UInt32) (d : UInt32) : Nat := if fst l d < l.length then fst l d + 1 else l.length
def ins (l : List UInt32) (d : UInt32) (m : List UInt32) : List UInt32 := norm (l.take (ip l d) ++ (m ++ l.drop (ip l d)))
theorem ip_lt {l : List UInt32} {d : UInt32} (h : fst l d < l.length) : ip l d = fst l d + 1 := if_pos h
theorem ip_ge {l : List UInt32} {d : UInt32} (h : ¬ fst l d < l.length) : ip l d = l.length := if_neg h
theorem ip_le (l : List UInt32) (d : UInt32) : ip l d ≤ l.length := by unfold ip; split <;> omega
theorem rows_three (W : World) (x y z : Value) (l m n : List UInt32) (h1 : RV W x l) (h2 : RV W y m) (h3 : RV W z n) : RowsV (W.alloc (.cells #[x, y, z] 22)) (.slice (some ⟨W.heap.size, 0, none⟩) 3 3) [l, m, n] := by
  have hb := (Below.refl W.heap.size W).alloc (Nat.le_refl _) (.cells #[x, y, z] 22)
  refine ⟨W.heap.size, rfl, fun i hi => ?_⟩
  have : i = 0 ∨ i = 1 ∨ i = 2 := by simp at hi; omega
  rcases this with rfl | rfl | rfl
  · exact ⟨x, (Blk.fresh W 22 #[x, y, z]).cell 0, h1.kept hb⟩
  · exact ⟨y, (Blk.fresh W 22 #[x, y, z]).cell 1, h2.kept hb⟩
  · exact ⟨z, (Blk.fresh W 22 #[x, y, z]).cell 2, h3.kept hb⟩
set_option maxRecDepth 100000 in
theorem three_of {w : World} {base : Nat} {v : Value} {a b c : List UInt32} (h : Ow w base v [a, b, c].flatten) (hl : [a, b, c].flatten.length ≤ 1000000) : RV w v (a ++ (b ++ c)) := by
  have := h.rv hl
  simpa using this
set_option maxRecDepth 100000 in
theorem cut_len (l m : List UInt32) (k : Nat) (hk : k ≤ l.length) (h : l.length + m.length ≤ 1000000) : [l.take k, m, l.drop k].flatten.length ≤ 1000000 := by
  simp only [List.flatten_cons, List.flatten_nil, List.append_nil, List.length_append, List.length_take, List.length_drop]
  omega
attribute [local irreducible] V
set_option maxRecDepth 100000 in
set_option maxHeartbeats 1000000 in
/-- dart.Insert. -/
theorem insert_rv (w : World) (v u : Value) (l m : List UInt32) (d : UInt32) (h : RV w v l) (h2 : RV w u m) (hlm : l.length + m.length ≤ 1000000) :
    Calls Tryz.prog 134 #[v, V d, u] w fun e w' => ∃ x, e = .returned x ∧ RV w' x (ins l d m) ∧ Below w.heap.size w w' := by
  have HI := Lib.hid (index_rv w v l d h)
  have hRV := h
  obtain ⟨A, c, rfl, hc, hr⟩ := h
  have HU : Hid (∀ W, Up w.drew W → RV W (.slice A l.length c) l) := fun W hR => hRV.kept (w' := W) ⟨hR.os, hR.tape, hR.output, hR.size, fun k hk => hR.block k hk⟩
  have HM : Hid (∀ W, Up w.drew W → RV W u m) := fun W hR => h2.kept (w' := W) ⟨hR.os, hR.tape, hR.output, hR.size, fun k hk => hR.block k hk⟩
  have hlen := hr.len
  have HLM := Lib.hid hlm
  clear h2 hr hRV hc
  by_cases hlt : fst l d < l.length
  · have hi := HI.out
    rw [ix_lt hlt] at hi
    have HI2 := Lib.hid hi
    have HIP := Lib.hid (ip_lt hlt)
    have ht : ((fst l d : Int) + 1 == 0) = false := beq_false_of_ne (by omega)
    have HK : Hid (fst l d + 1 ≤ l.length) := hlt
    have hcast : (fst l d : Int) + 1 = ((fst l d + 1 : Nat) : Int) := by omega
    have HCA := Lib.hid hcast
    unfold ins
    rw [HIP.out]
    clear hi HI hcast
    go_enter Tryz.func134, Tryz.ntmps134
    go_wp2_with (go_at_call 97; refine HI2.out.mono ?_; rintro e w' ⟨rfl, rfl⟩)
    rw [HCA.out]
    refine wp_region_up (by kernel_rfl) [[0], [7], [16, 17], [2], [0], [7], [20, 21], [18, 19, 22], [23], [24], [25]] [(16, rvS (l)), (17, Sp.is (.int .i64 ((fst l d + 1 : Nat) : Int))), (18, rvS (l.take (fst l d + 1))), (19, rvS (m)), (20, rvS (l)), (21, Sp.is (.int .i64 ((fst l d + 1 : Nat) : Int))), (22, rvS (l.drop (fst l d + 1))), (23, rowsS [l.take (fst l d + 1), m, l.drop (fst l d + 1)]), (24, rvS (l.take (fst l d + 1) ++ (m ++ l.drop (fst l d + 1)))), (25, rvS (norm (l.take (fst l d + 1) ++ (m ++ l.drop (fst l d + 1))))), (6, rvS (norm (l.take (fst l d + 1) ++ (m ++ l.drop (fst l d + 1)))))] 26 rfl (by kernel_rfl) (by kernel_rfl) (by kernel_rfl) ?_ ?_
    · refine ⟨?_, ?_, ?_, ?_, ?_, ?_, ?_, ?_, ?_, ?_, ?_, trivial⟩
      · as_aux_lemma =>
        refine UpOb.plain rfl fun a W hR hl K hK => ?_
        have h0 : a.tmps.getD 0 undef = (.slice A l.length c) := hl 0 (by decide)
        replace hK : ∀ v W2, Up W W2 → RV W2 v (l) → K (a.put (some 16) v) W2 := fun v W2 h1 h2 => hK v W2 h1 (fun d hd => by cases hd; exact h2)
        clear hl
        simp only [Array.getD_eq_getD_getElem?] at h0
        go_simp
        exact hK _ W (Up.refl W) (HU.out W hR)
      · as_aux_lemma =>
        refine UpOb.plain rfl fun a W hR hl K hK => ?_
        have h7 : a.tmps.getD 7 undef = (.int .i64 ((fst l d + 1 : Nat) : Int)) := hl 7 (by decide)
        replace hK : ∀ v W2, Up W W2 → v = (.int .i64 ((fst l d + 1 : Nat) : Int)) → K (a.put (some 17) v) W2 := fun v W2 h1 h2 => hK v W2 h1 (fun d hd => by cases hd; exact h2)
        clear hl
        simp only [Array.getD_eq_getD_getElem?] at h7
        go_simp
        exact hK _ W (Up.refl W) rfl
      · as_aux_lemma =>
        refine UpOb.plain rfl fun a W hR hl K hK => ?_
        have h16 : RV W (a.tmps.getD 16 undef) (l) := hl 16 (by decide)
        generalize hv16 : a.tmps.getD 16 undef = v16 at h16
        have h17 : a.tmps.getD 17 undef = (.int .i64 ((fst l d + 1 : Nat) : Int)) := hl 17 (by decide)
        replace hK : ∀ v W2, Up W W2 → RV W2 v (l.take (fst l d + 1)) → K (a.put (some 18) v) W2 := fun v W2 h1 h2 => hK v W2 h1 (fun d hd => by cases hd; exact h2)
        clear hl
        exact wp_slice_hi _ _ rfl v16 l (fst l d + 1) hv16 h17 h16 HK.out fun v2 h2 => hK v2 W (Up.refl W) h2
      · as_aux_lemma =>
        refine UpOb.plain rfl fun a W hR hl K hK => ?_
        have h2 : a.tmps.getD 2 undef = (u) := hl 2 (by decide)
        replace hK : ∀ v W2, Up W W2 → RV W2 v (m) → K (a.put (some 19) v) W2 := fun v W2 h1 h2 => hK v W2 h1 (fun d hd => by cases hd; exact h2)
        clear hl
        simp only [Array.getD_eq_getD_getElem?] at h2
        go_simp
        exact hK _ W (Up.refl W) (HM.out W hR)
      · as_aux_lemma =>
        refine UpOb.plain rfl fun a W hR hl K hK => ?_
        have h0 : a.tmps.getD 0 undef = (.slice A l.length c) := hl 0 (by decide)
        replace hK : ∀ v W2, Up W W2 → RV W2 v (l) → K (a.put (some 20) v) W2 := fun v W2 h1 h2 => hK v W2 h1 (fun d hd => by cases hd; exact h2)
        clear hl
        simp only [Array.getD_eq_getD_getElem?] at h0
        go_simp
        exact hK _ W (Up.refl W) (HU.out W hR)
      · as_aux_lemma =>
        refine UpOb.plain rfl fun a W hR hl K hK => ?_
        have h7 : a.tmps.getD 7 undef = (.int .i64 ((fst l d + 1 : Nat) : Int)) := hl 7 (by decide)
        replace hK : ∀ v W2, Up W W2 → v = (.int .i64 ((fst l d + 1 : Nat) : Int)) → K (a.put (some 21) v) W2 := fun v W2 h1 h2 => hK v W2 h1 (fun d hd => by cases hd; exact h2)
        clear hl
        simp only [Array.getD_eq_getD_getElem?] at h7
        go_simp
        exact hK _ W (Up.refl W) rfl
      · as_aux_lemma =>
        refine UpOb.plain rfl fun a W hR hl K hK => ?_
        have h20 : RV W (a.tmps.getD 20 undef) (l) := hl 20 (by decide)
        generalize hv20 : a.tmps.getD 20 undef = v20 at h20
        have h21 : a.tmps.getD 21 undef = (.int .i64 ((fst l d + 1 : Nat) : Int)) := hl 21 (by decide)
        replace hK : ∀ v W2, Up W W2 → RV W2 v (l.drop (fst l d + 1)) → K (a.put (some 22) v) W2 := fun v W2 h1 h2 => hK v W2 h1 (fun d hd => by cases hd; exact h2)
        clear hl
        exact wp_slice_lo _ _ rfl v20 l (fst l d + 1) hv20 h21 h20 HK.out fun v2 h2 => hK v2 W (Up.refl W) h2
      · as_aux_lemma =>
        refine UpOb.plain rfl fun a W hR hl K hK => ?_
        have h18 : RV W (a.tmps.getD 18 undef) (l.take (fst l d + 1)) := hl 18 (by decide)
        generalize hv18 : a.tmps.getD 18 undef = v18 at h18
        have h19 : RV W (a.tmps.getD 19 undef) (m) := hl 19 (by decide)
        generalize hv19 : a.tmps.getD 19 undef = v19 at h19
        have h22 : RV W (a.tmps.getD 22 undef) (l.drop (fst l d + 1)) := hl 22 (by decide)
        generalize hv22 : a.tmps.getD 22 undef = v22 at h22
        replace hK : ∀ v W2, Up W W2 → RowsV W2 v [l.take (fst l d + 1), m, l.drop (fst l d + 1)] → K (a.put (some 23) v) W2 := fun v W2 h1 h2 => hK v W2 h1 (fun d hd => by cases hd; exact h2)
        clear hl
        generalize l.take (fst l d + 1) = p1 at *
        generalize l.drop (fst l d + 1) = p2 at *
        obtain ⟨A1, c1, rfl, q1⟩ := h18
        obtain ⟨A2, c2, rfl, q2⟩ := h19
        obtain ⟨A3, c3, rfl, q3⟩ := h22
        have HQ := Lib.hid (And.intro q1 (And.intro q2 q3))
        clear q1 q2 q3
        simp only [Array.getD_eq_getD_getElem?] at hv18 hv19 hv22
        go_simp
        exact hK _ _ ((Below.refl _ W).alloc (Nat.le_refl _) _) (rows_three W _ _ _ _ _ _ ⟨_, _, rfl, HQ.out.1⟩ ⟨_, _, rfl, HQ.out.2.1⟩ ⟨_, _, rfl, HQ.out.2.2⟩)
      · as_aux_lemma =>
        refine UpOb.plain rfl fun a W hR hl K hK => ?_
        have h23 : RowsV W (a.tmps.getD 23 undef) [l.take (fst l d + 1), m, l.drop (fst l d + 1)] := hl 23 (by decide)
        generalize hv23 : a.tmps.getD 23 undef = v23 at h23
        replace hK : ∀ v W2, Up W W2 → RV W2 v (l.take (fst l d + 1) ++ (m ++ l.drop (fst l d + 1))) → K (a.put (some 24) v) W2 := fun v W2 h1 h2 => hK v W2 h1 (fun d hd => by cases hd; exact h2)
        clear hl
        simp only [Array.getD_eq_getD_getElem?] at hv23
        obtain ⟨b, rfl, hrows⟩ := h23
        have hcl := cut_len l m _ HK.out HLM.out
        go_simp
        refine (concat_walk W b _ _ hrows (by simp) hcl).mono ?_
        rintro e w4 ⟨v4, rfl, ho4, hb4⟩
        exact hK _ w4 hb4 (three_of ho4 hcl)
      · as_aux_lemma =>
        refine UpOb.plain rfl fun a W hR hl K hK => ?_
        have h24 : RV W (a.tmps.getD 24 undef) (l.take (fst l d + 1) ++ (m ++ l.drop (fst l d + 1))) := hl 24 (by decide)
        generalize hv24 : a.tmps.getD 24 undef = v24 at h24
        replace hK : ∀ v W2, Up W W2 → RV W2 v (norm (l.take (fst l d + 1) ++ (m ++ l.drop (fst l d + 1)))) → K (a.put (some 25) v) W2 := fun v W2 h1 h2 => hK v W2 h1 (fun d hd => by cases hd; exact h2)
        clear hl
        simp only [Array.getD_eq_getD_getElem?] at hv24
        go_simp
        refine (normal_rv W v24 _ h24).mono ?_
        rintro e w4 ⟨v4, rfl, ho4, hb4⟩
        exact hK _ w4 hb4 ho4
      · as_aux_lemma =>
        refine UpOb.plain rfl fun a W hR hl K hK => ?_
        have h25 : RV W (a.tmps.getD 25 undef) (norm (l.take (fst l d + 1) ++ (m ++ l.drop (fst l d + 1)))) := hl 25 (by decide)
        generalize hv25 : a.tmps.getD 25 undef = v25 at h25
        replace hK : ∀ v W2, Up W W2 → RV W2 v (norm (l.take (fst l d + 1) ++ (m ++ l.drop (fst l d + 1)))) → K (a.put (some 6) v) W2 := fun v W2 h1 h2 => hK v W2 h1 (fun d hd => by cases hd; exact h2)
        clear hl
        simp only [Array.getD_eq_getD_getElem?] at hv25
        go_simp
        exact hK _ W (Up.refl W) h25
    · intro a W hd hR hl
      have h2 : RV W (a.tmps.getD 6 undef) (norm (l.take (fst l d + 1) ++ (m ++ l.drop (fst l d + 1)))) := hl 6
      go_wp2
      exact bodyPost_ret (results_tmp rfl _ _ _) hd ⟨_, rfl, h2, ⟨hR.os, hR.tape, hR.output, hR.size, fun k hk => hR.block k hk⟩⟩
  · have hi := HI.out
    rw [ix_ge hlt] at hi
    have HI2 := Lib.hid hi
    have HIP := Lib.hid (ip_ge hlt)
    have HK : Hid (l.length ≤ l.length) := Nat.le_refl _
    unfold ins
    rw [HIP.out]
    clear hi hlt HI
    go_enter Tryz.func134, Tryz.ntmps134
    go_wp2_with (go_at_call 97; refine HI2.out.mono ?_; rintro e w' ⟨rfl, rfl⟩)
    refine wp_region_up (by kernel_rfl) [[0], [7], [16, 17], [2], [0], [7], [20, 21], [18, 19, 22], [23], [24], [25]] [(16, rvS (l)), (17, Sp.is (.int .i64 ((l.length : Nat) : Int))), (18, rvS (l.take (l.length))), (19, rvS (m)), (20, rvS (l)), (21, Sp.is (.int .i64 ((l.length : Nat) : Int))), (22, rvS (l.drop (l.length))), (23, rowsS [l.take (l.length), m, l.drop (l.length)]), (24, rvS (l.take (l.length) ++ (m ++ l.drop (l.length)))), (25, rvS (norm (l.take (l.length) ++ (m ++ l.drop (l.length))))), (6, rvS (norm (l.take (l.length) ++ (m ++ l.drop (l.length)))))] 26 rfl (by kernel_rfl) (by kernel_rfl) (by kernel_rfl) ?_ ?_
    · refine ⟨?_, ?_, ?_, ?_, ?_, ?_, ?_, ?_, ?_, ?_, ?_, trivial⟩
      · as_aux_lemma =>
        refine UpOb.plain rfl fun a W hR hl K hK => ?_
        have h0 : a.tmps.getD 0 undef = (.slice A l.length c) := hl 0 (by decide)
        replace hK : ∀ v W2, Up W W2 → RV W2 v (l) → K (a.put (some 16) v) W2 := fun v W2 h1 h2 => hK v W2 h1 (fun d hd => by cases hd; exact h2)
        clear hl
        simp only [Array.getD_eq_getD_getElem?] at h0
        go_simp
        exact hK _ W (Up.refl W) (HU.out W hR)
      · as_aux_lemma =>
        refine UpOb.plain rfl fun a W hR hl K hK => ?_
        have h7 : a.tmps.getD 7 undef = (.int .i64 ((l.length : Nat) : Int)) := hl 7 (by decide)
        replace hK : ∀ v W2, Up W W2 → v = (.int .i64 ((l.length : Nat) : Int)) → K (a.put (some 17) v) W2 := fun v W2 h1 h2 => hK v W2 h1 (fun d hd => by cases hd; exact h2)
        clear hl
        simp only [Array.getD_eq_getD_getElem?] at h7
        go_simp
        exact hK _ W (Up.refl W) rfl
      · as_aux_lemma =>
        refine UpOb.plain rfl fun a W hR hl K hK => ?_
        have h16 : RV W (a.tmps.getD 16 undef) (l) := hl 16 (by decide)
        generalize hv16 : a.tmps.getD 16 undef = v16 at h16
        have h17 : a.tmps.getD 17 undef = (.int .i64 ((l.length : Nat) : Int)) := hl 17 (by decide)
        replace hK : ∀ v W2, Up W W2 → RV W2 v (l.take (l.length)) → K (a.put (some 18) v) W2 := fun v W2 h1 h2 => hK v W2 h1 (fun d hd => by cases hd; exact h2)
        clear hl
        exact wp_slice_hi _ _ rfl v16 l (l.length) hv16 h17 h16 HK.out fun v2 h2 => hK v2 W (Up.refl W) h2
      · as_aux_lemma =>
        refine UpOb.plain rfl fun a W hR hl K hK => ?_
        have h2 : a.tmps.getD 2 undef = (u) := hl 2 (by decide)
        replace hK : ∀ v W2, Up W W2 → RV W2 v (m) → K (a.put (some 19) v) W2 := fun v W2 h1 h2 => hK v W2 h1 (fun d hd => by cases hd; exact h2)
        clear hl
        simp only [Array.getD_eq_getD_getElem?] at h2
        go_simp
        exact hK _ W (Up.refl W) (HM.out W hR)
      · as_aux_lemma =>
        refine UpOb.plain rfl fun a W hR hl K hK => ?_
        have h0 : a.tmps.getD 0 undef = (.slice A l.length c) := hl 0 (by decide)
        replace hK : ∀ v W2, Up W W2 → RV W2 v (l) → K (a.put (some 20) v) W2 := fun v W2 h1 h2 => hK v W2 h1 (fun d hd => by cases hd; exact h2)
        clear hl
        simp only [Array.getD_eq_getD_getElem?] at h0
        go_simp
        exact hK _ W (Up.refl W) (HU.out W hR)
      · as_aux_lemma =>
        refine UpOb.plain rfl fun a W hR hl K hK => ?_
        have h7 : a.tmps.getD 7 undef = (.int .i64 ((l.length : Nat) : Int)) := hl 7 (by decide)
        replace hK : ∀ v W2, Up W W2 → v = (.int .i64 ((l.length : Nat) : Int)) → K (a.put (some 21) v) W2 := fun v W2 h1 h2 => hK v W2 h1 (fun d hd => by cases hd; exact h2)
        clear hl
        simp only [Array.getD_eq_getD_getElem?] at h7
        go_simp
        exact hK _ W (Up.refl W) rfl
      · as_aux_lemma =>
        refine UpOb.plain rfl fun a W hR hl K hK => ?_
        have h20 : RV W (a.tmps.getD 20 undef) (l) := hl 20 (by decide)
        generalize hv20 : a.tmps.getD 20 undef = v20 at h20
        have h21 : a.tmps.getD 21 undef = (.int .i64 ((l.length : Nat) : Int)) := hl 21 (by decide)
        replace hK : ∀ v W2, Up W W2 → RV W2 v (l.drop (l.length)) → K (a.put (some 22) v) W2 := fun v W2 h1 h2 => hK v W2 h1 (fun d hd => by cases hd; exact h2)
        clear hl
        exact wp_slice_lo _ _ rfl v20 l (l.length) hv20 h21 h20 HK.out fun v2 h2 => hK v2 W (Up.refl W) h2
      · as_aux_lemma =>
        refine UpOb.plain rfl fun a W hR hl K hK => ?_
        have h18 : RV W (a.tmps.getD 18 undef) (l.take (l.length)) := hl 18 (by decide)
        generalize hv18 : a.tmps.getD 18 undef = v18 at h18
        have h19 : RV W (a.tmps.getD 19 undef) (m) := hl 19 (by decide)
        generalize hv19 : a.tmps.getD 19 undef = v19 at h19
        have h22 : RV W (a.tmps.getD 22 undef) (l.drop (l.length)) := hl 22 (by decide)
        generalize hv22 : a.tmps.getD 22 undef = v22 at h22
        replace hK : ∀ v W2, Up W W2 → RowsV W2 v [l.take (l.length), m, l.drop (l.length)] → K (a.put (some 23) v) W2 := fun v W2 h1 h2 => hK v W2 h1 (fun d hd => by cases hd; exact h2)
        clear hl
        generalize l.take (l.length) = p1 at *
        generalize l.drop (l.length) = p2 at *
        obtain ⟨A1, c1, rfl, q1⟩ := h18
        obtain ⟨A2, c2, rfl, q2⟩ := h19
        obtain ⟨A3, c3, rfl, q3⟩ := h22
        have HQ := Lib.hid (And.intro q1 (And.intro q2 q3))
        clear q1 q2 q3
        simp only [Array.getD_eq_getD_getElem?] at hv18 hv19 hv22
        go_simp
        exact hK _ _ ((Below.refl _ W).alloc (Nat.le_refl _) _) (rows_three W _ _ _ _ _ _ ⟨_, _, rfl, HQ.out.1⟩ ⟨_, _, rfl, HQ.out.2.1⟩ ⟨_, _, rfl, HQ.out.2.2⟩)
      · as_aux_lemma =>
        refine UpOb.plain rfl fun a W hR hl K hK => ?_
        have h23 : RowsV W (a.tmps.getD 23 undef) [l.take (l.length), m, l.drop (l.length)] := hl 23 (by decide)
        generalize hv23 : a.tmps.getD 23 undef = v23 at h23
        replace hK : ∀ v W2, Up W W2 → RV W2 v (l.take (l.length) ++ (m ++ l.drop (l.length))) → K (a.put (some 24) v) W2 := fun v W2 h1 h2 => hK v W2 h1 (fun d hd => by cases hd; exact h2)
        clear hl
        simp only [Array.getD_eq_getD_getElem?] at hv23
        obtain ⟨b, rfl, hrows⟩ := h23
        have hcl := cut_len l m _ HK.out HLM.out
        go_simp
        refine (concat_walk W b _ _ hrows (by simp) hcl).mono ?_
        rintro e w4 ⟨v4, rfl, ho4, hb4⟩
        exact hK _ w4 hb4 (three_of ho4 hcl)
      · as_aux_lemma =>
        refine UpOb.plain rfl fun a W hR hl K hK => ?_
        have h24 : RV W (a.tmps.getD 24 undef) (l.take (l.length) ++ (m ++ l.drop (l.length))) := hl 24 (by decide)
        generalize hv24 : a.tmps.getD 24 undef = v24 at h24
        replace hK : ∀ v W2, Up W W2 → RV W2 v (norm (l.take (l.length) ++ (m ++ l.drop (l.length)))) → K (a.put (some 25) v) W2 := fun v W2 h1 h2 => hK v W2 h1 (fun d hd => by cases hd; exact h2)
        clear hl
        simp only [Array.getD_eq_getD_getElem?] at hv24
        go_simp
        refine (normal_rv W v24 _ h24).mono ?_
        rintro e w4 ⟨v4, rfl, ho4, hb4⟩
        exact hK _ w4 hb4 ho4
      · as_aux_lemma =>
        refine UpOb.plain rfl fun a W hR hl K hK => ?_
        have h25 : RV W (a.tmps.getD 25 undef) (norm (l.take (l.length) ++ (m ++ l.drop (l.length)))) := hl 25 (by decide)
        generalize hv25 : a.tmps.getD 25 undef = v25 at h25
        replace hK : ∀ v W2, Up W W2 → RV W2 v (norm (l.take (l.length) ++ (m ++ l.drop (l.length)))) → K (a.put (some 6) v) W2 := fun v W2 h1 h2 => hK v W2 h1 (fun d hd => by cases hd; exact h2)
        clear hl
        simp only [Array.getD_eq_getD_getElem?] at hv25
        go_simp
        exact hK _ W (Up.refl W) h25
    · intro a W hd hR hl
      have h2 : RV W (a.tmps.getD 6 undef) (norm (l.take (l.length) ++ (m ++ l.drop (l.length)))) := hl 6
      go_wp2
      exact bodyPost_ret (results_tmp rfl _ _ _) hd ⟨_, rfl, h2, ⟨hR.os, hR.tape, hR.output, hR.size, fun k hk => hR.block k hk⟩⟩
end Go.Proofs.YtcinbmekjlmdpaaGreat

/-! Maps by darts. -/
namespace Go.Proofs.YtcinbmekjlmdpaaGreat
open Go.RowKit

/-- How an element reads: as it is held. -/
def RH (v : Value) : Option (DataW Value × List MemPlace) := some (.held v, [])
def kx (x : UInt32) : Lit := .int .u32 (x.toNat : Int)
set_option maxRecDepth 100000 in
theorem kx_ne {x y : UInt32} (h : ¬ x = y) : kx x ≠ kx y := by
  intro e
  apply h
  unfold kx at e
  injection e with _ e
  exact UInt32.toNat_inj.1 (by omega)
set_option maxRecDepth 100000 in
theorem kx_key (x : UInt32) : WideAt.IsKeyLit (kx x) := trivial
set_option maxRecDepth 100000 in
theorem kx_of (x : UInt32) : keyOf Tryz.prog 34 (V x) = some (kx x) := Maps.keyOf_int_mk Tryz.underlying34 (by have := x.toNat_lt; simp [Lit.wf, IntKind.min, IntKind.max, IntKind.signed, IntKind.bits]; omega)
/-- What a map of the call's own holds. -/
def Mu (w : World) (m n : Nat) (f : UInt32 → Option Value) : Prop := ∃ D, w.ownsMap Tryz.prog 34 RH m n D ∧ ∀ x,
  (∀ v, f x = some v → (∀ z, D.atKey (kx x) z = .held v)) ∧ (f x = none → ∀ z, D.atKey (kx x) z = z)
set_option maxRecDepth 100000 in
theorem Mu.kept {w w' : World} {m n : Nat} {f : UInt32 → Option Value} (h : Mu w m n f) (hb : w'.heap[m]? = w.heap[m]?) : Mu w' m n f := by
  obtain ⟨D, ⟨es, clock, h1, r⟩, hf⟩ := h
  exact ⟨D, ⟨es, clock, hb.trans h1, r⟩, hf⟩
set_option maxRecDepth 100000 in
theorem Mu.lt {w : World} {m n : Nat} {f : UInt32 → Option Value} (h : Mu w m n f) : m < w.heap.size := by
  obtain ⟨D, ho, _⟩ := h
  exact ho.lt
set_option maxRecDepth 100000 in
theorem own_empty (w : World) (mb : Nat) (h : w.heap[mb]? = some (.map #[] 0)) : w.ownsMap Tryz.prog 34 RH mb 0 (.map []) :=
  ⟨#[], 0, h, ⟨by simp, MapKept.stamped_empty 0, by simp⟩, Nat.le_refl _, rfl⟩
set_option maxRecDepth 100000 in
theorem Mu.empty (w : World) : Mu (w.alloc (.map #[] 0)) w.heap.size 0 (fun _ => none) :=
  ⟨.map [], own_empty _ _ (heap_alloc_new w _), fun _ => ⟨fun _ h => (by cases h), fun _ _ => rfl⟩⟩
set_option maxRecDepth 100000 in
theorem turned_ex {w w' : World} {b : Nat} (h : w.mapTurned w' b) : Ex b w w' := by
  obtain ⟨es, clock, es', clock', hb, rfl⟩ := h
  exact ⟨rfl, rfl, rfl, by simp [ChangeMaps.setBlock], fun k _ hne => ChangeMaps.heap_setBlock_other hb _ hne⟩
section
variable {ops : Array Oper} {rest : List Oper} {o : Oper} {a : Act} {w : World} {Q : Exit → Act → World → Prop}
set_option maxRecDepth 100000 in
theorem Mu.put {mb n : Nat} {f : UInt32 → Option Value} (t e : TypeId) (ht : Tryz.prog.underlying t = some (.map 34 e)) (hmu : Mu w mb n f) (hn : n < maxLen) (x : UInt32) (val : Value) :
    ∃ w', (Instr.mapUpdate t (.map (some mb)) (V x) val).run Tryz.prog w = .ok () w' ∧ Mu w' mb (n + 1) (fun y => if y = x then some val else f y) ∧ Ex mb w w' ∧ w'.heap.size = w.heap.size := by
  obtain ⟨D, hown, hf⟩ := hmu
  have KK := Maps.int_keyed (P := Tryz.prog) Tryz.underlying34
  have hD := hown.tidy KK
  obtain ⟨w', hrun, h1, h2⟩ := hown.store KK ht hn (val := val) (d := .held val) (ps := []) (kx_of x) rfl
  have hsz : w'.heap.size = w.heap.size := by
    obtain ⟨es, c, es', c', h3, h4⟩ := h2
    rw [h4]; simp [ChangeMaps.setBlock]
  refine ⟨w', hrun, ⟨_, h1, fun y => ?_⟩, turned_ex h2, hsz⟩
  by_cases e : y = x
  · subst e
    exact ⟨fun v hc z => by
      simp only [if_true] at hc
      cases hc
      exact Maps.atKey_put_same (k := kx y) hD.isMap (kx_key y) _ _, fun hc => by simp at hc⟩
  · exact ⟨fun v hc z => by
      simp only [e, if_false] at hc
      rw [Maps.atKey_put_other (kx_ne e)]; exact (hf y).1 v hc z, fun hc z => by
      simp only [e, if_false] at hc
      rw [Maps.atKey_put_other (kx_ne e)]; exact (hf y).2 hc z⟩
set_option maxRecDepth 100000 in
theorem wpList_mapM (hgd : o.guard = none) (m x v : Operand) (t e : TypeId) (ho : o.op = .mapUpdate t m x v) (ht : Tryz.prog.underlying t = some (.map 34 e)) (mb n : Nat) (f : UInt32 → Option Value) (k : UInt32) (val : Value)
    (hm : a.eval m = .map (some mb)) (hx : a.eval x = V k) (hv : a.eval v = val) (hmu : Mu w mb n f) (hn : n < maxLen)
    (h : ∀ w', Mu w' mb (n + 1) (fun y => if y = k then some val else f y) → Ex mb w w' → w'.heap.size = w.heap.size → wpList Tryz.prog ops Q rest (a.put o.dst undef) w') : wpList Tryz.prog ops Q (o :: rest) a w := by
  refine wpList_plain hgd fun K hK => ?_
  obtain ⟨w', hrun, h1, h2, h3⟩ := hmu.put t e ht hn k val
  unfold Oper.wp
  simp only [execOp, ho, Sem.run_bind, Sem.run_pure, Result.andThen_ok, hm, hx, hv, hrun]
  exact hK _ _ (h w' h1 h2 h3)
set_option maxRecDepth 100000 in
theorem Mu.look_ok {mb n : Nat} {f : UInt32 → Option Value} (t e : TypeId) (ht : Tryz.prog.underlying t = some (.map 34 e)) (z : Value) (hz : (zeroValue e).run Tryz.prog w = .ok z w) (h : Mu w mb n f) (x : UInt32) :
    (Instr.lookup t (.map (some mb)) (V x) true).run Tryz.prog w = .ok (.tuple #[(f x).getD z, .bool (f x).isSome]) w := by
  obtain ⟨D, ho, hf⟩ := h
  obtain ⟨v, ps, h1, h2⟩ := ho.look_ok (Maps.int_keyed Tryz.underlying34) ht hz (zd := .held z) (zp := []) rfl (kx_of x)
  cases hq : f x with
  | none =>
    rw [(hf x).2 hq] at h2
    cases h2
    rw [Maps.has_false_of_atKey ((hf x).2 hq)] at h1
    exact h1
  | some b =>
    rw [(hf x).1 b hq] at h2
    rw [Maps.has_true_of_atKey ((hf x).1 b hq)] at h1
    cases h2
    exact h1
set_option maxRecDepth 100000 in
theorem Mu.look {mb n : Nat} {f : UInt32 → Option Value} (t e : TypeId) (ht : Tryz.prog.underlying t = some (.map 34 e)) (z : Value) (hz : (zeroValue e).run Tryz.prog w = .ok z w) (h : Mu w mb n f) (x : UInt32) :
    (Instr.lookup t (.map (some mb)) (V x) false).run Tryz.prog w = .ok ((f x).getD z) w := by
  obtain ⟨D, ho, hf⟩ := h
  obtain ⟨v, ps, h1, h2⟩ := ho.lookup (Maps.int_keyed Tryz.underlying34) ht hz (zd := .held z) (zp := []) rfl (kx_of x)
  cases hq : f x with
  | none =>
    rw [(hf x).2 hq] at h2
    cases h2
    exact h1
  | some b =>
    rw [(hf x).1 b hq] at h2
    cases h2
    exact h1
end
attribute [local irreducible] V
end Go.Proofs.YtcinbmekjlmdpaaGreat
