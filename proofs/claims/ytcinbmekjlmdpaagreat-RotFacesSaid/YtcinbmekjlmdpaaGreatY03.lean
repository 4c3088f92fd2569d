/- Normal. -/
import Derived.Test.YtcinbmekjlmdpaaGreatY01
import Derived.Test.YtcinbmekjlmdpaaGreatY02

/-! Normal. -/
namespace Go.Proofs.YtcinbmekjlmdpaaGreat
open Go.RowKit

set_option maxRecDepth 100000 in
theorem wp_slice_lo {w : World} {o : Oper} {a : Act} {K : Act → World → Prop} {Q : Exit → Act → World → Prop} (x y : Operand) (ho : o.op = .slice 22 x (some y) none none) (v : Value) (l : List UInt32) (k : Nat)
    (hx : a.eval x = v) (hy : a.eval y = .int .i64 (k : Int)) (h : RV w v l) (hk : k ≤ l.length) (hK : ∀ v', RV w v' (l.drop k) → K (a.put o.dst v') w) : o.wp Tryz.prog a w K Q := by
  obtain ⟨A, c, rfl, hc, hr⟩ := h
  have h4 : ∀ w, (sizeOf 34).run Tryz.prog w = .ok 1 w := fun w => by kernel_rfl
  have hrun : (Instr.sliceAt 22 (.slice A l.length c) (some (.int .i64 (k : Int))) none none).run Tryz.prog w = .ok (.slice (if c = k then A else A.map (·.add k)) (l.length - k) (c - k)) w := by
    simp [Instr.sliceAt, Instr.slice, Instr.sliceBounds, Instr.sliceBound, asIntOf, run_underlying Tryz.underlying22, h4, hk]
  have hrv : RV w (.slice (if c = k then A else A.map (·.add k)) (l.length - k) (c - k)) (l.drop k) := by
    refine ⟨_, c - k, by rw [List.length_drop], by rw [List.length_drop]; omega, by rw [List.length_drop]; have := hr.len; omega, fun h0 => ?_⟩
    rw [List.length_drop] at h0
    obtain ⟨b, o2, rfl, hlt, hcell⟩ := hr.place (by omega)
    rw [if_neg (by omega)]
    refine ⟨b, o2 + k, by rw [Option.map_some, addr_add], hlt, fun i hi => ?_⟩
    rw [List.length_drop] at hi
    rw [show o2 + k + i = o2 + (k + i) by omega, hcell (k + i) (by omega), List.getElem_drop]
  unfold Oper.wp execOp
  simp only [ho, Option.map_some, Option.map_none, hx, hy, Sem.run_bind, hrun, Result.andThen_ok, Sem.run_pure]
  exact hK _ hrv
set_option maxRecDepth 100000 in
theorem wp_slice_hi {w : World} {o : Oper} {a : Act} {K : Act → World → Prop} {Q : Exit → Act → World → Prop} (x y : Operand) (ho : o.op = .slice 22 x none (some y) none) (v : Value) (l : List UInt32) (k : Nat)
    (hx : a.eval x = v) (hy : a.eval y = .int .i64 (k : Int)) (h : RV w v l) (hk : k ≤ l.length) (hK : ∀ v', RV w v' (l.take k) → K (a.put o.dst v') w) : o.wp Tryz.prog a w K Q := by
  obtain ⟨A, c, rfl, hc, hr⟩ := h
  have h4 : ∀ w, (sizeOf 34).run Tryz.prog w = .ok 1 w := fun w => by kernel_rfl
  have hkc : k ≤ c := by omega
  have hrun : (Instr.sliceAt 22 (.slice A l.length c) none (some (.int .i64 (k : Int))) none).run Tryz.prog w = .ok (.slice A k c) w := by
    simp [Instr.sliceAt, Instr.slice, Instr.sliceBounds, Instr.sliceBound, asIntOf, run_underlying Tryz.underlying22, h4, hkc]
    cases A with
    | none => simp
    | some x => by_cases hc0 : c = 0 <;> simp [hc0, Addr.add]
  have hln : (l.take k).length = k := by rw [List.length_take]; omega
  have hrv : RV w (.slice A k c) (l.take k) := by
    refine ⟨_, c, by rw [hln], by rw [hln]; exact hkc, by rw [hln]; have := hr.len; omega, fun h0 => ?_⟩
    rw [hln] at h0
    obtain ⟨b, o2, rfl, hlt, hcell⟩ := hr.place (by omega)
    refine ⟨b, o2, rfl, hlt, fun i hi => ?_⟩
    rw [hln] at hi
    rw [hcell i (by omega), List.getElem_take]
  unfold Oper.wp execOp
  simp only [ho, Option.map_some, Option.map_none, hx, hy, Sem.run_bind, hrun, Result.andThen_ok, Sem.run_pure]
  exact hK _ hrv
def rvS (l : List UInt32) : Sp := ⟨fun v W => RV W v l, fun _ _ _ h hu => h.kept hu⟩
def RowsV (W : World) (v : Value) (ls : List (List UInt32)) : Prop := ∃ b, v = .slice (some ⟨b, 0, none⟩) ls.length ls.length ∧ RowsAt W b ls
def rowsS (ls : List (List UInt32)) : Sp := ⟨fun v W => RowsV W v ls, fun _ _ _ h hu => by
  obtain ⟨b, h1, h2⟩ := h
  exact ⟨b, h1, h2.kept hu⟩⟩
theorem rows_two (W : World) (x y : Value) (l m : List UInt32) (h1 : RV W x l) (h2 : RV W y m) : RowsV (W.alloc (.cells #[x, y] 22)) (.slice (some ⟨W.heap.size, 0, none⟩) 2 2) [l, m] := by
  have hb := (Below.refl W.heap.size W).alloc (Nat.le_refl _) (.cells #[x, y] 22)
  refine ⟨W.heap.size, rfl, fun i hi => ?_⟩
  have : i = 0 ∨ i = 1 := by simp at hi; omega
  rcases this with rfl | rfl
  · exact ⟨x, (Blk.fresh W 22 #[x, y]).cell 0, h1.kept hb⟩
  · exact ⟨y, (Blk.fresh W 22 #[x, y]).cell 1, h2.kept hb⟩
/-- Told normally. -/
def norm (l : List UInt32) : List UInt32 := l.drop (fst l (mnl l)) ++ l.take (fst l (mnl l))
theorem norm_length (l : List UInt32) : (norm l).length = l.length := by
  unfold norm
  rw [List.length_append, List.length_drop, List.length_take]
  have := fst_le l (mnl l)
  omega
theorem norm_of {w : World} {base : Nat} {v : Value} {l : List UInt32} (h : Ow w base v [l.drop (fst l (mnl l)), l.take (fst l (mnl l))].flatten) (hl : [l.drop (fst l (mnl l)), l.take (fst l (mnl l))].flatten.length ≤ 1000000) : RV w v (norm l) := by
  have := h.rv hl
  simpa [norm] using this
theorem mn_mem (x y : UInt32) : mn x y = x ∨ mn x y = y := by
  unfold mn
  split
  · exact .inr rfl
  · exact .inl rfl
theorem foldl_mem (r : List UInt32) : ∀ x, r.foldl mn x = x ∨ r.foldl mn x ∈ r := by
  induction r with
  | nil => exact fun x => .inl rfl
  | cons y r ih =>
    intro x
    rw [List.foldl_cons]
    rcases ih (mn x y) with h | h
    · rcases mn_mem x y with e | e
      · left; rw [h, e]
      · right; rw [h, e]; exact List.mem_cons_self
    · right; exact List.mem_cons_of_mem _ h
theorem mnl_mem (l : List UInt32) (h : 0 < l.length) : mnl l ∈ l := by
  cases l with
  | nil => simp at h
  | cons x r =>
    rcases foldl_mem r x with e | e
    · show r.foldl mn x ∈ _
      rw [e]; exact List.mem_cons_self
    · exact List.mem_cons_of_mem _ e
set_option maxRecDepth 100000 in
theorem fst_lt {l : List UInt32} {x : UInt32} (h : x ∈ l) : fst l x < l.length := List.findIdx_lt_length_of_exists ⟨x, h, by simp⟩
set_option maxRecDepth 100000 in
set_option maxHeartbeats 1000000 in
/-- dart.Normal. -/
theorem normal_walk (w : World) (A : Option Addr) (c : Nat) (l : List UInt32) (h : Rd w A l) (hc : l.length ≤ c) :
    Calls Tryz.prog 54 #[.slice A l.length c] w fun e w' => ∃ v, e = .returned v ∧ RV w' v (norm l) ∧ Below w.heap.size w w' := by
  have hlen := h.len
  by_cases h0 : l.length = 0
  · obtain rfl : l = [] := List.length_eq_zero_iff.1 h0
    go_enter Tryz.func54, Tryz.ntmps54
    go_wp2
    go_ret
    exact ⟨_, rfl, RV.nil _, Below.refl _ _⟩
  · have HM := Lib.hid (min_walk w A c l h (by omega))
    have hi := index_walk w A c l (mnl l) h
    have hlt := fst_lt (mnl_mem l (by omega))
    rw [ix_lt hlt] at hi
    have HI := Lib.hid hi
    have HR := Lib.hid h
    have HF : Hid (fst l (mnl l) ≤ l.length) := Nat.le_of_lt hlt
    have HC : Hid ([l.drop (fst l (mnl l)), l.take (fst l (mnl l))].flatten.length ≤ 1000000) := by
      show _ ≤ _
      have := norm_length l
      simp only [List.flatten_cons, List.flatten_nil, List.append_nil]
      show (norm l).length ≤ _
      omega
    have HC2 := Lib.hid hc
    have ht : ((l.length : Int) == 0) = false := beq_false_of_ne (by omega)
    have hRV : RV w (.slice A l.length c) l := ⟨A, c, rfl, hc, h⟩
    have HRV := Lib.hid hRV
    clear h hi hlt h0 hc hRV
    go_enter Tryz.func54, Tryz.ntmps54
    go_wp2_with (first | (go_at_call 98; refine HM.out.mono ?_; rintro e w' ⟨rfl, rfl⟩) | (go_at_call 97; refine HI.out.mono ?_; rintro e w' ⟨rfl, rfl⟩))
    have HU : Hid (∀ W, Up w.drew W → RV W (.slice A l.length c) l) := fun W hR => HRV.out.kept (w' := W) ⟨hR.os, hR.tape, hR.output, hR.size, fun k hk => hR.block k hk⟩
    refine wp_region_up (by kernel_rfl) [[0], [3], [11, 12], [0], [3], [14, 15], [13, 16], [17], [18]] [(11, rvS (l)), (12, Sp.is (.int .i64 (fst l (mnl l) : Nat))), (13, rvS (l.drop (fst l (mnl l)))), (14, rvS (l)), (15, Sp.is (.int .i64 (fst l (mnl l) : Nat))), (16, rvS (l.take (fst l (mnl l)))), (17, rowsS [l.drop (fst l (mnl l)), l.take (fst l (mnl l))]), (18, rvS (norm l)), (2, rvS (norm l))] 19 rfl (by kernel_rfl) (by kernel_rfl) (by kernel_rfl) ?_ ?_
    · refine ⟨?_, ?_, ?_, ?_, ?_, ?_, ?_, ?_, ?_, trivial⟩
      · as_aux_lemma =>
        refine UpOb.plain rfl fun a W hR hl K hK => ?_
        have h0 : a.tmps.getD 0 undef = (.slice A l.length c) := hl 0 (by decide)
        replace hK : ∀ v W2, Up W W2 → RV W2 v (l) → K (a.put (some 11) v) W2 := fun v W2 h1 h2 => hK v W2 h1 (fun d hd => by cases hd; exact h2)
        clear hl
        simp only [Array.getD_eq_getD_getElem?] at h0
        go_simp
        exact hK _ W (Up.refl W) (HU.out W hR)
      · as_aux_lemma =>
        refine UpOb.plain rfl fun a W hR hl K hK => ?_
        have h3 : a.tmps.getD 3 undef = (.int .i64 (fst l (mnl l) : Nat)) := hl 3 (by decide)
        replace hK : ∀ v W2, Up W W2 → v = (.int .i64 (fst l (mnl l) : Nat)) → K (a.put (some 12) v) W2 := fun v W2 h1 h2 => hK v W2 h1 (fun d hd => by cases hd; exact h2)
        clear hl
        simp only [Array.getD_eq_getD_getElem?] at h3
        go_simp
        exact hK _ W (Up.refl W) rfl
      · as_aux_lemma =>
        refine UpOb.plain rfl fun a W hR hl K hK => ?_
        have h11 : RV W (a.tmps.getD 11 undef) (l) := hl 11 (by decide)
        generalize hv11 : a.tmps.getD 11 undef = v11 at h11
        have h12 : a.tmps.getD 12 undef = (.int .i64 (fst l (mnl l) : Nat)) := hl 12 (by decide)
        replace hK : ∀ v W2, Up W W2 → RV W2 v (l.drop (fst l (mnl l))) → K (a.put (some 13) v) W2 := fun v W2 h1 h2 => hK v W2 h1 (fun d hd => by cases hd; exact h2)
        clear hl
        exact wp_slice_lo _ _ rfl v11 l (fst l (mnl l)) hv11 h12 h11 HF.out fun v2 h2 => hK v2 W (Up.refl W) h2
      · as_aux_lemma =>
        refine UpOb.plain rfl fun a W hR hl K hK => ?_
        have h0 : a.tmps.getD 0 undef = (.slice A l.length c) := hl 0 (by decide)
        replace hK : ∀ v W2, Up W W2 → RV W2 v (l) → K (a.put (some 14) v) W2 := fun v W2 h1 h2 => hK v W2 h1 (fun d hd => by cases hd; exact h2)
        clear hl
        simp only [Array.getD_eq_getD_getElem?] at h0
        go_simp
        exact hK _ W (Up.refl W) (HU.out W hR)
      · as_aux_lemma =>
        refine UpOb.plain rfl fun a W hR hl K hK => ?_
        have h3 : a.tmps.getD 3 undef = (.int .i64 (fst l (mnl l) : Nat)) := hl 3 (by decide)
        replace hK : ∀ v W2, Up W W2 → v = (.int .i64 (fst l (mnl l) : Nat)) → K (a.put (some 15) v) W2 := fun v W2 h1 h2 => hK v W2 h1 (fun d hd => by cases hd; exact h2)
        clear hl
        simp only [Array.getD_eq_getD_getElem?] at h3
        go_simp
        exact hK _ W (Up.refl W) rfl
      · as_aux_lemma =>
        refine UpOb.plain rfl fun a W hR hl K hK => ?_
        have h14 : RV W (a.tmps.getD 14 undef) (l) := hl 14 (by decide)
        generalize hv14 : a.tmps.getD 14 undef = v14 at h14
        have h15 : a.tmps.getD 15 undef = (.int .i64 (fst l (mnl l) : Nat)) := hl 15 (by decide)
        replace hK : ∀ v W2, Up W W2 → RV W2 v (l.take (fst l (mnl l))) → K (a.put (some 16) v) W2 := fun v W2 h1 h2 => hK v W2 h1 (fun d hd => by cases hd; exact h2)
        clear hl
        exact wp_slice_hi _ _ rfl v14 l (fst l (mnl l)) hv14 h15 h14 HF.out fun v2 h2 => hK v2 W (Up.refl W) h2
      · as_aux_lemma =>
        refine UpOb.plain rfl fun a W hR hl K hK => ?_
        have h13 : RV W (a.tmps.getD 13 undef) (l.drop (fst l (mnl l))) := hl 13 (by decide)
        generalize hv13 : a.tmps.getD 13 undef = v13 at h13
        have h16 : RV W (a.tmps.getD 16 undef) (l.take (fst l (mnl l))) := hl 16 (by decide)
        generalize hv16 : a.tmps.getD 16 undef = v16 at h16
        replace hK : ∀ v W2, Up W W2 → RowsV W2 v [l.drop (fst l (mnl l)), l.take (fst l (mnl l))] → K (a.put (some 17) v) W2 := fun v W2 h1 h2 => hK v W2 h1 (fun d hd => by cases hd; exact h2)
        clear hl
        generalize l.drop (fst l (mnl l)) = p1 at *
        generalize l.take (fst l (mnl l)) = p2 at *
        obtain ⟨A1, c1, rfl, q1⟩ := h13
        obtain ⟨A2, c2, rfl, q2⟩ := h16
        have HQ := Lib.hid (And.intro q1 q2)
        clear q1 q2
        simp only [Array.getD_eq_getD_getElem?] at hv13 hv16
        go_simp
        exact hK _ _ ((Below.refl _ W).alloc (Nat.le_refl _) _) (rows_two W _ _ _ _ ⟨_, _, rfl, HQ.out.1⟩ ⟨_, _, rfl, HQ.out.2⟩)
      · as_aux_lemma =>
        refine UpOb.plain rfl fun a W hR hl K hK => ?_
        have h17 : RowsV W (a.tmps.getD 17 undef) [l.drop (fst l (mnl l)), l.take (fst l (mnl l))] := hl 17 (by decide)
        generalize hv17 : a.tmps.getD 17 undef = v17 at h17
        replace hK : ∀ v W2, Up W W2 → RV W2 v (norm l) → K (a.put (some 18) v) W2 := fun v W2 h1 h2 => hK v W2 h1 (fun d hd => by cases hd; exact h2)
        clear hl
        simp only [Array.getD_eq_getD_getElem?] at hv17
        obtain ⟨b, rfl, hrows⟩ := h17
        go_simp
        refine (concat_walk W b _ _ hrows (by simp) (HC.out)).mono ?_
        rintro e w4 ⟨v4, rfl, ho4, hb4⟩
        exact hK _ w4 hb4 (norm_of ho4 HC.out)
      · as_aux_lemma =>
        refine UpOb.plain rfl fun a W hR hl K hK => ?_
        have h18 : RV W (a.tmps.getD 18 undef) (norm l) := hl 18 (by decide)
        generalize hv18 : a.tmps.getD 18 undef = v18 at h18
        replace hK : ∀ v W2, Up W W2 → RV W2 v (norm l) → K (a.put (some 2) v) W2 := fun v W2 h1 h2 => hK v W2 h1 (fun d hd => by cases hd; exact h2)
        clear hl
        simp only [Array.getD_eq_getD_getElem?] at hv18
        go_simp
        exact hK _ W (Up.refl W) h18
    · intro a W hd hR hl
      have h2 : RV W (a.tmps.getD 2 undef) (norm l) := hl 2
      go_wp2
      exact bodyPost_ret (results_tmp rfl _ _ _) hd ⟨_, rfl, h2, ⟨hR.os, hR.tape, hR.output, hR.size, fun k hk => hR.block k hk⟩⟩
end Go.Proofs.YtcinbmekjlmdpaaGreat
