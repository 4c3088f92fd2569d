/- The chapter's example of graphs. -/
import Derived.Test.YtcinbmekjlmdpaaGreatY0e
import Derived.Test.YtcinbmekjlmdpaaGreatY0g
import Derived.Laws.StructEq

/-! The chapter's example of graphs. -/
namespace Go.Proofs.YtcinbmekjlmdpaaGreat
open Go.RowKit

theorem chk_ex : chk ⟨[1, 2, 3], [⟨1, 1, 2⟩]⟩ = 0 := by decide
theorem parts_ex : (parts ⟨[1, 2, 3], [⟨1, 1, 2⟩]⟩).length = 2 := by decide
theorem alone_ex : alone ⟨[1, 2, 3], [⟨1, 1, 2⟩]⟩ = 1 := by decide
theorem awake8_walk (w : World) : Calls Tryz.prog 119 #[] w fun e w' => e = .returned (.bool true) ∧ Below w.heap.size w w' := by
  go_enter Tryz.func119, Tryz.ntmps119
  go_wp2_with (go_at_call 150; refine (awake_walk w).mono ?_; rintro e w1 ⟨rfl, hb⟩; have HB := Lib.hid hb; clear hb)
  go_ret
  exact ⟨rfl, HB.out⟩
theorem three (w : World) : Rd ((w.alloc (.cells #[.int .u32 1, .int .u32 2, .int .u32 3] 34)).alloc (.cells #[.int .u32 1, .int .u32 1, .int .u32 2] 67)) (some ⟨w.heap.size, 0, none⟩) [1, 2, 3] :=
  (Rd.fresh w [1, 2, 3] (by decide)).kept ((Below.refl _ _).alloc (Nat.le_refl _) _) (Nat.le_refl _)
theorem oneE (w : World) : RdE ((w.alloc (.cells #[.int .u32 1, .int .u32 2, .int .u32 3] 34)).alloc (.cells #[.int .u32 1, .int .u32 1, .int .u32 2] 67)) (some ⟨w.heap.size + 1, 0, none⟩) [⟨1, 1, 2⟩] := by
  refine ⟨by decide, fun _ => ⟨w.heap.size + 1, 0, rfl, by simp, fun i hi => ?_⟩⟩
  have : i = 0 := by simp at hi; omega
  subst this
  have hk : Blk ((w.alloc (.cells #[.int .u32 1, .int .u32 2, .int .u32 3] 34)).alloc (.cells #[.int .u32 1, .int .u32 1, .int .u32 2] 67)) (w.heap.size + 1) 67 #[.int .u32 1, .int .u32 1, .int .u32 2] := by
    have := Blk.fresh (w.alloc (.cells #[.int .u32 1, .int .u32 2, .int .u32 3] 34)) 67 #[.int .u32 1, .int .u32 1, .int .u32 2]
    simpa using this
  exact ⟨hk.cell 0, hk.cell 1, hk.cell 2⟩
attribute [local irreducible] V
attribute [local irreducible] wpList in
set_option maxRecDepth 100000 in
set_option maxHeartbeats 1000000 in
/-- The example. -/
theorem awake9_walk (w : World) : Calls Tryz.prog 86 #[] w fun e w' => e = .returned (.bool true) ∧ Below w.heap.size w w' := by
  have HB0 : Hid (Below w.heap.size w ((w.alloc (.cells #[.int .u32 1, .int .u32 2, .int .u32 3] 34)).alloc (.cells #[.int .u32 1, .int .u32 1, .int .u32 2] 67))) := ((Below.refl _ w).alloc (Nat.le_refl _) _).alloc (by simp) _
  have HM := Lib.hid (make_walk _ (some ⟨w.heap.size, 0, none⟩) (some ⟨w.heap.size + 1, 0, none⟩) 3 1 [1, 2, 3] ⟨1, 1, 2⟩ (three w) (by decide) (by decide) (by decide) (oneE w))
  have hz := zero25
  go_enter Tryz.func86, Tryz.ntmps86
  go_wp2_with (first
    | (go_at_call 118; refine HM.out.mono ?_; rintro e w1 ⟨v, rfl, hv, hb⟩; have HV := Lib.hid hv; obtain ⟨A1, c1, A2, c2, hv2, _⟩ := hv; have hv3 : v = .agg #[.slice A1 3 c1, .slice A2 1 c2] := hv2; clear hv2; subst hv3; have HB1 := Lib.hid (HB0.out.trans (Below.mono hb HB0.out.size)); have HB2 : Hid (Below w1.heap.size w1 (w1.alloc (.cells #[.slice A1 3 c1, .slice A2 1 c2] 25))) := (Below.refl _ w1).alloc (Nat.le_refl _) _; have HK2 : Hid (Blk (w1.alloc (.cells #[.slice A1 3 c1, .slice A2 1 c2] 25)) w1.heap.size 25 #[.slice A1 3 c1, .slice A2 1 c2]) := Blk.fresh _ _ _; clear hb)
    | (go_at_call 39; refine (check_walk _ _ _ (HV.out.kept HB2.out)).mono ?_; rintro e w3 ⟨he, hb3⟩; rw [chk_ex] at he; subst he; have HB3 := Lib.hid hb3; have k30 := (HK2.out.kept hb3 HK2.out.lt).cell 0; have k31 := (HK2.out.kept hb3 HK2.out.lt).cell 1; clear hb3)
    | (go_at_call 49; refine (parts_walk _ _ _ ((HV.out.kept HB2.out).kept HB3.out) (May.of chk_ex)).mono ?_; rintro e w4 ⟨u, rfl, hu, hb4⟩; obtain ⟨A4, c4, hu4, _⟩ := hu; rw [parts_ex] at hu4; subst hu4; have HB4 := Lib.hid hb4; have k40 := ((HK2.out.kept HB3.out HK2.out.lt).kept hb4 (HK2.out.kept HB3.out HK2.out.lt).lt).cell 0; have k41 := ((HK2.out.kept HB3.out HK2.out.lt).kept hb4 (HK2.out.kept HB3.out HK2.out.lt).lt).cell 1; clear hb4)
    | (go_at_call 50; refine (alone_walk _ _ _ (((HV.out.kept HB2.out).kept HB3.out).kept HB4.out) (by decide) (by decide)).mono ?_; rintro e w5 ⟨he, hb5⟩; rw [alone_ex] at he; subst he; have HB5 := Lib.hid hb5; clear hb5)
    | (go_at_call 119; refine (awake8_walk _).mono ?_; rintro e w6 ⟨rfl, hb6⟩; have HB6 := Lib.hid hb6; clear hb6))
  go_ret
  refine ⟨rfl, ?_⟩
  have h2 := HB1.out.trans (Below.mono HB2.out HB1.out.size)
  have h3 := h2.trans (Below.mono HB3.out h2.size)
  have h4 := h3.trans (Below.mono HB4.out h3.size)
  have h5 := h4.trans (Below.mono HB5.out h4.size)
  exact h5.trans (Below.mono HB6.out h5.size)
end Go.Proofs.YtcinbmekjlmdpaaGreat

/-! Compare of edges. -/
namespace Go.Proofs.YtcinbmekjlmdpaaGreat
open Go.RowKit

set_option maxRecDepth 100000 in
theorem neq_eg (x : Eg) (w : World) : (binOp .neq 67 (.agg #[V x.id, V x.a, V x.b]) (.agg #[V x.id, V x.a, V x.b])).run Tryz.prog w = .ok (.bool false) w := by
  rw [run_neq_struct, run_equalIn_agg w 9999 67 _ _ rfl rfl]
  simp [go_sem, V]
set_option maxRecDepth 100000 in
theorem guard_eg (o1 o2 : Operand) (x y : Eg) (w : World) : (eqGuard .neq 67 o1 o2 (.agg #[V x.id, V x.a, V x.b]) (.agg #[V y.id, V y.a, V y.b])).run Tryz.prog w = .ok () w := by
  have h : Tryz.prog.eqGuardType Tryz.prog.depth 67 = false := by decide +kernel
  exact run_eqGuard_agg w _ _ _ _ _ _ h
end Go.Proofs.YtcinbmekjlmdpaaGreat

/-! dart.Normal once more: what it answers is a row of its own kind. -/
namespace Go.Proofs.YtcinbmekjlmdpaaGreat
open Go.RowKit

def oqS (B : Nat) (l : List UInt32) : Sp := ⟨fun v W => Oq W B v l, fun _ _ _ h hu => h.still (Still.below hu)⟩
theorem normq_of {w : World} {base B : Nat} {v : Value} {l : List UInt32} (h : Ow w base v [l.drop (fst l (mnl l)), l.take (fst l (mnl l))].flatten) (hB : B ≤ base) : Oq w B v (norm l) := by
  have := (Oq.owned h).base hB
  simpa [norm] using this
set_option maxRecDepth 100000 in
set_option maxHeartbeats 1000000 in
/-- dart.Normal. -/
theorem normalq_walk (w : World) (A : Option Addr) (c : Nat) (l : List UInt32) (h : Rd w A l) (hc : l.length ≤ c) :
    Calls Tryz.prog 54 #[.slice A l.length c] w fun e w' => ∃ v, e = .returned v ∧ Oq w' w.heap.size v (norm l) ∧ Below w.heap.size w w' := by
  have hlen := h.len
  by_cases h0 : l.length = 0
  · obtain rfl : l = [] := List.length_eq_zero_iff.1 h0
    go_enter Tryz.func54, Tryz.ntmps54
    go_wp2
    go_ret
    exact ⟨_, rfl, Oq.nil _ _, Below.refl _ _⟩
  · have HM := Lib.hid (min_walk w A c l h (by omega))
    have hi := index_walk w A c l (mnl l) h
    have hlt := fst_lt (mnl_mem l (by omega))
    rw [ix_lt hlt] at hi
    have HI := Lib.hid hi
    have HR := Lib.hid h
    have HF : Hid (fst l (mnl l) ≤ l.length) := Nat.le_of_lt hlt
    have HC : Hid ([l.drop (fst l (mnl l)), l.take (fst l (mnl l))].flatten.length ≤ 1000000) := by
      show _ ≤ _
      have := norm_length l
      simp only [List.flatten_cons, List.flatten_nil, List.append_nil]
      show (norm l).length ≤ _
      omega
    have HC2 := Lib.hid hc
    have ht : ((l.length : Int) == 0) = false := beq_false_of_ne (by omega)
    have hRV : RV w (.slice A l.length c) l := ⟨A, c, rfl, hc, h⟩
    have HRV := Lib.hid hRV
    clear h hi hlt h0 hc hRV
    go_enter Tryz.func54, Tryz.ntmps54
    go_wp2_with (first | (go_at_call 98; refine HM.out.mono ?_; rintro e w' ⟨rfl, rfl⟩) | (go_at_call 97; refine HI.out.mono ?_; rintro e w' ⟨rfl, rfl⟩))
    have HU : Hid (∀ W, Up w.drew W → RV W (.slice A l.length c) l) := fun W hR => HRV.out.kept (w' := W) ⟨hR.os, hR.tape, hR.output, hR.size, fun k hk => hR.block k hk⟩
    refine wp_region_up (by kernel_rfl) [[0], [3], [11, 12], [0], [3], [14, 15], [13, 16], [17], [18]] [(11, rvS (l)), (12, Sp.is (.int .i64 (fst l (mnl l) : Nat))), (13, rvS (l.drop (fst l (mnl l)))), (14, rvS (l)), (15, Sp.is (.int .i64 (fst l (mnl l) : Nat))), (16, rvS (l.take (fst l (mnl l)))), (17, rowsS [l.drop (fst l (mnl l)), l.take (fst l (mnl l))]), (18, oqS w.heap.size (norm l)), (2, oqS w.heap.size (norm l))] 19 rfl (by kernel_rfl) (by kernel_rfl) (by kernel_rfl) ?_ ?_
    · refine ⟨?_, ?_, ?_, ?_, ?_, ?_, ?_, ?_, ?_, trivial⟩
      · as_aux_lemma =>
        refine UpOb.plain rfl fun a W hR hl K hK => ?_
        have h0 : a.tmps.getD 0 undef = (.slice A l.length c) := hl 0 (by decide)
        replace hK : ∀ v W2, Up W W2 → RV W2 v (l) → K (a.put (some 11) v) W2 := fun v W2 h1 h2 => hK v W2 h1 (fun d hd => by cases hd; exact h2)
        clear hl
        simp only [Array.getD_eq_getD_getElem?] at h0
        go_simp
        exact hK _ W (Up.refl W) (HU.out W hR)
      · as_aux_lemma =>
        refine UpOb.plain rfl fun a W hR hl K hK => ?_
        have h3 : a.tmps.getD 3 undef = (.int .i64 (fst l (mnl l) : Nat)) := hl 3 (by decide)
        replace hK : ∀ v W2, Up W W2 → v = (.int .i64 (fst l (mnl l) : Nat)) → K (a.put (some 12) v) W2 := fun v W2 h1 h2 => hK v W2 h1 (fun d hd => by cases hd; exact h2)
        clear hl
        simp only [Array.getD_eq_getD_getElem?] at h3
        go_simp
        exact hK _ W (Up.refl W) rfl
      · as_aux_lemma =>
        refine UpOb.plain rfl fun a W hR hl K hK => ?_
        have h11 : RV W (a.tmps.getD 11 undef) (l) := hl 11 (by decide)
        generalize hv11 : a.tmps.getD 11 undef = v11 at h11
        have h12 : a.tmps.getD 12 undef = (.int .i64 (fst l (mnl l) : Nat)) := hl 12 (by decide)
        replace hK : ∀ v W2, Up W W2 → RV W2 v (l.drop (fst l (mnl l))) → K (a.put (some 13) v) W2 := fun v W2 h1 h2 => hK v W2 h1 (fun d hd => by cases hd; exact h2)
        clear hl
        exact wp_slice_lo _ _ rfl v11 l (fst l (mnl l)) hv11 h12 h11 HF.out fun v2 h2 => hK v2 W (Up.refl W) h2
      · as_aux_lemma =>
        refine UpOb.plain rfl fun a W hR hl K hK => ?_
        have h0 : a.tmps.getD 0 undef = (.slice A l.length c) := hl 0 (by decide)
        replace hK : ∀ v W2, Up W W2 → RV W2 v (l) → K (a.put (some 14) v) W2 := fun v W2 h1 h2 => hK v W2 h1 (fun d hd => by cases hd; exact h2)
        clear hl
        simp only [Array.getD_eq_getD_getElem?] at h0
        go_simp
        exact hK _ W (Up.refl W) (HU.out W hR)
      · as_aux_lemma =>
        refine UpOb.plain rfl fun a W hR hl K hK => ?_
        have h3 : a.tmps.getD 3 undef = (.int .i64 (fst l (mnl l) : Nat)) := hl 3 (by decide)
        replace hK : ∀ v W2, Up W W2 → v = (.int .i64 (fst l (mnl l) : Nat)) → K (a.put (some 15) v) W2 := fun v W2 h1 h2 => hK v W2 h1 (fun d hd => by cases hd; exact h2)
        clear hl
        simp only [Array.getD_eq_getD_getElem?] at h3
        go_simp
        exact hK _ W (Up.refl W) rfl
      · as_aux_lemma =>
        refine UpOb.plain rfl fun a W hR hl K hK => ?_
        have h14 : RV W (a.tmps.getD 14 undef) (l) := hl 14 (by decide)
        generalize hv14 : a.tmps.getD 14 undef = v14 at h14
        have h15 : a.tmps.getD 15 undef = (.int .i64 (fst l (mnl l) : Nat)) := hl 15 (by decide)
        replace hK : ∀ v W2, Up W W2 → RV W2 v (l.take (fst l (mnl l))) → K (a.put (some 16) v) W2 := fun v W2 h1 h2 => hK v W2 h1 (fun d hd => by cases hd; exact h2)
        clear hl
        exact wp_slice_hi _ _ rfl v14 l (fst l (mnl l)) hv14 h15 h14 HF.out fun v2 h2 => hK v2 W (Up.refl W) h2
      · as_aux_lemma =>
        refine UpOb.plain rfl fun a W hR hl K hK => ?_
        have h13 : RV W (a.tmps.getD 13 undef) (l.drop (fst l (mnl l))) := hl 13 (by decide)
        generalize hv13 : a.tmps.getD 13 undef = v13 at h13
        have h16 : RV W (a.tmps.getD 16 undef) (l.take (fst l (mnl l))) := hl 16 (by decide)
        generalize hv16 : a.tmps.getD 16 undef = v16 at h16
        replace hK : ∀ v W2, Up W W2 → RowsV W2 v [l.drop (fst l (mnl l)), l.take (fst l (mnl l))] → K (a.put (some 17) v) W2 := fun v W2 h1 h2 => hK v W2 h1 (fun d hd => by cases hd; exact h2)
        clear hl
        generalize l.drop (fst l (mnl l)) = p1 at *
        generalize l.take (fst l (mnl l)) = p2 at *
        obtain ⟨A1, c1, rfl, q1⟩ := h13
        obtain ⟨A2, c2, rfl, q2⟩ := h16
        have HQ := Lib.hid (And.intro q1 q2)
        clear q1 q2
        simp only [Array.getD_eq_getD_getElem?] at hv13 hv16
        go_simp
        exact hK _ _ ((Below.refl _ W).alloc (Nat.le_refl _) _) (rows_two W _ _ _ _ ⟨_, _, rfl, HQ.out.1⟩ ⟨_, _, rfl, HQ.out.2⟩)
      · as_aux_lemma =>
        refine UpOb.plain rfl fun a W hR hl K hK => ?_
        have h17 : RowsV W (a.tmps.getD 17 undef) [l.drop (fst l (mnl l)), l.take (fst l (mnl l))] := hl 17 (by decide)
        generalize hv17 : a.tmps.getD 17 undef = v17 at h17
        replace hK : ∀ v W2, Up W W2 → Oq W2 w.heap.size v (norm l) → K (a.put (some 18) v) W2 := fun v W2 h1 h2 => hK v W2 h1 (fun d hd => by cases hd; exact h2)
        clear hl
        simp only [Array.getD_eq_getD_getElem?] at hv17
        obtain ⟨b, rfl, hrows⟩ := h17
        go_simp
        refine (concat_walk W b _ _ hrows (by simp) (HC.out)).mono ?_
        rintro e w4 ⟨v4, rfl, ho4, hb4⟩
        exact hK _ w4 hb4 (normq_of ho4 hR.size)
      · as_aux_lemma =>
        refine UpOb.plain rfl fun a W hR hl K hK => ?_
        have h18 : Oq W w.heap.size (a.tmps.getD 18 undef) (norm l) := hl 18 (by decide)
        generalize hv18 : a.tmps.getD 18 undef = v18 at h18
        replace hK : ∀ v W2, Up W W2 → Oq W2 w.heap.size v (norm l) → K (a.put (some 2) v) W2 := fun v W2 h1 h2 => hK v W2 h1 (fun d hd => by cases hd; exact h2)
        clear hl
        simp only [Array.getD_eq_getD_getElem?] at hv18
        go_simp
        exact hK _ W (Up.refl W) h18
    · intro a W hd hR hl
      have h2 : Oq W w.heap.size (a.tmps.getD 2 undef) (norm l) := hl 2
      go_wp2
      exact bodyPost_ret (results_tmp rfl _ _ _) hd ⟨_, rfl, h2, ⟨hR.os, hR.tape, hR.output, hR.size, fun k hk => hR.block k hk⟩⟩
theorem normalq_rv (w : World) (v : Value) (l : List UInt32) (h : RV w v l) : Calls Tryz.prog 54 #[v] w fun e w' => ∃ v, e = .returned v ∧ Oq w' w.heap.size v (norm l) ∧ Below w.heap.size w w' := by
  obtain ⟨A, c, rfl, hc, hr⟩ := h
  exact normalq_walk w A c l hr hc
end Go.Proofs.YtcinbmekjlmdpaaGreat

/-! rot.cloneGraph. -/
namespace Go.Proofs.YtcinbmekjlmdpaaGreat
open Go.RowKit

/-- A graph whose rows lie in blocks of their own kinds. -/
def OG (w : World) (v : Value) (g : Gr) : Prop := ∃ A c B d, v = .agg #[.slice A g.vs.length c, .slice B g.es.length d] ∧ g.vs.length ≤ 1000000 ∧ Oq w 0 (.slice A g.vs.length c) g.vs ∧ OqE w 0 (.slice B g.es.length d) g.es
theorem OG.rg {w : World} {v : Value} {g : Gr} (h : OG w v g) : RG w v g := by
  obtain ⟨A, c, B, d, rfl, h1, h2, h3⟩ := h
  exact RG.mk (h2.rv h1) h3.rve
theorem OG.keep {w w' : World} {v : Value} {g : Gr} (h : OG w v g) (hs : Still w w') (hk : ∀ g cur, Blk w g 67 cur → Blk w' g 67 cur) : OG w' v g := by
  obtain ⟨A, c, B, d, rfl, h1, h2, h3⟩ := h
  exact ⟨A, c, B, d, rfl, h1, h2.still hs, h3.keepB hk⟩
theorem OG.kept {w w' : World} {v : Value} {g : Gr} (h : OG w v g) (hb : Below w.heap.size w w') : OG w' v g := h.keep (Still.below hb) (fun _ _ hk => hk.kept hb hk.lt)
theorem OqE.base {w : World} {b b' : Nat} {v : Value} {l : List Eg} (h : OqE w b v l) (hb : b' ≤ b) : OqE w b' v l := by
  rcases h with h | ⟨g, cap, cur, h1, h2, h3⟩
  · exact .inl h
  · exact .inr ⟨g, cap, cur, h1, Nat.le_trans hb h2, h3⟩
attribute [local irreducible] V
attribute [local irreducible] wpList in
set_option maxRecDepth 100000 in
set_option maxHeartbeats 4000000 in
/-- rot.cloneGraph. -/
theorem clonegq_walk (w : World) (v : Value) (g : Gr) (h : RG w v g) :
    Calls Tryz.prog 85 #[v] w fun e w' => ∃ u, e = .returned u ∧ OG w' u g ∧ Below w.heap.size w w' := by
  obtain ⟨A, c, B, d, rfl, hcA, hcB, hr, hre⟩ := h
  have hz := zero25
  have HR := Lib.hid hr
  have HRE := Lib.hid hre
  have HCA := Lib.hid hcA
  clear hr hre
  go_enter Tryz.func85, Tryz.ntmps85
  go_wp2
  have HB0 : Hid (Below w.heap.size w ((w.alloc (.cells #[.slice A g.vs.length c, .slice B g.es.length d] 25)).alloc (.cells #[.slice none 0 0, .slice none 0 0] 25))) := ((Below.refl _ w).alloc (Nat.le_refl _) _).alloc (by simp) _
  have HG0 : Hid (Blk ((w.alloc (.cells #[.slice A g.vs.length c, .slice B g.es.length d] 25)).alloc (.cells #[.slice none 0 0, .slice none 0 0] 25)) w.heap.size 25 #[.slice A g.vs.length c, .slice B g.es.length d]) := (Blk.fresh w _ _).more _
  have HZ0 : Hid (Blk ((w.alloc (.cells #[.slice A g.vs.length c, .slice B g.es.length d] 25)).alloc (.cells #[.slice none 0 0, .slice none 0 0] 25)) (w.heap.size + 1) 25 #[.slice none 0 0, .slice none 0 0]) := by
    show Blk _ _ _ _
    have := Blk.fresh (w.alloc (.cells #[.slice A g.vs.length c, .slice B g.es.length d] 25)) 25 #[.slice none 0 0, .slice none 0 0]
    simpa using this
  have HSZ : Hid (((w.alloc (.cells #[.slice A g.vs.length c, .slice B g.es.length d] 25)).alloc (.cells #[.slice none 0 0, .slice none 0 0] 25)).heap.size = w.heap.size + 2) := by show _ = _; simp
  generalize hw1 : (w.alloc (.cells #[.slice A g.vs.length c, .slice B g.es.length d] 25)).alloc (.cells #[.slice none 0 0, .slice none 0 0] 25) = w1 at *
  clear hw1
  have HV1 : Hid (RV w1.drew (.slice A g.vs.length c) g.vs) := ⟨A, c, rfl, HCA.out, HR.out.kept (HB0.out.trans (Below.dr _ _)) (Nat.le_refl _)⟩
  have HE1 : Hid (RdE w1.drew B g.es) := HRE.out.kept (HB0.out.trans (Below.dr _ _)) (Nat.le_refl _)
  have HLL : Hid (g.vs.length ≤ 1000000) := HR.out.len
  have HLE : Hid (g.es.length ≤ 1000000) := HRE.out.len
  have HNE : Hid (w.heap.size ≠ w.heap.size + 1) := by show _ ≠ _; omega
  have S0 : Hid (w1.drew.cell? ⟨w.heap.size, 0, none⟩ = some (.slice A g.vs.length c) ∧ w1.drew.cell? ⟨w.heap.size, 1, none⟩ = some (.slice B g.es.length d)) := ⟨HG0.out.cell 0, HG0.out.cell 1⟩
  go_region_held3 (fun W => W.cell? ⟨w.heap.size, 0, none⟩ = some (.slice A g.vs.length c) ∧ W.cell? ⟨w.heap.size, 1, none⟩ = some (.slice B g.es.length d)) (first | exact S3.out | exact S2.out | exact S1.out | exact S0.out) (first
    | (go_at_call 53; refine (clone_rv _ _ _ HV1.out).mono ?_; rintro e w2 ⟨u, rfl, hu, hb2⟩; have HU := Lib.hid hu; obtain ⟨A2, c2, hu2, _, _⟩ := hu.rv HLL.out; subst hu2; have HB2 := Lib.hid hb2; have HG2 : Hid (Blk w2 w.heap.size 25 #[.slice A g.vs.length c, .slice B g.es.length d]) := Blk.kept (w := w1.drew) HG0.out hb2 HG0.out.lt; have HZ2 : Hid (Blk w2 (w.heap.size + 1) 25 #[.slice none 0 0, .slice none 0 0]) := Blk.kept (w := w1.drew) HZ0.out hb2 HZ0.out.lt; have S1 : Hid (w2.cell? ⟨w.heap.size, 0, none⟩ = some (.slice A g.vs.length c) ∧ w2.cell? ⟨w.heap.size, 1, none⟩ = some (.slice B g.es.length d)) := ⟨HG2.out.cell 0, HG2.out.cell 1⟩; clear hu hb2)
    | (go_at_call 117; refine (clonee_walk _ _ _ _ (HE1.out.kept HB2.out (Nat.le_refl _))).mono ?_; rintro e w3 ⟨u3, rfl, hu, hb3⟩; have HU3 := Lib.hid hu; obtain ⟨A4, c4, hu4, _, _⟩ := hu.rve HLE.out; subst hu4; have HB3 := Lib.hid hb3; have HG3 := Lib.hid (HG2.out.kept hb3 HG2.out.lt); have HZ3 := Lib.hid (HZ2.out.kept hb3 HZ2.out.lt); have S2 : Hid (w3.cell? ⟨w.heap.size, 0, none⟩ = some (.slice A g.vs.length c) ∧ w3.cell? ⟨w.heap.size, 1, none⟩ = some (.slice B g.es.length d)) := ⟨HG3.out.cell 0, HG3.out.cell 1⟩; have z0 := HZ3.out.cell 0; have z1 := HZ3.out.cell 1; have t0 := HZ3.out.thaw 0; have t1 := HZ3.out.thaw 1; have S3 : Hid (((w3.setCell ⟨w.heap.size + 1, 0, none⟩ (.slice A2 g.vs.length c2)).setCell ⟨w.heap.size + 1, 1, none⟩ (.slice A4 g.es.length c4)).cell? ⟨w.heap.size, 0, none⟩ = some (.slice A g.vs.length c) ∧ ((w3.setCell ⟨w.heap.size + 1, 0, none⟩ (.slice A2 g.vs.length c2)).setCell ⟨w.heap.size + 1, 1, none⟩ (.slice A4 g.es.length c4)).cell? ⟨w.heap.size, 1, none⟩ = some (.slice B g.es.length d)) := ⟨((HG3.out.off (a := ⟨w.heap.size + 1, 0, none⟩) HNE.out _).off (a := ⟨w.heap.size + 1, 1, none⟩) HNE.out _).cell 0, ((HG3.out.off (a := ⟨w.heap.size + 1, 0, none⟩) HNE.out _).off (a := ⟨w.heap.size + 1, 1, none⟩) HNE.out _).cell 1⟩; clear hu hb3))
  all_goals
    have HW : Hid (Blk ((w3.setCell ⟨w.heap.size + 1, 0, none⟩ (.slice A2 g.vs.length c2)).setCell ⟨w.heap.size + 1, 1, none⟩ (.slice A4 g.es.length c4)) (w.heap.size + 1) 25 #[.slice A2 g.vs.length c2, .slice A4 g.es.length c4]) := (HZ3.out.put 0 _).put 1 _
    have g0 := HW.out.cell 0
    have g1 := HW.out.cell 1
    have HS : Hid (Below w.heap.size w ((w3.setCell ⟨w.heap.size + 1, 0, none⟩ (.slice A2 g.vs.length c2)).setCell ⟨w.heap.size + 1, 1, none⟩ (.slice A4 g.es.length c4))) := by
      have e1 : w.heap.size ≤ w1.heap.size := by rw [HSZ.out]; omega
      have e2 : w.heap.size ≤ w2.heap.size := Nat.le_trans e1 HB2.out.size
      have h1 := ((HB0.out.trans (Below.dr _ _)).trans (Below.mono HB2.out e1)).trans (Below.mono HB3.out e2)
      exact RBelow.set (RBelow.set h1 0 (by omega) _) 1 (by omega) _
    have HRG : Hid (OG ((w3.setCell ⟨w.heap.size + 1, 0, none⟩ (.slice A2 g.vs.length c2)).setCell ⟨w.heap.size + 1, 1, none⟩ (.slice A4 g.es.length c4)) (.agg #[.slice A2 g.vs.length c2, .slice A4 g.es.length c4]) g) := by
      have s1 : Still w3 ((w3.setCell ⟨w.heap.size + 1, 0, none⟩ (.slice A2 g.vs.length c2)).setCell ⟨w.heap.size + 1, 1, none⟩ (.slice A4 g.es.length c4)) := (Still.put HZ3.out (by decide) _).trans (Still.put (HZ3.out.put 0 _) (by decide) _)
      have q1 := ((Oq.owned HU.out).still (Still.below HB3.out)).still s1
      have q2 := HU3.out.keepB (fun k cur hk => keep_put (i := 1) (HZ3.out.put 0 (.slice A2 g.vs.length c2)) (by decide) (.slice A4 g.es.length c4) (keep_put (i := 0) HZ3.out (by decide) (.slice A2 g.vs.length c2) hk))
      exact ⟨_, _, _, _, rfl, HLL.out, q1.base (Nat.zero_le _), (q2.oq HLE.out).base (Nat.zero_le _)⟩
    go_wp2
    exact bodyPost_ret (v := .agg #[.slice A2 g.vs.length c2, .slice A4 g.es.length c4]) (by simp [results, Tryz.results85, go_sem, g0, g1]) rfl ⟨_, rfl, HRG.out, HS.out⟩
theorem cloneg_walk (w : World) (v : Value) (g : Gr) (h : RG w v g) :
    Calls Tryz.prog 85 #[v] w fun e w' => ∃ u, e = .returned u ∧ RG w' u g ∧ Below w.heap.size w w' :=
  (clonegq_walk w v g h).mono fun _ _ ⟨u, h1, h2, h3⟩ => ⟨u, h1, h2.rg, h3⟩
end Go.Proofs.YtcinbmekjlmdpaaGreat

/-! Rows of rows, of which each lies in a block of its own kind: no matter whether two lie in one. -/
namespace Go.Proofs.YtcinbmekjlmdpaaGreat
open Go.RowKit

/-- A row of one's own whose elements are rows. -/
def PL (w : World) (B : Nat) (pv : Value) (rows : List (List UInt32)) : Prop :=
  ∃ vals : List Value, vals.length = rows.length ∧ w.ownsRow B 22 1 pv rows.length vals ∧ ∀ i, Oq w 0 (vals.getD i nilv) (rows.getD i [])
theorem PL.nil (w : World) (B : Nat) : PL w B (.slice none 0 0) [] := ⟨[], rfl, World.ownsRow_nil _ _ _ _, fun _ => Oq.nil w 0⟩
theorem PL.keep {w w' : World} {B : Nat} {pv : Value} {rows : List (List UInt32)} (h : PL w B pv rows) (hk : ∀ g cur, Blk w g 22 cur → Blk w' g 22 cur) (hs : Still w w') : PL w' B pv rows := by
  obtain ⟨vals, h1, h2, h3⟩ := h
  exact ⟨vals, h1, owns_blk h2 hk, fun i => (h3 i).still hs⟩
theorem PL.kept {w w' : World} {B : Nat} {pv : Value} {rows : List (List UInt32)} (h : PL w B pv rows) (hb : Below w.heap.size w w') : PL w' B pv rows :=
  h.keep (fun _ _ hk => hk.kept hb hk.lt) (Still.below hb)
theorem PL.slice {w : World} {B : Nat} {pv : Value} {rows : List (List UInt32)} (h : PL w B pv rows) : ∃ A c, pv = .slice A rows.length c := by
  obtain ⟨vals, h1, h2, h3⟩ := h
  rcases h2.2 with ⟨rfl, h0⟩ | ⟨g, cap, cur, rfl, _⟩
  · exact ⟨_, _, by rw [h0]⟩
  · exact ⟨_, _, rfl⟩
theorem PL.own {w : World} {B : Nat} {pv : Value} {rows : List (List UInt32)} (h : PL w B pv rows) {b : Nat} (hb : pv.ownBlock = some b) : B ≤ b ∧ b < w.heap.size ∧ ∃ cur, Blk w b 22 cur := by
  obtain ⟨vals, h1, h2, h3⟩ := h
  rcases h2.2 with ⟨rfl, h0⟩ | ⟨g, cap, cur, rfl, hB, hg, _⟩
  · cases hb
  · cases hb
    have hblk : Blk w g 22 cur := hg
    exact ⟨hB, hblk.lt, cur, hblk⟩
theorem PL.rr {w : World} {B : Nat} {pv : Value} {rows : List (List UInt32)} (h : PL w B pv rows) (hl : ∀ l ∈ rows, l.length ≤ 1000000) : RRv w pv rows := by
  obtain ⟨vals, h1, h2, h3⟩ := h
  rcases h2.2 with ⟨rfl, h0⟩ | ⟨g, cap, cur, rfl, hB, hg, hc, _, hsz, htake⟩
  · obtain rfl : rows = [] := List.length_eq_zero_iff.1 h0
    exact ⟨none, 0, rfl, Nat.le_refl _, fun h => absurd h (by simp)⟩
  · have hblk : Blk w g 22 cur := hg
    refine ⟨_, cap, rfl, hc, fun _ => ⟨g, 0, rfl, hblk.lt, fun i hi => ⟨vals.getD i nilv, ?_, ?_⟩⟩⟩
    · rw [Nat.zero_add, hblk.cell]
      have h4 : (cur.toList.take (rows.length * 1))[i]? = vals[i]? := by rw [htake]
      rw [List.getElem?_take_of_lt (by omega)] at h4
      rw [List.getD_eq_getElem?_getD, ← Array.getElem?_toList, h4, List.getElem?_eq_getElem (by omega)]
      rfl
    · exact (h3 i).rv (by
        have : rows.getD i [] ∈ rows := by
          rw [List.getD_eq_getElem?_getD, List.getElem?_eq_getElem hi]; exact List.getElem_mem hi
        exact hl _ this)
/-- What is kept when one's own row grows. -/
theorem PL.grown {w w' w0 : World} {B : Nat} {pv : Value} {rows : List (List UInt32)} (h0 : Below B w0 w) (h : PL w B pv rows) (hg : w.grownBy w' pv.ownBlock) (hb : B ≤ w.heap.size) : Below B w0 w' :=
  h0.trans ⟨hg.os, hg.tape, hg.output, hg.size, fun k hk => hg.block k (by omega) (fun e => by have := (h.own e.symm).1; omega)⟩
theorem Blk.grownP {w w' : World} {B g : Nat} {t : TypeId} {cs : Array Value} {pv : Value} {rows : List (List UInt32)} (hb : Blk w g t cs) (h : PL w B pv rows) (ht : t ≠ 22) (hg : w.grownBy w' pv.ownBlock) : Blk w' g t cs :=
  (hg.block g hb.lt (fun e => by
    obtain ⟨_, _, cur, hc⟩ := h.own e.symm
    unfold Blk at hb hc
    rw [hb] at hc
    injection hc with hc
    injection hc with _ h2
    exact ht h2)).trans hb
theorem Mu.grownP {w w' : World} {B m n : Nat} {s : UInt32 → Option Value} {pv : Value} {rows : List (List UInt32)} (hm : Mu w m n s) (h : PL w B pv rows) (hg : w.grownBy w' pv.ownBlock) : Mu w' m n s :=
  hm.kept (hg.block _ hm.lt (fun e => by obtain ⟨_, _, cur, hc⟩ := h.own e.symm; exact hm.no_cells hc rfl))
/-- A row put behind the others. -/
theorem run_rowL (w : World) (B : Nat) (ty : TypeId) (pv u : Value) (l : List UInt32) (rows : List (List UInt32)) (g0 : Nat) (h : PL w B pv rows) (hl : rows.length < 1000000) (hb : B ≤ w.heap.size) (hsrc : Blk w g0 22 #[u]) (hu : u.oneCell' = true)
    (ho : Oq w 0 u l) :
    ∃ v' w', (Builtin.append_ #[26, 26] ty #[pv, .slice (some ⟨g0, 0, none⟩) 1 1]).run Tryz.prog w = .ok v' w' ∧ PL w' B v' (rows ++ [l]) ∧ w.grownBy w' pv.ownBlock := by
  obtain ⟨i, hi, hz, hs, hby⟩ := info22
  obtain ⟨vals, h1, h2, h3⟩ := h
  obtain ⟨v', w', hr, h4, h5, _, _⟩ := run_append_own_at (P := Tryz.prog) (w := w) B 26 ty 22 i (.slice none 0 0) 1 24 Tryz.underlying26 hi hz hs hby rfl (by decide) pv rows.length vals h2 ⟨g0, 0, none⟩ 1 1 [u] rfl (src_val hsrc) (by intro x hx; rw [List.mem_singleton] at hx; subst hx; exact hu) (by unfold maxLen; omega) (by omega) hb
  have hstill : Still w w' := fun g cur hk => (h5.block g hk.lt (fun e => by
    rcases h2.2 with ⟨rfl, _⟩ | ⟨g', cap, cur', rfl, _, hg', _⟩
    · cases e
    · cases e
      unfold Blk at hk
      rw [hg'] at hk
      injection hk with hk
      injection hk with _ h2
      exact absurd h2 (by decide))).trans hk
  refine ⟨v', w', hr, ⟨vals ++ [u], by simp [h1], by rw [List.length_append]; exact h4, fun j => ?_⟩, h5⟩
  rw [getD_app, getD_app, h1]
  by_cases e : j = rows.length
  · rw [if_pos e, if_pos e]; exact ho.still hstill
  · rw [if_neg e, if_neg e]; exact (h3 j).still hstill
section
variable {ops : Array Oper} {rest : List Oper} {o : Oper} {a : Act} {w : World} {Q : Exit → Act → World → Prop}
set_option maxRecDepth 100000 in
theorem wpList_rowL (hgd : o.guard = none) (s x : Operand) (ho : o.op = .call { callee := .builtin .append, args := #[s, x], argTypes := #[26, 26] }) (B : Nat) (pv u : Value) (l : List UInt32) (rows : List (List UInt32)) (g0 : Nat)
    (hs : a.eval s = pv) (hx : a.eval x = .slice (some ⟨g0, 0, none⟩) 1 1) (h : PL w B pv rows) (hl : rows.length < 1000000) (hb : B ≤ w.heap.size) (hsrc : Blk w g0 22 #[u]) (hu : u.oneCell' = true)
    (hou : Oq w 0 u l)
    (H : ∀ v' w', PL w' B v' (rows ++ [l]) → w.grownBy w' pv.ownBlock → wpList Tryz.prog ops Q rest (a.put o.dst v') w') : wpList Tryz.prog ops Q (o :: rest) a w := by
  obtain ⟨v', w', hr, h1, h2⟩ := run_rowL w B o.type pv u l rows g0 h hl hb hsrc hu hou
  exact wpList_plain hgd fun _ hK => Lib.wp_append_run w s x _ _ ho pv _ hs hx v' w' hr (hK _ _ (H v' w' h1 h2))
end
set_option maxRecDepth 100000 in
/-- The same, as a step of a region that draws. -/
theorem step_rowL {ops : Array Oper} {o : Oper} {a : Act} {w : World} {K : Act → World → Prop} {Q : Exit → Act → World → Prop} {E : Prop} (hgd : o.guard = none) (s x : Operand) (ho : o.op = .call { callee := .builtin .append, args := #[s, x], argTypes := #[26, 26] }) (B : Nat) (pv u : Value) (l : List UInt32) (rows : List (List UInt32)) (g0 : Nat)
    (hs : a.eval s = pv) (hx : a.eval x = .slice (some ⟨g0, 0, none⟩) 1 1) (h : PL w B pv rows) (hl : rows.length < 1000000) (hb : B ≤ w.heap.size) (hsrc : Blk w g0 22 #[u]) (hu : u.oneCell' = true)
    (hou : Oq w 0 u l)
    (H : ∀ v' w', PL w' B v' (rows ++ [l]) → w.grownBy w' pv.ownBlock → K (a.put o.dst v') w') :
    if Region.wanted o (yielded ops a.tmps) = true then Oper.wp Tryz.prog o a w K Q else E := by
  obtain ⟨v', w', hr, h1, h2⟩ := run_rowL w B o.type pv u l rows g0 h hl hb hsrc hu hou
  have hw : Region.wanted o (yielded ops a.tmps) = true := by simp [Region.wanted, hgd]
  rw [if_pos hw]
  exact Lib.wp_append_run w s x _ _ ho pv _ hs hx v' w' hr (H v' w' h1 h2)
end Go.Proofs.YtcinbmekjlmdpaaGreat
