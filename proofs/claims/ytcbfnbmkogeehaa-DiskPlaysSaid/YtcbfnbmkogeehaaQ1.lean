/- The document's disk: Write. -/
import Derived.Test.YtcbfnbmkogeehaaQ0
namespace Go.Proofs.Ytcbfnbmkogeehaa
open Go.RowKit

theorem step_same (s : Dk) : s.step.last = s.last ∧ s.step.waits = s.waits ∧ s.step.shown = s.shown := by
  unfold Dk.step
  split <;> exact ⟨rfl, rfl, rfl⟩
theorem Rq.stepped {w w' : World} {q sb lb wb : Nat} {s : Dk} (h : Rq w q sb lb wb s) (hd : s.done + 1 < 1000000000) (hx : Ex q w w') (hb : Blk w' q 37 (Cq s.step sb lb wb)) : Rq w' q sb lb wb s.step := by
  obtain ⟨e1, e2, e3⟩ := step_same s
  exact { h with ok := h.ok.step hd, blk := hb, sh := by rw [e3]; exact hx.blk h.sh h.sq, la := by rw [e1]; exact hx.blk h.la h.lq, wt := by rw [e2]; exact hx.blk h.wt h.wq }
theorem Rq.drew {w : World} {q sb lb wb : Nat} {s : Dk} (h : Rq w q sb lb wb s) : Rq w.drew q sb lb wb s := { h with blk := h.blk, sh := h.sh, la := h.la, wt := h.wt }
theorem bools_set (l : List Bool) (i : Nat) (b : Bool) : (l.map Value.bool).toArray.setIfInBounds i (.bool b) = ((l.set i b).map Value.bool).toArray := by
  rw [List.setIfInBounds_toArray, List.map_set]

set_option maxRecDepth 100000 in
theorem qwrite_bad (w : World) (q sb lb wb : Nat) (s : Dk) (k : Int) (b : List UInt8) (h : Rq w q sb lb wb s) (hr : s.reach k ≠ 0) :
    Calls Try.prog 27 #[.pointer (some ⟨q, 0, none⟩), .int .i64 k, B b] w fun e w' => e = .returned (.int .i64 (s.reach k)) ∧ Below w.heap.size w w' := by
  have ht : (s.reach k != 0) = true := by simpa using hr
  have hrd := qread_walk (w.alloc (.cells (b.map U).toArray 43)) q sb lb wb s k (h.up ((Below.refl _ w).alloc (Nat.le_refl _) _))
  have e : s.read k = (z512, s.reach k) := by unfold Dk.read; rw [if_neg hr]
  rw [e] at hrd
  unfold BE B at hrd
  clear h hr e
  generalize s.reach k = e0 at *
  unfold B
  go_enter Try.func27, Try.ntmps27
  go_wp2_with (first
    | (go_at_call 25; refine hrd.mono ?_; rintro e w1 ⟨rfl, hb1⟩; have HB1 := Lib.hid hb1; clear hb1)
    | (refine wpList_store_fresh rfl 43 _ _ rfl Z rfl rfl size43 rfl (BAll _) ?_; intro w2 hb2 hs2 hB2; have Hb2 := Lib.hid hb2; clear hb2 hs2 hB2))
  go_ret
  have h0 : Below w.heap.size w (w.alloc (.cells (b.map U).toArray 43)) := (Below.refl _ w).alloc (Nat.le_refl _) _
  have h1 := h0.trans (HB1.out.mono h0.size)
  exact ⟨rfl, h1.trans (Hb2.out.mono h1.size)⟩

set_option maxRecDepth 100000 in
set_option maxHeartbeats 1000000 in
theorem qwrite_good (w : World) (q sb lb wb : Nat) (s : Dk) (i : Nat) (b : List UInt8) (h : Rq w q sb lb wb s) (hb : b.length = 512) (hr : s.reach (i : Int) = 0) (hi : i < s.last.length) (hdn : s.down = false) (hd : s.done + 1 < 1000000000) :
    Calls Try.prog 27 #[.pointer (some ⟨q, 0, none⟩), .int .i64 (i : Int), B b] w fun e w' => e = .returned (.int .i64 s.stepE) ∧ Fx [q, sb, lb, wb] w w' ∧ Rq w' q sb lb wb (if s.stop then s.step else s.step.wrote i b) := by
  have hw0 : Below w.heap.size w (w.alloc (.cells (b.map U).toArray 43)) := (Below.refl _ w).alloc (Nat.le_refl _) _
  have hrd := qread_walk (w.alloc (.cells (b.map U).toArray 43)) q sb lb wb s i (h.up hw0)
  have e : s.read i = (s.shown.getD i z512, 0) := by unfold Dk.read; rw [if_pos hr]; rfl
  have hl : (s.shown.getD i z512).length = 512 := by
    have hi2 : i < s.shown.length := by rw [h.ok.sh]; exact hi
    rw [List.getD_eq_getElem?_getD, List.getElem?_eq_getElem hi2]
    exact h.ok.bs _ (List.getElem_mem hi2)
  rw [e] at hrd
  generalize s.shown.getD i z512 = l at *
  have hz : Z.size = (l.map U).toArray.size := by rw [Z_size, BSize _ hl]
  unfold BE B at hrd
  have HL := Lib.hid hl
  have HZ := Lib.hid hz
  have HB := Lib.hid hb
  have H := Lib.hid h
  have HW0 := Lib.hid hw0
  clear hl hz hb h e hr hw0
  have hq : ∀ W, Below w.heap.size w W → Calls Try.prog 37 #[.pointer (some ⟨q, 0, none⟩)] W fun e w' => e = .returned (.bool (!s.stop)) ∧ Ex q W w' ∧ w'.heap.size = W.heap.size ∧ Blk w' q 37 (Cq s.step sb lb wb) :=
    fun W hW => qstep_walk W q sb lb wb s H.out.ok (H.out.up hW).blk hdn
  have HQ := Lib.hid hq
  clear hq
  cases hst : s.stop with
  | true =>
    have e1 : s.stepE = 13 := by unfold Dk.stepE; rw [hst]; rfl
    rw [e1, if_pos rfl]
    rw [hst] at HQ
    clear e1
    unfold B
    go_enter Try.func27, Try.ntmps27
    go_wp2_with (first
      | (go_at_call 25; refine hrd.mono ?_; rintro e w1 ⟨rfl, hb1⟩; have HB1 := Lib.hid (HW0.out.trans (hb1.mono HW0.out.size)); clear hb1)
      | (go_at_call 37; refine (HQ.out w2 HB2.out).mono ?_; rintro e w3 ⟨rfl, hx3, hs3, hb3⟩; have HX3 := Lib.hid hx3; have HB3 := Lib.hid hb3; clear hx3 hs3 hb3)
      | (refine wpList_store_fresh rfl 43 _ _ rfl (l.map U).toArray rfl rfl (BRow l HL.out) HZ.out (BAll _) ?_; intro w2 hb2 hs2 hB2; have HB2 := Lib.hid (HB1.out.trans (hb2.mono HB1.out.size)); clear hb2 hs2 hB2))
    go_ret
    exact ⟨rfl, (Fx.of_below HB2.out).trans (Fx.of_ex HX3.out (by simp)), (H.out.up HB2.out).stepped hd HX3.out HB3.out⟩
  | false =>
    have e1 : s.stepE = 0 := by unfold Dk.stepE; rw [hst]; rfl
    rw [e1, if_neg (by simp)]
    rw [hst] at HQ
    clear e1
    have hhi := H.out.ok.high
    have hlt : (i : Int) < (s.last.length : Int) := by omega
    obtain ⟨n, hn⟩ : ∃ n, s.last.length = n := ⟨_, rfl⟩
    rw [hn] at hlt hi hhi
    have HN := Lib.hid hn
    clear hn
    unfold B
    go_enter Try.func27, Try.ntmps27
    go_wp2_with (first
      | (go_at_call 25; refine hrd.mono ?_; rintro e w1 ⟨rfl, hb1⟩; have HK1 : Hid (Blk w1 w.heap.size 43 (b.map U).toArray) := (Blk.fresh w 43 _).kept hb1 (by simp); have HB1 := Lib.hid (HW0.out.trans (hb1.mono HW0.out.size)); clear hb1)
      | (go_at_call 37; refine (HQ.out w2 HB2.out).mono ?_; rintro e w4 ⟨rfl, hx3, hs3, hb3⟩; have HX3 := Lib.hid hx3; have HB3 := Lib.hid hb3; have HS3 := Lib.hid hs3; clear hx3 hs3 hb3)
      | (refine wpList_store_fresh rfl 43 _ _ rfl (l.map U).toArray rfl rfl (BRow l HL.out) HZ.out (BAll _) ?_; intro w2 hb2 hs2 hB2; have HK2 := Lib.hid (HK1.out.kept hb2 HK1.out.lt); have HB2 := Lib.hid (HB1.out.trans (hb2.mono HB1.out.size)); clear hb2 hs2 hB2))
    have hqs := H.out.apart
    have hbx : Blk w4 w.heap.size 43 (b.map U).toArray := HX3.out.blk HK2.out (by omega)
    have HBX := Lib.hid hbx
    have hR4 := (H.out.up HB2.out).stepped hd HX3.out HB3.out
    have h0 : w4.drew.cell? ⟨q, 0, none⟩ = some (.slice (some ⟨sb, 0, none⟩) n n) := by
      have h := hR4.blk.drew.cell 0
      rw [h]
      show some (Value.slice (some ⟨sb, 0, none⟩) s.step.last.length s.step.last.length) = _
      rw [(step_same s).1, HN.out]
    have h2 : ∀ W, Ex sb w4.drew W → W.cell? ⟨q, 2, none⟩ = some (.slice (some ⟨wb, 0, none⟩) n n) := fun W hx => by
      have h := (hx.blk hR4.blk.drew (Ne.symm H.out.sq)).cell 2
      rw [h]
      show some (Value.slice (some ⟨wb, 0, none⟩) s.step.last.length s.step.last.length) = _
      rw [(step_same s).1, HN.out]
    have hcw : ∀ W, Ex sb w4.drew W → ∃ v, W.cell? ⟨wb, i, none⟩ = some v := fun W hx => by
      have hwl := H.out.ok.wt
      have h := (hx.blk hR4.wt.drew H.out.ws).cell i
      rw [h, (step_same s).2.1]
      have hil : i < ((s.waits.map Value.bool).toArray).size := by simp; rw [hwl, HN.out]; exact hi
      exact ⟨_, Array.getElem?_eq_getElem hil⟩
    have hfw : ∀ W, Ex sb w4.drew W → W.frozen? ⟨wb, i, none⟩ = false := fun W hx => (hx.blk hR4.wt.drew H.out.ws).thaw i
    have hfit : i * 512 + (b.map U).length ≤ ((s.step.shown.flatMap (·.map U)).toArray).size := by
      rw [List.length_map, HB.out, List.size_toArray, flat_size _ (by rw [(step_same s).2.2]; exact H.out.ok.bs), (step_same s).2.2, H.out.ok.sh, HN.out]
      omega
    have HR4 := Lib.hid hR4
    have HC2 := Lib.hid h2
    have HCW := Lib.hid hcw
    have HFW := Lib.hid hfw
    have HFIT := Lib.hid hfit
    clear hR4 h2 hcw hfw hfit hbx hrd HQ
    refine wp_region_pre (by kernel_rfl) (R := fun x y => y = x) (fun _ => rfl) (fun _ _ _ h k => k.trans h) 7 [[0], [21], [22], [23], [1], [5], [24, 25]]
      [(21, .pointer (some ⟨q, 0, none⟩)), (22, .pointer (some ⟨q, 0, none⟩)), (23, .pointer (some ⟨q, 0, none⟩)), (24, .slice (some ⟨sb, 0, none⟩) n n), (25, .int .i64 (i : Int)), (26, .agg (b.map U).toArray), (27, .pointer (some ⟨sb, i * 512, none⟩))]
      34 rfl (by decide) (by kernel_rfl) (by kernel_rfl) (by simp) (by kernel_rfl) (by kernel_rfl) ?_ ?_
    · refine ⟨?_, ?_, ?_, ?_, ?_, ?_, ?_, trivial⟩
      · as_aux_lemma =>
        refine UpOb.plain rfl fun a W hR hl K hK => ?_
        obtain rfl : W = w4.drew := hR
        have h0 : a.tmps.getD 0 undef = (.pointer (some ⟨q, 0, none⟩)) := hl 0 (by decide)
        replace hK : ∀ v, v = (.pointer (some ⟨q, 0, none⟩)) → K (a.put (some 21) v) w4.drew := fun v h2 => hK v _ rfl (fun d hd => by cases hd; exact h2)
        clear hl
        simp only [Array.getD_eq_getD_getElem?] at h0
        go_simp
        exact hK _ rfl
      · as_aux_lemma =>
        refine UpOb.plain rfl fun a W hR hl K hK => ?_
        obtain rfl : W = w4.drew := hR
        have h21 : a.tmps.getD 21 undef = (.pointer (some ⟨q, 0, none⟩)) := hl 21 (by decide)
        replace hK : ∀ v, v = (.pointer (some ⟨q, 0, none⟩)) → K (a.put (some 22) v) w4.drew := fun v h2 => hK v _ rfl (fun d hd => by cases hd; exact h2)
        clear hl
        simp only [Array.getD_eq_getD_getElem?] at h21
        go_simp
        exact hK _ rfl
      · as_aux_lemma =>
        refine UpOb.plain rfl fun a W hR hl K hK => ?_
        obtain rfl : W = w4.drew := hR
        have h22 : a.tmps.getD 22 undef = (.pointer (some ⟨q, 0, none⟩)) := hl 22 (by decide)
        replace hK : ∀ v, v = (.pointer (some ⟨q, 0, none⟩)) → K (a.put (some 23) v) w4.drew := fun v h2 => hK v _ rfl (fun d hd => by cases hd; exact h2)
        clear hl
        simp only [Array.getD_eq_getD_getElem?] at h22
        go_simp
        exact hK _ rfl
      · as_aux_lemma =>
        refine UpOb.plain rfl fun a W hR hl K hK => ?_
        obtain rfl : W = w4.drew := hR
        have h23 : a.tmps.getD 23 undef = (.pointer (some ⟨q, 0, none⟩)) := hl 23 (by decide)
        replace hK : ∀ v, v = (.slice (some ⟨sb, 0, none⟩) n n) → K (a.put (some 24) v) w4.drew := fun v h2 => hK v _ rfl (fun d hd => by cases hd; exact h2)
        clear hl
        simp only [Array.getD_eq_getD_getElem?] at h23
        go_simp
        exact hK _ rfl
      · as_aux_lemma =>
        refine UpOb.plain rfl fun a W hR hl K hK => ?_
        obtain rfl : W = w4.drew := hR
        have h1 : a.tmps.getD 1 undef = (.int .i64 (i : Int)) := hl 1 (by decide)
        replace hK : ∀ v, v = (.int .i64 (i : Int)) → K (a.put (some 25) v) w4.drew := fun v h2 => hK v _ rfl (fun d hd => by cases hd; exact h2)
        clear hl
        simp only [Array.getD_eq_getD_getElem?] at h1
        go_simp
        exact hK _ rfl
      · as_aux_lemma =>
        refine UpOb.plain rfl fun a W hR hl K hK => ?_
        obtain rfl : W = w4.drew := hR
        have h5 : a.tmps.getD 5 undef = (.pointer (some ⟨w.heap.size, 0, none⟩)) := hl 5 (by decide)
        replace hK : ∀ v, v = (.agg (b.map U).toArray) → K (a.put (some 26) v) w4.drew := fun v h2 => hK v _ rfl (fun d hd => by cases hd; exact h2)
        clear hl
        exact wp_load_row 43 _ rfl w.heap.size h5 43 _ (0, 0) _ HBX.out.drew Try.underlying43 rfl (BRow b HB.out) (hK _ rfl)
      · as_aux_lemma =>
        refine UpOb.plain rfl fun a W hR hl K hK => ?_
        obtain rfl : W = w4.drew := hR
        have h24 : a.tmps.getD 24 undef = (.slice (some ⟨sb, 0, none⟩) n n) := hl 24 (by decide)
        have h25 : a.tmps.getD 25 undef = (.int .i64 (i : Int)) := hl 25 (by decide)
        replace hK : ∀ v, v = (.pointer (some ⟨sb, i * 512, none⟩)) → K (a.put (some 27) v) w4.drew := fun v h2 => hK v _ rfl (fun d hd => by cases hd; exact h2)
        clear hl
        simp only [Array.getD_eq_getD_getElem?] at h24 h25
        go_simp
        exact hK _ rfl
    · intro W hW
      obtain rfl : W = w4.drew := hW
      simp only [filled, List.foldl, List.setIfInBounds_toArray, List.set, List.drop_succ_cons, List.drop_zero]
      go_wp2_with (first
        | (refine wpList_store_at rfl 43 _ _ rfl sb (i * 512) (b.map U) rfl rfl 43 _ HR4.out.sh.drew HFIT.out (by have := BRow b HB.out; simpa using this) (BOne _) ?_; intro w5 hx5 hb5 hs5; have HX5 := Lib.hid hx5; have HB5 := Lib.hid hb5; have c2 := HC2.out w5 hx5; obtain ⟨v5, c5⟩ := HCW.out w5 hx5; have f5 := HFW.out w5 hx5; clear hx5 hb5 hs5))
      go_ret
      refine ⟨rfl, ?_, ?_⟩
      · exact ((((Fx.of_below HB2.out).trans (Fx.of_ex HX3.out (by simp))).trans (Fx.of_ex (Ex.drew q _) (by simp))).trans (Fx.of_ex HX5.out (by simp))).trans (Fx.of_ex (Ex.setCell wb i _ _) (by simp))
      · have hr := HR4.out
        obtain ⟨e1, e2, e3⟩ := step_same s
        have hi3 : i < s.step.shown.length := by rw [e3, H.out.ok.sh, HN.out]; exact hi
        have hsh := HB5.out
        rw [flat_lay s.step.shown hr.ok.bs i b HB.out hi3] at hsh
        have hwt := (HX5.out.blk hr.wt.drew H.out.ws).put i (.bool true)
        rw [bools_set] at hwt
        exact { hr with
          ok := hr.ok.wrote i b HB.out
          blk := (HX5.out.blk hr.blk.drew (Ne.symm hr.sq)).off (Ne.symm hr.wq) _
          sh := hsh.off (Ne.symm hr.ws) _
          la := (HX5.out.blk hr.la.drew hr.ls).off (Ne.symm hr.wl) _
          wt := hwt }
theorem qwrite_walk (w : World) (q sb lb wb : Nat) (s : Dk) (k : Int) (b : List UInt8) (h : Rq w q sb lb wb s) (hb : b.length = 512) (hd : s.done + 1 < 1000000000) :
    Calls Try.prog 27 #[.pointer (some ⟨q, 0, none⟩), .int .i64 k, B b] w fun e w' => e = .returned (.int .i64 (s.writeE k)) ∧ Fx [q, sb, lb, wb] w w' ∧ Rq w' q sb lb wb (s.write k b) := by
  unfold Dk.write Dk.writeE
  by_cases hr : s.reach k = 0
  · rw [if_pos hr, if_pos hr]
    obtain ⟨i, rfl, hi, hdn⟩ := Dk.reach_zero hr
    exact qwrite_good w q sb lb wb s i b h hb hr hi hdn hd
  · rw [if_neg hr, if_neg hr]
    refine (qwrite_bad w q sb lb wb s k b h hr).mono ?_
    rintro e w' ⟨rfl, hbw⟩
    exact ⟨rfl, Fx.of_below hbw, h.up hbw⟩
end Go.Proofs.Ytcbfnbmkogeehaa
