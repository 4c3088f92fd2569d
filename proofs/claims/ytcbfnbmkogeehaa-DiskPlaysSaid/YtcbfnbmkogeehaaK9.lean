/- Write. -/
import Derived.Test.YtcbfnbmkogeehaaK8
import Derived.Test.YtcbfnbmkogeehaaR1
namespace Go.Proofs.Ytcbfnbmkogeehaa
open Go.RowKit
set_option maxRecDepth 100000 in
theorem write_good (w : World) (g lb mb : Nat) (s : Dk) (D : DataW Value) (i : Nat) (b : List UInt8) (h : Rep w g lb mb s D) (hb : b.length = 512) (hr0 : s.reach (i : Int) = 0) (hi : i < s.last.length) (hst : s.stop = false) :
    Calls Try.prog 14 #[.pointer (some ⟨g, 0, none⟩), .int .i64 (i : Int), B b] w fun e w' => e = .returned (.int .i64 0) ∧
      ∃ w1 w2, Ex g (w.alloc (.cells (b.map U).toArray 43)) w1 ∧ w1.heap.size = w.heap.size + 1 ∧ Blk w1 g 62 (Cs s.step lb mb) ∧ w2.ownsMap Try.prog 3 RV mb (Maps.size D + 1) (D.put (.int .i64 (i : Int)) (.held (B b))) ∧ w1.drew.mapTurned w2 mb ∧ w' = w2 := by
  have hr := reach_walk (w.alloc (.cells (b.map U).toArray 43)) g lb mb s (i : Int) (h.blk.more _)
  have hs := step_walk (w.alloc (.cells (b.map U).toArray 43)) g lb mb s h.ok (h.blk.more _)
  have e1 : s.stepE = 0 := by unfold Dk.stepE; rw [hst]; rfl
  rw [hr0] at hr
  rw [e1] at hs
  clear e1 hr0 hst
  have H := Lib.hid h
  have HB := Lib.hid hb
  clear h hb
  unfold B
  go_enter Try.func14, Try.ntmps14
  go_wp2_with (first
    | (go_at_call 30; refine hr.mono ?_; rintro e w' ⟨rfl, rfl⟩)
    | (go_at_call 31; refine hs.mono ?_; rintro e w1 ⟨rfl, hx1, hs1, hb1⟩))
  have hgl := H.out.blk.lt
  have hbx : Blk w1 w.heap.size 43 (b.map U).toArray := hx1.blk (Blk.fresh w _ _) (by omega)
  have h4 : w1.drew.cell? ⟨g, 4, none⟩ = some (.map (some mb)) := hb1.drew.cell 4
  have how : w1.drew.ownsMap Try.prog 3 RV mb (Maps.size D) D := by
    obtain ⟨es, clock, h1, r⟩ := (H.out.more (.cells (b.map U).toArray 43)).own
    have hlt := (H.out.more (.cells (b.map U).toArray 43)).own.lt
    exact ⟨es, clock, (hx1.block mb hlt H.out.mg).trans h1, r⟩
  have hmx : Maps.size D < maxLen := by
    have h1 := H.out.cnt
    have h2 := H.out.ok.d1
    unfold maxLen; omega
  have hi2 : i < 4096 := by have := H.out.ok.high; omega
  have hk : keyOf Try.prog 3 (.int .i64 (i : Int)) = some (.int .i64 (i : Int)) := Maps.keyOf_int_mk Try.underlying3 (wf64 _ (by omega))
  obtain ⟨w2, hm1, ho2, ht2⟩ := how.store (Maps.int_keyed Try.underlying3) Try.underlying57 hmx (val := .agg (b.map U).toArray) (d := .held (.agg (b.map U).toArray)) (ps := []) hk rfl
  have HBX := Lib.hid hbx
  have HX1 := Lib.hid hx1
  have HB1 := Lib.hid hb1
  have HO2 := Lib.hid ho2
  have HT2 := Lib.hid ht2
  have HS1 := Lib.hid hs1
  clear hbx hx1 hb1 hr hs ho2 ht2 hk how hs1
  refine wp_region_pre (by kernel_rfl) (R := fun x y => y = x) (fun _ => rfl) (fun _ _ _ h k => k.trans h) 7 [[0], [22], [23], [24], [25], [1], [5]]
    [(22, .pointer (some ⟨g, 0, none⟩)), (23, .pointer (some ⟨g, 0, none⟩)), (24, .pointer (some ⟨g, 3, none⟩)), (25, .pointer (some ⟨g, 4, none⟩)), (26, .map (some mb)), (27, .int .i64 (i : Int)), (28, .agg (b.map U).toArray)]
    29 rfl (by decide) (by kernel_rfl) (by kernel_rfl) (by simp) (by kernel_rfl) (by kernel_rfl) ?_ ?_
  · refine ⟨?_, ?_, ?_, ?_, ?_, ?_, ?_, trivial⟩
    · refine UpOb.plain rfl fun a W hR hl K hK => ?_
      obtain rfl : W = w1.drew := hR
      have h0 : a.tmps.getD 0 undef = (.pointer (some ⟨g, 0, none⟩)) := hl 0 (by decide)
      replace hK : ∀ v, v = (.pointer (some ⟨g, 0, none⟩)) → K (a.put (some 22) v) w1.drew := fun v h2 => hK v _ rfl (fun d hd => by cases hd; exact h2)
      clear hl
      simp only [Array.getD_eq_getD_getElem?] at h0
      go_simp
      exact hK _ rfl
    · refine UpOb.plain rfl fun a W hR hl K hK => ?_
      obtain rfl : W = w1.drew := hR
      have h22 : a.tmps.getD 22 undef = (.pointer (some ⟨g, 0, none⟩)) := hl 22 (by decide)
      replace hK : ∀ v, v = (.pointer (some ⟨g, 0, none⟩)) → K (a.put (some 23) v) w1.drew := fun v h2 => hK v _ rfl (fun d hd => by cases hd; exact h2)
      clear hl
      simp only [Array.getD_eq_getD_getElem?] at h22
      go_simp
      exact hK _ rfl
    · refine UpOb.plain rfl fun a W hR hl K hK => ?_
      obtain rfl : W = w1.drew := hR
      have h23 : a.tmps.getD 23 undef = (.pointer (some ⟨g, 0, none⟩)) := hl 23 (by decide)
      replace hK : ∀ v, v = (.pointer (some ⟨g, 3, none⟩)) → K (a.put (some 24) v) w1.drew := fun v h2 => hK v _ rfl (fun d hd => by cases hd; exact h2)
      clear hl
      simp only [Array.getD_eq_getD_getElem?] at h23
      go_simp
      exact hK _ rfl
    · refine UpOb.plain rfl fun a W hR hl K hK => ?_
      obtain rfl : W = w1.drew := hR
      have h24 : a.tmps.getD 24 undef = (.pointer (some ⟨g, 3, none⟩)) := hl 24 (by decide)
      replace hK : ∀ v, v = (.pointer (some ⟨g, 4, none⟩)) → K (a.put (some 25) v) w1.drew := fun v h2 => hK v _ rfl (fun d hd => by cases hd; exact h2)
      clear hl
      simp only [Array.getD_eq_getD_getElem?] at h24
      go_simp
      exact hK _ rfl
    · refine UpOb.plain rfl fun a W hR hl K hK => ?_
      obtain rfl : W = w1.drew := hR
      have h25 : a.tmps.getD 25 undef = (.pointer (some ⟨g, 4, none⟩)) := hl 25 (by decide)
      replace hK : ∀ v, v = (.map (some mb)) → K (a.put (some 26) v) w1.drew := fun v h2 => hK v _ rfl (fun d hd => by cases hd; exact h2)
      clear hl
      simp only [Array.getD_eq_getD_getElem?] at h25
      go_simp
      exact hK _ rfl
    · refine UpOb.plain rfl fun a W hR hl K hK => ?_
      obtain rfl : W = w1.drew := hR
      have h1 : a.tmps.getD 1 undef = (.int .i64 (i : Int)) := hl 1 (by decide)
      replace hK : ∀ v, v = (.int .i64 (i : Int)) → K (a.put (some 27) v) w1.drew := fun v h2 => hK v _ rfl (fun d hd => by cases hd; exact h2)
      clear hl
      simp only [Array.getD_eq_getD_getElem?] at h1
      go_simp
      exact hK _ rfl
    · refine UpOb.plain rfl fun a W hR hl K hK => ?_
      obtain rfl : W = w1.drew := hR
      have h5 : a.tmps.getD 5 undef = (.pointer (some ⟨w.heap.size, 0, none⟩)) := hl 5 (by decide)
      replace hK : ∀ v, v = (.agg (b.map U).toArray) → K (a.put (some 28) v) w1.drew := fun v h2 => hK v _ rfl (fun d hd => by cases hd; exact h2)
      clear hl
      exact wp_load_row 43 _ rfl w.heap.size h5 43 _ (0, 0) _ HBX.out.drew Try.underlying43 rfl (BRow b HB.out) (hK _ rfl)
  · intro W hW
    obtain rfl : W = w1.drew := hW
    simp only [filled, List.foldl, List.setIfInBounds_toArray, List.set]
    go_wp2
    go_ret
    exact ⟨rfl, w1, w2, HX1.out, by rw [HS1.out]; simp, HB1.out, HO2.out, HT2.out, rfl⟩

theorem Dk.Ok.step {s : Dk} (h : s.Ok) (hd : s.done + 1 < 1000000000) : s.step.Ok := by
  unfold Dk.step
  split
  · exact { h with }
  · refine { h with d0 := ?_, d1 := hd, f0 := ?_, f1 := ?_ }
    · have := h.d0; show 0 ≤ s.done + 1; omega
    · have := h.f0; show -9223372036854775808 ≤ (if 0 < s.fuse then s.fuse - 1 else s.fuse); split <;> omega
    · have := h.f1; show (if 0 < s.fuse then s.fuse - 1 else s.fuse) ≤ 9223372036854775807; split <;> omega
/-- The same in a world where the struct alone has turned, to what a step leaves. -/
theorem Rep.stepped {w w' : World} {g lb mb : Nat} {s : Dk} {D : DataW Value} (h : Rep w g lb mb s D) (hd : s.done + 1 < 1000000000) (hx : Ex g w w') (hb : Blk w' g 62 (Cs s.step lb mb)) : Rep w' g lb mb s.step D := by
  have e1 : s.step.last = s.last := by unfold Dk.step; split <;> rfl
  have e2 : s.step.waits = s.waits := by unfold Dk.step; split <;> rfl
  have e3 : s.step.shown = s.shown := by unfold Dk.step; split <;> rfl
  have e4 : s.done ≤ s.step.done := by
    unfold Dk.step
    split
    · exact Int.le_refl _
    · show s.done ≤ s.done + 1; omega
  refine { ok := h.ok.step hd, blk := hb, lst := by rw [e1]; exact hx.blk h.lst h.lg, own := ?_, cnt := Int.le_trans h.cnt e4, lg := h.lg, mg := h.mg, ml := h.ml, has := by rw [e2]; exact h.has, val := by rw [e2, e3]; exact h.val }
  obtain ⟨es, clock, h1, r⟩ := h.own
  exact ⟨es, clock, (hx.block mb h.own.lt h.mg).trans h1, r⟩
/-- The state behind Write, and what it answers. -/
def Dk.write (s : Dk) (k : Int) (b : List UInt8) : Dk := if s.reach k = 0 then (if s.stop then s.step else s.step.wrote k.toNat b) else s
def Dk.writeE (s : Dk) (k : Int) : Int := if s.reach k = 0 then s.stepE else s.reach k
/-- Two blocks aside, nothing has turned. -/
structure Ex2 (g m : Nat) (w w' : World) : Prop where
  os : w'.os = w.os
  tape : w'.tape = w.tape
  output : w'.output = w.output
  size : w.heap.size ≤ w'.heap.size
  block : ∀ k, k < w.heap.size → k ≠ g → k ≠ m → w'.heap[k]? = w.heap[k]?
end Go.Proofs.Ytcbfnbmkogeehaa
