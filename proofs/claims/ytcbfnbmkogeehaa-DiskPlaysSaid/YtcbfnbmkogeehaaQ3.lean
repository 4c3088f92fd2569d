/- The document's disk: a barrier. -/
import Derived.Test.YtcbfnbmkogeehaaQ2
namespace Go.Proofs.Ytcbfnbmkogeehaa
open Go.RowKit

theorem wp_load_blk {o : Oper} {a : Act} {w : World} {K : Act → World → Prop} {Q : Exit → Act → World → Prop} (x : Operand) (ho : o.op = .load 43 x)
    (g i : Nat) (hx : a.eval x = .pointer (some ⟨g, i * 512, none⟩)) (l : List (List UInt8)) (b : List UInt8) (hl : ∀ b ∈ l, b.length = 512) (hg : Blk w g 43 ((l.flatMap (·.map U)).toArray)) (hb : l[i]? = some b)
    (h : K (a.put o.dst (.agg (b.map U).toArray)) w) : o.wp Try.prog a w K Q :=
  wp_load_at 43 x ho g (i * 512) hx 43 _ (b.map U) _ hg (fun j v hv => flat_at l hl i b hb j v hv) Try.underlying43 rfl
    (by have := BRow b (hl b (List.mem_of_getElem? hb)); simpa using this) h
/-- Rows of which the first k are of one, the others of another one. -/
def Mix (n k : Nat) (x y l : List (List UInt8)) : Prop := l.length = n ∧ (∀ b ∈ l, b.length = 512) ∧ ∀ j, l[j]? = if j < k then x[j]? else y[j]?
theorem Mix.zero {n : Nat} {x y : List (List UInt8)} (hy : y.length = n) (hb : ∀ b ∈ y, b.length = 512) : Mix n 0 x y y := ⟨hy, hb, fun j => by rw [if_neg (by omega)]⟩
theorem Mix.set {n k : Nat} {x y l : List (List UInt8)} (h : Mix n k x y l) (hk : k < n) {b : List UInt8} (hx : x[k]? = some b) (hb : b.length = 512) : Mix n (k + 1) x y (l.set k b) := by
  obtain ⟨h1, h2, h3⟩ := h
  refine ⟨by rw [List.length_set]; exact h1, fun c hc => ?_, fun j => ?_⟩
  · rcases List.mem_or_eq_of_mem_set hc with h | h
    · exact h2 c h
    · rw [h]; exact hb
  · by_cases e : j = k
    · subst e
      rw [List.getElem?_set_self (by omega), if_pos (by omega), hx]
    · rw [List.getElem?_set_ne (fun h => e h.symm), h3 j]
      by_cases h : j < k
      · rw [if_pos h, if_pos (by omega)]
      · rw [if_neg h, if_neg (by omega)]
theorem Mix.all {n : Nat} {x y l : List (List UInt8)} (h : Mix n n x y l) (hx : x.length = n) : l = x := by
  apply List.ext_getElem?
  intro j
  rw [h.2.2 j]
  by_cases e : j < n
  · rw [if_pos e]
  · rw [if_neg e, List.getElem?_eq_none (by omega : x.length ≤ j)]
    have := h.2.2 j
    rw [if_neg e, List.getElem?_eq_none (by have := h.1; omega : l.length ≤ j)] at this
    exact this.symm
def Cut (n k : Nat) (y l : List Bool) : Prop := l.length = n ∧ ∀ j, l[j]? = if j < k then some false else y[j]?
theorem Cut.set {n k : Nat} {y l : List Bool} (h : Cut n k y l) (hk : k < n) : Cut n (k + 1) y (l.set k false) := by
  obtain ⟨h1, h3⟩ := h
  refine ⟨by rw [List.length_set]; exact h1, fun j => ?_⟩
  by_cases e : j = k
  · subst e
    rw [List.getElem?_set_self (by omega), if_pos (by omega)]
  · rw [List.getElem?_set_ne (fun h => e h.symm), h3 j]
    by_cases h : j < k
    · rw [if_pos h, if_pos (by omega)]
    · rw [if_neg h, if_neg (by omega)]
theorem Cut.all {n : Nat} {y l : List Bool} (h : Cut n n y l) : l = List.replicate n false := by
  apply List.ext_getElem?
  intro j
  rw [List.getElem?_replicate]
  by_cases e : j < n
  · rw [h.2 j, if_pos e, if_pos e]
  · rw [if_neg e, List.getElem?_eq_none (by have := h.1; omega : l.length ≤ j)]

theorem Dk.Ok.synced {s : Dk} (h : s.Ok) : s.synced.Ok := by
  rw [← settled_synced h (Tl s s.waits.length) (Tl_mem s _ (Nat.le_refl _))]
  exact h.settled _
set_option maxRecDepth 100000 in
theorem qbarrier_stop (w : World) (q sb lb wb : Nat) (s : Dk) (h : Rq w q sb lb wb s) (hst : s.stop = true) :
    Calls Try.prog 24 #[.pointer (some ⟨q, 0, none⟩)] w fun e w' => e = .returned (.int .i64 13) ∧ Ex q w w' ∧ Blk w' q 37 (Cq s.step sb lb wb) := by
  have h5 : w.cell? ⟨q, 5, none⟩ = some (.bool s.down) := h.blk.cell 5
  have H := Lib.hid h
  clear h
  cases hd : s.down with
  | true =>
    have e : s.step = s := by
      unfold Dk.step
      rw [hst]
      obtain ⟨a, b, c, d, f, g⟩ := s
      simp only at hd
      subst hd
      rfl
    rw [e]
    rw [hd] at h5
    clear e hd hst
    go_enter Try.func24, Try.ntmps24
    go_wp2
    go_ret
    exact ⟨rfl, Ex.refl _ _, H.out.blk⟩
  | false =>
    have hq := qstep_walk w q sb lb wb s H.out.ok H.out.blk hd
    rw [hd] at h5
    rw [hst] at hq
    clear hd hst
    go_enter Try.func24, Try.ntmps24
    go_wp2_with (go_at_call 37; refine hq.mono ?_; rintro e w1 ⟨rfl, hx1, hs1, hb1⟩; have HX1 := Lib.hid hx1; have HB1 := Lib.hid hb1; clear hx1 hs1 hb1)
    go_ret
    exact ⟨rfl, HX1.out, HB1.out⟩

set_option maxRecDepth 100000 in
set_option maxHeartbeats 1000000 in
theorem qbarrier_good (w : World) (q sb lb wb : Nat) (s : Dk) (h : Rq w q sb lb wb s) (hd : s.done + 1 < 1000000000) (hst : s.stop = false) :
    Calls Try.prog 24 #[.pointer (some ⟨q, 0, none⟩)] w fun e w' => e = .returned (.int .i64 0) ∧ Fx [q, sb, lb, wb] w w' ∧ Rq w' q sb lb wb s.step.synced := by
  have hdn : s.down = false := by
    unfold Dk.stop at hst
    simp at hst
    exact hst.1
  have h5 : w.cell? ⟨q, 5, none⟩ = some (.bool s.down) := h.blk.cell 5
  have hq := qstep_walk w q sb lb wb s h.ok h.blk hdn
  rw [hdn] at h5
  rw [hst] at hq
  obtain ⟨e1, e2, e3⟩ := step_same s
  obtain ⟨n, hn⟩ : ∃ n, s.last.length = n := ⟨_, rfl⟩
  have hhi := h.ok.high
  rw [hn] at hhi
  have H := Lib.hid h
  have HN := Lib.hid hn
  clear hdn hst h hn
  have hcq : ∀ w1, Blk w1 q 37 (Cq s.step sb lb wb) → w1.cell? ⟨q, 0, none⟩ = some (.slice (some ⟨sb, 0, none⟩) n n) ∧ w1.cell? ⟨q, 1, none⟩ = some (.slice (some ⟨lb, 0, none⟩) n n) ∧ w1.cell? ⟨q, 2, none⟩ = some (.slice (some ⟨wb, 0, none⟩) n n) := by
    intro w1 hb
    refine ⟨?_, ?_, ?_⟩
    · rw [hb.cell 0]; show some (Value.slice (some ⟨sb, 0, none⟩) s.step.last.length s.step.last.length) = _; rw [e1, HN.out]
    · rw [hb.cell 1]; show some (Value.slice (some ⟨lb, 0, none⟩) s.step.last.length s.step.last.length) = _; rw [e1, HN.out]
    · rw [hb.cell 2]; show some (Value.slice (some ⟨wb, 0, none⟩) s.step.last.length s.step.last.length) = _; rw [e1, HN.out]
  have HCQ := Lib.hid hcq
  clear hcq
  go_enter Try.func24, Try.ntmps24
  go_wp2_with (go_at_call 37; refine hq.mono ?_; rintro e w1 ⟨rfl, hx1, hs1, hb1⟩; have hc1 := (HCQ.out w1 hb1).2.1; have HX1 := Lib.hid hx1; have HB1 := Lib.hid hb1; clear hx1 hs1 hb1)
  clear hq
  go_loopw [18] (fun i wr => ∃ k : Nat, k ≤ n ∧ i = .int .i64 k ∧ Fx [lb, wb] w1 wr ∧ ∃ la wt, Blk wr lb 43 ((la.flatMap (·.map U)).toArray) ∧ Mix n k s.shown s.last la ∧ Blk wr wb 4 ((wt.map Value.bool).toArray) ∧ Cut n k s.waits wt) (fun i _ => n - (intOf i).toNat)
  case atStart =>
    exact ⟨0, Nat.zero_le _, rfl, Fx.refl _ _, s.last, s.waits, HX1.out.blk H.out.la H.out.lq, Mix.zero HN.out H.out.ok.bl, HX1.out.blk H.out.wt H.out.wq, H.out.ok.wt.trans HN.out, fun j => by rw [if_neg (by omega)]⟩
  case round =>
    obtain ⟨k, hk, rfl, hfx, la, wt, hbl, hmx, hbw, hct⟩ := hrel
    have HFX := Lib.hid hfx
    have HBL := Lib.hid hbl
    have HMX := Lib.hid hmx
    have HBW := Lib.hid hbw
    have HCT := Lib.hid hct
    clear hfx hbl hmx hbw hct
    by_cases hlt : k < n
    · have hks : k < s.shown.length := by rw [H.out.ok.sh, HN.out]; exact hlt
      obtain ⟨b, hb⟩ : ∃ b, s.shown[k]? = some b := ⟨_, List.getElem?_eq_getElem hks⟩
      have hb5 : b.length = 512 := H.out.ok.bs b (List.mem_of_getElem? hb)
      have hbq : Blk wr q 37 (Cq s.step sb lb wb) := HFX.out.blk HB1.out (by simp; exact ⟨Ne.symm H.out.lq, Ne.symm H.out.wq⟩)
      have hbs : Blk wr sb 43 ((s.shown.flatMap (·.map U)).toArray) := HFX.out.blk (HX1.out.blk H.out.sh H.out.sq) (by simp; exact ⟨Ne.symm H.out.ls, Ne.symm H.out.ws⟩)
      obtain ⟨c0, c1, _⟩ := HCQ.out wr.drew hbq.drew
      have hfit : k * 512 + (b.map U).length ≤ ((la.flatMap (·.map U)).toArray).size := by
        rw [List.length_map, hb5, List.size_toArray, flat_size _ HMX.out.2.1, HMX.out.1]
        omega
      have hst : ∀ W, Ex lb wr.drew W → W.cell? ⟨q, 2, none⟩ = some (.slice (some ⟨wb, 0, none⟩) n n) ∧ (∃ v, W.cell? ⟨wb, k, none⟩ = some v) ∧ W.frozen? ⟨wb, k, none⟩ = false := fun W hx => by
        refine ⟨(HCQ.out W (hx.blk hbq.drew (Ne.symm H.out.lq))).2.2, ?_, (hx.blk HBW.out.drew H.out.wl).thaw k⟩
        rw [(hx.blk HBW.out.drew H.out.wl).cell]
        have hil : k < ((wt.map Value.bool).toArray).size := by simp; rw [HCT.out.1]; exact hlt
        exact ⟨_, Array.getElem?_eq_getElem hil⟩
      have hlt2 : (k : Int) < (n : Int) := by omega
      have HSH : Hid (Blk wr.drew sb 43 ((s.shown.flatMap (·.map U)).toArray)) := hbs.drew
      have HSK := Lib.hid hb
      have HB5 := Lib.hid hb5
      have HFIT := Lib.hid hfit
      have HST := Lib.hid hst
      clear hb hb5 hbq hbs hfit hst hks
      go_wp2
      refine wp_region_pre (by kernel_rfl) (R := fun x y => y = x) (fun _ => rfl) (fun _ _ _ h k => k.trans h) 13 [[0], [21], [22], [23], [3], [0], [26], [27], [28], [3], [29, 30], [31], [24, 25]]
        [(21, .pointer (some ⟨q, 0, none⟩)), (22, .pointer (some ⟨q, 0, none⟩)), (23, .pointer (some ⟨q, 1, none⟩)), (24, .slice (some ⟨lb, 0, none⟩) n n), (25, .int .i64 (k : Int)), (26, .pointer (some ⟨q, 0, none⟩)), (27, .pointer (some ⟨q, 0, none⟩)), (28, .pointer (some ⟨q, 0, none⟩)), (29, .slice (some ⟨sb, 0, none⟩) n n), (30, .int .i64 (k : Int)), (31, .pointer (some ⟨sb, k * 512, none⟩)), (32, .agg (b.map U).toArray), (33, .pointer (some ⟨lb, k * 512, none⟩))]
        41 rfl (by decide) (by kernel_rfl) (by kernel_rfl) (by simp) (by kernel_rfl) (by kernel_rfl) ?_ ?_
      · refine ⟨?_, ?_, ?_, ?_, ?_, ?_, ?_, ?_, ?_, ?_, ?_, ?_, ?_, trivial⟩
        · as_aux_lemma =>
          refine UpOb.plain rfl fun a W hR hl K hK => ?_
          obtain rfl : W = wr.drew := hR
          have h0 : a.tmps.getD 0 undef = (.pointer (some ⟨q, 0, none⟩)) := hl 0 (by decide)
          replace hK : ∀ v, v = (.pointer (some ⟨q, 0, none⟩)) → K (a.put (some 21) v) wr.drew := fun v h2 => hK v _ rfl (fun d hd => by cases hd; exact h2)
          clear hl
          simp only [Array.getD_eq_getD_getElem?] at h0
          go_simp
          exact hK _ rfl
        · as_aux_lemma =>
          refine UpOb.plain rfl fun a W hR hl K hK => ?_
          obtain rfl : W = wr.drew := hR
          have h21 : a.tmps.getD 21 undef = (.pointer (some ⟨q, 0, none⟩)) := hl 21 (by decide)
          replace hK : ∀ v, v = (.pointer (some ⟨q, 0, none⟩)) → K (a.put (some 22) v) wr.drew := fun v h2 => hK v _ rfl (fun d hd => by cases hd; exact h2)
          clear hl
          simp only [Array.getD_eq_getD_getElem?] at h21
          go_simp
          exact hK _ rfl
        · as_aux_lemma =>
          refine UpOb.plain rfl fun a W hR hl K hK => ?_
          obtain rfl : W = wr.drew := hR
          have h22 : a.tmps.getD 22 undef = (.pointer (some ⟨q, 0, none⟩)) := hl 22 (by decide)
          replace hK : ∀ v, v = (.pointer (some ⟨q, 1, none⟩)) → K (a.put (some 23) v) wr.drew := fun v h2 => hK v _ rfl (fun d hd => by cases hd; exact h2)
          clear hl
          simp only [Array.getD_eq_getD_getElem?] at h22
          go_simp
          exact hK _ rfl
        · as_aux_lemma =>
          refine UpOb.plain rfl fun a W hR hl K hK => ?_
          obtain rfl : W = wr.drew := hR
          have h23 : a.tmps.getD 23 undef = (.pointer (some ⟨q, 1, none⟩)) := hl 23 (by decide)
          replace hK : ∀ v, v = (.slice (some ⟨lb, 0, none⟩) n n) → K (a.put (some 24) v) wr.drew := fun v h2 => hK v _ rfl (fun d hd => by cases hd; exact h2)
          clear hl
          simp only [Array.getD_eq_getD_getElem?] at h23
          go_simp
          exact hK _ rfl
        · as_aux_lemma =>
          refine UpOb.plain rfl fun a W hR hl K hK => ?_
          obtain rfl : W = wr.drew := hR
          have h3 : a.tmps.getD 3 undef = (.int .i64 (k : Int)) := hl 3 (by decide)
          replace hK : ∀ v, v = (.int .i64 (k : Int)) → K (a.put (some 25) v) wr.drew := fun v h2 => hK v _ rfl (fun d hd => by cases hd; exact h2)
          clear hl
          simp only [Array.getD_eq_getD_getElem?] at h3
          go_simp
          exact hK _ rfl
        · as_aux_lemma =>
          refine UpOb.plain rfl fun a W hR hl K hK => ?_
          obtain rfl : W = wr.drew := hR
          have h0 : a.tmps.getD 0 undef = (.pointer (some ⟨q, 0, none⟩)) := hl 0 (by decide)
          replace hK : ∀ v, v = (.pointer (some ⟨q, 0, none⟩)) → K (a.put (some 26) v) wr.drew := fun v h2 => hK v _ rfl (fun d hd => by cases hd; exact h2)
          clear hl
          simp only [Array.getD_eq_getD_getElem?] at h0
          go_simp
          exact hK _ rfl
        · as_aux_lemma =>
          refine UpOb.plain rfl fun a W hR hl K hK => ?_
          obtain rfl : W = wr.drew := hR
          have h26 : a.tmps.getD 26 undef = (.pointer (some ⟨q, 0, none⟩)) := hl 26 (by decide)
          replace hK : ∀ v, v = (.pointer (some ⟨q, 0, none⟩)) → K (a.put (some 27) v) wr.drew := fun v h2 => hK v _ rfl (fun d hd => by cases hd; exact h2)
          clear hl
          simp only [Array.getD_eq_getD_getElem?] at h26
          go_simp
          exact hK _ rfl
        · as_aux_lemma =>
          refine UpOb.plain rfl fun a W hR hl K hK => ?_
          obtain rfl : W = wr.drew := hR
          have h27 : a.tmps.getD 27 undef = (.pointer (some ⟨q, 0, none⟩)) := hl 27 (by decide)
          replace hK : ∀ v, v = (.pointer (some ⟨q, 0, none⟩)) → K (a.put (some 28) v) wr.drew := fun v h2 => hK v _ rfl (fun d hd => by cases hd; exact h2)
          clear hl
          simp only [Array.getD_eq_getD_getElem?] at h27
          go_simp
          exact hK _ rfl
        · as_aux_lemma =>
          refine UpOb.plain rfl fun a W hR hl K hK => ?_
          obtain rfl : W = wr.drew := hR
          have h28 : a.tmps.getD 28 undef = (.pointer (some ⟨q, 0, none⟩)) := hl 28 (by decide)
          replace hK : ∀ v, v = (.slice (some ⟨sb, 0, none⟩) n n) → K (a.put (some 29) v) wr.drew := fun v h2 => hK v _ rfl (fun d hd => by cases hd; exact h2)
          clear hl
          simp only [Array.getD_eq_getD_getElem?] at h28
          go_simp
          exact hK _ rfl
        · as_aux_lemma =>
          refine UpOb.plain rfl fun a W hR hl K hK => ?_
          obtain rfl : W = wr.drew := hR
          have h3 : a.tmps.getD 3 undef = (.int .i64 (k : Int)) := hl 3 (by decide)
          replace hK : ∀ v, v = (.int .i64 (k : Int)) → K (a.put (some 30) v) wr.drew := fun v h2 => hK v _ rfl (fun d hd => by cases hd; exact h2)
          clear hl
          simp only [Array.getD_eq_getD_getElem?] at h3
          go_simp
          exact hK _ rfl
        · as_aux_lemma =>
          refine UpOb.plain rfl fun a W hR hl K hK => ?_
          obtain rfl : W = wr.drew := hR
          have h29 : a.tmps.getD 29 undef = (.slice (some ⟨sb, 0, none⟩) n n) := hl 29 (by decide)
          have h30 : a.tmps.getD 30 undef = (.int .i64 (k : Int)) := hl 30 (by decide)
          replace hK : ∀ v, v = (.pointer (some ⟨sb, k * 512, none⟩)) → K (a.put (some 31) v) wr.drew := fun v h2 => hK v _ rfl (fun d hd => by cases hd; exact h2)
          clear hl
          simp only [Array.getD_eq_getD_getElem?] at h29 h30
          go_simp
          exact hK _ rfl
        · as_aux_lemma =>
          refine UpOb.plain rfl fun a W hR hl K hK => ?_
          obtain rfl : W = wr.drew := hR
          have h31 : a.tmps.getD 31 undef = (.pointer (some ⟨sb, k * 512, none⟩)) := hl 31 (by decide)
          replace hK : ∀ v, v = (.agg (b.map U).toArray) → K (a.put (some 32) v) wr.drew := fun v h2 => hK v _ rfl (fun d hd => by cases hd; exact h2)
          clear hl
          exact wp_load_blk _ rfl sb k h31 s.shown b H.out.ok.bs HSH.out HSK.out (hK _ rfl)
        · as_aux_lemma =>
          refine UpOb.plain rfl fun a W hR hl K hK => ?_
          obtain rfl : W = wr.drew := hR
          have h24 : a.tmps.getD 24 undef = (.slice (some ⟨lb, 0, none⟩) n n) := hl 24 (by decide)
          have h25 : a.tmps.getD 25 undef = (.int .i64 (k : Int)) := hl 25 (by decide)
          replace hK : ∀ v, v = (.pointer (some ⟨lb, k * 512, none⟩)) → K (a.put (some 33) v) wr.drew := fun v h2 => hK v _ rfl (fun d hd => by cases hd; exact h2)
          clear hl
          simp only [Array.getD_eq_getD_getElem?] at h24 h25
          go_simp
          exact hK _ rfl
      · intro W hW
        obtain rfl : W = wr.drew := hW
        simp only [filled, List.foldl, List.setIfInBounds_toArray, List.set, List.drop_succ_cons, List.drop_zero]
        go_wp2_with (first
          | (refine wpList_store_at rfl 43 _ _ rfl lb (k * 512) (b.map U) rfl rfl 43 _ HBL.out.drew HFIT.out (by have := BRow b HB5.out; simpa using this) (BOne _) ?_; intro w5 hx5 hb5 hs5; have HX5 := Lib.hid hx5; have HB5' := Lib.hid hb5; obtain ⟨c2, ⟨v5, c5⟩, f5⟩ := HST.out w5 hx5; clear hx5 hb5 hs5))
        go_roundw
        case rel =>
          have hsh := HB5'.out
          have hkl : k < la.length := by rw [HMX.out.1]; exact hlt
          rw [flat_lay la HMX.out.2.1 k b HB5.out hkl] at hsh
          have hwt := (HX5.out.blk HBW.out.drew H.out.wl).put k (.bool false)
          rw [bools_set] at hwt
          exact ⟨k + 1, by omega, by go_num, ((HFX.out.trans (Fx.of_ex (Ex.drew lb _) (by simp))).trans (Fx.of_ex HX5.out (by simp))).trans (Fx.of_ex (Ex.setCell wb k _ _) (by simp)), _, _, hsh.off (Ne.symm H.out.wl) _, HMX.out.set hlt HSK.out HB5.out, hwt, HCT.out.set hlt⟩
        case measure => simp [intOf]; omega
    · obtain rfl : n = k := by omega
      go_wp2
      go_ret
      have ela := HMX.out.all (by rw [H.out.ok.sh, HN.out])
      have ewt := HCT.out.all
      have hbl := HBL.out
      have hbw := HBW.out
      rw [ela] at hbl
      rw [ewt] at hbw
      have hfx := HFX.out
      refine ⟨rfl, (Fx.of_ex HX1.out (by simp)).trans (hfx.sub (by simp)), ?_⟩
      have hok := (H.out.ok.step hd)
      have hbq : Blk wr q 37 (Cq s.step sb lb wb) := hfx.blk HB1.out (by simp; exact ⟨Ne.symm H.out.lq, Ne.symm H.out.wq⟩)
      have hbs : Blk wr sb 43 ((s.shown.flatMap (·.map U)).toArray) := hfx.blk (HX1.out.blk H.out.sh H.out.sq) (by simp; exact ⟨Ne.symm H.out.ls, Ne.symm H.out.ws⟩)
      have hz : s.step.synced.last.length = s.step.last.length := hok.sh
      have hcz : Cq s.step.synced sb lb wb = Cq s.step sb lb wb := by
        unfold Cq
        rw [hz]
        rfl
      exact { ok := hok.synced, blk := by rw [hcz]; exact hbq, sh := by show Blk wr sb 43 ((s.step.shown.flatMap (·.map U)).toArray); rw [e3]; exact hbs
              la := by show Blk wr lb 43 ((s.step.shown.flatMap (·.map U)).toArray); rw [e3]; exact hbl
              wt := by show Blk wr wb 4 (((List.replicate s.step.last.length false).map Value.bool).toArray); rw [e1, HN.out]; exact hbw
              sq := H.out.sq, lq := H.out.lq, wq := H.out.wq, ls := H.out.ls, ws := H.out.ws, wl := H.out.wl }
theorem qbarrier_walk (w : World) (q sb lb wb : Nat) (s : Dk) (h : Rq w q sb lb wb s) (hd : s.done + 1 < 1000000000) :
    Calls Try.prog 24 #[.pointer (some ⟨q, 0, none⟩)] w fun e w' => e = .returned (.int .i64 s.stepE) ∧ Fx [q, sb, lb, wb] w w' ∧ Rq w' q sb lb wb s.barrier := by
  unfold Dk.barrier Dk.stepE
  cases hst : s.stop with
  | true => exact (qbarrier_stop w q sb lb wb s h hst).mono (by rintro e w' ⟨rfl, hx, hb⟩; exact ⟨rfl, Fx.of_ex hx (by simp), h.stepped hd hx hb⟩)
  | false => exact qbarrier_good w q sb lb wb s h hd hst
end Go.Proofs.Ytcbfnbmkogeehaa
