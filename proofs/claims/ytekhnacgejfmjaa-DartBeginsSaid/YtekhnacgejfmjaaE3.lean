/- Without; the chapter's example. -/
import Derived.Test.YtekhnacgejfmjaaE2
namespace Go.Proofs.Ytekhnacgejfmjaa
open Go.RowKit

theorem Blk.fresh_at {w : World} {g : Nat} (h : g = w.heap.size) (t : TypeId) (cs : Array Value) : Blk (w.alloc (.cells cs t)) g t cs := by subst h; exact Blk.fresh w t cs
attribute [local irreducible] V
set_option maxHeartbeats 2000000 in
theorem without_rv (w : World) (v u : Value) (l m : List UInt32) (h : RV w v l) (h2 : RV w u m) :
    Calls Try.prog 33 #[v, u] w fun e w' => ∃ x, e = .returned x ∧ RV w' x (wo l m) ∧ Below w.heap.size w w' := by
  have hmm := @run_makeMap Try.prog
  have hmf : ∀ (fn : Fn) (first cap : Array Value) (w : World), (Instr.makeFunc fn first cap).run Try.prog w = .ok (.func fn first cap) w := fun _ _ _ _ => rfl
  obtain ⟨B, c, rfl, hc, hr⟩ := h2
  have hlen := hr.len
  have H := Lib.hid h
  have HL := Lib.hid h.len
  have H2 := Lib.hid hr
  have HC0 : Hid (Cl ((w.alloc (.map #[] 0)).alloc (.cells #[.map (some w.heap.size)] 65)) (w.heap.size + 1) w.heap.size 0 []) := by
    refine ⟨Blk.fresh_at (by simp) _ _, ?_⟩
    rw [gone_nil]
    exact (Mu.empty w).kept (Below.heap_alloc _ _ _ (by simp))
  have HB0 : Hid (Below w.heap.size w ((w.alloc (.map #[] 0)).alloc (.cells #[.map (some w.heap.size)] 65))) := ((Below.refl _ w).alloc (Nat.le_refl _) _).alloc (by simp) _
  unfold wo
  clear h hr hc
  go_enter Try.func33, Try.ntmps33
  go_wp2
  generalize hpb : w.heap.size + 1 = pb at *
  have HPB := Lib.hid hpb
  clear hpb
  generalize World.alloc _ _ = w1 at *
  go_loopw [12] (fun i wr => ∃ k : Nat, k ≤ m.length ∧ i = .int .i64 k ∧ Cl wr pb w.heap.size k (m.take k) ∧ Below w.heap.size w wr) (fun i _ => m.length - (intOf i).toNat)
  case atStart => exact ⟨0, Nat.zero_le _, rfl, HC0.out, HB0.out⟩
  case round =>
    obtain ⟨k, hk, rfl, hcl, hb⟩ := hrel
    have HC := Lib.hid hcl
    have HB := Lib.hid hb
    have cb := hcl.1.cell 0
    clear hcl hb
    by_cases hlt : k < m.length
    · obtain ⟨b, o, rfl, hcell⟩ := (H2.out.kept HB.out (Nat.le_refl _)).spot (by omega)
      have hc1 := hcell k hlt
      rw [getD_at hlt] at hc1
      have HS : Hid (m.take (k + 1) = m.take k ++ [m.getD k 0]) := by show _ = _; rw [← getD_at hlt]; exact List.take_succ_eq_append_getElem hlt
      clear hcell
      generalize m.getD k 0 = x at *
      go_wp2_with (refine wpList_mapM rfl _ _ _ 65 66 rfl Try.underlying65 w.heap.size k _ x (.agg #[]) rfl rfl rfl HC.out.2 (by unfold maxLen; omega) ?_; intro w2 hm2 hx2 hs2; have HM2 := Lib.hid hm2; have HX2 := Lib.hid hx2; have HS2 := Lib.hid hs2; clear hm2 hx2 hs2)
      go_roundw
      case rel =>
        refine ⟨k + 1, by omega, by go_num, ⟨HX2.out.blk HC.out.1 (by have := HPB.out; omega), ?_⟩, Ex.below HB.out HX2.out (Nat.le_refl _) HB.out.size⟩
        have := HM2.out
        rw [gone_snoc, ← HS.out] at this
        exact this
      case measure => simp [intOf]; omega
    · obtain rfl : k = m.length := by omega
      have hcl := HC.out
      rw [List.take_length] at hcl
      have HCL := Lib.hid hcl
      clear hcl HC
      have HFL : Hid ((l.filter (out m)).length ≤ 1000000) := Nat.le_trans (List.length_filter_le _ _) HL.out
      go_wp2_with (first
        | (go_at_call 50; refine (clone_rv _ _ _ (H.out.kept HB.out)).mono ?_; rintro e w2 ⟨v2, rfl, h2, hb2⟩; have HO2 := Lib.hid h2; have HB2 := Lib.hid hb2; clear h2 hb2)
        | (go_at_call 49; refine (deletef_walk _ wr.heap.size _ l pb w.heap.size m.length m HO2.out HL.out (HCL.out.up HB2.out) HCL.out.1.lt HCL.out.2.lt HB2.out.size).mono ?_; rintro e w3 ⟨v3, rfl, h3, hb3⟩; have HR3 := Lib.hid h3; have HB3 := Lib.hid (HB2.out.trans hb3); clear h3 hb3)
        | (go_at_call 25; refine (normal_rv _ _ _ HR3.out).mono ?_; rintro e w4 ⟨v4, rfl, h4, hb4⟩; have HR4 := Lib.hid h4; have HB4 := Lib.hid (HB3.out.trans (Below.mono hb4 HB3.out.size)); clear h4 hb4))
      go_ret
      exact ⟨_, rfl, HR4.out, HB.out.trans (Below.mono HB4.out HB.out.size)⟩
end Go.Proofs.Ytekhnacgejfmjaa
