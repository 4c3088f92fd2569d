/- Both disks do an act: a barrier, a fuse, a crash, a look. -/
import Derived.Test.YtcbfnbmkogeehaaQ5
import Derived.Test.YtcbfnbmkogeehaaK19
namespace Go.Proofs.Ytcbfnbmkogeehaa
open Go.RowKit

/-- Both disks, of one state, apart from each other. -/
structure Two (w : World) (g lb mb q sb lc wb : Nat) (s : Dk) : Prop where
  real : ∃ D, Rep w g lb mb s D
  doc : Rq w q sb lc wb s
  apart : ∀ x ∈ [g, lb, mb], x ∉ [q, sb, lc, wb]
theorem Rep.aside {S : List Nat} {w w' : World} {g lb mb : Nat} {s : Dk} {D : DataW Value} (h : Rep w g lb mb s D) (hx : Fx S w w') (h1 : g ∉ S) (h2 : lb ∉ S) (h3 : mb ∉ S) : Rep w' g lb mb s D :=
  { h with
    blk := hx.blk h.blk h1
    lst := hx.blk h.lst h2
    own := by
      obtain ⟨es, clock, h4, r⟩ := h.own
      exact ⟨es, clock, (hx.block mb h.own.lt h3).trans h4, r⟩ }
theorem Two.sep {w : World} {g lb mb q sb lc wb : Nat} {s : Dk} (h : Two w g lb mb q sb lc wb s) : q ∉ [g, lb, mb] ∧ sb ∉ [g, lb, mb] ∧ lc ∉ [g, lb, mb] ∧ wb ∉ [g, lb, mb] := by
  have a := h.apart
  refine ⟨fun hm => a q hm (by simp), fun hm => a sb hm (by simp), fun hm => a lc hm (by simp), fun hm => a wb hm (by simp)⟩
theorem Two.up {w w' : World} {g lb mb q sb lc wb : Nat} {s : Dk} (h : Two w g lb mb q sb lc wb s) (hb : Below w.heap.size w w') : Two w' g lb mb q sb lc wb s := by
  obtain ⟨D, hr⟩ := h.real
  exact ⟨⟨D, hr.up hb⟩, h.doc.up hb, h.apart⟩
/-- The real one turns, then the document's. -/
theorem Two.turn {w w1 w2 : World} {g lb mb q sb lc wb : Nat} {s s' : Dk} (h : Two w g lb mb q sb lc wb s) (hr : ∃ D, Rep w1 g lb mb s' D) (hx : Fx [q, sb, lc, wb] w1 w2) (hq : Rq w2 q sb lc wb s') : Two w2 g lb mb q sb lc wb s' := by
  obtain ⟨D, hr⟩ := hr
  exact ⟨⟨D, hr.aside hx (h.apart g (by simp)) (h.apart lb (by simp)) (h.apart mb (by simp))⟩, hq, h.apart⟩
theorem Two.half {w w1 : World} {g lb mb q sb lc wb : Nat} {s : Dk} (h : Two w g lb mb q sb lc wb s) (hx : Fr g lb mb w w1) : Rq w1 q sb lc wb s := by
  obtain ⟨h1, h2, h3, h4⟩ := h.sep
  exact h.doc.kept (Fx.of_fr hx (by simp) (by simp) (by simp) : Fx [g, lb, mb] w w1) h1 h2 h3 h4
def seven (g lb mb q sb lc wb : Nat) : List Nat := [g, lb, mb, q, sb, lc, wb]
theorem Fx.fr7 {g lb mb q sb lc wb : Nat} {w w' : World} (h : Fr g lb mb w w') : Fx (seven g lb mb q sb lc wb) w w' := Fx.of_fr h (by simp [seven]) (by simp [seven]) (by simp [seven])
theorem Fx.q7 {g lb mb q sb lc wb : Nat} {w w' : World} (h : Fx [q, sb, lc, wb] w w') : Fx (seven g lb mb q sb lc wb) w w' := h.sub (by simp [seven])

/-- The argument, boxed. -/
abbrev boxed (w : World) (x k : Int) (b : UInt8) (A : Option Addr) (n c : Nat) : World := w.alloc (.cells #[.int .i64 x, .int .i64 k, U b, .slice A n c] 32)
theorem boxed_below (w : World) (x k : Int) (b : UInt8) (A : Option Addr) (n c : Nat) : Below w.heap.size w (boxed w x k b A n c) := (Below.refl _ w).alloc (Nat.le_refl _) _
theorem boxed_cells (w : World) (x k : Int) (b : UInt8) (A : Option Addr) (n c : Nat) : Blk (boxed w x k b A n c) w.heap.size 32 #[.int .i64 x, .int .i64 k, U b, .slice A n c] := Blk.fresh w _ _

set_option maxRecDepth 100000 in
theorem do_barrier (w : World) (g lb mb q sb lc wb : Nat) (s : Dk) (h : Two w g lb mb q sb lc wb s) (hd : s.done + 1 < 1000000000) (x k : Int) (b : UInt8) (A : Option Addr) (n c : Nat) (r : Int) (hr : r = 1 ∨ r = -1) (hx : x.tmod 5 = r) :
    Calls Try.prog 10 #[.pointer (some ⟨g, 0, none⟩), .pointer (some ⟨q, 0, none⟩), .agg #[.int .i64 x, .int .i64 k, U b, .slice A n c]] w fun e w' => e = .returned (.bool true) ∧ Fx (seven g lb mb q sb lc wb) w w' ∧ Two w' g lb mb q sb lc wb s.barrier := by
  have h0 := h.up (boxed_below w x k b A n c)
  obtain ⟨D, hr0⟩ := h0.real
  have H0 := Lib.hid h0
  have HB0 := Lib.hid (boxed_below w x k b A n c)
  have hbw := barrier_walk _ g lb mb s D hr0 hd
  have hqw := fun w1 (hx : Fr g lb mb (boxed w x k b A n c) w1) => qbarrier_walk w1 q sb lc wb s (h0.half hx) hd
  have HQ := Lib.hid hqw
  clear h h0 hr0 hqw
  rcases hr with rfl | rfl
  all_goals
    go_enter Try.func10, Try.ntmps10
    go_wp2_with (first
      | (go_at_call 15; refine hbw.mono ?_; rintro e w1 ⟨rfl, hf1, hr1⟩; have HF1 := Lib.hid hf1; have HR1 := Lib.hid hr1; clear hf1 hr1)
      | (go_at_call 24; refine (HQ.out w1 HF1.out).mono ?_; rintro e w2 ⟨rfl, hx2, hq2⟩; have HX2 := Lib.hid hx2; have HQ2 := Lib.hid hq2; clear hx2 hq2))
    go_ret
    exact ⟨by simp, ((Fx.of_below HB0.out).trans (Fx.fr7 HF1.out)).trans (Fx.q7 HX2.out), H0.out.turn HR1.out HX2.out HQ2.out⟩

set_option maxRecDepth 100000 in
theorem do_fuse (w : World) (g lb mb q sb lc wb : Nat) (s : Dk) (h : Two w g lb mb q sb lc wb s) (x k : Int) (hk1 : -9223372036854775808 ≤ k) (hk2 : k ≤ 9223372036854775807) (b : UInt8) (A : Option Addr) (n c : Nat) (r : Int) (hr : r = 3 ∨ r = -3) (hx : x.tmod 5 = r) :
    Calls Try.prog 10 #[.pointer (some ⟨g, 0, none⟩), .pointer (some ⟨q, 0, none⟩), .agg #[.int .i64 x, .int .i64 k, U b, .slice A n c]] w fun e w' => e = .returned (.bool true) ∧ Fx (seven g lb mb q sb lc wb) w w' ∧ Two w' g lb mb q sb lc wb (s.fused k) := by
  have h0 := h.up (boxed_below w x k b A n c)
  obtain ⟨D, hr0⟩ := h0.real
  have H0 := Lib.hid h0
  have HB0 := Lib.hid (boxed_below w x k b A n c)
  have hbw := fuse_walk _ g lb mb s D hr0 k hk1 hk2
  have hap := h0.doc.apart
  have hcell : ∀ w1, Fr g lb mb (boxed w x k b A n c) w1 → w1.cell? ⟨w.heap.size, 1, none⟩ = some (.int .i64 k) ∧ (∃ v, w1.cell? ⟨q, 4, none⟩ = some v) ∧ w1.frozen? ⟨q, 4, none⟩ = false := fun w1 hf => by
    have hq := h0.half hf
    have ha := hr0.apart
    have hg := h.real
    obtain ⟨D', hg⟩ := hg
    have hga := hg.apart
    exact ⟨(hf.blk (boxed_cells w x k b A n c) (by omega) (by omega) (by omega)).cell 1, ⟨_, hq.blk.cell 4⟩, hq.blk.thaw 4⟩
  have HC := Lib.hid hcell
  clear h h0 hr0 hcell hap
  rcases hr with rfl | rfl
  all_goals
    go_enter Try.func10, Try.ntmps10
    go_wp2_with (first
      | (go_at_call 20; refine hbw.mono ?_; rintro e w1 ⟨rfl, hf1, hr1⟩; obtain ⟨c1, ⟨v1, c2⟩, f1⟩ := HC.out w1 hf1; have HF1 := Lib.hid hf1; have HR1 := Lib.hid hr1; clear hf1 hr1))
    go_ret
    have hq := H0.out.half HF1.out
    have hx2 : Ex q w1 (w1.setCell ⟨q, 4, none⟩ (.int .i64 (max k (-1)))) := Ex.setCell q 4 _ _
    have hq2 : Rq (w1.setCell ⟨q, 4, none⟩ (.int .i64 (max k (-1)))) q sb lc wb (s.fused k) :=
      { hq with ok := { hq.ok with f0 := hk1, f1 := hk2 }, blk := hq.blk.put 4 _, sh := hx2.blk hq.sh hq.sq, la := hx2.blk hq.la hq.lq, wt := hx2.blk hq.wt hq.wq }
    have hx3 : Fx [q, sb, lc, wb] w1 (w1.setCell ⟨q, 4, none⟩ (.int .i64 (max k (-1)))) := Fx.of_ex hx2 (by simp)
    exact ⟨rfl, ((Fx.of_below HB0.out).trans (Fx.fr7 HF1.out)).trans (Fx.q7 hx3), H0.out.turn ⟨_, HR1.out⟩ hx3 hq2⟩

theorem rising_one : ∀ (l m : List Nat), l.Pairwise (· < ·) → m.Pairwise (· < ·) → (∀ i, i ∈ l ↔ i ∈ m) → l = m
  | [], [], _, _, _ => rfl
  | [], y :: m, _, _, h => absurd ((h y).2 (List.mem_cons_self ..)) (by simp)
  | x :: l, [], _, _, h => absurd ((h x).1 (List.mem_cons_self ..)) (by simp)
  | x :: l, y :: m, hl, hm, h => by
    have h1 := List.pairwise_cons.1 hl
    have h2 := List.pairwise_cons.1 hm
    have e : x = y := by
      rcases List.mem_cons.1 ((h x).1 (List.mem_cons_self ..)) with e | hx
      · exact e
      · rcases List.mem_cons.1 ((h y).2 (List.mem_cons_self ..)) with e | hy
        · exact e.symm
        · have a := h2.1 x hx
          have b := h1.1 y hy
          omega
    subst e
    rw [rising_one l m h1.2 h2.2 fun i => ⟨fun hi => by
      rcases List.mem_cons.1 ((h i).1 (List.mem_cons_of_mem _ hi)) with e | hh
      · have := h1.1 i hi
        omega
      · exact hh, fun hi => by
      rcases List.mem_cons.1 ((h i).2 (List.mem_cons_of_mem _ hi)) with e | hh
      · have := h2.1 i hi
        omega
      · exact hh⟩]

/-- What is kept: a row of Booleans apart from the disks. -/
def Kept (w : World) (A : Option Addr) (n : Nat) (kb : List Bool) (S : List Nat) : Prop :=
  n = kb.length ∧ (0 < n → ∃ b o, A = some ⟨b, o, none⟩ ∧ b < w.heap.size ∧ b ∉ S ∧ ∀ i (h : i < kb.length), w.cell? ⟨b, o + i, none⟩ = some (.bool kb[i]))
set_option maxRecDepth 100000 in
theorem do_crash (w : World) (g lb mb q sb lc wb : Nat) (s : Dk) (h : Two w g lb mb q sb lc wb s) (x k : Int) (b : UInt8) (A : Option Addr) (n c : Nat) (kb : List Bool) (hkp : Kept w A n kb (seven g lb mb q sb lc wb)) (r : Int) (hr : r = 4 ∨ r = -4) (hx : x.tmod 5 = r) :
    Calls Try.prog 10 #[.pointer (some ⟨g, 0, none⟩), .pointer (some ⟨q, 0, none⟩), .agg #[.int .i64 x, .int .i64 k, U b, .slice A n c]] w fun e w' => e = .returned (.bool true) ∧ Fx (seven g lb mb q sb lc wb) w w' ∧ Two w' g lb mb q sb lc wb (s.settled (stay (Tl s s.waits.length) kb)).restored := by
  have h0 := h.up (boxed_below w x k b A n c)
  obtain ⟨D, hr0⟩ := h0.real
  have HB0 := Lib.hid (boxed_below w x k b A n c)
  have hbw := crash_any _ g lb mb s D hr0 A n c kb hkp.1 (fun hn => by
    obtain ⟨b1, o1, e, hlt, _, hc⟩ := hkp.2 hn
    exact ⟨b1, o1, e, Nat.lt_of_lt_of_le hlt (boxed_below w x k b A n c).size, fun i hi => ((boxed_below w x k b A n c).cell hlt).trans (hc i hi)⟩)
  have hqw := fun w1 (hf : Fr g lb mb (boxed w x k b A n c) w1) => qcrash_walk w1 q sb lc wb s (h0.half hf) A n c kb hkp.1 (fun hn => by
    obtain ⟨b1, o1, e, hlt, hns, hc⟩ := hkp.2 hn
    simp only [seven, List.mem_cons, List.not_mem_nil, or_false, not_or] at hns
    obtain ⟨n1, n2, n3, n4, n5, n6, n7⟩ := hns
    have hb0 := boxed_below w x k b A n c
    refine ⟨b1, o1, e, Nat.lt_of_lt_of_le hlt (Nat.le_trans hb0.size hf.size), n4, n5, n6, n7, fun i hi => ?_⟩
    rw [World.cell?_of_block (hf.block b1 (Nat.lt_of_lt_of_le hlt hb0.size) n1 n2 n3), hb0.cell hlt]
    exact hc i hi)
  have hcell : ∀ w1, Fr g lb mb (boxed w x k b A n c) w1 → w1.cell? ⟨w.heap.size, 3, none⟩ = some (.slice A n c) := fun w1 hf => by
    obtain ⟨D', hg⟩ := h.real
    have hga := hg.apart
    exact (hf.blk (boxed_cells w x k b A n c) (by omega) (by omega) (by omega)).cell 3
  have HC := Lib.hid hcell
  have HQ := Lib.hid hqw
  have H0 := Lib.hid h0
  clear h h0 hr0 hcell hqw hkp
  rcases hr with rfl | rfl
  all_goals
    go_enter Try.func10, Try.ntmps10
    go_wp2_with (first
      | (go_at_call 18; refine hbw.mono ?_; rintro e w1 ⟨rfl, hf1, l1, hm1, hp1, hr1⟩; have c1 := HC.out w1 hf1; have HF1 := Lib.hid hf1; have HR1 := Lib.hid hr1; clear hf1 hr1)
      | (go_at_call 26; refine (HQ.out w1 HF1.out).mono ?_; rintro e w2 ⟨rfl, hx2, l2, hm2, hp2, hq2⟩; have HX2 := Lib.hid hx2; have HQ2 := Lib.hid hq2; clear hx2 hq2))
    go_ret
    have e2 : l2 = Tl s s.waits.length := rising_one l2 _ hp2 (Tl_rising _ _) fun i => (hm2 i).trans (Tl_mem s _ (Nat.le_refl _) i).symm
    have e1 : l1 = Tl s s.waits.length := rising_one l1 _ hp1 (Tl_rising _ _) fun i => (hm1 i).trans (Tl_mem s _ (Nat.le_refl _) i).symm
    have hq2 := HQ2.out
    have hr1 := HR1.out
    rw [e2] at hq2
    rw [e1] at hr1
    exact ⟨rfl, ((Fx.of_below HB0.out).trans (Fx.fr7 HF1.out)).trans (Fx.q7 HX2.out), H0.out.turn ⟨_, hr1⟩ HX2.out hq2⟩

end Go.Proofs.Ytcbfnbmkogeehaa
