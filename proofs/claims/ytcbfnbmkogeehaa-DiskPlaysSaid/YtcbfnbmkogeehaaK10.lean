/- Write, of any disk: what it answers, and what is behind it. -/
import Derived.Test.YtcbfnbmkogeehaaK9
namespace Go.Proofs.Ytcbfnbmkogeehaa
open Go.RowKit
theorem Ex2.of_ex {g m : Nat} {w w' : World} (h : Ex g w w') : Ex2 g m w w' := ⟨h.os, h.tape, h.output, h.size, fun k hk h1 _ => h.block k hk h1⟩
theorem Ex2.of_ex' {g m : Nat} {w w' : World} (h : Ex m w w') : Ex2 g m w w' := ⟨h.os, h.tape, h.output, h.size, fun k hk _ h1 => h.block k hk h1⟩
theorem Ex2.trans {g m : Nat} {a b c : World} (h : Ex2 g m a b) (k : Ex2 g m b c) : Ex2 g m a c :=
  ⟨k.os.trans h.os, k.tape.trans h.tape, k.output.trans h.output, Nat.le_trans h.size k.size, fun i hi h1 h2 => (k.block i (Nat.lt_of_lt_of_le hi h.size) h1 h2).trans (h.block i hi h1 h2)⟩
theorem Rep.drew {w : World} {g lb mb : Nat} {s : Dk} {D : DataW Value} (h : Rep w g lb mb s D) : Rep w.drew g lb mb s D := { h with blk := h.blk, lst := h.lst, own := h.own }

set_option maxRecDepth 100000 in
/-- The step is refused. -/
theorem write_stop (w : World) (g lb mb : Nat) (s : Dk) (D : DataW Value) (k : Int) (b : List UInt8) (h : Rep w g lb mb s D) (hr0 : s.reach k = 0) (hst : s.stop = true) :
    Calls Try.prog 14 #[.pointer (some ⟨g, 0, none⟩), .int .i64 k, B b] w fun e w' => e = .returned (.int .i64 13) ∧ Ex g (w.alloc (.cells (b.map U).toArray 43)) w' ∧ Blk w' g 62 (Cs s.step lb mb) := by
  have hr := reach_walk (w.alloc (.cells (b.map U).toArray 43)) g lb mb s k (h.blk.more _)
  have hs := step_walk (w.alloc (.cells (b.map U).toArray 43)) g lb mb s h.ok (h.blk.more _)
  have e1 : s.stepE = 13 := by unfold Dk.stepE; rw [hst]; rfl
  rw [hr0] at hr
  rw [e1] at hs
  clear e1 hr0 hst h
  unfold B
  go_enter Try.func14, Try.ntmps14
  go_wp2_with (first
    | (go_at_call 30; refine hr.mono ?_; rintro e w' ⟨rfl, rfl⟩)
    | (go_at_call 31; refine hs.mono ?_; rintro e w1 ⟨rfl, hx1, hs1, hb1⟩))
  go_ret
  exact ⟨rfl, hx1, hb1⟩

theorem write_walk (w : World) (g lb mb : Nat) (s : Dk) (D : DataW Value) (k : Int) (b : List UInt8) (h : Rep w g lb mb s D) (hb : b.length = 512) (hd : s.done + 1 < 1000000000) :
    Calls Try.prog 14 #[.pointer (some ⟨g, 0, none⟩), .int .i64 k, B b] w fun e w' => e = .returned (.int .i64 (s.writeE k)) ∧ Ex2 g mb w w' ∧ ∃ D', Rep w' g lb mb (s.write k b) D' := by
  have ha : Ex2 g mb w (w.alloc (.cells (b.map U).toArray 43)) := Ex2.of_ex (Ex.alloc g w _)
  unfold Dk.write Dk.writeE
  by_cases hr : s.reach k = 0
  · rw [if_pos hr, if_pos hr]
    by_cases hst : s.stop = true
    · rw [if_pos hst]
      refine (write_stop w g lb mb s D k b h hr hst).mono ?_
      rintro e w' ⟨rfl, hx, hb1⟩
      refine ⟨by unfold Dk.stepE; rw [if_pos hst], ha.trans (Ex2.of_ex hx), D, (h.more _).stepped hd hx hb1⟩
    · rw [if_neg hst]
      have hsf : s.stop = false := by simpa using hst
      have hh : s.has k = true := by
        unfold Dk.reach at hr
        split at hr
        · cases hr
        · split at hr
          · assumption
          · cases hr
      unfold Dk.has at hh
      simp only [Bool.and_eq_true, decide_eq_true_eq] at hh
      obtain ⟨i, rfl⟩ := Int.eq_ofNat_of_zero_le hh.1
      have hi : i < s.last.length := by omega
      refine (write_good w g lb mb s D i b h hb hr hi hsf).mono ?_
      rintro e w' ⟨rfl, w1, w2, hx, hsz, hb1, ho, ht, rfl⟩
      have h1 : Rep w1 g lb mb s.step D := (h.more _).stepped hd hx hb1
      have el : s.step.last = s.last := by unfold Dk.step; split <;> rfl
      have ed : s.step.done = s.done + 1 := by unfold Dk.step; rw [if_neg hst]
      refine ⟨by unfold Dk.stepE; rw [if_neg hst], (ha.trans (Ex2.of_ex hx)).trans ((Ex2.of_ex (Ex.drew g w1)).trans (Ex2.of_ex' (turned_ex ht))), _, h1.drew.wrote i b hb (by rw [el]; exact hi) (by rw [ed]; have := h.cnt; omega) _ ho ht⟩
  · rw [if_neg hr, if_neg hr]
    refine (write_bad w (s.reach k) hr _ k b fun W hW => reach_walk W g lb mb s k (h.blk.kept hW h.blk.lt)).mono ?_
    rintro e w' ⟨rfl, hbw⟩
    exact ⟨rfl, Ex2.of_ex (Ex.of_below hbw), D, h.up hbw⟩
end Go.Proofs.Ytcbfnbmkogeehaa
