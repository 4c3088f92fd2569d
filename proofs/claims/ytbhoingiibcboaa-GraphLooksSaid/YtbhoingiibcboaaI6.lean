/- GraphChecks: the law's walk. -/
import Derived.Test.YtbhoingiibcboaaI5
namespace Go.Proofs.Ytbhoingiibcboaa
open Go.RowKit

attribute [local irreducible] V
attribute [local irreducible] wpList in
set_option maxRecDepth 100000 in
set_option maxHeartbeats 2000000 in
theorem checks_walk (w : World) (v : Value) (g : Gr) (h : RG w v g) :
    Calls Try.prog 3 #[v] w fun e w' => e = .returned (.bool true) ∧ Below w.heap.size w w' := by
  have HRG := Lib.hid h
  obtain ⟨A, c, B, d, rfl, _, _, hr, hre⟩ := h
  have hnv := hr.len
  have hne := hre.len
  have HB : Hid (Below w.heap.size w (w.alloc (.cells #[.slice A g.vs.length c, .slice B g.es.length d] 25))) := (Below.refl _ w).alloc (Nat.le_refl _) _
  have HBK : Hid (Blk (w.alloc (.cells #[.slice A g.vs.length c, .slice B g.es.length d] 25)) w.heap.size 25 #[.slice A g.vs.length c, .slice B g.es.length d]) := Blk.fresh _ _ _
  clear hr hre
  by_cases q70 : 70 < g.vs.length
  · have q1 : decide ((70 : Int) < (g.vs.length : Int)) = true := decide_eq_true (by omega)
    have q1b : decide (70 < g.vs.length) = true := decide_eq_true q70
    clear q70
    go_enter Try.func3, Try.ntmps3
    go_wp2_with (go_at_call 6; refine (awake9_walk _).mono ?_; rintro e w1 ⟨rfl, hb1⟩; have HB1 := Lib.hid hb1; have k0 : w1.cell? ⟨w.heap.size, 0, none⟩ = some (.slice A g.vs.length c) := (HBK.out.kept hb1 HBK.out.lt).cell 0; have k1 : w1.cell? ⟨w.heap.size, 1, none⟩ = some (.slice B g.es.length d) := (HBK.out.kept hb1 HBK.out.lt).cell 1; clear hb1)
    go_quiet (fail)
    go_wp2
    go_ret
    exact ⟨rfl, (HB.out.trans (Below.mono HB1.out HB.out.size)).trans ⟨rfl, rfl, rfl, Nat.le_refl _, fun _ _ => rfl⟩⟩
  · have q1 : decide ((70 : Int) < (g.vs.length : Int)) = false := decide_eq_false (by omega)
    have q1b : decide (70 < g.vs.length) = false := decide_eq_false q70
    by_cases q170 : 170 < g.es.length
    · have q2 : decide ((170 : Int) < (g.es.length : Int)) = true := decide_eq_true (by omega)
      have q2b : decide (170 < g.es.length) = true := decide_eq_true q170
      clear q70 q170
      go_enter Try.func3, Try.ntmps3
      go_wp2_with (go_at_call 6; refine (awake9_walk _).mono ?_; rintro e w1 ⟨rfl, hb1⟩; have HB1 := Lib.hid hb1; have k0 : w1.cell? ⟨w.heap.size, 0, none⟩ = some (.slice A g.vs.length c) := (HBK.out.kept hb1 HBK.out.lt).cell 0; have k1 : w1.cell? ⟨w.heap.size, 1, none⟩ = some (.slice B g.es.length d) := (HBK.out.kept hb1 HBK.out.lt).cell 1; clear hb1)
      go_quiet (fail)
      go_wp2
      go_ret
      exact ⟨rfl, (HB.out.trans (Below.mono HB1.out HB.out.size)).trans ⟨rfl, rfl, rfl, Nat.le_refl _, fun _ _ => rfl⟩⟩
    · have q2 : decide ((170 : Int) < (g.es.length : Int)) = false := decide_eq_false (by omega)
      have q2b : decide (170 < g.es.length) = false := decide_eq_false q170
      clear q70 q170
      go_enter Try.func3, Try.ntmps3
      go_wp2_with (go_at_call 6; refine (awake9_walk _).mono ?_; rintro e w1 ⟨rfl, hb1⟩; have HB1 := Lib.hid hb1; have HK1 := Lib.hid (HBK.out.kept hb1 HBK.out.lt); clear hb1)
      have HR1 : Hid (RG w1.drew (.agg #[.slice A g.vs.length c, .slice B g.es.length d]) g) := (HRG.out.kept HB.out).kept (HB1.out.trans (Below.dr _ _))
      have HBW : Hid (Below w.heap.size w w1.drew) := (HB.out.trans (Below.mono HB1.out HB.out.size)).trans (Below.dr _ _)
      have S0 : Hid (w1.drew.cell? ⟨w.heap.size, 0, none⟩ = some (.slice A g.vs.length c) ∧ w1.drew.cell? ⟨w.heap.size, 1, none⟩ = some (.slice B g.es.length d)) := ⟨HK1.out.cell 0, HK1.out.cell 1⟩
      go_region_held3 (fun W => W.cell? ⟨w.heap.size, 0, none⟩ = some (.slice A g.vs.length c) ∧ W.cell? ⟨w.heap.size, 1, none⟩ = some (.slice B g.es.length d)) (first | exact S2.out | exact S1.out | exact S0.out) (first
        | (go_at_call 7; refine (check_walk _ _ g HR1.out).mono ?_; rintro e w2 ⟨rfl, hb2⟩; have HB2 := Lib.hid hb2; have HK2 : Hid (Blk w2 w.heap.size 25 #[.slice A g.vs.length c, .slice B g.es.length d]) := Blk.kept (w := w1.drew) HK1.out hb2 HK1.out.lt; have S1 : Hid (w2.cell? ⟨w.heap.size, 0, none⟩ = some (.slice A g.vs.length c) ∧ w2.cell? ⟨w.heap.size, 1, none⟩ = some (.slice B g.es.length d)) := ⟨HK2.out.cell 0, HK2.out.cell 1⟩; clear hb2)
        | (go_at_call 8; refine (rcheck_walk _ _ g (HR1.out.kept HB2.out)).mono ?_; rintro e w3 ⟨rfl, hb3⟩; have HB3 := Lib.hid hb3; have S2 : Hid (w3.cell? ⟨w.heap.size, 0, none⟩ = some (.slice A g.vs.length c) ∧ w3.cell? ⟨w.heap.size, 1, none⟩ = some (.slice B g.es.length d)) := ⟨(HK2.out.kept hb3 HK2.out.lt).cell 0, (HK2.out.kept hb3 HK2.out.lt).cell 1⟩; clear hb3))
      go_wp2
      go_ret
      exact ⟨by simp, (HBW.out.trans (Below.mono HB2.out HBW.out.size)).trans (Below.mono HB3.out (HBW.out.trans (Below.mono HB2.out HBW.out.size)).size)⟩
attribute [local irreducible] wpList in
set_option maxRecDepth 100000 in
set_option maxHeartbeats 2000000 in
theorem checks_many (w : World) (A B : Option Addr) (n c m d : Nat) (hm : 70 < n ∨ 170 < m) :
    Calls Try.prog 3 #[.agg #[.slice A n c, .slice B m d]] w fun e w' => e = .returned (.bool true) ∧ Below w.heap.size w w' := by
  have HB : Hid (Below w.heap.size w (w.alloc (.cells #[.slice A n c, .slice B m d] 25))) := (Below.refl _ w).alloc (Nat.le_refl _) _
  have HBK : Hid (Blk (w.alloc (.cells #[.slice A n c, .slice B m d] 25)) w.heap.size 25 #[.slice A n c, .slice B m d]) := Blk.fresh _ _ _
  by_cases q70 : 70 < n
  · have q1 : decide ((70 : Int) < (n : Int)) = true := decide_eq_true (by omega)
    have q1b : decide (70 < n) = true := decide_eq_true q70
    clear q70 hm
    go_enter Try.func3, Try.ntmps3
    go_wp2_with (go_at_call 6; refine (awake9_walk _).mono ?_; rintro e w1 ⟨rfl, hb1⟩; have HB1 := Lib.hid hb1; have k0 : w1.cell? ⟨w.heap.size, 0, none⟩ = some (.slice A n c) := (HBK.out.kept hb1 HBK.out.lt).cell 0; have k1 : w1.cell? ⟨w.heap.size, 1, none⟩ = some (.slice B m d) := (HBK.out.kept hb1 HBK.out.lt).cell 1; clear hb1)
    go_quiet (fail)
    go_wp2
    go_ret
    exact ⟨rfl, (HB.out.trans (Below.mono HB1.out HB.out.size)).trans ⟨rfl, rfl, rfl, Nat.le_refl _, fun _ _ => rfl⟩⟩
  · have q1 : decide ((70 : Int) < (n : Int)) = false := decide_eq_false (by omega)
    have q1b : decide (70 < n) = false := decide_eq_false q70
    have q170 : 170 < m := by omega
    have q2 : decide ((170 : Int) < (m : Int)) = true := decide_eq_true (by omega)
    have q2b : decide (170 < m) = true := decide_eq_true q170
    clear q70 q170 hm
    go_enter Try.func3, Try.ntmps3
    go_wp2_with (go_at_call 6; refine (awake9_walk _).mono ?_; rintro e w1 ⟨rfl, hb1⟩; have HB1 := Lib.hid hb1; have k0 : w1.cell? ⟨w.heap.size, 0, none⟩ = some (.slice A n c) := (HBK.out.kept hb1 HBK.out.lt).cell 0; have k1 : w1.cell? ⟨w.heap.size, 1, none⟩ = some (.slice B m d) := (HBK.out.kept hb1 HBK.out.lt).cell 1; clear hb1)
    go_quiet (fail)
    go_wp2
    go_ret
    exact ⟨rfl, (HB.out.trans (Below.mono HB1.out HB.out.size)).trans ⟨rfl, rfl, rfl, Nat.le_refl _, fun _ _ => rfl⟩⟩
end Go.Proofs.Ytbhoingiibcboaa
