/- graph.checkEnds, graph.Check. -/
import Derived.Test.YtbhoingiibcboaaG2
namespace Go.Proofs.Ytbhoingiibcboaa
open Go.RowKit

theorem bcell {W w1 : World} (hb : Below W.heap.size W w1) : (∀ b o, b < W.heap.size → w1.cell? ⟨b, o, none⟩ = W.cell? ⟨b, o, none⟩) ∧ (∀ b o, b < W.heap.size → w1.frozen? ⟨b, o, none⟩ = W.frozen? ⟨b, o, none⟩) :=
  ⟨fun b o h => hb.cell (p := ⟨b, o, none⟩) h, fun b o h => hb.frozen (p := ⟨b, o, none⟩) h⟩
theorem ix_neg {l : List UInt32} {x : UInt32} (h : ¬ x ∈ l) : ix l x = -1 := ix_not h
theorem ix_pos {l : List UInt32} {x : UInt32} (h : x ∈ l) : 0 ≤ ix l x := by rw [ix_mem h]; omega
theorem en_same {vs : List UInt32} {x : Eg} (h : x.a = x.b) : en vs x = 20 := if_pos h
theorem en_ok {vs : List UInt32} {x : Eg} (h : ¬ x.a = x.b) (h1 : x.a ∈ vs) (h2 : x.b ∈ vs) : en vs x = 0 := by unfold en; rw [if_neg h, if_pos ⟨h1, h2⟩]
theorem en_a {vs : List UInt32} {x : Eg} (h : ¬ x.a = x.b) (h1 : ¬ x.a ∈ vs) : en vs x = 21 := by unfold en; rw [if_neg h, if_neg (fun q => h1 q.1)]
theorem en_b {vs : List UInt32} {x : Eg} (h : ¬ x.a = x.b) (h1 : ¬ x.b ∈ vs) : en vs x = 21 := by unfold en; rw [if_neg h, if_neg (fun q => h1 q.2)]
def Eg.val (x : Eg) : Value := .agg #[V x.id, V x.a, V x.b]
attribute [local irreducible] V
attribute [local irreducible] wpList in
set_option maxRecDepth 100000 in
set_option maxHeartbeats 1000000 in
/-- graph.checkEnds. -/
theorem ends_walk (w : World) (v : Value) (g : Gr) (i a b : UInt32) (h : RG w v g) (hs : g.vs.Pairwise (· < ·)) :
    Calls Try.prog 27 #[v, .agg #[V i, V a, V b]] w fun e w' => e = .returned (.int .i64 (en g.vs ⟨i, a, b⟩)) ∧ Below w.heap.size w w' := by
  have hgd := run_guard
  have HV := Lib.hid (fun (W : World) (x : UInt32) (hb : Below w.heap.size w W) => vert_walk W v g x (h.kept hb) hs)
  obtain ⟨A, c, B, d, rfl, _, _, _, _⟩ := h
  have HB : Hid (Below w.heap.size w ((w.alloc (.cells #[.slice A g.vs.length c, .slice B g.es.length d] 25)).alloc (.cells #[V i, V a, V b] 39))) := ((Below.refl _ w).alloc (Nat.le_refl _) _).alloc (by simp) _
  clear hs
  by_cases hab : a = b
  · have e := eqT (x := a) (y := b) (by rw [hab]; simp)
    rw [en_same hab]
    clear hab HV
    go_enter Try.func27, Try.ntmps27
    go_wp2
    go_ret
    exact ⟨rfl, HB.out⟩
  · have e := eqF (x := a) (y := b) (by simpa using hab)
    by_cases ha : a ∈ g.vs
    · have p1 := ix_pos ha
      have HA : Hid (a ∈ g.vs) := ha
      by_cases hb : b ∈ g.vs
      · have p2 := ix_pos hb
        rw [en_ok hab ha hb]
        have HV1 := Lib.hid (HV.out _ a HB.out)
        have HV2 := Lib.hid (fun W hb => HV.out W b hb)
        clear hab ha hb HV
        generalize ix g.vs a = p at *
        generalize ix g.vs b = q at *
        go_enter Try.func27, Try.ntmps27
        go_wp2_with (first
          | (have T := HB2; go_at_call 12; refine (HV2.out _ HB2.out).mono ?_; rintro e w2 ⟨rfl, hb2⟩; have HB3 := Lib.hid (HB2.out.trans (Below.mono hb2 HB2.out.size)); clear hb2)
          | (go_at_call 12; refine HV1.out.mono ?_; rintro e w1 ⟨rfl, hb1⟩; have HB2 := Lib.hid (HB.out.trans (Below.mono hb1 HB.out.size)); obtain ⟨hc, hf⟩ := bcell hb1; clear hb1 hf))
        go_ret
        exact ⟨rfl, HB3.out⟩
      · rw [en_b hab hb]
        have HV1 := Lib.hid (HV.out _ a HB.out)
        have hv2 := fun W hb => HV.out W b hb
        rw [ix_neg hb] at hv2
        have HV2 := Lib.hid hv2
        clear hab ha hb HV hv2
        generalize ix g.vs a = p at *
        go_enter Try.func27, Try.ntmps27
        go_wp2_with (first
          | (have T := HB2; go_at_call 12; refine (HV2.out _ HB2.out).mono ?_; rintro e w2 ⟨rfl, hb2⟩; have HB3 := Lib.hid (HB2.out.trans (Below.mono hb2 HB2.out.size)); clear hb2)
          | (go_at_call 12; refine HV1.out.mono ?_; rintro e w1 ⟨rfl, hb1⟩; have HB2 := Lib.hid (HB.out.trans (Below.mono hb1 HB.out.size)); obtain ⟨hc, hf⟩ := bcell hb1; clear hb1 hf))
        go_ret
        exact ⟨rfl, HB3.out⟩
    · rw [en_a hab ha]
      have hv1 := HV.out _ a HB.out
      rw [ix_neg ha] at hv1
      have HV1 := Lib.hid hv1
      clear hab ha HV hv1
      go_enter Try.func27, Try.ntmps27
      go_wp2_with (go_at_call 12; refine HV1.out.mono ?_; rintro e w1 ⟨rfl, hb1⟩; have HB2 := Lib.hid (HB.out.trans (Below.mono hb1 HB.out.size)); obtain ⟨hc, hf⟩ := bcell hb1; clear hb1 hf)
      go_ret
      exact ⟨rfl, HB2.out⟩
end Go.Proofs.Ytbhoingiibcboaa
