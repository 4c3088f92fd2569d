/- graph.Vert, graph.Check and the document's. -/
import Derived.Test.YtcinbmekjlmdpaaGreatY05

/-! graph.Vert, graph.Check and the document's. -/
namespace Go.Proofs.YtcinbmekjlmdpaaGreat
open Go.RowKit

theorem V1 : Value.int .u32 1 = V 1 := by kernel_rfl
theorem Vmax : Value.int .u32 1048576 = V 1048576 := by kernel_rfl
theorem lss1T {v : UInt32} (h : v < 1) (t : TypeId) (w : World) : (binOp .lss t (V v) (.int .u32 1)).run Tryz.prog w = .ok (.bool true) w := by rw [V1, run_lss]; simp [h]
theorem lss1F {v : UInt32} (h : ¬ v < 1) (t : TypeId) (w : World) : (binOp .lss t (V v) (.int .u32 1)).run Tryz.prog w = .ok (.bool false) w := by rw [V1, run_lss]; simp [h]
theorem gtrT {v : UInt32} (h : (1048576 : UInt32) < v) (t : TypeId) (w : World) : (binOp .gtr t (V v) (.int .u32 1048576)).run Tryz.prog w = .ok (.bool true) w := by rw [Vmax, run_gtr]; simp [h]
theorem gtrF {v : UInt32} (h : ¬ (1048576 : UInt32) < v) (t : TypeId) (w : World) : (binOp .gtr t (V v) (.int .u32 1048576)).run Tryz.prog w = .ok (.bool false) w := by rw [Vmax, run_gtr]; simp [h]
theorem leqT {x y : UInt32} (h : x ≤ y) (t : TypeId) (w : World) : (binOp .leq t (V x) (V y)).run Tryz.prog w = .ok (.bool true) w := by rw [run_leq]; simp [h]
theorem leqF {x y : UInt32} (h : ¬ x ≤ y) (t : TypeId) (w : World) : (binOp .leq t (V x) (V y)).run Tryz.prog w = .ok (.bool false) w := by rw [run_leq]; simp [h]
attribute [local irreducible] V
set_option maxRecDepth 100000 in
theorem cn_walk (w : World) (x a : UInt32) : Calls Tryz.prog 87 #[V x, V a] w fun e w' => e = .returned (.int .i64 (cn x a)) ∧ w = w' := by
  rcases cn_cases x a with ⟨h1, e⟩ | ⟨h1, h2, e⟩ | ⟨h1, h2, h3, e⟩ | ⟨h1, h2, h3, e⟩
  · rw [e]
    have r1 := lss1T h1
    clear h1 e
    go_enter Tryz.func87, Tryz.ntmps87
    go_wp2
    go_ret
    exact ⟨rfl, rfl⟩
  · rw [e]
    have r1 := lss1F h1
    have r2 := gtrT h2
    clear h1 h2 e
    go_enter Tryz.func87, Tryz.ntmps87
    go_wp2
    go_ret
    exact ⟨rfl, rfl⟩
  · rw [e]
    have r1 := lss1F h1
    have r2 := gtrF h2
    have r3 := leqT h3
    clear h1 h2 h3 e
    go_enter Tryz.func87, Tryz.ntmps87
    go_wp2
    go_ret
    exact ⟨rfl, rfl⟩
  · rw [e]
    have r1 := lss1F h1
    have r2 := gtrF h2
    have r3 := leqF h3
    clear h1 h2 h3 e
    go_enter Tryz.func87, Tryz.ntmps87
    go_wp2
    go_ret
    exact ⟨rfl, rfl⟩
set_option maxRecDepth 100000 in
theorem place_yes (w : World) (n : Int) : Calls Tryz.prog 137 #[.int .i64 n, .bool true] w fun e w' => e = .returned (.int .i64 n) ∧ w = w' := by
  go_enter Tryz.func137, Tryz.ntmps137
  go_wp2
  go_ret
  exact ⟨rfl, rfl⟩
set_option maxRecDepth 100000 in
theorem place_no (w : World) (n : Int) : Calls Tryz.prog 137 #[.int .i64 n, .bool false] w fun e w' => e = .returned (.int .i64 (-1)) ∧ w = w' := by
  go_enter Tryz.func137, Tryz.ntmps137
  go_wp2
  go_ret
  exact ⟨rfl, rfl⟩
attribute [local irreducible] wpList in
set_option maxRecDepth 100000 in
set_option maxHeartbeats 1000000 in
/-- graph.Vert. -/
theorem vert_walk (w : World) (v : Value) (g : Gr) (x : UInt32) (h : RG w v g) (hs : g.vs.Pairwise (· < ·)) :
    Calls Tryz.prog 120 #[v, V x] w fun e w' => e = .returned (.int .i64 (ix g.vs x)) ∧ Below w.heap.size w w' := by
  obtain ⟨A, c, B, d, rfl, _, _, hr, _⟩ := h
  have hb := fun w1 (hr1 : Rd w1 A g.vs) => bsearch_walk w1 A c g.vs x hr1 (up2_of hs)
  have HR : Hid (∀ o, Rd (w.alloc o) A g.vs) := fun o => hr.kept ((Below.refl _ w).alloc (Nat.le_refl _) o) (Nat.le_refl _)
  by_cases hx : x ∈ g.vs
  · have HX := Lib.hid (ix_mem hx)
    have HC := Lib.hid (ct_fst hs hx)
    rw [decide_eq_true hx] at hb
    have HB := Lib.hid hb
    clear hb hx hr hs
    go_enter Tryz.func120, Tryz.ntmps120
    go_wp2_with (first
      | (go_at_call 151; refine (HB.out _ (HR.out _)).mono ?_; rintro e w1 ⟨rfl, hb1⟩; have HB1 := Lib.hid hb1; clear hb1)
      | (go_at_call 137; refine (place_yes _ _).mono ?_; rintro e w' ⟨rfl, rfl⟩))
    go_ret
    exact ⟨by rw [HX.out, ← HC.out]; rfl, ((Below.refl _ w).alloc (Nat.le_refl _) _).trans (Below.mono HB1.out (by simp))⟩
  · have HX := Lib.hid (ix_not hx)
    rw [decide_eq_false hx] at hb
    have HB := Lib.hid hb
    clear hb hx hr hs
    go_enter Tryz.func120, Tryz.ntmps120
    go_wp2_with (first
      | (go_at_call 151; refine (HB.out _ (HR.out _)).mono ?_; rintro e w1 ⟨rfl, hb1⟩; have HB1 := Lib.hid hb1; clear hb1)
      | (go_at_call 137; refine (place_no _ _).mono ?_; rintro e w' ⟨rfl, rfl⟩))
    go_ret
    exact ⟨by rw [HX.out]; rfl, ((Below.refl _ w).alloc (Nat.le_refl _) _).trans (Below.mono HB1.out (by simp))⟩
attribute [local irreducible] wpList in
set_option maxRecDepth 100000 in
set_option maxHeartbeats 1000000 in
/-- The document's Has. -/
theorem has_walk (w : World) (v : Value) (g : Gr) (x : UInt32) (h : RG w v g) :
    Calls Tryz.prog 92 #[v, V x] w fun e w' => e = .returned (.bool (decide (x ∈ g.vs))) ∧ Below w.heap.size w w' := by
  obtain ⟨A, c, B, d, rfl, _, _, hr, _⟩ := h
  have HR : Hid (∀ o, Rd (w.alloc o) A g.vs) := fun o => hr.kept ((Below.refl _ w).alloc (Nat.le_refl _) o) (Nat.le_refl _)
  have hlen := hr.len
  have hg := run_guard
  have HH := Lib.hid (fst_le g.vs x)
  clear hr
  go_enter Tryz.func92, Tryz.ntmps92
  go_wp2
  go_loop [10] (fun i => ∃ k : Nat, k ≤ fst g.vs x ∧ i = .int .i64 k) (fun i => g.vs.length - (intOf i).toNat)
  case atStart => exact ⟨0, Nat.zero_le _, rfl⟩
  case round =>
    obtain ⟨k, hk, rfl⟩ := hrel
    have hle := HH.out
    by_cases hlt : k < g.vs.length
    · obtain ⟨b, o, rfl, hc⟩ := (HR.out (.cells #[.slice A g.vs.length c, .slice B g.es.length d] 25)).spot (by omega)
      have hcell := hc k hlt
      clear hc
      by_cases hkh : k < fst g.vs x
      · have ht := eqF ((beq_flip _ _).trans (fst_no g.vs x k hlt hkh))
        generalize g.vs[k] = y at *
        go_wp2
        go_round
        case rel => exact ⟨k + 1, by omega, by go_num⟩
        case measure => simp [intOf]; omega
      · obtain rfl : k = fst g.vs x := by omega
        have ht := eqT ((beq_flip _ _).trans (fst_yes g.vs x hlt))
        have HX : Hid (decide (x ∈ g.vs) = true) := decide_eq_true (by
          have := fst_yes g.vs x hlt
          rw [beq_iff_eq] at this
          rw [this]; exact List.getElem_mem hlt)
        go_wp2
        go_ret
        exact ⟨by rw [HX.out]; rfl, (Below.refl _ w).alloc (Nat.le_refl _) _⟩
    · have HX : Hid (decide (x ∈ g.vs) = false) := decide_eq_false (fun hm => by have := fst_lt hm; omega)
      go_wp2
      go_ret
      exact ⟨by rw [HX.out]; rfl, (Below.refl _ w).alloc (Nat.le_refl _) _⟩
end Go.Proofs.YtcinbmekjlmdpaaGreat

/-! graph.checkEnds, graph.Check. -/
namespace Go.Proofs.YtcinbmekjlmdpaaGreat
open Go.RowKit

theorem bcell {W w1 : World} (hb : Below W.heap.size W w1) : (∀ b o, b < W.heap.size → w1.cell? ⟨b, o, none⟩ = W.cell? ⟨b, o, none⟩) ∧ (∀ b o, b < W.heap.size → w1.frozen? ⟨b, o, none⟩ = W.frozen? ⟨b, o, none⟩) :=
  ⟨fun b o h => hb.cell (p := ⟨b, o, none⟩) h, fun b o h => hb.frozen (p := ⟨b, o, none⟩) h⟩
theorem ix_neg {l : List UInt32} {x : UInt32} (h : ¬ x ∈ l) : ix l x = -1 := ix_not h
theorem ix_pos {l : List UInt32} {x : UInt32} (h : x ∈ l) : 0 ≤ ix l x := by rw [ix_mem h]; omega
theorem en_same {vs : List UInt32} {x : Eg} (h : x.a = x.b) : en vs x = 20 := if_pos h
theorem en_ok {vs : List UInt32} {x : Eg} (h : ¬ x.a = x.b) (h1 : x.a ∈ vs) (h2 : x.b ∈ vs) : en vs x = 0 := by unfold en; rw [if_neg h, if_pos ⟨h1, h2⟩]
theorem en_a {vs : List UInt32} {x : Eg} (h : ¬ x.a = x.b) (h1 : ¬ x.a ∈ vs) : en vs x = 21 := by unfold en; rw [if_neg h, if_neg (fun q => h1 q.1)]
theorem en_b {vs : List UInt32} {x : Eg} (h : ¬ x.a = x.b) (h1 : ¬ x.b ∈ vs) : en vs x = 21 := by unfold en; rw [if_neg h, if_neg (fun q => h1 q.2)]
def Eg.val (x : Eg) : Value := .agg #[V x.id, V x.a, V x.b]
attribute [local irreducible] V
attribute [local irreducible] wpList in
set_option maxRecDepth 100000 in
set_option maxHeartbeats 1000000 in
/-- graph.checkEnds. -/
theorem ends_walk (w : World) (v : Value) (g : Gr) (i a b : UInt32) (h : RG w v g) (hs : g.vs.Pairwise (· < ·)) :
    Calls Tryz.prog 88 #[v, .agg #[V i, V a, V b]] w fun e w' => e = .returned (.int .i64 (en g.vs ⟨i, a, b⟩)) ∧ Below w.heap.size w w' := by
  have hgd := run_guard
  have HV := Lib.hid (fun (W : World) (x : UInt32) (hb : Below w.heap.size w W) => vert_walk W v g x (h.kept hb) hs)
  obtain ⟨A, c, B, d, rfl, _, _, _, _⟩ := h
  have HB : Hid (Below w.heap.size w ((w.alloc (.cells #[.slice A g.vs.length c, .slice B g.es.length d] 25)).alloc (.cells #[V i, V a, V b] 67))) := ((Below.refl _ w).alloc (Nat.le_refl _) _).alloc (by simp) _
  clear hs
  by_cases hab : a = b
  · have e := eqT (x := a) (y := b) (by rw [hab]; simp)
    rw [en_same hab]
    clear hab HV
    go_enter Tryz.func88, Tryz.ntmps88
    go_wp2
    go_ret
    exact ⟨rfl, HB.out⟩
  · have e := eqF (x := a) (y := b) (by simpa using hab)
    by_cases ha : a ∈ g.vs
    · have p1 := ix_pos ha
      have HA : Hid (a ∈ g.vs) := ha
      by_cases hb : b ∈ g.vs
      · have p2 := ix_pos hb
        rw [en_ok hab ha hb]
        have HV1 := Lib.hid (HV.out _ a HB.out)
        have HV2 := Lib.hid (fun W hb => HV.out W b hb)
        clear hab ha hb HV
        generalize ix g.vs a = p at *
        generalize ix g.vs b = q at *
        go_enter Tryz.func88, Tryz.ntmps88
        go_wp2_with (first
          | (have T := HB2; go_at_call 120; refine (HV2.out _ HB2.out).mono ?_; rintro e w2 ⟨rfl, hb2⟩; have HB3 := Lib.hid (HB2.out.trans (Below.mono hb2 HB2.out.size)); clear hb2)
          | (go_at_call 120; refine HV1.out.mono ?_; rintro e w1 ⟨rfl, hb1⟩; have HB2 := Lib.hid (HB.out.trans (Below.mono hb1 HB.out.size)); obtain ⟨hc, hf⟩ := bcell hb1; clear hb1 hf))
        go_ret
        exact ⟨rfl, HB3.out⟩
      · rw [en_b hab hb]
        have HV1 := Lib.hid (HV.out _ a HB.out)
        have hv2 := fun W hb => HV.out W b hb
        rw [ix_neg hb] at hv2
        have HV2 := Lib.hid hv2
        clear hab ha hb HV hv2
        generalize ix g.vs a = p at *
        go_enter Tryz.func88, Tryz.ntmps88
        go_wp2_with (first
          | (have T := HB2; go_at_call 120; refine (HV2.out _ HB2.out).mono ?_; rintro e w2 ⟨rfl, hb2⟩; have HB3 := Lib.hid (HB2.out.trans (Below.mono hb2 HB2.out.size)); clear hb2)
          | (go_at_call 120; refine HV1.out.mono ?_; rintro e w1 ⟨rfl, hb1⟩; have HB2 := Lib.hid (HB.out.trans (Below.mono hb1 HB.out.size)); obtain ⟨hc, hf⟩ := bcell hb1; clear hb1 hf))
        go_ret
        exact ⟨rfl, HB3.out⟩
    · rw [en_a hab ha]
      have hv1 := HV.out _ a HB.out
      rw [ix_neg ha] at hv1
      have HV1 := Lib.hid hv1
      clear hab ha HV hv1
      go_enter Tryz.func88, Tryz.ntmps88
      go_wp2_with (go_at_call 120; refine HV1.out.mono ?_; rintro e w1 ⟨rfl, hb1⟩; have HB2 := Lib.hid (HB.out.trans (Below.mono hb1 HB.out.size)); obtain ⟨hc, hf⟩ := bcell hb1; clear hb1 hf)
      go_ret
      exact ⟨rfl, HB2.out⟩
end Go.Proofs.YtcinbmekjlmdpaaGreat
