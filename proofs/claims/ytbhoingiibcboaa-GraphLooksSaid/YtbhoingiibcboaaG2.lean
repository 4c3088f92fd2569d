/- graph.Vert, graph.Check and the document's. -/
import Derived.Test.YtbhoingiibcboaaG1
namespace Go.Proofs.Ytbhoingiibcboaa
open Go.RowKit

theorem V1 : Value.int .u32 1 = V 1 := by kernel_rfl
theorem Vmax : Value.int .u32 1048576 = V 1048576 := by kernel_rfl
theorem lss1T {v : UInt32} (h : v < 1) (t : TypeId) (w : World) : (binOp .lss t (V v) (.int .u32 1)).run Try.prog w = .ok (.bool true) w := by rw [V1, run_lss]; simp [h]
theorem lss1F {v : UInt32} (h : ¬ v < 1) (t : TypeId) (w : World) : (binOp .lss t (V v) (.int .u32 1)).run Try.prog w = .ok (.bool false) w := by rw [V1, run_lss]; simp [h]
theorem gtrT {v : UInt32} (h : (1048576 : UInt32) < v) (t : TypeId) (w : World) : (binOp .gtr t (V v) (.int .u32 1048576)).run Try.prog w = .ok (.bool true) w := by rw [Vmax, run_gtr]; simp [h]
theorem gtrF {v : UInt32} (h : ¬ (1048576 : UInt32) < v) (t : TypeId) (w : World) : (binOp .gtr t (V v) (.int .u32 1048576)).run Try.prog w = .ok (.bool false) w := by rw [Vmax, run_gtr]; simp [h]
theorem leqT {x y : UInt32} (h : x ≤ y) (t : TypeId) (w : World) : (binOp .leq t (V x) (V y)).run Try.prog w = .ok (.bool true) w := by rw [run_leq]; simp [h]
theorem leqF {x y : UInt32} (h : ¬ x ≤ y) (t : TypeId) (w : World) : (binOp .leq t (V x) (V y)).run Try.prog w = .ok (.bool false) w := by rw [run_leq]; simp [h]
attribute [local irreducible] V
set_option maxRecDepth 100000 in
theorem cn_walk (w : World) (x a : UInt32) : Calls Try.prog 26 #[V x, V a] w fun e w' => e = .returned (.int .i64 (cn x a)) ∧ w = w' := by
  rcases cn_cases x a with ⟨h1, e⟩ | ⟨h1, h2, e⟩ | ⟨h1, h2, h3, e⟩ | ⟨h1, h2, h3, e⟩
  · rw [e]
    have r1 := lss1T h1
    clear h1 e
    go_enter Try.func26, Try.ntmps26
    go_wp2
    go_ret
    exact ⟨rfl, rfl⟩
  · rw [e]
    have r1 := lss1F h1
    have r2 := gtrT h2
    clear h1 h2 e
    go_enter Try.func26, Try.ntmps26
    go_wp2
    go_ret
    exact ⟨rfl, rfl⟩
  · rw [e]
    have r1 := lss1F h1
    have r2 := gtrF h2
    have r3 := leqT h3
    clear h1 h2 h3 e
    go_enter Try.func26, Try.ntmps26
    go_wp2
    go_ret
    exact ⟨rfl, rfl⟩
  · rw [e]
    have r1 := lss1F h1
    have r2 := gtrF h2
    have r3 := leqF h3
    clear h1 h2 h3 e
    go_enter Try.func26, Try.ntmps26
    go_wp2
    go_ret
    exact ⟨rfl, rfl⟩
set_option maxRecDepth 100000 in
theorem place_yes (w : World) (n : Int) : Calls Try.prog 32 #[.int .i64 n, .bool true] w fun e w' => e = .returned (.int .i64 n) ∧ w = w' := by
  go_enter Try.func32, Try.ntmps32
  go_wp2
  go_ret
  exact ⟨rfl, rfl⟩
set_option maxRecDepth 100000 in
theorem place_no (w : World) (n : Int) : Calls Try.prog 32 #[.int .i64 n, .bool false] w fun e w' => e = .returned (.int .i64 (-1)) ∧ w = w' := by
  go_enter Try.func32, Try.ntmps32
  go_wp2
  go_ret
  exact ⟨rfl, rfl⟩
attribute [local irreducible] wpList in
set_option maxRecDepth 100000 in
set_option maxHeartbeats 1000000 in
/-- graph.Vert. -/
theorem vert_walk (w : World) (v : Value) (g : Gr) (x : UInt32) (h : RG w v g) (hs : g.vs.Pairwise (· < ·)) :
    Calls Try.prog 12 #[v, V x] w fun e w' => e = .returned (.int .i64 (ix g.vs x)) ∧ Below w.heap.size w w' := by
  obtain ⟨A, c, B, d, rfl, _, _, hr, _⟩ := h
  have hb := fun w1 (hr1 : Rd w1 A g.vs) => bsearch_walk w1 A c g.vs x hr1 (up2_of hs)
  have HR : Hid (∀ o, Rd (w.alloc o) A g.vs) := fun o => hr.kept ((Below.refl _ w).alloc (Nat.le_refl _) o) (Nat.le_refl _)
  by_cases hx : x ∈ g.vs
  · have HX := Lib.hid (ix_mem hx)
    have HC := Lib.hid (ct_fst hs hx)
    rw [decide_eq_true hx] at hb
    have HB := Lib.hid hb
    clear hb hx hr hs
    go_enter Try.func12, Try.ntmps12
    go_wp2_with (first
      | (go_at_call 33; refine (HB.out _ (HR.out _)).mono ?_; rintro e w1 ⟨rfl, hb1⟩; have HB1 := Lib.hid hb1; clear hb1)
      | (go_at_call 32; refine (place_yes _ _).mono ?_; rintro e w' ⟨rfl, rfl⟩))
    go_ret
    exact ⟨by rw [HX.out, ← HC.out]; rfl, ((Below.refl _ w).alloc (Nat.le_refl _) _).trans (Below.mono HB1.out (by simp))⟩
  · have HX := Lib.hid (ix_not hx)
    rw [decide_eq_false hx] at hb
    have HB := Lib.hid hb
    clear hb hx hr hs
    go_enter Try.func12, Try.ntmps12
    go_wp2_with (first
      | (go_at_call 33; refine (HB.out _ (HR.out _)).mono ?_; rintro e w1 ⟨rfl, hb1⟩; have HB1 := Lib.hid hb1; clear hb1)
      | (go_at_call 32; refine (place_no _ _).mono ?_; rintro e w' ⟨rfl, rfl⟩))
    go_ret
    exact ⟨by rw [HX.out]; rfl, ((Below.refl _ w).alloc (Nat.le_refl _) _).trans (Below.mono HB1.out (by simp))⟩
attribute [local irreducible] wpList in
set_option maxRecDepth 100000 in
set_option maxHeartbeats 1000000 in
/-- The document's Has. -/
theorem has_walk (w : World) (v : Value) (g : Gr) (x : UInt32) (h : RG w v g) :
    Calls Try.prog 28 #[v, V x] w fun e w' => e = .returned (.bool (decide (x ∈ g.vs))) ∧ Below w.heap.size w w' := by
  obtain ⟨A, c, B, d, rfl, _, _, hr, _⟩ := h
  have HR : Hid (∀ o, Rd (w.alloc o) A g.vs) := fun o => hr.kept ((Below.refl _ w).alloc (Nat.le_refl _) o) (Nat.le_refl _)
  have hlen := hr.len
  have hg := run_guard
  have HH := Lib.hid (fst_le g.vs x)
  clear hr
  go_enter Try.func28, Try.ntmps28
  go_wp2
  go_loop [10] (fun i => ∃ k : Nat, k ≤ fst g.vs x ∧ i = .int .i64 k) (fun i => g.vs.length - (intOf i).toNat)
  case atStart => exact ⟨0, Nat.zero_le _, rfl⟩
  case round =>
    obtain ⟨k, hk, rfl⟩ := hrel
    have hle := HH.out
    by_cases hlt : k < g.vs.length
    · obtain ⟨b, o, rfl, hc⟩ := (HR.out (.cells #[.slice A g.vs.length c, .slice B g.es.length d] 25)).spot (by omega)
      have hcell := hc k hlt
      clear hc
      by_cases hkh : k < fst g.vs x
      · have ht := eqF ((beq_flip _ _).trans (fst_no g.vs x k hlt hkh))
        generalize g.vs[k] = y at *
        go_wp2
        go_round
        case rel => exact ⟨k + 1, by omega, by go_num⟩
        case measure => simp [intOf]; omega
      · obtain rfl : k = fst g.vs x := by omega
        have ht := eqT ((beq_flip _ _).trans (fst_yes g.vs x hlt))
        have HX : Hid (decide (x ∈ g.vs) = true) := decide_eq_true (by
          have := fst_yes g.vs x hlt
          rw [beq_iff_eq] at this
          rw [this]; exact List.getElem_mem hlt)
        go_wp2
        go_ret
        exact ⟨by rw [HX.out]; rfl, (Below.refl _ w).alloc (Nat.le_refl _) _⟩
    · have HX : Hid (decide (x ∈ g.vs) = false) := decide_eq_false (fun hm => by have := fst_lt hm; omega)
      go_wp2
      go_ret
      exact ⟨by rw [HX.out]; rfl, (Below.refl _ w).alloc (Nat.le_refl _) _⟩
end Go.Proofs.Ytbhoingiibcboaa
