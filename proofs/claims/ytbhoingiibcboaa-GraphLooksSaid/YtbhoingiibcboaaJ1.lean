/- graph.Edge and the document's Find. -/
import Derived.Test.YtbhoingiibcboaaJ0
namespace Go.Proofs.Ytbhoingiibcboaa
open Go.RowKit

def ids (es : List Eg) : List UInt32 := es.map (·.id)
theorem ids_len (es : List Eg) : (ids es).length = es.length := by simp [ids]
theorem ids_at {es : List Eg} {i : Nat} (h : i < es.length) : (ids es).getD i 0 = (es.getD i e0).id := by
  unfold ids
  rw [List.getD_eq_getElem?_getD, List.getD_eq_getElem?_getD, List.getElem?_map, List.getElem?_eq_getElem h]; rfl
theorem ids_up {es : List Eg} (h : es.Pairwise (fun x y => x.id < y.id)) : (ids es).Pairwise (· < ·) := List.pairwise_map.2 h
theorem cmpv_lt {x y : UInt32} (h : x < y) : cmpv x y = -1 := by unfold cmpv; rw [if_pos h]
theorem cmpv_ge {x y : UInt32} (h : ¬ x < y) : ¬ cmpv x y < 0 := by
  unfold cmpv; rw [if_neg h]; split <;> decide
theorem cmpv_eq {x y : UInt32} (h : x = y) : cmpv x y = 0 := by
  subst h; unfold cmpv; rw [if_neg (fun q => u32_lt_ne q rfl), if_neg (fun q => u32_lt_ne q rfl)]
theorem cmpv_ne {x y : UInt32} (h : ¬ x = y) : (cmpv x y == 0) = false := by
  unfold cmpv
  by_cases h1 : x < y
  · rw [if_pos h1]; rfl
  · rw [if_neg h1]
    by_cases h2 : y < x
    · rw [if_pos h2]; rfl
    · exact absurd (UInt32.le_antisymm (u32_le_of_not h2) (u32_le_of_not h1)) h
attribute [local irreducible] V
attribute [local irreducible] wpList in
set_option maxRecDepth 100000 in
theorem clo35_walk (w : World) (i a b x : UInt32) : Calls Try.prog 35 #[.agg #[V i, V a, V b], V x] w fun e w' => e = .returned (.int .i64 (cmpv i x)) ∧ Below w.heap.size w w' := by
  have HC := Lib.hid (fun W => cmp_walk W i x)
  generalize hq : cmpv i x = q at *
  have HQ := Lib.hid hq
  clear hq
  go_enter Try.func35, Try.ntmps35
  go_wp2_with (go_at_call 36; refine (HC.out _).mono ?_; rintro e w' ⟨rfl, rfl⟩)
  go_ret
  exact ⟨rfl, (Below.refl _ w).alloc (Nat.le_refl _) _⟩
attribute [local irreducible] wpList in
set_option maxRecDepth 100000 in
set_option maxHeartbeats 4000000 in
/-- slices.BinarySearchFunc of edges that rise. -/
theorem bsearche_walk (w : World) (A : Option Addr) (c : Nat) (es : List Eg) (x : UInt32) (h : RdE w A es) (hs : Up2 (ids es)) :
    Calls Try.prog 34 #[.slice A es.length c, V x, .func (.func 35) #[] #[]] w fun e w' => e = .returned (.tuple #[.int .i64 (ct (ids es) x : Nat), .bool (decide (x ∈ ids es))]) ∧ Below w.heap.size w w' := by
  have H := Lib.hid h
  have S := Lib.hid hs
  have hn := h.len
  clear h hs
  go_enter Try.func34, Try.ntmps34
  go_wp2
  go_loopg [9, 10] es.length (fun g s7 s8 wr => ∃ lo hi : Nat, s7 = .int .i64 lo ∧ s8 = .int .i64 hi ∧ lo ≤ hi ∧ hi ≤ es.length ∧ hi - lo ≤ g ∧ Below w.heap.size w wr ∧ (∀ t, t < lo → (ids es).getD t 0 < x) ∧ (∀ t, hi ≤ t → t < (ids es).length → x ≤ (ids es).getD t 0))
  case atStart => exact ⟨0, es.length, rfl, rfl, Nat.zero_le _, Nat.le_refl _, by omega, Below.refl _ _, fun t ht => absurd ht (Nat.not_lt_zero _), fun t h1 h2 => by rw [ids_len] at h2; omega⟩
  case round =>
    obtain ⟨lo, hi, rfl, rfl, hlh, hin, hg, hb, h1, h2⟩ := hrel
    have I1 := Lib.hid h1
    have I2 := Lib.hid h2
    have HB := Lib.hid hb
    clear h1 h2 hb
    by_cases hlt : lo < hi
    · have hml : (lo + hi) / 2 < es.length := by omega
      obtain ⟨b, off, rfl, hc⟩ := (H.out.kept HB.out (Nat.le_refl _)).spot (by omega)
      obtain ⟨cm1, cm2, cm3⟩ := hc ((lo + hi) / 2) hml
      have Y := Lib.hid (ids_at hml)
      have HML := Lib.hid hml
      clear hc hml
      have hcl := fun W => clo35_walk W (es.getD ((lo + hi) / 2) e0).id (es.getD ((lo + hi) / 2) e0).a (es.getD ((lo + hi) / 2) e0).b x
      by_cases hyx : (es.getD ((lo + hi) / 2) e0).id < x
      · have HX := Lib.hid hyx
        rw [cmpv_lt hyx] at hcl
        have HC := Lib.hid hcl
        clear hyx hcl
        generalize es.getD ((lo + hi) / 2) e0 = y at *
        go_wp2_with (go_at_call 35; refine (HC.out _).mono ?_; rintro e w1 ⟨rfl, hb1⟩; have HB1 := Lib.hid hb1; clear hb1)
        go_roundg (hi - ((lo + hi) / 2 + 1))
        case measure => omega
        case rel =>
          refine ⟨(lo + hi) / 2 + 1, hi, by rw [show ((lo : Int) + (hi : Int)) / 2 + 1 = (((lo + hi) / 2 + 1 : Nat) : Int) by omega], rfl, by omega, hin, Nat.le_refl _, HB.out.trans (Below.mono HB1.out HB.out.size), fun t ht => ?_, I2.out⟩
          have := S.out t ((lo + hi) / 2) (by omega) (by rw [ids_len]; exact HML.out)
          rw [Y.out] at this
          exact u32_le_lt this HX.out
      · have HX := Lib.hid hyx
        have hcg := cmpv_ge hyx
        generalize cmpv (es.getD ((lo + hi) / 2) e0).id x = q at *
        have HC := Lib.hid hcl
        clear hyx hcl
        generalize es.getD ((lo + hi) / 2) e0 = y at *
        go_wp2_with (go_at_call 35; refine (HC.out _).mono ?_; rintro e w1 ⟨rfl, hb1⟩; have HB1 := Lib.hid hb1; clear hb1)
        go_roundg ((lo + hi) / 2 - lo)
        case measure => omega
        case rel =>
          refine ⟨lo, (lo + hi) / 2, rfl, by rw [show ((lo : Int) + (hi : Int)) / 2 = (((lo + hi) / 2 : Nat) : Int) by omega], by omega, by omega, Nat.le_refl _, HB.out.trans (Below.mono HB1.out HB.out.size), I1.out, fun t ht htn => ?_⟩
          have := S.out ((lo + hi) / 2) t ht htn
          rw [Y.out] at this
          exact UInt32.le_trans (u32_le_of_not HX.out) this
    · have : hi = lo := by omega
      subst this
      have hin2 : hi ≤ (ids es).length := by rw [ids_len]; exact hin
      have E1 := Lib.hid (ct_at (ids es) x hi hin2 I1.out I2.out)
      have E2 := Lib.hid (found_at (ids es) x hi I1.out I2.out S.out)
      clear hin2
      by_cases hn2 : hi < es.length
      · obtain ⟨b, off, rfl, hc⟩ := (H.out.kept HB.out (Nat.le_refl _)).spot (by omega)
        obtain ⟨cm1, cm2, cm3⟩ := hc hi hn2
        have Y := Lib.hid (ids_at hn2)
        have HN2 : Hid (hi < (ids es).length) := by rw [ids_len]; exact hn2
        clear hc
        have hcl := fun W => clo35_walk W (es.getD hi e0).id (es.getD hi e0).a (es.getD hi e0).b x
        by_cases hyx : (es.getD hi e0).id = x
        · have HX := Lib.hid hyx
          rw [cmpv_eq hyx] at hcl
          have HC := Lib.hid hcl
          clear hyx hcl
          generalize es.getD hi e0 = y at *
          go_wp2_with (go_at_call 35; refine (HC.out _).mono ?_; rintro e w1 ⟨rfl, hb1⟩; have HB1 := Lib.hid hb1; clear hb1)
          go_ret2
          refine ⟨?_, HB.out.trans (Below.mono HB1.out HB.out.size)⟩
          rw [E1.out, E2.out, Y.out, decide_eq_true (show hi < (ids es).length ∧ y.id = x from ⟨HN2.out, HX.out⟩)]
          rfl
        · have HX := Lib.hid hyx
          have hcg := cmpv_ne hyx
          generalize cmpv (es.getD hi e0).id x = q at *
          have HC := Lib.hid hcl
          clear hyx hcl
          generalize es.getD hi e0 = y at *
          go_wp2_with (go_at_call 35; refine (HC.out _).mono ?_; rintro e w1 ⟨rfl, hb1⟩; have HB1 := Lib.hid hb1; clear hb1)
          go_ret2
          refine ⟨?_, HB.out.trans (Below.mono HB1.out HB.out.size)⟩
          rw [E1.out, E2.out, Y.out, decide_eq_false (show ¬ (hi < (ids es).length ∧ y.id = x) from fun h => HX.out h.2)]
          rfl
      · have HN2 : Hid (¬ hi < (ids es).length) := by rw [ids_len]; exact hn2
        go_wp2
        go_ret2
        refine ⟨?_, HB.out⟩
        rw [E1.out, E2.out, decide_eq_false (show ¬ (hi < (ids es).length ∧ (ids es).getD hi 0 = x) from fun h => HN2.out h.1)]
        rfl
attribute [local irreducible] wpList in
set_option maxRecDepth 100000 in
set_option maxHeartbeats 1000000 in
/-- graph.Edge. -/
theorem edge_walk (w : World) (v : Value) (g : Gr) (x : UInt32) (h : RG w v g) (hs : g.es.Pairwise (fun x y => x.id < y.id)) :
    Calls Try.prog 13 #[v, V x] w fun e w' => e = .returned (.int .i64 (ix (ids g.es) x)) ∧ Below w.heap.size w w' := by
  obtain ⟨A, c, B, d, rfl, _, _, _, hr⟩ := h
  have hb := fun w1 (hr1 : RdE w1 B g.es) => bsearche_walk w1 B d g.es x hr1 (up2_of (ids_up hs))
  have HR : Hid (∀ o, RdE (w.alloc o) B g.es) := fun o => hr.kept ((Below.refl _ w).alloc (Nat.le_refl _) o) (Nat.le_refl _)
  by_cases hx : x ∈ ids g.es
  · have HX := Lib.hid (ix_mem hx)
    have HC := Lib.hid (ct_fst (ids_up hs) hx)
    rw [decide_eq_true hx] at hb
    have HB := Lib.hid hb
    clear hb hx hr hs
    go_enter Try.func13, Try.ntmps13
    go_wp2_with (first
      | (go_at_call 34; refine (HB.out _ (HR.out _)).mono ?_; rintro e w1 ⟨rfl, hb1⟩; have HB1 := Lib.hid hb1; clear hb1)
      | (go_at_call 32; refine (place_yes _ _).mono ?_; rintro e w' ⟨rfl, rfl⟩))
    go_ret
    exact ⟨by rw [HX.out, ← HC.out]; rfl, ((Below.refl _ w).alloc (Nat.le_refl _) _).trans (Below.mono HB1.out (by simp))⟩
  · have HX := Lib.hid (ix_not hx)
    rw [decide_eq_false hx] at hb
    have HB := Lib.hid hb
    clear hb hx hr hs
    go_enter Try.func13, Try.ntmps13
    go_wp2_with (first
      | (go_at_call 34; refine (HB.out _ (HR.out _)).mono ?_; rintro e w1 ⟨rfl, hb1⟩; have HB1 := Lib.hid hb1; clear hb1)
      | (go_at_call 32; refine (place_no _ _).mono ?_; rintro e w' ⟨rfl, rfl⟩))
    go_ret
    exact ⟨by rw [HX.out]; rfl, ((Below.refl _ w).alloc (Nat.le_refl _) _).trans (Below.mono HB1.out (by simp))⟩
attribute [local irreducible] wpList in
set_option maxRecDepth 100000 in
set_option maxHeartbeats 1000000 in
/-- The document's Find. -/
theorem rfind_walk (w : World) (v : Value) (g : Gr) (x : UInt32) (h : RG w v g) :
    Calls Try.prog 14 #[v, V x] w fun e w' => e = .returned (.int .i64 (ix (ids g.es) x)) ∧ Below w.heap.size w w' := by
  obtain ⟨A, c, B, d, rfl, _, _, _, hre⟩ := h
  have HB : Hid (Below w.heap.size w (w.alloc (.cells #[.slice A g.vs.length c, .slice B g.es.length d] 25))) := (Below.refl _ w).alloc (Nat.le_refl _) _
  have HRE := Lib.hid hre
  have hlen := hre.len
  have hg := run_guard
  have hz := zero39
  have HH := Lib.hid (fst_le (ids g.es) x)
  have HIL := Lib.hid (ids_len g.es)
  clear hre
  go_enter Try.func14, Try.ntmps14
  go_wp2
  generalize w.alloc (.cells #[.slice A g.vs.length c, .slice B g.es.length d] 25) = w1 at *
  go_loopw [10] (fun i wr => ∃ k : Nat, k ≤ fst (ids g.es) x ∧ i = .int .i64 k ∧ Below w.heap.size w wr) (fun i _ => g.es.length - (intOf i).toNat)
  case atStart => exact ⟨0, Nat.zero_le _, rfl, HB.out⟩
  case round =>
    obtain ⟨k, hk, rfl, hb⟩ := hrel
    have HBL := Lib.hid hb
    have hle := HH.out
    rw [HIL.out] at hle
    clear hb
    by_cases hlt : k < g.es.length
    · obtain ⟨b, o, rfl, hc⟩ := (HRE.out.kept HBL.out (Nat.le_refl _)).spot (by omega)
      obtain ⟨hc1, hc2, hc3⟩ := hc k hlt
      have hki : k < (ids g.es).length := by rw [HIL.out]; exact hlt
      have HY := Lib.hid (ids_at hlt)
      clear hc
      by_cases hkh : k < fst (ids g.es) x
      · have hf := fst_no (ids g.es) x k hki hkh
        rw [getD_at hki, HY.out] at hf
        have ht := eqF ((beq_flip _ _).trans hf)
        clear hf hki
        generalize g.es.getD k e0 = y at *
        go_wp2_with (refine wpList_store_fresh rfl 39 (.tmp 6) (.tmp 14) rfl #[V y.id, V y.a, V y.b] rfl rfl (by kernel_rfl) rfl (all3 _ _ _) ?_; intro w2 hb2 hs2 hk2; have HB2 := Lib.hid hb2; have c0 : w2.cell? ⟨wr.heap.size, 0, none⟩ = some (V y.id) := hk2.cell 0; clear hb2 hs2 hk2)
        go_roundw
        case rel => exact ⟨k + 1, by omega, by go_num, HBL.out.trans (Below.mono HB2.out HBL.out.size)⟩
        case measure => simp [intOf]; omega
      · obtain rfl : k = fst (ids g.es) x := by omega
        have hf := fst_yes (ids g.es) x hki
        rw [getD_at hki, HY.out] at hf
        have ht := eqT ((beq_flip _ _).trans hf)
        have HX := Lib.hid (ix_lt hki)
        clear hf hki
        generalize g.es.getD (fst (ids g.es) x) e0 = y at *
        go_wp2_with (refine wpList_store_fresh rfl 39 (.tmp 6) (.tmp 14) rfl #[V y.id, V y.a, V y.b] rfl rfl (by kernel_rfl) rfl (all3 _ _ _) ?_; intro w2 hb2 hs2 hk2; have HB2 := Lib.hid hb2; have c0 : w2.cell? ⟨wr.heap.size, 0, none⟩ = some (V y.id) := hk2.cell 0; clear hb2 hs2 hk2)
        go_ret
        exact ⟨by rw [HX.out]; rfl, HBL.out.trans (Below.mono HB2.out HBL.out.size)⟩
    · have HX : Hid (ix (ids g.es) x = -1) := ix_ge (by rw [HIL.out]; omega)
      go_wp2
      go_ret
      exact ⟨by rw [HX.out]; rfl, HBL.out⟩
end Go.Proofs.Ytbhoingiibcboaa
