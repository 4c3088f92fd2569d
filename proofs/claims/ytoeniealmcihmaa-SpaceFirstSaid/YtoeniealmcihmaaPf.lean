/- The law of a space that is none. -/
import Derived.Test.YtoeniealmcihmaaPe
namespace Go.Proofs.Ytoeniealmcihmaa
open Go.RowKit Go.Shelf
attribute [local go_sem] Oper.semAt_some

set_option maxRecDepth 100000 in
set_option maxHeartbeats 4000000 in
theorem nil_big (w : World) (fr to : Int) (h1 : -9223372036854775808 ≤ fr) (h2 : fr ≤ 9223372036854775807) (h3 : -9223372036854775808 ≤ to) (h4 : to ≤ 9223372036854775807) (hd : 4096 ≤ to - fr) :
    Calls Try.prog 4 #[.int .i64 fr, .int .i64 to] w fun e w' => e = .returned (.bool true) ∧ Below w.heap.size w w' := by
  have h0 : 1 ≤ 6 := by omega
  have hlt : fr < to := by omega
  have hnew := fun w => new_walk w fr to h1 h2 h3 h4
  rw [show many fr to = 4096 by unfold many; omega] at hnew
  have HNEW := Lib.hid hnew
  have hw : IntKind.u64.wrap (IntKind.u64.wrap to - IntKind.u64.wrap fr) = to - fr := by rw [IntKind.wrap_u64, IntKind.wrap_u64, IntKind.wrap_u64]; omega
  clear hnew
  have HF := Lib.hid (told_tf 0 4096)
  have hf6 : Fence.wide.fn 6 := trivial
  have hf7 : Fence.wide.fn 7 := trivial
  have hf9 : Fence.wide.fn 9 := trivial
  have hf10 : Fence.wide.fn 10 := trivial
  have hf12 : Fence.wide.fn 12 := trivial
  refine (callsIn_wide (n := 6)).1 ?_
  refine callsIn_of_wp_marks Try.func4 rfl trivial ?_ rfl
  simp only [Try.ntmps4, List.size_toArray, List.length_cons, List.length_nil, Nat.reduceAdd, Nat.reduceSub, Array.replicate_succ, Array.replicate_zero, List.push_toArray, List.append_toArray, List.nil_append, List.cons_append]
  gi_wp2_with (first
    | (gi_at_call 6; refine (callsIn_wide.2 (awake_walk _)).mono ?_; rintro e w1 ⟨rfl, hb1⟩; have HB1 := Lib.hid hb1; clear hb1)
    | (gi_at_call 10; refine (callsIn_wide.2 (take_nil w1 1)).mono ?_; rintro e w2 ⟨rfl, hb2⟩; have HB2 := Lib.hid hb2; clear hb2)
    | (gi_at_call 7; refine (callsIn_wide.2 (HNEW.out w2)).mono ?_; rintro e w3 ⟨g, lb, p, mr, rfl, hs, hg, hlb, hb3⟩; rw [tf_zero] at hs; have HS := Lib.hid hs; have HB3 := Lib.hid hb3; clear hs hb3 hg hlb)
    | (gi_at_call 9; refine (callsIn_wide.2 (free_walk w3 g lb _ p mr (tf 0 4096) HS.out)).mono ?_; rintro e w4 ⟨he, hb4⟩; rw [HF.out] at he; subst he; have HB4 := Lib.hid hb4; clear hb4)
    | (gi_at_call 12; refine (runs_in _ _ _).mono ?_; rintro e w' ⟨rfl, rfl⟩))
  have hbel : Below w.heap.size w (w4.alloc (.cells #[.pointer none] 24)) := by
    have e1 : Below w.heap.size w w1 := ((Below.refl _ w).alloc (Nat.le_refl _) _).trans (HB1.out.mono (by simp))
    have e2 := e1.trans (HB2.out.mono e1.size)
    have e3 := e2.trans (HB3.out.mono e2.size)
    have e4 := e3.trans (HB4.out.mono e3.size)
    exact e4.alloc e4.size _
  have hblk : Blk (w4.alloc (.cells #[.pointer none] 24)) w.heap.size 4 #[.bool false] := by
    have e0 := Blk.fresh w 4 #[.bool false]
    have s1 := HB1.out.size
    have s2 := HB2.out.size
    have s3 := HB3.out.size
    simp only [World.size_alloc] at s1
    exact (((((e0.kept HB1.out (by simp)).kept HB2.out (by omega)).kept HB3.out (by omega)).kept HB4.out (by omega)).more _)
  have hbx := Boxed.new w4 24 (.pointer none)
  refine wpIn_rangeFunc_ownH (N := 0) rfl h0 (gf := 18) (lb := #[.pointer (some ⟨w4.heap.size, 0, none⟩)]) rfl trivial (enters_of Try.func18 (by kernel_rfl) rfl)
    (none_stops 5 0 w4.heap.size w4.heap.size 0 0 0 _ hbx) kp_t (kp_b (by simp) (fun h => absurd h (by omega)) (by simp)) (Below.refl _ _) (fun _ => rfl)
    (fun _ W => Blk W w.heap.size 4 #[.bool false] ∧ Below w.heap.size w W) (fun _ _ _ => False)
    (OwnFrom.and (Blk.ownFrom _ _ _ _) (ownFrom_below (Nat.le_refl _) hbel.size)) (fun _ _ _ _ _ hs _ _ => hs) ⟨hblk, hbel⟩
    (fun _ _ _ => True) (fun _ _ _ _ _ _ _ _ _ => trivial) ?assign ?body ?done ?stop
  case assign =>
    rintro l pre x W K hi hK
    gi_wp2
    exact hK _ _ (KeepsFrom.refl _ _) (Kp.refl _ _ _ _ _) hi trivial
  case body =>
    rintro l pre x a' W hl hr hi _ hlt
    exact absurd hlt (by omega)
  case done =>
    rintro D ys W hD rfl ⟨hb, hbl⟩ hK
    have HB := Lib.hid hb
    have HBL := Lib.hid hbl
    have HK := Lib.hid hK
    have hlt : D < W.heap.size := (Array.getElem?_eq_some_iff.1 hK).1
    have hs := hbl.size
    have hf8 : Fence.wide.fn 8 := trivial
    have hf11 : Fence.wide.fn 11 := trivial
    have hf13 : Fence.wide.fn 13 := trivial
    have hf14 : Fence.wide.fn 14 := trivial
    have hgl := hb.lt
    clear hb hbl hK
    gi_wp2_with (first
      | (gi_at_call 13; refine (callsIn_wide.2 (claim_nil W none 0 0)).mono ?_; rintro e w5 ⟨rfl, rfl⟩)
      | (gi_at_call 11; refine (callsIn_wide.2 (give_nil _ none 0 0)).mono ?_; rintro e w6 ⟨rfl, rfl⟩)
      | (gi_at_call 9; refine (callsIn_wide.2 (free_nil _)).mono ?_; rintro e w7 ⟨rfl, hb7⟩; have HB7 := Lib.hid hb7; clear hb7)
      | (gi_at_call 14; refine (callsIn_wide.2 (is_nil _ 0)).mono ?_; rintro e w8 ⟨rfl, n8, rfl⟩)
      | (gi_at_call 8; refine (callsIn_wide.2 (copy_nil (w7.drewN n8))).mono ?_; rintro e w9 ⟨rfl, rfl⟩; have c4 : (w7.drewN n8).cell? ⟨w.heap.size, 0, none⟩ = some (.bool false) := ((HB.out.kept HB7.out hgl).drewN n8).cell 0; have f4 : (w7.drewN n8).frozen? ⟨w.heap.size, 0, none⟩ = false := ((HB.out.kept HB7.out hgl).drewN n8).thaw 0))
    have hK7 : w7.heap[D]? = some (.deferred (some [])) := (HB7.out.block D hlt).trans HK.out
    have hK8 := (KeepsOthers.setCell (w7.drewN n8) ⟨w.heap.size, 0, none⟩ (.bool true)).same D _ hK7 rfl
    refine ⟨by simp, .inl ⟨_, _, rfl, run_takeDeferred hK8, ?_⟩⟩
    have hb8 := ((HB.out.kept HB7.out hgl).drewN n8).put 0 (.bool true)
    have r4 := cell_kept (hb8.cell 0) (grownBy_putObj' _ D (.deferred none)) (fun r e => by cases e; exact ⟨_, hK8, rfl⟩)
    have hbf := (((HBL.out.trans (HB7.out.mono hs)).trans (below_drewN _ _ n8)).setCell (p := ⟨w.heap.size, 0, none⟩) (Nat.le_refl _) (.bool true)).trans (belowK_b (w := w) (Nat.le_refl _) _ D _ (.deferred none) (by have := hbel.size; omega) hK8 rfl rfl)
    refine ⟨.bool true, ?_, rfl, hbf⟩
    simp [results, Try.f4, go_sem, r4]
  case stop =>
    rintro D c pre W _ h
    exact h.elim

set_option maxRecDepth 100000 in
set_option maxHeartbeats 4000000 in
theorem nil_few (w : World) (fr : Int) (n : Nat) (h1 : -9223372036854775808 ≤ fr) (h4 : fr + (n : Int) ≤ 9223372036854775807) (hn0 : 0 < n) (hn1 : n < 4096) :
    Calls Try.prog 4 #[.int .i64 fr, .int .i64 (fr + (n : Int))] w fun e w' => e = .returned (.bool true) ∧ Below w.heap.size w w' := by
  have h0 : 1 ≤ 6 := by omega
  have hlt : fr < fr + (n : Int) := by omega
  have hnew := fun w => new_walk w fr (fr + (n : Int)) h1 (by omega) (by omega) h4
  rw [show many fr (fr + (n : Int)) = n by unfold many; omega] at hnew
  have HNEW := Lib.hid hnew
  have hw : IntKind.u64.wrap (IntKind.u64.wrap (fr + (n : Int)) - IntKind.u64.wrap fr) = (n : Int) := by rw [IntKind.wrap_u64, IntKind.wrap_u64, IntKind.wrap_u64]; omega
  have t1 : ((n : Int) == 4096) = false := by simp; omega
  have t2 : ((n : Int) == 0) = false := by simp; omega
  have q1 : IntKind.u64.wrap (n : Int) = n := by rw [IntKind.wrap_u64]; omega
  clear hnew
  have HF := Lib.hid (told_tf 0 n)
  have hf6 : Fence.wide.fn 6 := trivial
  have hf7 : Fence.wide.fn 7 := trivial
  have hf9 : Fence.wide.fn 9 := trivial
  have hf10 : Fence.wide.fn 10 := trivial
  have hf12 : Fence.wide.fn 12 := trivial
  refine (callsIn_wide (n := 6)).1 ?_
  refine callsIn_of_wp_marks Try.func4 rfl trivial ?_ rfl
  simp only [Try.ntmps4, List.size_toArray, List.length_cons, List.length_nil, Nat.reduceAdd, Nat.reduceSub, Array.replicate_succ, Array.replicate_zero, List.push_toArray, List.append_toArray, List.nil_append, List.cons_append]
  gi_wp2_with (first
    | (gi_at_call 6; refine (callsIn_wide.2 (awake_walk _)).mono ?_; rintro e w1 ⟨rfl, hb1⟩; have HB1 := Lib.hid hb1; clear hb1)
    | (gi_at_call 10; refine (callsIn_wide.2 (take_nil w1 1)).mono ?_; rintro e w2 ⟨rfl, hb2⟩; have HB2 := Lib.hid hb2; clear hb2)
    | (gi_at_call 7; refine (callsIn_wide.2 (HNEW.out w2)).mono ?_; rintro e w3 ⟨g, lb, p, mr, rfl, hs, hg, hlb, hb3⟩; rw [tf_zero] at hs; have HS := Lib.hid hs; have HB3 := Lib.hid hb3; clear hs hb3 hg hlb)
    | (gi_at_call 9; refine (callsIn_wide.2 (free_walk w3 g lb _ p mr (tf 0 n) HS.out)).mono ?_; rintro e w4 ⟨he, hb4⟩; rw [HF.out] at he; subst he; have HB4 := Lib.hid hb4; clear hb4)
    | (gi_at_call 12; refine (runs_in _ _ _).mono ?_; rintro e w' ⟨rfl, rfl⟩))
  have hbel : Below w.heap.size w (w4.alloc (.cells #[.pointer none] 24)) := by
    have e1 : Below w.heap.size w w1 := ((Below.refl _ w).alloc (Nat.le_refl _) _).trans (HB1.out.mono (by simp))
    have e2 := e1.trans (HB2.out.mono e1.size)
    have e3 := e2.trans (HB3.out.mono e2.size)
    have e4 := e3.trans (HB4.out.mono e3.size)
    exact e4.alloc e4.size _
  have hblk : Blk (w4.alloc (.cells #[.pointer none] 24)) w.heap.size 4 #[.bool false] := by
    have e0 := Blk.fresh w 4 #[.bool false]
    have s1 := HB1.out.size
    have s2 := HB2.out.size
    have s3 := HB3.out.size
    simp only [World.size_alloc] at s1
    exact (((((e0.kept HB1.out (by simp)).kept HB2.out (by omega)).kept HB3.out (by omega)).kept HB4.out (by omega)).more _)
  have hbx := Boxed.new w4 24 (.pointer none)
  refine wpIn_rangeFunc_ownH (N := 0) rfl h0 (gf := 18) (lb := #[.pointer (some ⟨w4.heap.size, 0, none⟩)]) rfl trivial (enters_of Try.func18 (by kernel_rfl) rfl)
    (none_stops 5 0 w4.heap.size w4.heap.size 0 0 0 _ hbx) kp_t (kp_b (by simp) (fun h => absurd h (by omega)) (by simp)) (Below.refl _ _) (fun _ => rfl)
    (fun _ W => Blk W w.heap.size 4 #[.bool false] ∧ Below w.heap.size w W) (fun _ _ _ => False)
    (OwnFrom.and (Blk.ownFrom _ _ _ _) (ownFrom_below (Nat.le_refl _) hbel.size)) (fun _ _ _ _ _ hs _ _ => hs) ⟨hblk, hbel⟩
    (fun _ _ _ => True) (fun _ _ _ _ _ _ _ _ _ => trivial) ?assign ?body ?done ?stop
  case assign =>
    rintro l pre x W K hi hK
    gi_wp2
    exact hK _ _ (KeepsFrom.refl _ _) (Kp.refl _ _ _ _ _) hi trivial
  case body =>
    rintro l pre x a' W hl hr hi _ hlt
    exact absurd hlt (by omega)
  case done =>
    rintro D ys W hD rfl ⟨hb, hbl⟩ hK
    have HB := Lib.hid hb
    have HBL := Lib.hid hbl
    have HK := Lib.hid hK
    have hlt : D < W.heap.size := (Array.getElem?_eq_some_iff.1 hK).1
    have hs := hbl.size
    have hf8 : Fence.wide.fn 8 := trivial
    have hf11 : Fence.wide.fn 11 := trivial
    have hf13 : Fence.wide.fn 13 := trivial
    have hf14 : Fence.wide.fn 14 := trivial
    have hgl := hb.lt
    clear hb hbl hK
    gi_wp2_with (first
      | (gi_at_call 13; refine (callsIn_wide.2 (claim_nil W none 0 0)).mono ?_; rintro e w5 ⟨rfl, rfl⟩)
      | (gi_at_call 11; refine (callsIn_wide.2 (give_nil _ none 0 0)).mono ?_; rintro e w6 ⟨rfl, rfl⟩)
      | (gi_at_call 9; refine (callsIn_wide.2 (free_nil _)).mono ?_; rintro e w7 ⟨rfl, hb7⟩; have HB7 := Lib.hid hb7; clear hb7)
      | (gi_at_call 14; refine (callsIn_wide.2 (is_nil _ 0)).mono ?_; rintro e w8 ⟨rfl, n8, rfl⟩)
      | (gi_at_call 8; refine (callsIn_wide.2 (copy_nil (w7.drewN n8))).mono ?_; rintro e w9 ⟨rfl, rfl⟩; have c4 : (w7.drewN n8).cell? ⟨w.heap.size, 0, none⟩ = some (.bool false) := ((HB.out.kept HB7.out hgl).drewN n8).cell 0; have f4 : (w7.drewN n8).frozen? ⟨w.heap.size, 0, none⟩ = false := ((HB.out.kept HB7.out hgl).drewN n8).thaw 0))
    have hK7 : w7.heap[D]? = some (.deferred (some [])) := (HB7.out.block D hlt).trans HK.out
    have hK8 := (KeepsOthers.setCell (w7.drewN n8) ⟨w.heap.size, 0, none⟩ (.bool true)).same D _ hK7 rfl
    refine ⟨by simp, .inl ⟨_, _, rfl, run_takeDeferred hK8, ?_⟩⟩
    have hb8 := ((HB.out.kept HB7.out hgl).drewN n8).put 0 (.bool true)
    have r4 := cell_kept (hb8.cell 0) (grownBy_putObj' _ D (.deferred none)) (fun r e => by cases e; exact ⟨_, hK8, rfl⟩)
    have hbf := (((HBL.out.trans (HB7.out.mono hs)).trans (below_drewN _ _ n8)).setCell (p := ⟨w.heap.size, 0, none⟩) (Nat.le_refl _) (.bool true)).trans (belowK_b (w := w) (Nat.le_refl _) _ D _ (.deferred none) (by have := hbel.size; omega) hK8 rfl rfl)
    refine ⟨.bool true, ?_, rfl, hbf⟩
    simp [results, Try.f4, go_sem, r4]
  case stop =>
    rintro D c pre W _ h
    exact h.elim

set_option maxRecDepth 100000 in
set_option maxHeartbeats 4000000 in
theorem nil_none (w : World) (fr to : Int) (h1 : -9223372036854775808 ≤ fr) (h2 : fr ≤ 9223372036854775807) (h3 : -9223372036854775808 ≤ to) (h4 : to ≤ 9223372036854775807) (hd : to ≤ fr) :
    Calls Try.prog 4 #[.int .i64 fr, .int .i64 to] w fun e w' => e = .returned (.bool true) ∧ Below w.heap.size w w' := by
  have h0 : 1 ≤ 6 := by omega
  have hlt : ¬ fr < to := by omega
  have hnew := fun w => new_walk w fr to h1 h2 h3 h4
  rw [show many fr to = 0 by unfold many; omega] at hnew
  have HNEW := Lib.hid hnew
  clear hnew
  have HF := Lib.hid (told_tf 0 0)
  have hf6 : Fence.wide.fn 6 := trivial
  have hf7 : Fence.wide.fn 7 := trivial
  have hf9 : Fence.wide.fn 9 := trivial
  have hf10 : Fence.wide.fn 10 := trivial
  have hf12 : Fence.wide.fn 12 := trivial
  refine (callsIn_wide (n := 6)).1 ?_
  refine callsIn_of_wp_marks Try.func4 rfl trivial ?_ rfl
  simp only [Try.ntmps4, List.size_toArray, List.length_cons, List.length_nil, Nat.reduceAdd, Nat.reduceSub, Array.replicate_succ, Array.replicate_zero, List.push_toArray, List.append_toArray, List.nil_append, List.cons_append]
  gi_wp2_with (first
    | (gi_at_call 6; refine (callsIn_wide.2 (awake_walk _)).mono ?_; rintro e w1 ⟨rfl, hb1⟩; have HB1 := Lib.hid hb1; clear hb1)
    | (gi_at_call 10; refine (callsIn_wide.2 (take_nil w1 1)).mono ?_; rintro e w2 ⟨rfl, hb2⟩; have HB2 := Lib.hid hb2; clear hb2)
    | (gi_at_call 7; refine (callsIn_wide.2 (HNEW.out w2)).mono ?_; rintro e w3 ⟨g, lb, p, mr, rfl, hs, hg, hlb, hb3⟩; rw [tf_zero] at hs; have HS := Lib.hid hs; have HB3 := Lib.hid hb3; clear hs hb3 hg hlb)
    | (gi_at_call 9; refine (callsIn_wide.2 (free_walk w3 g lb _ p mr (tf 0 0) HS.out)).mono ?_; rintro e w4 ⟨he, hb4⟩; rw [HF.out] at he; subst he; have HB4 := Lib.hid hb4; clear hb4)
    | (gi_at_call 12; refine (runs_in _ _ _).mono ?_; rintro e w' ⟨rfl, rfl⟩))
  have hbel : Below w.heap.size w (w4.alloc (.cells #[.pointer none] 24)) := by
    have e1 : Below w.heap.size w w1 := ((Below.refl _ w).alloc (Nat.le_refl _) _).trans (HB1.out.mono (by simp))
    have e2 := e1.trans (HB2.out.mono e1.size)
    have e3 := e2.trans (HB3.out.mono e2.size)
    have e4 := e3.trans (HB4.out.mono e3.size)
    exact e4.alloc e4.size _
  have hblk : Blk (w4.alloc (.cells #[.pointer none] 24)) w.heap.size 4 #[.bool false] := by
    have e0 := Blk.fresh w 4 #[.bool false]
    have s1 := HB1.out.size
    have s2 := HB2.out.size
    have s3 := HB3.out.size
    simp only [World.size_alloc] at s1
    exact (((((e0.kept HB1.out (by simp)).kept HB2.out (by omega)).kept HB3.out (by omega)).kept HB4.out (by omega)).more _)
  have hbx := Boxed.new w4 24 (.pointer none)
  refine wpIn_rangeFunc_ownH (N := 0) rfl h0 (gf := 18) (lb := #[.pointer (some ⟨w4.heap.size, 0, none⟩)]) rfl trivial (enters_of Try.func18 (by kernel_rfl) rfl)
    (none_stops 5 0 w4.heap.size w4.heap.size 0 0 0 _ hbx) kp_t (kp_b (by simp) (fun h => absurd h (by omega)) (by simp)) (Below.refl _ _) (fun _ => rfl)
    (fun _ W => Blk W w.heap.size 4 #[.bool false] ∧ Below w.heap.size w W) (fun _ _ _ => False)
    (OwnFrom.and (Blk.ownFrom _ _ _ _) (ownFrom_below (Nat.le_refl _) hbel.size)) (fun _ _ _ _ _ hs _ _ => hs) ⟨hblk, hbel⟩
    (fun _ _ _ => True) (fun _ _ _ _ _ _ _ _ _ => trivial) ?assign ?body ?done ?stop
  case assign =>
    rintro l pre x W K hi hK
    gi_wp2
    exact hK _ _ (KeepsFrom.refl _ _) (Kp.refl _ _ _ _ _) hi trivial
  case body =>
    rintro l pre x a' W hl hr hi _ hlt
    exact absurd hlt (by omega)
  case done =>
    rintro D ys W hD rfl ⟨hb, hbl⟩ hK
    have HB := Lib.hid hb
    have HBL := Lib.hid hbl
    have HK := Lib.hid hK
    have hlt : D < W.heap.size := (Array.getElem?_eq_some_iff.1 hK).1
    have hs := hbl.size
    have hf8 : Fence.wide.fn 8 := trivial
    have hf11 : Fence.wide.fn 11 := trivial
    have hf13 : Fence.wide.fn 13 := trivial
    have hf14 : Fence.wide.fn 14 := trivial
    have hgl := hb.lt
    clear hb hbl hK
    gi_wp2_with (first
      | (gi_at_call 13; refine (callsIn_wide.2 (claim_nil W none 0 0)).mono ?_; rintro e w5 ⟨rfl, rfl⟩)
      | (gi_at_call 11; refine (callsIn_wide.2 (give_nil _ none 0 0)).mono ?_; rintro e w6 ⟨rfl, rfl⟩)
      | (gi_at_call 9; refine (callsIn_wide.2 (free_nil _)).mono ?_; rintro e w7 ⟨rfl, hb7⟩; have HB7 := Lib.hid hb7; clear hb7)
      | (gi_at_call 14; refine (callsIn_wide.2 (is_nil _ 0)).mono ?_; rintro e w8 ⟨rfl, n8, rfl⟩)
      | (gi_at_call 8; refine (callsIn_wide.2 (copy_nil (w7.drewN n8))).mono ?_; rintro e w9 ⟨rfl, rfl⟩; have c4 : (w7.drewN n8).cell? ⟨w.heap.size, 0, none⟩ = some (.bool false) := ((HB.out.kept HB7.out hgl).drewN n8).cell 0; have f4 : (w7.drewN n8).frozen? ⟨w.heap.size, 0, none⟩ = false := ((HB.out.kept HB7.out hgl).drewN n8).thaw 0))
    have hK7 : w7.heap[D]? = some (.deferred (some [])) := (HB7.out.block D hlt).trans HK.out
    have hK8 := (KeepsOthers.setCell (w7.drewN n8) ⟨w.heap.size, 0, none⟩ (.bool true)).same D _ hK7 rfl
    refine ⟨by simp, .inl ⟨_, _, rfl, run_takeDeferred hK8, ?_⟩⟩
    have hb8 := ((HB.out.kept HB7.out hgl).drewN n8).put 0 (.bool true)
    have r4 := cell_kept (hb8.cell 0) (grownBy_putObj' _ D (.deferred none)) (fun r e => by cases e; exact ⟨_, hK8, rfl⟩)
    have hbf := (((HBL.out.trans (HB7.out.mono hs)).trans (below_drewN _ _ n8)).setCell (p := ⟨w.heap.size, 0, none⟩) (Nat.le_refl _) (.bool true)).trans (belowK_b (w := w) (Nat.le_refl _) _ D _ (.deferred none) (by have := hbel.size; omega) hK8 rfl rfl)
    refine ⟨.bool true, ?_, rfl, hbf⟩
    simp [results, Try.f4, go_sem, r4]
  case stop =>
    rintro D c pre W _ h
    exact h.elim

theorem nil_walk (w : World) (fr to : Int) (h1 : -9223372036854775808 ≤ fr) (h2 : fr ≤ 9223372036854775807) (h3 : -9223372036854775808 ≤ to) (h4 : to ≤ 9223372036854775807) :
    Calls Try.prog 4 #[.int .i64 fr, .int .i64 to] w fun e w' => e = .returned (.bool true) ∧ Below w.heap.size w w' := by
  by_cases ha : to ≤ fr
  · exact nil_none w fr to h1 h2 h3 h4 ha
  · by_cases hb : 4096 ≤ to - fr
    · exact nil_big w fr to h1 h2 h3 h4 hb
    · have h := nil_few w fr (to - fr).toNat h1 (by omega) (by omega) (by omega)
      rwa [show fr + ((to - fr).toNat : Int) = to by omega] at h
end Go.Proofs.Ytoeniealmcihmaa
