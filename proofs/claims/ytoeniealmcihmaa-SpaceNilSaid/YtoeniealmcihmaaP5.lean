/- Free. -/
import Derived.Test.YtoeniealmcihmaaP4
namespace Go.Proofs.Ytoeniealmcihmaa
open Go.RowKit Go.Shelf
attribute [local go_sem] Oper.semAt_some

theorem Blk.own {W W' : World} {b : Nat} {t : TypeId} {cs : Array Value} {row : Option Nat} (h : Blk W b t cs) (hg : W.grownBy W' row) (hr : ∀ r, row = some r → ∃ o : Obj, W.heap[r]? = some o ∧ o.isCells = false) : Blk W' b t cs :=
  (hg.block b h.lt (fun e => by
    obtain ⟨o, ho, hc⟩ := hr b e.symm
    rw [show W.heap[b]? = _ from h] at ho
    cases ho
    cases hc)).trans h
theorem Blk.ownFrom {β : Type} (B b : Nat) (t : TypeId) (cs : Array Value) : OwnFrom B (fun (_ : β) W => Blk W b t cs) := fun _ _ _ _ hs hg hr => hs.own hg (fun r e => (hr r e).2)
theorem Blk.ownFrom' {β : Type} (B b : Nat) (t : TypeId) (cs : β → Array Value) : OwnFrom B (fun (s : β) W => Blk W b t (cs s)) := fun _ _ _ _ hs hg hr => hs.own hg (fun r e => (hr r e).2)

theorem size_ownFrom {β : Type} (B m : Nat) : OwnFrom B (fun (_ : β) W => m ≤ W.heap.size) := fun _ _ _ _ hs hg _ => Nat.le_trans hs hg.size
/-- What the rounds add up to. -/
def wsum (l : List (Nat × Nat)) : Int := l.foldl (fun s r => wrap64 (s + (r.2 : Int))) 0
theorem wsum_snoc (l : List (Nat × Nat)) (r : Nat × Nat) : wsum (l ++ [r]) = wrap64 (wsum l + (r.2 : Int)) := by simp [wsum]
theorem wsum_told (l : List (Nat × Nat)) (h : told l ≤ 100000) : wsum l = (told l : Int) := by
  induction hn : l.length generalizing l with
  | zero => obtain rfl := List.length_eq_zero_iff.1 hn; rfl
  | succ n ih =>
    obtain ⟨k, r, rfl⟩ : ∃ k r, l = k ++ [r] := ⟨l.dropLast, l.getLast (by rintro rfl; simp at hn), (List.dropLast_concat_getLast _).symm⟩
    rw [told_snoc] at h ⊢
    rw [wsum_snoc, ih k (by omega) (by simpa using hn)]
    unfold wrap64; omega

set_option maxRecDepth 100000 in
set_option maxHeartbeats 2000000 in
theorem free_gen (n : Nat) (hn : 3 ≤ n) (w : World) (pt : Option Addr) (fr : Int) (g lb m : Nat) (L : List (Nat × Nat)) (Sp : List (Nat × Nat) → Prop) (hgl : g ≠ w.heap.size ∧ g < w.heap.size + 2) (hll : 0 < m → lb < w.heap.size) (hL : told L ≤ 100000)
    (hseq : ∀ W0, Boxed W0 (w.heap.size + 1) 24 (.pointer pt) → Below w.heap.size w W0 → SeqStopsK Fence.wide (n - 1) Try.prog 18 #[.pointer (some ⟨w.heap.size + 1, 0, none⟩)] (encs fr) (Kp g lb (w.heap.size + 1) m) (fun ys => ys = L) Sp 4097 W0) :
    CallsIn Fence.wide n Try.prog 9 #[.pointer pt] w fun e w' => e = .returned (.int .i64 (told L : Int)) ∧ Below w.heap.size w w' := by
  have h1 : 1 ≤ n := by omega
  have HQ := Lib.hid hseq
  have HT := Lib.hid hL
  clear hseq hL
  have hf12 : Fence.wide.fn 12 := trivial
  refine callsIn_of_wp_marks Try.func9 rfl trivial ?_ rfl
  simp only [Try.ntmps9, List.size_toArray, List.length_cons, List.length_nil, Nat.reduceAdd, Nat.reduceSub, Array.replicate_succ, Array.replicate_zero, List.push_toArray, List.append_toArray, List.nil_append, List.cons_append]
  gi_wp2_with (gi_at_call 12; refine (runs_in _ _ _).mono ?_; rintro e w' ⟨rfl, rfl⟩)
  have bN := (Blk.fresh w 3 #[.int .i64 0]).more (.cells #[.pointer pt] 24)
  have bB := Boxed.new (w.alloc (.cells #[.int .i64 0] 3)) 24 (.pointer pt)
  simp only [World.size_alloc] at bB
  have hB0 : Below w.heap.size w ((w.alloc (.cells #[.int .i64 0] 3)).alloc (.cells #[.pointer pt] 24)) := ((Below.refl _ w).alloc (Nat.le_refl _) _).alloc (by simp) _
  have hsz : ((w.alloc (.cells #[.int .i64 0] 3)).alloc (.cells #[.pointer pt] 24)).heap.size = w.heap.size + 2 := by simp
  obtain ⟨W0, hW0⟩ : ∃ W0, (w.alloc (.cells #[.int .i64 0] 3)).alloc (.cells #[.pointer pt] 24) = W0 := ⟨_, rfl⟩
  rw [hW0] at bN bB hB0 hsz ⊢
  clear hW0
  refine wpIn_rangeFunc_ownH (N := 4097) rfl (show 1 ≤ n by omega) (gf := 18) (lb := #[.pointer (some ⟨w.heap.size + 1, 0, none⟩)]) rfl trivial (enters_of Try.func18 (by kernel_rfl) rfl)
    (HQ.out W0 bB hB0) kp_t (kp_b (by omega) (fun h0 => by have := hll h0; omega) (by omega)) (Below.refl _ _) (fun _ => rfl)
    (fun pre W => Blk W w.heap.size 3 #[.int .i64 (wsum pre)] ∧ Below w.heap.size w W ∧ w.heap.size + 2 ≤ W.heap.size)
    (fun _ _ _ => False)
    (OwnFrom.and (Blk.ownFrom' _ _ _ _) (OwnFrom.and (ownFrom_below (Nat.le_refl _) (by omega)) (size_ownFrom _ _)))
    (fun _ _ _ _ _ hs _ _ => hs)
    ⟨bN, hB0, by omega⟩
    (fun x a' W => ∃ Bx, w.heap.size + 1 < Bx ∧ Blk W Bx 33 #[.int .i64 (fr + (x.1 : Int)), .int .i64 (x.2 : Int)] ∧ a' = { tmps := #[.pointer pt, undef, .int .i64 0, .pointer (some ⟨w.heap.size, 0, none⟩), .pointer (some ⟨Bx, 0, none⟩), .pointer pt, .func (.func 18) #[] #[.pointer (some ⟨w.heap.size + 1, 0, none⟩)], .agg #[.int .i64 (fr + (x.1 : Int)), .int .i64 (x.2 : Int)], undef, undef, undef, undef, undef], defers := [] })
    (fun x a' _ X Y row hs hg hr => by obtain ⟨Bx, e1, e2, e3⟩ := hs; exact ⟨Bx, e1, e2.own hg (fun r e => (hr r e).2), e3⟩) ?assign ?body ?done ?stop
  case assign =>
    rintro l pre x W K ⟨hi1, hi2, hi3⟩ hK
    unfold encs
    gi_wp2
    exact hK _ _ ((KeepsOthers.alloc _ _).from _) (fun b hb => Below.heap_alloc W _ b (by
      rcases hb with rfl | ⟨h0, rfl⟩ | rfl
      · omega
      · have := hll h0; omega
      · omega)) ⟨hi1.more _, hi2.trans ((Below.refl _ W).alloc hi2.size _), by simp; omega⟩ ⟨W.heap.size, by omega, Blk.fresh W 33 _, rfl⟩
  case body =>
    rintro l pre x a' W hl ⟨r, hr⟩ ⟨hc, hB, hz⟩ ⟨Bx, hBx, hx, rfl⟩ hlt
    have c0 := hc.cell 0
    have cf := hc.thaw 0
    have x1 := hx.cell 1
    have HB := Lib.hid hB
    have HC := Lib.hid hc
    clear hB hc hx
    have hsn := Lib.hid (wsum_snoc pre x)
    generalize wsum pre = s at *
    gi_wp2
    exact ⟨(KeepsOthers.setCell _ _ _).from _, fun b hb => heap_setCell_other W _ b _ (by
      rcases hb with rfl | ⟨h0, rfl⟩ | rfl
      · simp only; omega
      · have := hll h0; simp only; omega
      · simp only; omega), by rw [hsn.out]; exact HC.out.put 0 _, HB.out.setCell (p := ⟨w.heap.size, 0, none⟩) (Nat.le_refl _) _, by simp [World.setCell]; omega⟩
  case done =>
    rintro D ys W hD rfl ⟨hc, hB, hz⟩ hK
    have hc' := hc.cell 0
    gi_wp2
    refine ⟨by simp, .inl ⟨_, _, rfl, run_takeDeferred hK, ?_⟩⟩
    refine ⟨_, results_tmp rfl _ _ _, ?_, ?_⟩
    · exact (ret_int (wsum_told ys HT.out) : Ending.returned (.int .i64 (wsum ys)) = _)
    · exact hB.trans (belowK_b (w := w) (Nat.le_refl _) W D _ _ (by omega) hK rfl rfl)
  case stop =>
    rintro D c pre W _ _ h _
    exact h.elim
theorem free_walk (w : World) (g lb : Nat) (fr : Int) (p : Option Addr) (mr : List Value) (f : List Bool) (h : Spc w g lb fr p mr f) :
    Calls Try.prog 9 #[.pointer (some ⟨g, 0, none⟩)] w fun e w' => e = .returned (.int .i64 (told (runs f 0) : Int)) ∧ Below w.heap.size w w' := by
  refine (callsIn_wide (n := 6)).1 ?_
  have hg := h.blk.lt
  have hi := h.hi
  exact free_gen 6 (by omega) w _ fr g lb f.length _ (fun pre => pre <+: runs f 0) ⟨by omega, by omega⟩ (fun h0 => (h.pos h0).2.lt) (by have := told_le f 0; omega)
    (fun W0 bB hB0 => runs_stops 5 (by omega) (w.heap.size + 1) g lb fr p mr f W0 bB (h.up hB0))
theorem free_nil (w : World) : Calls Try.prog 9 #[.pointer none] w fun e w' => e = .returned (.int .i64 0) ∧ Below w.heap.size w w' := by
  refine (callsIn_wide (n := 6)).1 ?_
  exact free_gen 6 (by omega) w _ 0 (w.heap.size + 1) 0 0 [] (fun _ => False) ⟨by omega, by omega⟩ (fun h0 => absurd h0 (by omega)) (by decide)
    (fun W0 bB _ => none_stops 5 4097 (w.heap.size + 1) (w.heap.size + 1) 0 0 0 W0 bB)
end Go.Proofs.Ytoeniealmcihmaa
