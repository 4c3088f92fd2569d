/- Runs: the iterator's contract. -/
import Derived.RangeFuncNested
import Derived.RangeFuncBound
import Derived.RangeFuncCalls
import Derived.RangeFuncLeaves
import Derived.Shelf.Abstract
import Derived.Shelf.RegionOpen
import Derived.OwnWalkIn
import Derived.TacticsInMore
import Derived.LoopNIn
import Derived.LoopIn
import Derived.Test.YtoeniealmcihmaaP3
namespace Go.Proofs.Ytoeniealmcihmaa
open Go.RowKit Go.Shelf
attribute [local go_sem] Oper.semAt_some

/-- What a round keeps: the space, its row, and the box that the iterator has it in. -/
def Kp (g lb Bs m : Nat) (W W' : World) : Prop := ∀ b, (b = g ∨ (0 < m ∧ b = lb) ∨ b = Bs) → W'.heap[b]? = W.heap[b]?
theorem Kp.trans {g lb Bs m : Nat} {A B C : World} (h : Kp g lb Bs m A B) (k : Kp g lb Bs m B C) : Kp g lb Bs m A C := fun b hb => (k b hb).trans (h b hb)
theorem Kp.refl (g lb Bs m : Nat) (A : World) : Kp g lb Bs m A A := fun _ _ => rfl
theorem Spc.of_kp {w w' : World} {g lb Bs m : Nat} {fr : Int} {p : Option Addr} {mr : List Value} {f : List Bool} (h : Spc w g lb fr p mr f) (k : Kp g lb Bs m w w') (hm : m = f.length) : Spc w' g lb fr p mr f :=
  { h with blk := (k g (.inl rfl)).trans h.blk, pos := fun h0 => ⟨(h.pos h0).1, (k lb (.inr (.inl ⟨by omega, rfl⟩))).trans (h.pos h0).2⟩ }
/-- A run as a value. -/
def encs (fr : Int) (r : Nat × Nat) : Array Value := #[.agg #[.int .i64 (fr + (r.1 : Int)), .int .i64 (r.2 : Int)]]

theorem runs_wf {f : List Bool} {pre : List (Nat × Nat)} {r : Nat × Nat} {l : List (Nat × Nat)} (h : pre ++ r :: l = runs f 0) : (pre ++ [r]) ++ l = runs f 0 := by simpa using h

set_option maxRecDepth 100000 in
set_option maxHeartbeats 2000000 in
theorem iter1 (n : Nat) (hn : 1 ≤ n) (l Bs g lb : Nat) (fr : Int) (p : Option Addr) (mr : List Value) (f : List Bool) (J Jx : List (Nat × Nat) → World → Prop)
    (hY : ∀ pre x W, J pre W → pre.length < 4097 → YieldAt Fence.wide (n - 1) Try.prog l (encs fr x) W fun e W' =>
      (e = .returned (.bool true) ∧ J (pre ++ [x]) W' ∧ Kp g lb Bs f.length W W') ∨ (e = .returned (.bool false) ∧ Jx (pre ++ [x]) W'))
    (W : World) (hBs : Boxed W Bs 24 (.pointer (some ⟨g, 0, none⟩))) (hS : Spc W g lb fr p mr f) (h0 : J [] W) :
    CallsIn Fence.wide n Try.prog 18 #[.func (.yield l) #[] #[], .pointer (some ⟨Bs, 0, none⟩)] W fun e W' => (∃ v, e = .returned v) ∧
      ((∃ ys, ys = runs f 0 ∧ J ys W') ∨ (∃ pre, pre <+: runs f 0 ∧ Jx pre W')) := by
  have hB := hBs.cell
  have c1 := hS.cell1
  have hi := hS.hi
  have hcap := hS.cap
  have HS := Lib.hid hS
  have HB := Lib.hid hBs
  have HY := Lib.hid hY
  unfold maxLen at hcap
  clear hS hBs hY
  have hf19 : Fence.wide.fn 19 := trivial
  refine callsIn_of_wp Try.func18 rfl trivial ?_ rfl
  simp only [Try.ntmps18, List.size_toArray, List.length_cons, List.length_nil, Nat.reduceAdd, Nat.reduceSub, Array.replicate_succ, Array.replicate_zero, List.push_toArray, List.append_toArray, List.nil_append, List.cons_append]
  gi_wp2
  gi_loopw [4, 5] (fun i _ wr => ∃ (k : Nat) (pre : List (Nat × Nat)), i = .int .i64 k ∧ k ≤ 5000 ∧ pre.length ≤ k ∧ pre ++ runs f k = runs f 0 ∧ J pre wr ∧ Kp g lb Bs f.length W wr) (fun i _ _ => f.length - (intOf i).toNat)
  case atStart => exact ⟨0, [], rfl, by omega, by simp, rfl, h0, Kp.refl _ _ _ _ _⟩
  case round =>
    obtain ⟨k, pre, rfl, hk, hpl, hpre, hJ, hkp⟩ := hrel
    have HP := Lib.hid hpre
    have HK := Lib.hid hkp
    have HSr : Hid (Spc wr g lb fr p mr f) := HS.out.of_kp hkp rfl
    have hBr := (Boxed.cell (show Boxed wr Bs 24 _ from (hkp Bs (.inr (.inr rfl))).trans HB.out))
    have cr0 := HSr.out.cell0
    clear hpre hkp
    by_cases hlt : k < f.length
    · obtain rfl := (HSr.out.pos (by omega)).1
      have ha := ahead_walk wr lb k (f.length + mr.length - k) (f.drop k) (some ⟨lb, k, none⟩) (fun _ => rfl) (by rw [List.length_drop]; omega) (fun i hi => by
        have := HSr.out.at (k + i) (by rw [List.length_drop] at hi; omega)
        rw [this, List.getD_eq_getElem?_getD, List.getD_eq_getElem?_getD, List.getElem?_drop])
      rw [List.length_drop] at ha
      have hle := hd_le (f.drop k)
      rw [List.length_drop] at hle
      have hne : ¬ (f.length + mr.length = k) := by omega
      have lo := HS.out.lo
      have en := HS.out.end'
      have w1 : IntKind.i64.wrap (fr + (k : Int)) = fr + (k : Int) := IntWalk.i64_in _ (by omega)
      have HG := Lib.hid (runs_go f k hlt)
      have HYI := Lib.hid (runs_yield f k hlt)
      generalize hd (f.drop k) = m at *
      by_cases hm : 0 < m
      · have hp2 : pre ++ (k, m) :: runs f (k + m + 1) = runs f 0 := by rw [← HYI.out hm]; exact HP.out
        obtain ⟨fn, tmps, assign, body, hy, hR⟩ := HY.out pre (k, m) wr hJ (by omega)
        unfold encs at hy
        dsimp only at hy
        have HP2 := Lib.hid hp2
        clear hp2
        gi_wp2_with (gi_at_call 19; refine (callsIn_wide.2 ha).mono ?_; rintro e w' ⟨rfl, rfl⟩)
        refine hR.mono ?_
        rintro e W3 (⟨rfl, hJ3, hk3⟩ | ⟨rfl, hJx3⟩)
        · have HK3 := Lib.hid hk3
          clear hk3
          gi_wp2
          go_roundw
          case rel => exact ⟨k + m + 1, pre ++ [(k, m)], by go_num, by omega, by simp; omega, runs_wf HP2.out, hJ3, HK.out.trans HK3.out⟩
          case measure => simp [intOf]; omega
        · gi_wp2
          refine bodyPost_ret (results_none rfl _ _ _) rfl ?_
          exact ⟨⟨_, rfl⟩, .inr ⟨pre ++ [(k, m)], ⟨runs f (k + m + 1), runs_wf HP2.out⟩, hJx3⟩⟩
      · have hp2 : pre ++ runs f (k + m + 1) = runs f 0 := by rw [← HG.out (by omega)]; exact HP.out
        have HP2 := Lib.hid hp2
        clear hp2
        gi_wp2_with (gi_at_call 19; refine (callsIn_wide.2 ha).mono ?_; rintro e w' ⟨rfl, rfl⟩)
        refine ⟨fun _ h => (by cases h), ?_⟩
        gi_wp2
        go_roundw
        case rel => exact ⟨k + m + 1, pre, by go_num, by omega, by omega, HP2.out, hJ, HK.out⟩
        case measure => simp [intOf]; omega
    · have hr0 : runs f k = [] := runs_end f k (by omega)
      have HR := Lib.hid hr0
      clear hr0
      gi_wp2
      go_end0
      exact ⟨⟨_, rfl⟩, .inl ⟨pre, by have := HP.out; rwa [HR.out, List.append_nil] at this, hJ⟩⟩

set_option maxHeartbeats 1000000 in
theorem iter0 (n l Bs : Nat) (J : List (Nat × Nat) → World → Prop) (W : World) (hBs : Boxed W Bs 24 (.pointer none)) (h0 : J [] W) :
    CallsIn Fence.wide n Try.prog 18 #[.func (.yield l) #[] #[], .pointer (some ⟨Bs, 0, none⟩)] W fun e W' => (∃ v, e = .returned v) ∧ J [] W' := by
  have hB := hBs.cell
  clear hBs
  refine callsIn_of_wp Try.func18 rfl trivial ?_ rfl
  simp only [Try.ntmps18, List.size_toArray, List.length_cons, List.length_nil, Nat.reduceAdd, Nat.reduceSub, Array.replicate_succ, Array.replicate_zero, List.push_toArray, List.append_toArray, List.nil_append, List.cons_append]
  gi_wp2
  refine bodyPost_ret (results_none rfl _ _ _) rfl ?_
  exact ⟨⟨_, rfl⟩, h0⟩

/-- What Runs hands back: an iterator over the runs. -/
theorem runs_stops (n : Nat) (hn : 1 ≤ n) (Bs g lb : Nat) (fr : Int) (p : Option Addr) (mr : List Value) (f : List Bool) (w : World) (hBs : Boxed w Bs 24 (.pointer (some ⟨g, 0, none⟩))) (hS : Spc w g lb fr p mr f) :
    SeqStopsK Fence.wide n Try.prog 18 #[.pointer (some ⟨Bs, 0, none⟩)] (encs fr) (Kp g lb Bs f.length) (fun ys => ys = runs f 0) (fun pre => pre <+: runs f 0) 4097 w := fun l J Jx W hW _ _ hY h0 =>
  iter1 n hn l Bs g lb fr p mr f J Jx hY W ((hW.block Bs hBs.lt).trans hBs) (hS.up hW) h0
theorem none_stops (n N : Nat) (Bs g lb m : Nat) (fr : Int) (w : World) (hBs : Boxed w Bs 24 (.pointer none)) :
    SeqStopsK Fence.wide n Try.prog 18 #[.pointer (some ⟨Bs, 0, none⟩)] (encs fr) (Kp g lb Bs m) (fun ys => ys = []) (fun _ => False) N w := fun l J _ W hW _ _ _ h0 =>
  (iter0 n l Bs J W ((hW.block Bs hBs.lt).trans hBs) h0).mono fun _ _ ⟨he, hj⟩ => ⟨he, .inl ⟨_, rfl, hj⟩⟩
theorem runs_in (n : Nat) (p : Option Addr) (w : World) : CallsIn Fence.wide n Try.prog 12 #[.pointer p] w fun e w' => e = .returned (.func (.func 18) #[] #[.pointer (some ⟨w.heap.size, 0, none⟩)]) ∧ w' = w.alloc (.cells #[.pointer p] 24) := by
  refine callsIn_of_wp Try.func12 rfl trivial ?_ rfl
  simp only [Try.ntmps12, List.size_toArray, List.length_cons, List.length_nil, Nat.reduceAdd, Nat.reduceSub, Array.replicate_succ, Array.replicate_zero, List.push_toArray, List.append_toArray, List.nil_append, List.cons_append]
  gi_wp2
  go_ret
  exact ⟨rfl, rfl⟩
/-- What the law of the loop asks of what a round keeps. -/
theorem kp_t {g lb Bs m : Nat} {A B C : World} (h : Kp g lb Bs m A B) (k : Kp g lb Bs m B C) : Kp g lb Bs m A C := h.trans k
theorem kp_b {g lb Bs m : Nat} {w : World} (hg : g < w.heap.size) (hl : 0 < m → lb < w.heap.size) (hB : Bs < w.heap.size) (W : World) (l : Nat) (o o' : Obj) (h : w.heap.size ≤ l) (_ : W.heap[l]? = some o) (_ : o.isCells = false) (_ : o.isWalk = false) : Kp g lb Bs m W (W.putObj l o') := fun b hb => by
  have : b < w.heap.size := by
    rcases hb with rfl | ⟨h0, rfl⟩ | rfl
    · exact hg
    · exact hl h0
    · exact hB
  exact World.putObj_heap_other (by omega)
end Go.Proofs.Ytoeniealmcihmaa
