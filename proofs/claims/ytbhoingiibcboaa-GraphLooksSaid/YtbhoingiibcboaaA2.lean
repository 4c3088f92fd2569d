/- Min, Equal, Same, Next and Prev. -/
import Derived.Test.YtbhoingiibcboaaA1
import Derived.IntWalk
namespace Go.Proofs.Ytbhoingiibcboaa
open Go.RowKit

/-- The least one. -/
def mnl : List UInt32 → UInt32
  | [] => 0
  | x :: r => r.foldl mn x
theorem mnl_one (l : List UInt32) (h : 0 < l.length) : mnl (l.take 1) = l[0] := by
  cases l with
  | nil => simp at h
  | cons x r => rfl
theorem mnl_succ (l : List UInt32) (k : Nat) (h0 : 0 < k) (h : k < l.length) : mnl (l.take (k + 1)) = mn (mnl (l.take k)) l[k] := by
  cases l with
  | nil => simp at h
  | cons x r =>
    cases k with
    | zero => omega
    | succ k =>
      have hk : k < r.length := by simpa using h
      simp only [List.take_succ_cons, mnl, List.getElem_cons_succ]
      rw [List.take_succ_eq_append_getElem hk, List.foldl_append]
      rfl
attribute [local irreducible] V
/-- slices.Min. -/
theorem min_walk (w : World) (A : Option Addr) (c : Nat) (l : List UInt32) (h : Rd w A l) (h0 : 0 < l.length) :
    Calls Try.prog 61 #[.slice A l.length c] w fun e w' => e = .returned (V (mnl l)) ∧ w = w' := by
  obtain ⟨b, o, rfl, hc⟩ := h.spot h0
  have hcell := hc 0 h0
  have hlen := h.len
  have H := Lib.hid hc
  have HO := Lib.hid (mnl_one l h0)
  have hm := run_min
  rw [Nat.add_zero] at hcell
  rw [← HO.out] at hcell
  clear h hc
  go_enter Try.func61, Try.ntmps61
  go_wp2
  go_loop [3, 4] (fun m i => ∃ k : Nat, 0 < k ∧ k ≤ l.length ∧ i = .int .i64 k ∧ m = V (mnl (l.take k))) (fun _ i => l.length - (intOf i).toNat)
  case atStart => exact ⟨1, by omega, by omega, rfl, rfl⟩
  case round =>
    obtain ⟨k, hk0, hk, rfl, rfl⟩ := hrel
    by_cases hlt : k < l.length
    · have hcell2 := H.out k hlt
      have HS := Lib.hid (mnl_succ l k hk0 hlt)
      clear hcell
      generalize l[k] = y at *
      generalize mnl (l.take k) = z at *
      go_wp2
      go_round
      case rel => exact ⟨k + 1, by omega, by omega, by go_num, by rw [HS.out]⟩
      case measure => simp [intOf]; omega
    · obtain rfl : k = l.length := by omega
      rw [List.take_length]
      clear hcell
      go_wp2
      go_ret
      exact ⟨rfl, rfl⟩
theorem neT {x y : UInt32} (h : ¬ x = y) (w : World) : (binOp .neq 31 (V x) (V y)).run Try.prog w = .ok (.bool true) w := by
  rw [run_neq]; simp [h]
theorem neF {x y : UInt32} (h : x = y) (w : World) : (binOp .neq 31 (V x) (V y)).run Try.prog w = .ok (.bool false) w := by
  rw [run_neq]; simp [h]
theorem same_at {l m : List UInt32} {k : Nat} (h : l.take k = m.take k) (hl : k < l.length) (hm : k < m.length) (e : l[k] = m[k]) : l.take (k + 1) = m.take (k + 1) := by
  rw [List.take_succ_eq_append_getElem hl, List.take_succ_eq_append_getElem hm, h, e]
set_option maxHeartbeats 1000000 in
/-- slices.Equal. -/
theorem equal_walk (w : World) (A B : Option Addr) (c d : Nat) (l m : List UInt32) (h : Rd w A l) (h2 : Rd w B m) :
    Calls Try.prog 77 #[.slice A l.length c, .slice B m.length d] w fun e w' => e = .returned (.bool (decide (l = m))) ∧ Below w.heap.size w w' := by
  have hl := h.len
  have hm := h2.len
  by_cases hlm : l.length = m.length
  · have HLM := Lib.hid hlm
    have H := Lib.hid h
    have H2 := Lib.hid h2
    have hg := run_guard
    have hle : m.length ≤ l.length := by omega
    rw [hlm]
    clear h h2 hlm
    go_enter Try.func77, Try.ntmps77
    go_wp2
    go_loopw [13] (fun i wr => ∃ k n : Nat, k ≤ m.length ∧ i = .int .i64 k ∧ l.take k = m.take k ∧ wr = w.drewN n) (fun i _ => m.length - (intOf i).toNat)
    case atStart => exact ⟨0, 0, by omega, rfl, by simp, rfl⟩
    case round =>
      obtain ⟨k, n, hk, rfl, heq, rfl⟩ := hrel
      have HE := Lib.hid heq
      clear heq
      by_cases hlt : k < m.length
      · obtain ⟨b1, o1, rfl, hc1⟩ := H.out.spot (by omega)
        obtain ⟨b2, o2, rfl, hc2⟩ := H2.out.spot (by omega)
        have ca := hc1 k (by omega)
        have cb := hc2 k (by omega)
        clear hc1 hc2
        by_cases hxy : l[k] = m[k]
        · have HS := Lib.hid (same_at HE.out (by omega) hlt hxy)
          have hn := neF hxy
          clear hxy
          generalize l[k] = x at *
          generalize m[k] = y at *
          go_wp2
          go_quiet (fail)
          go_wp2
          go_roundw
          case rel => exact ⟨k + 1, _, by omega, by go_num, HS.out, rfl⟩
          case measure => simp [intOf]; omega
        · have HN : Hid (decide (l = m) = false) := by
            refine decide_eq_false fun e => hxy ?_
            subst e; rfl
          have hn := neT hxy
          clear hxy
          generalize l[k] = x at *
          generalize m[k] = y at *
          go_wp2
          go_quiet (fail)
          go_wp2
          go_ret
          exact ⟨by rw [HN.out]; rfl, ⟨rfl, rfl, rfl, Nat.le_refl _, fun _ _ => rfl⟩⟩
      · have HN : Hid (decide (l = m) = true) := by
          refine decide_eq_true ?_
          have := HE.out
          rwa [show k = m.length by omega, List.take_length, ← HLM.out, List.take_length] at this
        go_wp2
        go_ret
        exact ⟨by rw [HN.out]; rfl, ⟨rfl, rfl, rfl, Nat.le_refl _, fun _ _ => rfl⟩⟩
  · have ht : ((l.length : Int) != (m.length : Int)) = true := by simp; omega
    have HN : Hid (decide (l = m) = false) := decide_eq_false fun e => hlm (by rw [e])
    go_enter Try.func77, Try.ntmps77
    go_wp2
    go_ret
    exact ⟨by rw [HN.out]; rfl, Below.refl _ _⟩
set_option maxHeartbeats 1000000 in
/-- The document's Same. -/
theorem same_walk (w : World) (A B : Option Addr) (c d : Nat) (l m : List UInt32) (h : Rd w A l) (h2 : Rd w B m) :
    Calls Try.prog 15 #[.slice A l.length c, .slice B m.length d] w fun e w' => e = .returned (.bool (decide (l = m))) ∧ Below w.heap.size w w' := by
  have hl := h.len
  have hm := h2.len
  by_cases hlm : l.length = m.length
  · have HLM := Lib.hid hlm
    have H := Lib.hid h
    have H2 := Lib.hid h2
    have hg := run_guard
    have hle : m.length ≤ l.length := by omega
    rw [hlm]
    clear h h2 hlm
    go_enter Try.func15, Try.ntmps15
    go_wp2
    go_loopw [13] (fun i wr => ∃ k n : Nat, k ≤ m.length ∧ i = .int .i64 k ∧ l.take k = m.take k ∧ wr = w.drewN n) (fun i _ => m.length - (intOf i).toNat)
    case atStart => exact ⟨0, 0, by omega, rfl, by simp, rfl⟩
    case round =>
      obtain ⟨k, n, hk, rfl, heq, rfl⟩ := hrel
      have HE := Lib.hid heq
      clear heq
      by_cases hlt : k < m.length
      · obtain ⟨b1, o1, rfl, hc1⟩ := H.out.spot (by omega)
        obtain ⟨b2, o2, rfl, hc2⟩ := H2.out.spot (by omega)
        have ca := hc1 k (by omega)
        have cb := hc2 k (by omega)
        clear hc1 hc2
        by_cases hxy : l[k] = m[k]
        · have HS := Lib.hid (same_at HE.out (by omega) hlt hxy)
          have hn := neF hxy
          clear hxy
          generalize l[k] = x at *
          generalize m[k] = y at *
          go_wp2
          go_quiet (fail)
          go_wp2
          go_roundw
          case rel => exact ⟨k + 1, _, by omega, by go_num, HS.out, rfl⟩
          case measure => simp [intOf]; omega
        · have HN : Hid (decide (l = m) = false) := by
            refine decide_eq_false fun e => hxy ?_
            subst e; rfl
          have hn := neT hxy
          clear hxy
          generalize l[k] = x at *
          generalize m[k] = y at *
          go_wp2
          go_quiet (fail)
          go_wp2
          go_ret
          exact ⟨by rw [HN.out]; rfl, ⟨rfl, rfl, rfl, Nat.le_refl _, fun _ _ => rfl⟩⟩
      · have HN : Hid (decide (l = m) = true) := by
          refine decide_eq_true ?_
          have := HE.out
          rwa [show k = m.length by omega, List.take_length, ← HLM.out, List.take_length] at this
        go_wp2
        go_ret
        exact ⟨by rw [HN.out]; rfl, ⟨rfl, rfl, rfl, Nat.le_refl _, fun _ _ => rfl⟩⟩
  · have ht : ((l.length : Int) != (m.length : Int)) = true := by simp; omega
    have HN : Hid (decide (l = m) = false) := decide_eq_false fun e => hlm (by rw [e])
    go_enter Try.func15, Try.ntmps15
    go_wp2
    go_ret
    exact ⟨by rw [HN.out]; rfl, Below.refl _ _⟩
/-! Next and Prev. -/
def atp (l : List UInt32) (d : UInt32) (p : Nat) : UInt32 := if fst l d < l.length then l.getD ((fst l d + p) % l.length) 0 else 0
def nxt (l : List UInt32) (d : UInt32) : UInt32 := atp l d 1
def prv (l : List UInt32) (d : UInt32) : UInt32 := atp l d (l.length - 1)
theorem atp_lt {l : List UInt32} {d : UInt32} {p : Nat} (h : fst l d < l.length) : atp l d p = l.getD ((fst l d + p) % l.length) 0 := if_pos h
theorem atp_ge {l : List UInt32} {d : UInt32} {p : Nat} (h : ¬ fst l d < l.length) : atp l d p = 0 := if_neg h
theorem nxt_lt {l : List UInt32} {d : UInt32} (h : fst l d < l.length) : nxt l d = l.getD ((fst l d + 1) % l.length) 0 := if_pos h
theorem nxt_ge {l : List UInt32} {d : UInt32} (h : ¬ fst l d < l.length) : nxt l d = 0 := if_neg h
theorem prv_lt {l : List UInt32} {d : UInt32} (h : fst l d < l.length) : prv l d = l.getD ((fst l d + (l.length - 1)) % l.length) 0 := if_pos h
theorem prv_ge {l : List UInt32} {d : UInt32} (h : ¬ fst l d < l.length) : prv l d = 0 := if_neg h
theorem ret_V {x y : UInt32} (h : x = y) : Ending.returned (V x) = .returned (V y) := by rw [h]
theorem V0 : Value.int .u32 0 = V 0 := by unfold V; rfl
theorem getD_at {l : List UInt32} {i : Nat} (h : i < l.length) : l[i] = l.getD i 0 := by rw [List.getD_eq_getElem?_getD, List.getElem?_eq_getElem h, Option.getD_some]
theorem rem_nat (a n : Nat) : ((a : Int)).tmod (n : Int) = ((a % n : Nat) : Int) := by
  rw [Int.tmod_eq_emod_of_nonneg (by omega)]; simp
end Go.Proofs.Ytbhoingiibcboaa
