/- Min, Equal, Same, Next and Prev. -/
import Derived.Test.YtekhnacgejfmjaaD1
import Derived.IntWalk
namespace Go.Proofs.Ytekhnacgejfmjaa
open Go.RowKit

/-- The least one. -/
def mnl : List UInt32 → UInt32
  | [] => 0
  | x :: r => r.foldl mn x
theorem mnl_one (l : List UInt32) (h : 0 < l.length) : mnl (l.take 1) = l[0] := by
  cases l with
  | nil => simp at h
  | cons x r => rfl
theorem mnl_succ (l : List UInt32) (k : Nat) (h0 : 0 < k) (h : k < l.length) : mnl (l.take (k + 1)) = mn (mnl (l.take k)) l[k] := by
  cases l with
  | nil => simp at h
  | cons x r =>
    cases k with
    | zero => omega
    | succ k =>
      have hk : k < r.length := by simpa using h
      simp only [List.take_succ_cons, mnl, List.getElem_cons_succ]
      rw [List.take_succ_eq_append_getElem hk, List.foldl_append]
      rfl
attribute [local irreducible] V
/-- slices.Min. -/
theorem min_walk (w : World) (A : Option Addr) (c : Nat) (l : List UInt32) (h : Rd w A l) (h0 : 0 < l.length) :
    Calls Try.prog 45 #[.slice A l.length c] w fun e w' => e = .returned (V (mnl l)) ∧ w = w' := by
  obtain ⟨b, o, rfl, hc⟩ := h.spot h0
  have hcell := hc 0 h0
  have hlen := h.len
  have H := Lib.hid hc
  have HO := Lib.hid (mnl_one l h0)
  have hm := run_min
  rw [Nat.add_zero] at hcell
  rw [← HO.out] at hcell
  clear h hc
  go_enter Try.func45, Try.ntmps45
  go_wp2
  go_loop [3, 4] (fun m i => ∃ k : Nat, 0 < k ∧ k ≤ l.length ∧ i = .int .i64 k ∧ m = V (mnl (l.take k))) (fun _ i => l.length - (intOf i).toNat)
  case atStart => exact ⟨1, by omega, by omega, rfl, rfl⟩
  case round =>
    obtain ⟨k, hk0, hk, rfl, rfl⟩ := hrel
    by_cases hlt : k < l.length
    · have hcell2 := H.out k hlt
      have HS := Lib.hid (mnl_succ l k hk0 hlt)
      clear hcell
      generalize l[k] = y at *
      generalize mnl (l.take k) = z at *
      go_wp2
      go_round
      case rel => exact ⟨k + 1, by omega, by omega, by go_num, by rw [HS.out]⟩
      case measure => simp [intOf]; omega
    · obtain rfl : k = l.length := by omega
      rw [List.take_length]
      clear hcell
      go_wp2
      go_ret
      exact ⟨rfl, rfl⟩
theorem neT {x y : UInt32} (h : ¬ x = y) (w : World) : (binOp .neq 37 (V x) (V y)).run Try.prog w = .ok (.bool true) w := by
  rw [run_neq]; simp [h]
theorem neF {x y : UInt32} (h : x = y) (w : World) : (binOp .neq 37 (V x) (V y)).run Try.prog w = .ok (.bool false) w := by
  rw [run_neq]; simp [h]
theorem same_at {l m : List UInt32} {k : Nat} (h : l.take k = m.take k) (hl : k < l.length) (hm : k < m.length) (e : l[k] = m[k]) : l.take (k + 1) = m.take (k + 1) := by
  rw [List.take_succ_eq_append_getElem hl, List.take_succ_eq_append_getElem hm, h, e]
set_option maxHeartbeats 1000000 in
/-- slices.Equal. -/
theorem equal_walk (w : World) (A B : Option Addr) (c d : Nat) (l m : List UInt32) (h : Rd w A l) (h2 : Rd w B m) :
    Calls Try.prog 52 #[.slice A l.length c, .slice B m.length d] w fun e w' => e = .returned (.bool (decide (l = m))) ∧ Below w.heap.size w w' := by
  have hl := h.len
  have hm := h2.len
  by_cases hlm : l.length = m.length
  · have HLM := Lib.hid hlm
    have H := Lib.hid h
    have H2 := Lib.hid h2
    have hg := run_guard
    have hle : m.length ≤ l.length := by omega
    rw [hlm]
    clear h h2 hlm
    go_enter Try.func52, Try.ntmps52
    go_wp2
    go_loopw [13] (fun i wr => ∃ k n : Nat, k ≤ m.length ∧ i = .int .i64 k ∧ l.take k = m.take k ∧ wr = w.drewN n) (fun i _ => m.length - (intOf i).toNat)
    case atStart => exact ⟨0, 0, by omega, rfl, by simp, rfl⟩
    case round =>
      obtain ⟨k, n, hk, rfl, heq, rfl⟩ := hrel
      have HE := Lib.hid heq
      clear heq
      by_cases hlt : k < m.length
      · obtain ⟨b1, o1, rfl, hc1⟩ := H.out.spot (by omega)
        obtain ⟨b2, o2, rfl, hc2⟩ := H2.out.spot (by omega)
        have ca := hc1 k (by omega)
        have cb := hc2 k (by omega)
        clear hc1 hc2
        by_cases hxy : l[k] = m[k]
        · have HS := Lib.hid (same_at HE.out (by omega) hlt hxy)
          have hn := neF hxy
          clear hxy
          generalize l[k] = x at *
          generalize m[k] = y at *
          go_wp2
          go_quiet (fail)
          go_wp2
          go_roundw
          case rel => exact ⟨k + 1, _, by omega, by go_num, HS.out, rfl⟩
          case measure => simp [intOf]; omega
        · have HN : Hid (decide (l = m) = false) := by
            refine decide_eq_false fun e => hxy ?_
            subst e; rfl
          have hn := neT hxy
          clear hxy
          generalize l[k] = x at *
          generalize m[k] = y at *
          go_wp2
          go_quiet (fail)
          go_wp2
          go_ret
          exact ⟨by rw [HN.out]; rfl, ⟨rfl, rfl, rfl, Nat.le_refl _, fun _ _ => rfl⟩⟩
      · have HN : Hid (decide (l = m) = true) := by
          refine decide_eq_true ?_
          have := HE.out
          rwa [show k = m.length by omega, List.take_length, ← HLM.out, List.take_length] at this
        go_wp2
        go_ret
        exact ⟨by rw [HN.out]; rfl, ⟨rfl, rfl, rfl, Nat.le_refl _, fun _ _ => rfl⟩⟩
  · have ht : ((l.length : Int) != (m.length : Int)) = true := by simp; omega
    have HN : Hid (decide (l = m) = false) := decide_eq_false fun e => hlm (by rw [e])
    go_enter Try.func52, Try.ntmps52
    go_wp2
    go_ret
    exact ⟨by rw [HN.out]; rfl, Below.refl _ _⟩
set_option maxHeartbeats 1000000 in
/-- The document's Same. -/
theorem same_walk (w : World) (A B : Option Addr) (c d : Nat) (l m : List UInt32) (h : Rd w A l) (h2 : Rd w B m) :
    Calls Try.prog 24 #[.slice A l.length c, .slice B m.length d] w fun e w' => e = .returned (.bool (decide (l = m))) ∧ Below w.heap.size w w' := by
  have hl := h.len
  have hm := h2.len
  by_cases hlm : l.length = m.length
  · have HLM := Lib.hid hlm
    have H := Lib.hid h
    have H2 := Lib.hid h2
    have hg := run_guard
    have hle : m.length ≤ l.length := by omega
    rw [hlm]
    clear h h2 hlm
    go_enter Try.func24, Try.ntmps24
    go_wp2
    go_loopw [13] (fun i wr => ∃ k n : Nat, k ≤ m.length ∧ i = .int .i64 k ∧ l.take k = m.take k ∧ wr = w.drewN n) (fun i _ => m.length - (intOf i).toNat)
    case atStart => exact ⟨0, 0, by omega, rfl, by simp, rfl⟩
    case round =>
      obtain ⟨k, n, hk, rfl, heq, rfl⟩ := hrel
      have HE := Lib.hid heq
      clear heq
      by_cases hlt : k < m.length
      · obtain ⟨b1, o1, rfl, hc1⟩ := H.out.spot (by omega)
        obtain ⟨b2, o2, rfl, hc2⟩ := H2.out.spot (by omega)
        have ca := hc1 k (by omega)
        have cb := hc2 k (by omega)
        clear hc1 hc2
        by_cases hxy : l[k] = m[k]
        · have HS := Lib.hid (same_at HE.out (by omega) hlt hxy)
          have hn := neF hxy
          clear hxy
          generalize l[k] = x at *
          generalize m[k] = y at *
          go_wp2
          go_quiet (fail)
          go_wp2
          go_roundw
          case rel => exact ⟨k + 1, _, by omega, by go_num, HS.out, rfl⟩
          case measure => simp [intOf]; omega
        · have HN : Hid (decide (l = m) = false) := by
            refine decide_eq_false fun e => hxy ?_
            subst e; rfl
          have hn := neT hxy
          clear hxy
          generalize l[k] = x at *
          generalize m[k] = y at *
          go_wp2
          go_quiet (fail)
          go_wp2
          go_ret
          exact ⟨by rw [HN.out]; rfl, ⟨rfl, rfl, rfl, Nat.le_refl _, fun _ _ => rfl⟩⟩
      · have HN : Hid (decide (l = m) = true) := by
          refine decide_eq_true ?_
          have := HE.out
          rwa [show k = m.length by omega, List.take_length, ← HLM.out, List.take_length] at this
        go_wp2
        go_ret
        exact ⟨by rw [HN.out]; rfl, ⟨rfl, rfl, rfl, Nat.le_refl _, fun _ _ => rfl⟩⟩
  · have ht : ((l.length : Int) != (m.length : Int)) = true := by simp; omega
    have HN : Hid (decide (l = m) = false) := decide_eq_false fun e => hlm (by rw [e])
    go_enter Try.func24, Try.ntmps24
    go_wp2
    go_ret
    exact ⟨by rw [HN.out]; rfl, Below.refl _ _⟩
/-! Next and Prev. -/
def atp (l : List UInt32) (d : UInt32) (p : Nat) : UInt32 := if fst l d < l.length then l.getD ((fst l d + p) % l.length) 0 else 0
def nxt (l : List UInt32) (d : UInt32) : UInt32 := atp l d 1
def prv (l : List UInt32) (d : UInt32) : UInt32 := atp l d (l.length - 1)
theorem atp_lt {l : List UInt32} {d : UInt32} {p : Nat} (h : fst l d < l.length) : atp l d p = l.getD ((fst l d + p) % l.length) 0 := if_pos h
theorem atp_ge {l : List UInt32} {d : UInt32} {p : Nat} (h : ¬ fst l d < l.length) : atp l d p = 0 := if_neg h
theorem nxt_lt {l : List UInt32} {d : UInt32} (h : fst l d < l.length) : nxt l d = l.getD ((fst l d + 1) % l.length) 0 := if_pos h
theorem nxt_ge {l : List UInt32} {d : UInt32} (h : ¬ fst l d < l.length) : nxt l d = 0 := if_neg h
theorem prv_lt {l : List UInt32} {d : UInt32} (h : fst l d < l.length) : prv l d = l.getD ((fst l d + (l.length - 1)) % l.length) 0 := if_pos h
theorem prv_ge {l : List UInt32} {d : UInt32} (h : ¬ fst l d < l.length) : prv l d = 0 := if_neg h
theorem ret_V {x y : UInt32} (h : x = y) : Ending.returned (V x) = .returned (V y) := by rw [h]
theorem V0 : Value.int .u32 0 = V 0 := by unfold V; rfl
theorem getD_at {l : List UInt32} {i : Nat} (h : i < l.length) : l[i] = l.getD i 0 := by rw [List.getD_eq_getElem?_getD, List.getElem?_eq_getElem h, Option.getD_some]
theorem rem_nat (a n : Nat) : ((a : Int)).tmod (n : Int) = ((a % n : Nat) : Int) := by
  rw [Int.tmod_eq_emod_of_nonneg (by omega)]; simp
theorem from_walk (w : World) (A : Option Addr) (c : Nat) (l : List UInt32) (d : UInt32) (p : Nat) (hp : p ≤ 1000000) (h : Rd w A l) :
    Calls Try.prog 47 #[.slice A l.length c, V d, .int .i64 p] w fun e w' => e = .returned (V (atp l d p)) ∧ w = w' := by
  have hi := index_walk w A c l d h
  have hlen := h.len
  by_cases hlt : fst l d < l.length
  · rw [atp_lt hlt]
    rw [ix_lt hlt] at hi
    obtain ⟨b, o, rfl, hc⟩ := h.spot (by omega)
    have hml : (fst l d + p) % l.length < l.length := Nat.mod_lt _ (by omega)
    have hcell := hc _ hml
    rw [getD_at hml] at hcell
    have hr : ((fst l d : Int) + p).tmod (l.length : Int) = (((fst l d + p) % l.length : Nat) : Int) := rem_nat (fst l d + p) l.length
    have H := Lib.hid hi
    clear h hc hi
    generalize fst l d = f at *
    generalize (f + p) % l.length = q at *
    generalize l.getD q 0 = y at *
    have hl0 : ¬ ((l.length : Int) = 0) := by omega
    go_enter Try.func47, Try.ntmps47
    go_wp2_with (go_at_call 44; refine H.out.mono ?_; rintro e w' ⟨rfl, rfl⟩)
    go_ret
    exact ⟨rfl, rfl⟩
  · rw [atp_ge hlt]
    rw [ix_ge hlt] at hi
    have H := Lib.hid hi
    clear h hi
    go_enter Try.func47, Try.ntmps47
    go_wp2_with (go_at_call 44; refine H.out.mono ?_; rintro e w' ⟨rfl, rfl⟩)
    go_ret
    exact ⟨by rw [← V0]; rfl, rfl⟩
theorem next_walk (w : World) (A : Option Addr) (c : Nat) (l : List UInt32) (d : UInt32) (h : Rd w A l) :
    Calls Try.prog 27 #[.slice A l.length c, V d] w fun e w' => e = .returned (V (nxt l d)) ∧ w = w' := by
  have H := Lib.hid (from_walk w A c l d 1 (by omega) h)
  unfold nxt
  go_enter Try.func27, Try.ntmps27
  go_wp2_with (go_at_call 47; refine H.out.mono ?_; rintro e w' ⟨rfl, rfl⟩)
  go_ret
  exact ⟨rfl, rfl⟩
theorem prev_walk (w : World) (A : Option Addr) (c : Nat) (l : List UInt32) (d : UInt32) (h : Rd w A l) :
    Calls Try.prog 29 #[.slice A l.length c, V d] w fun e w' => e = .returned (V (prv l d)) ∧ w = w' := by
  have hlen := h.len
  by_cases h0 : l.length = 0
  · obtain rfl : l = [] := List.length_eq_zero_iff.1 h0
    have hi := index_walk w A c [] d h
    have H := Lib.hid hi
    have H2 : Hid (Calls Try.prog 47 #[.slice A 0 c, V d, .int .i64 (-1)] w fun e w' => e = .returned (V 0) ∧ w = w') := by
      have hi2 : Calls Try.prog 44 #[.slice A 0 c, V d] w fun e w' => e = .returned (.int .i64 (-1)) ∧ w = w' := hi
      have HI := Lib.hid hi2
      show _
      clear hi hi2 h
      go_enter Try.func47, Try.ntmps47
      go_wp2_with (go_at_call 44; refine HI.out.mono ?_; rintro e w' ⟨rfl, rfl⟩)
      go_ret
      exact ⟨by rw [← V0]; rfl, rfl⟩
    show Calls Try.prog 29 #[.slice A 0 c, V d] w fun e w' => e = .returned (V 0) ∧ w = w'
    clear hi h
    go_enter Try.func29, Try.ntmps29
    go_wp2_with (go_at_call 47; refine H2.out.mono ?_; rintro e w' ⟨rfl, rfl⟩)
    go_ret
    exact ⟨rfl, rfl⟩
  · have H := Lib.hid (from_walk w A c l d (l.length - 1) (by omega) h)
    have hs : (l.length : Int) - 1 = ((l.length - 1 : Nat) : Int) := by omega
    unfold prv
    have HP := Lib.hid hs
    clear hs
    go_enter Try.func29, Try.ntmps29
    go_wp2_with (go_at_call 47; rw [HP.out]; refine H.out.mono ?_; rintro e w' ⟨rfl, rfl⟩)
    go_ret
    exact ⟨rfl, rfl⟩
/-- The document's Next. -/
theorem rnext_walk (w : World) (A : Option Addr) (c : Nat) (l : List UInt32) (d : UInt32) (h : Rd w A l) :
    Calls Try.prog 28 #[.slice A l.length c, V d] w fun e w' => e = .returned (V (nxt l d)) ∧ w = w' := by
  have hi := find_walk w A c l d h
  have hlen := h.len
  by_cases hlt : fst l d < l.length
  · rw [nxt_lt hlt]
    rw [ix_lt hlt] at hi
    obtain ⟨b, o, rfl, hc⟩ := h.spot (by omega)
    have H := Lib.hid hi
    by_cases he : fst l d + 1 = l.length
    · have hm : (fst l d + 1) % l.length = 0 := by rw [he]; exact Nat.mod_self _
      rw [hm]
      have hcell := hc 0 (by omega)
      rw [getD_at (by omega : 0 < l.length)] at hcell
      rw [Nat.add_zero] at hcell
      have ht : ((fst l d : Int) + 1 == (l.length : Int)) = true := by simp; omega
      clear h hc hi hm he
      generalize fst l d = f at *
      generalize l.getD 0 0 = y at *
      go_enter Try.func28, Try.ntmps28
      go_wp2_with (go_at_call 48; refine H.out.mono ?_; rintro e w' ⟨rfl, rfl⟩)
      go_ret
      exact ⟨rfl, rfl⟩
    · have hm : (fst l d + 1) % l.length = fst l d + 1 := Nat.mod_eq_of_lt (by omega)
      rw [hm]
      have hcell := hc (fst l d + 1) (by omega)
      rw [getD_at (by omega : fst l d + 1 < l.length)] at hcell
      have ht : ((fst l d : Int) + 1 == (l.length : Int)) = false := by simp; omega
      clear h hc hi hm
      generalize l.getD (fst l d + 1) 0 = y at *
      generalize fst l d = f at *
      go_enter Try.func28, Try.ntmps28
      go_wp2_with (go_at_call 48; refine H.out.mono ?_; rintro e w' ⟨rfl, rfl⟩)
      go_ret
      exact ⟨rfl, rfl⟩
  · rw [nxt_ge hlt]
    rw [ix_ge hlt] at hi
    have H := Lib.hid hi
    clear h hi
    go_enter Try.func28, Try.ntmps28
    go_wp2_with (go_at_call 48; refine H.out.mono ?_; rintro e w' ⟨rfl, rfl⟩)
    go_ret
    exact ⟨by rw [← V0]; rfl, rfl⟩
/-- The document's Prev. -/
theorem rprev_walk (w : World) (A : Option Addr) (c : Nat) (l : List UInt32) (d : UInt32) (h : Rd w A l) :
    Calls Try.prog 30 #[.slice A l.length c, V d] w fun e w' => e = .returned (V (prv l d)) ∧ w = w' := by
  have hi := find_walk w A c l d h
  have hlen := h.len
  by_cases hlt : fst l d < l.length
  · rw [prv_lt hlt]
    rw [ix_lt hlt] at hi
    obtain ⟨b, o, rfl, hc⟩ := h.spot (by omega)
    have H := Lib.hid hi
    by_cases he : fst l d = 0
    · have hm : (fst l d + (l.length - 1)) % l.length = l.length - 1 := by rw [he, Nat.zero_add]; exact Nat.mod_eq_of_lt (by omega)
      rw [hm]
      have hcell := hc (l.length - 1) (by omega)
      rw [getD_at (by omega : l.length - 1 < l.length)] at hcell
      have ht : ((fst l d : Int) == 0) = true := by simp; omega
      have hs : (l.length : Int) - 1 = ((l.length - 1 : Nat) : Int) := by omega
      clear h hc hi hm he
      generalize fst l d = f at *
      generalize l.getD (l.length - 1) 0 = y at *
      go_enter Try.func30, Try.ntmps30
      go_wp2_with (go_at_call 48; refine H.out.mono ?_; rintro e w' ⟨rfl, rfl⟩)
      go_ret
      exact ⟨rfl, rfl⟩
    · have hm : (fst l d + (l.length - 1)) % l.length = fst l d - 1 := by
        rw [show fst l d + (l.length - 1) = (fst l d - 1) + l.length by omega, Nat.add_mod_right]
        exact Nat.mod_eq_of_lt (by omega)
      rw [hm]
      have hcell := hc (fst l d - 1) (by omega)
      rw [getD_at (by omega : fst l d - 1 < l.length)] at hcell
      have ht : ((fst l d : Int) == 0) = false := by simp; omega
      have hs : (fst l d : Int) - 1 = ((fst l d - 1 : Nat) : Int) := by omega
      have hf : fst l d ≤ 1000000 := by omega
      clear h hc hi hm he
      generalize l.getD (fst l d - 1) 0 = y at *
      generalize fst l d = f at *
      go_enter Try.func30, Try.ntmps30
      go_wp2_with (go_at_call 48; refine H.out.mono ?_; rintro e w' ⟨rfl, rfl⟩)
      go_ret
      exact ⟨rfl, rfl⟩
  · rw [prv_ge hlt]
    rw [ix_ge hlt] at hi
    have H := Lib.hid hi
    clear h hi
    go_enter Try.func30, Try.ntmps30
    go_wp2_with (go_at_call 48; refine H.out.mono ?_; rintro e w' ⟨rfl, rfl⟩)
    go_ret
    exact ⟨by rw [← V0]; rfl, rfl⟩
end Go.Proofs.Ytekhnacgejfmjaa
