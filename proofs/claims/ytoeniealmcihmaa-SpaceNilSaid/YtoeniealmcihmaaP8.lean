/- A run turned. -/
import Derived.Test.YtoeniealmcihmaaP7
namespace Go.Proofs.Ytoeniealmcihmaa
open Go.RowKit

theorem wrap_eq (x : Int) : IntKind.i64.wrap x = wrap64 x := by rw [IntKind.wrap_i64]; unfold wrap64; omega
theorem Spc.drewN {w : World} {g lb : Nat} {fr : Int} {p : Option Addr} {mr : List Value} {f : List Bool} (h : Spc w g lb fr p mr f) (n : Nat) : Spc (w.drewN n) g lb fr p mr f := h.up (below_drewN _ _ _)
/-- What is kept, but for block g, and that too where m is 0. -/
structure Exm (m g : Nat) (w w' : World) : Prop where
  os : w'.os = w.os
  tape : w'.tape = w.tape
  output : w'.output = w.output
  size : w.heap.size ≤ w'.heap.size
  block : ∀ k, k < w.heap.size → ¬ (0 < m ∧ k = g) → w'.heap[k]? = w.heap[k]?
theorem Exm.refl (m g : Nat) (w : World) : Exm m g w w := ⟨rfl, rfl, rfl, Nat.le_refl _, fun _ _ _ => rfl⟩
theorem Exm.trans {m g : Nat} {a b c : World} (h : Exm m g a b) (k : Exm m g b c) : Exm m g a c :=
  ⟨k.os.trans h.os, k.tape.trans h.tape, k.output.trans h.output, Nat.le_trans h.size k.size, fun i hi hne => (k.block i (Nat.lt_of_lt_of_le hi h.size) hne).trans (h.block i hi hne)⟩
theorem Exm.of_below {m g : Nat} {w w' : World} (h : Below w.heap.size w w') : Exm m g w w' := ⟨h.os, h.tape, h.output, h.size, fun k hk _ => h.block k hk⟩
theorem Exm.setCell {m : Nat} (hm : 0 < m) (g i : Nat) (w : World) (v : Value) : Exm m g w (w.setCell ⟨g, i, none⟩ v) :=
  ⟨rfl, rfl, rfl, by simp [World.setCell], fun k _ hne => heap_setCell_other w _ k v (fun e => hne ⟨hm, e⟩)⟩
theorem Exm.drewN (m g : Nat) (w : World) (n : Nat) : Exm m g w (w.drewN n) := ⟨rfl, rfl, rfl, Nat.le_refl _, fun _ _ _ => rfl⟩
theorem Exm.alloc (m g : Nat) (w : World) (o : Obj) : Exm m g w (w.alloc o) := Exm.of_below ((Below.refl _ w).alloc (Nat.le_refl _) o)
theorem Exm.blk {m g k : Nat} {w w' : World} {t : TypeId} {cs : Array Value} (h : Exm m g w w') (hb : Blk w k t cs) (hne : ¬ (0 < m ∧ k = g)) : Blk w' k t cs := (h.block k hb.lt hne).trans hb
theorem Exm.cell {m g : Nat} {w w' : World} {b o : Nat} (h : Exm m g w w') (hb : b < w.heap.size) (hne : ¬ (0 < m ∧ b = g)) : w'.cell? ⟨b, o, none⟩ = w.cell? ⟨b, o, none⟩ := World.cell?_of_block (h.block b hb hne)
/-- Of a block that is the call's own nothing is said outside. -/
theorem Exm.below {m g B : Nat} {w w' w0 : World} (h0 : Below B w0 w) (h : Exm m g w w') (hB : 0 < m → B ≤ g) (hw : B ≤ w.heap.size) : Below B w0 w' :=
  h0.trans ⟨h.os, h.tape, h.output, h.size, fun k hk => h.block k (by omega) (fun e => by have := hB e.1; omega)⟩
/-- What is written where a place of the row is made b. -/
theorem Spc.set {w : World} {g lb : Nat} {fr : Int} {p : Option Addr} {mr : List Value} {f : List Bool} (h : Spc w g lb fr p mr f) (j : Nat) (hj : j < f.length) (b : Bool) : Spc (w.setCell ⟨lb, j, none⟩ (.bool b)) g lb fr p mr (f.set j b) := by
  obtain ⟨hp, hb⟩ := h.pos (by omega)
  refine { blk := ?_, nil := fun h0 => ?_, pos := fun _ => ⟨hp, ?_⟩, ne := fun _ => h.ne (by omega), cap := by simpa using h.cap, hi := by simpa using h.hi, lo := h.lo, end' := by simpa using h.end' }
  · rw [List.length_set]; exact h.blk.off (fun e => h.ne (by omega) e.symm) _
  · rw [List.length_set] at h0; omega
  · have := hb.put j (.bool b)
    rw [List.setIfInBounds_toArray] at this
    rwa [List.map_set, ← List.set_append_left _ _ (by simpa using hj)]
/-- What a run turned leaves. -/
def TurnPost (m g lb : Nat) (fr : Int) (p : Option Addr) (mr : List Value) (w : World) (r : Int × List Bool) (e : Ending) (w' : World) : Prop :=
  e = .returned (.int .i64 r.1) ∧ Spc w' g lb fr p mr r.2 ∧ Exm m lb w w'

set_option maxHeartbeats 2000000 in
theorem turnRun_walk (w : World) (g lb : Nat) (fr : Int) (p : Option Addr) (mr : List Value) (f : List Bool) (A L : Int) (b : Bool) (hL : L ≤ 9223372036854775807) (h : Spc w g lb fr p mr f) :
    Calls Try.prog 22 #[.pointer (some ⟨g, 0, none⟩), .agg #[.int .i64 A, .int .i64 L], .bool b] w (TurnPost f.length g lb fr p mr w (trun fr b (A, L) f)) := by
  have HS := Lib.hid h
  have hgl := h.blk.lt
  clear h
  by_cases h1 : L < 1
  · have e : trun fr b (A, L) f = (2, f) := if_pos h1
    have HE := Lib.hid e
    clear e
    go_enter Try.func22, Try.ntmps22
    go_wp2
    go_ret
    rw [HE.out]
    exact ⟨rfl, HS.out.more _, Exm.alloc _ _ _ _⟩
  · have HE := Lib.hid (show trun fr b (A, L) f = trn fr b A L.toNat 0 f from if_neg h1)
    go_enter Try.func22, Try.ntmps22
    go_wp2
    have hbx := Lib.hid (Blk.fresh w 33 #[.int .i64 A, .int .i64 L])
    have HX0 := Lib.hid (Exm.alloc f.length lb w (.cells #[.int .i64 A, .int .i64 L] 33))
    have HS0 := Lib.hid (HS.out.more (.cells #[.int .i64 A, .int .i64 L] 33))
    generalize w.alloc (.cells #[.int .i64 A, .int .i64 L] 33) = w1 at *
    go_loopw [14] (fun i wr => ∃ (k : Nat) (f' : List Bool), i = .int .i64 k ∧ (k : Int) ≤ L ∧ Spc wr g lb fr p mr f' ∧ trn fr b A (L.toNat - k) k f' = trun fr b (A, L) f ∧ Exm f.length lb w1 wr) (fun i _ => (L - intOf i).toNat)
    case atStart => exact ⟨0, f, rfl, by omega, HS0.out, HE.out.symm, Exm.refl _ _ _⟩
    case round =>
      obtain ⟨k, f', rfl, hk, hs, ht, hx⟩ := hrel
      have HSr := Lib.hid hs
      have HT := Lib.hid ht
      have HT0 := Lib.hid ht
      have HX := Lib.hid hx
      have c0 := hs.cell0
      have c1 := hs.cell1
      have b0 : wr.cell? ⟨w.heap.size, 0, none⟩ = some (.int .i64 A) := (hx.blk hbx.out (by have := HS.out.pos; rintro ⟨h0, e⟩; have := (HS.out.pos h0).2.lt; omega)).cell 0
      clear hs ht hx
      by_cases hlt : (k : Int) < L
      · obtain ⟨q, hq⟩ : ∃ q, wrap64 (A + (k : Int)) = q := ⟨_, rfl⟩
        have hqq : IntKind.i64.wrap (A + (k : Int)) = q := (wrap_eq _).trans hq
        obtain ⟨m, hm⟩ : ∃ m, L.toNat - k = m + 1 := ⟨L.toNat - k - 1, by omega⟩
        have HM := Lib.hid hm
        have hT := HT.out
        rw [hm] at hT
        unfold trn at hT
        rw [hqq] at hT
        have HT2 := Lib.hid hT
        have hhw := has_walk wr g lb fr p mr f' q HSr.out
        have hiw := fun n => is_walk (wr.drewN n) g lb fr p mr f' q (HSr.out.drewN n)
        have HQQ := Lib.hid hqq
        clear hT hm hqq HT
        rcases hh : hasB fr f' q with _ | _
        · have hr : (2, f') = trun fr b (A, L) f := by rw [← HT2.out, if_pos hh]
          rw [hh] at hhw
          have HR := Lib.hid hr
          clear hr hh
          go_wp2_with (go_at_call 20; refine hhw.mono ?_; rintro e w' ⟨rfl, n1, rfl⟩)
          go_ret
          rw [← HR.out]
          exact ⟨rfl, HSr.out.drewN _, HX0.out.trans (HX.out.trans (Exm.drewN _ _ _ _))⟩
        · have hk2 : fr ≤ q ∧ q < fr + (f'.length : Int) := by unfold hasB at hh; simpa using hh
          obtain ⟨j, rfl⟩ : ∃ j : Nat, q = fr + j := ⟨(q - fr).toNat, by omega⟩
          have hj : j < f'.length := by omega
          have hpos : 0 < f.length := by
            have h1 := trn_length fr b A (L.toNat - k) k f'
            rw [HT0.out, trun_length] at h1
            omega
          have hi4 := HSr.out.hi
          have lo := HSr.out.lo
          have en := HSr.out.end'
          have e1 : (fr + (j : Int) - fr).toNat = j := by omega
          rw [hh] at hhw
          have hT3 := HT2.out
          rw [if_neg (by rw [hh]; decide), e1] at hT3
          have HT3 := Lib.hid hT3
          clear hT3 HT2 e1 hh
          rcases hb : (isB fr f' (fr + (j : Int)) == b) with _ | _
          · obtain ⟨rfl⟩ := (HSr.out.pos (by omega)).1
            have ca := HSr.out.at j hj
            have cf := (HSr.out.pos (by omega)).2.thaw j
            have w0 : IntKind.i64.wrap (fr + (j : Int) - fr) = (j : Int) := by rw [IntWalk.i64_in] <;> omega
            have j0 : (0 : Int) ≤ (j : Int) := by omega
            have j1 : (j : Int) < (f'.length : Int) := by omega
            have hb2 : isB fr f' (fr + (j : Int)) = !b := by revert hb; cases b <;> simp
            have hne : ¬ isB fr f' (fr + (j : Int)) = b := by rw [hb2]; cases b <;> decide
            have hr : trn fr b A m (k + 1) (f'.set j b) = trun fr b (A, L) f := by rw [← HT3.out, if_neg hne]
            have HR := Lib.hid hr
            rw [hb2] at hiw
            clear hr hb hb2 hne
            generalize f'.getD j false = bj at *
            cases b
            all_goals
              go_wp2_with (first | (go_at_call 20; refine hhw.mono ?_; rintro e w' ⟨rfl, n1, rfl⟩) | (go_at_call 14; refine (hiw _).mono ?_; rintro e w' ⟨rfl, n2, rfl⟩))
              go_region
              go_wp2
              go_roundw
              case rel => exact ⟨k + 1, _, by go_num, by omega, (HSr.out.drewN _).set j hj _, by rw [show L.toNat - (k + 1) = m by have := HM.out; omega]; exact HR.out, HX.out.trans ((Exm.drewN _ _ _ _).trans (Exm.setCell hpos _ _ _ _))⟩
              case measure => simp [intOf]; omega
          · have hb2 : isB fr f' (fr + (j : Int)) = b := by simpa using hb
            have hr : (17, f') = trun fr b (A, L) f := by rw [← HT3.out, if_pos hb2]
            have HR := Lib.hid hr
            rw [hb2] at hiw
            clear hr hb hb2
            cases b <;> go_wp2_with (first | (go_at_call 20; refine hhw.mono ?_; rintro e w' ⟨rfl, n1, rfl⟩) | (go_at_call 14; refine (hiw _).mono ?_; rintro e w' ⟨rfl, n2, rfl⟩))
            all_goals
              go_ret
              rw [← HR.out]
              exact ⟨rfl, HSr.out.drewN _, HX0.out.trans (HX.out.trans (Exm.drewN _ _ _ _))⟩
      · obtain rfl : (k : Int) = L := by omega
        have hr : (0, f') = trun fr b (A, (k : Int)) f := by
          have := HT.out
          rw [Int.toNat_natCast, Nat.sub_self] at this
          exact this
        have HR := Lib.hid hr
        clear hr
        go_wp2
        go_ret
        rw [← HR.out]
        exact ⟨rfl, HSr.out, HX0.out.trans HX.out⟩
end Go.Proofs.Ytoeniealmcihmaa
