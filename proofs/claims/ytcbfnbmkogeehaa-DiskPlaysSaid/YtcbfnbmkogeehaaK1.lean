/- A disk's state, how it lies in memory, and the methods that only look. -/
import Derived.Test.YtcbfnbmkogeehaaK0
import Derived.Maps.OwnSet
namespace Go.Proofs.Ytcbfnbmkogeehaa
open Go.RowKit

/-- A block's bytes as one value. -/
def B (l : List UInt8) : Value := .agg (l.map U).toArray
/-- A state of a disk: what is shown and what lasts in each sector, which wait, and the meter. -/
structure Dk where
  shown : List (List UInt8)
  last : List (List UInt8)
  waits : List Bool
  done : Int
  fuse : Int
  down : Bool
structure Dk.Ok (s : Dk) : Prop where
  low : 64 ≤ s.last.length
  high : s.last.length ≤ 4096
  sh : s.shown.length = s.last.length
  wt : s.waits.length = s.last.length
  bs : ∀ l ∈ s.shown, l.length = 512
  bl : ∀ l ∈ s.last, l.length = 512
  same : ∀ i : Nat, s.waits[i]? = some false → s.shown[i]? = s.last[i]?
  d0 : 0 ≤ s.done
  d1 : s.done < 1000000000
  f0 : -9223372036854775808 ≤ s.fuse
  f1 : s.fuse ≤ 9223372036854775807
/-- How an element reads: as itself. -/
def RV (v : Value) : Option (DataW Value × List MemPlace) := some (.held v, [])
/-- The struct's cells. -/
def Cs (s : Dk) (lb mb : Nat) : Array Value := #[.int .i64 s.fuse, .int .i64 s.done, .bool s.down, .slice (some ⟨lb, 0, none⟩) s.last.length s.last.length, .map (some mb)]
structure Rep (w : World) (g lb mb : Nat) (s : Dk) (D : DataW Value) : Prop where
  ok : s.Ok
  blk : Blk w g 62 (Cs s lb mb)
  lst : Blk w lb 43 ((s.last.flatMap (·.map U)).toArray)
  own : w.ownsMap Try.prog 3 RV mb (Maps.size D) D
  cnt : (Maps.size D : Int) ≤ s.done
  lg : lb ≠ g
  mg : mb ≠ g
  ml : mb ≠ lb
  has : ∀ k : Int, (Lit.int .i64 k).wf = true → Maps.has D (.int .i64 k) = (decide (0 ≤ k) && (s.waits[k.toNat]? == some true))
  val : ∀ (i : Nat) (l : List UInt8), s.waits[i]? = some true → s.shown[i]? = some l → ∀ z, D.atKey (.int .i64 (i : Int)) z = .held (B l)

/-- Is there such a sector? -/
def Dk.has (s : Dk) (k : Int) : Bool := decide (0 ≤ k) && decide (k < (s.last.length : Int))
def Dk.reach (s : Dk) (k : Int) : Int := if s.down then 13 else if s.has k then 0 else 2

theorem has_walk (w : World) (g lb mb : Nat) (s : Dk) (k : Int) (hb : Blk w g 62 (Cs s lb mb)) :
    Calls Try.prog 34 #[.pointer (some ⟨g, 3, none⟩), .int .i64 k] w fun e w' => e = .returned (.bool (s.has k)) ∧ w' = w := by
  have h3 : w.cell? ⟨g, 3, none⟩ = some (.slice (some ⟨lb, 0, none⟩) s.last.length s.last.length) := hb.cell 3
  go_enter Try.func34, Try.ntmps34
  go_wp2
  · go_ret
    rename_i h
    refine ⟨?_, rfl⟩
    show Ending.returned (Value.bool (decide (k < (s.last.length : Int)))) = _
    unfold Dk.has
    rw [decide_eq_true h, Bool.true_and]
  · go_ret
    rename_i h
    refine ⟨?_, rfl⟩
    show Ending.returned (Value.bool false) = _
    unfold Dk.has
    rw [decide_eq_false (show ¬ (0 ≤ k) by omega), Bool.false_and]

theorem reach_walk (w : World) (g lb mb : Nat) (s : Dk) (k : Int) (hb : Blk w g 62 (Cs s lb mb)) :
    Calls Try.prog 30 #[.pointer (some ⟨g, 0, none⟩), .int .i64 k] w fun e w' => e = .returned (.int .i64 (s.reach k)) ∧ w' = w := by
  have h3 : w.cell? ⟨g, 2, none⟩ = some (.bool s.down) := hb.cell 2
  have hh := has_walk w g lb mb s k hb
  unfold Dk.reach
  generalize s.down = d at *
  generalize s.has k = c at *
  clear hb
  cases d
  · cases c
    · go_enter Try.func30, Try.ntmps30
      go_wp2_with (go_at_call 34; refine hh.mono ?_; rintro e w' ⟨rfl, rfl⟩)
      go_ret
      exact ⟨rfl, rfl⟩
    · go_enter Try.func30, Try.ntmps30
      go_wp2_with (go_at_call 34; refine hh.mono ?_; rintro e w' ⟨rfl, rfl⟩)
      go_ret
      exact ⟨rfl, rfl⟩
  · go_enter Try.func30, Try.ntmps30
    go_wp2
    go_ret
    exact ⟨rfl, rfl⟩
theorem reach_nil (w : World) (k : Int) : Calls Try.prog 30 #[.pointer none, .int .i64 k] w fun e w' => e = .returned (.int .i64 1) ∧ w' = w := by
  go_enter Try.func30, Try.ntmps30
  go_wp2
  go_ret
  exact ⟨rfl, rfl⟩

/-- One step: is it done, and what is behind it. -/
def Dk.stop (s : Dk) : Bool := s.down || decide (s.fuse = 0)
def Dk.step (s : Dk) : Dk := if s.stop then { s with down := true } else { s with fuse := if 0 < s.fuse then s.fuse - 1 else s.fuse, done := s.done + 1 }
def Dk.stepE (s : Dk) : Int := if s.stop then 13 else 0

theorem step_walk (w : World) (g lb mb : Nat) (s : Dk) (h : s.Ok) (hb : Blk w g 62 (Cs s lb mb)) :
    Calls Try.prog 31 #[.pointer (some ⟨g, 0, none⟩)] w fun e w' => e = .returned (.int .i64 s.stepE) ∧ Ex g w w' ∧ w'.heap.size = w.heap.size ∧ Blk w' g 62 (Cs s.step lb mb) := by
  have h0 : w.cell? ⟨g, 0, none⟩ = some (.int .i64 s.fuse) := hb.cell 0
  have h1 : w.cell? ⟨g, 1, none⟩ = some (.int .i64 s.done) := hb.cell 1
  have h2 : w.cell? ⟨g, 2, none⟩ = some (.bool s.down) := hb.cell 2
  have f0 := hb.thaw 0
  have f1 := hb.thaw 1
  have f2 := hb.thaw 2
  have d0 := h.d0
  have d1 := h.d1
  have u0 := h.f0
  have u1 := h.f1
  have w0 : IntKind.i64.wrap (s.done + 1) = s.done + 1 := IntWalk.i64_in _ (by omega)
  clear h
  obtain ⟨shown, last, waits, done, fuse, down⟩ := s
  simp only at h0 h1 h2 d0 d1 u0 u1 w0
  have HB := Lib.hid hb
  clear hb
  cases down
  · rcases Int.lt_trichotomy fuse 0 with hf | hf | hf
    · have t1 : (fuse == 0) = false := by simp; omega
      have t2 : ¬ (0 < fuse) := by omega
      have e1 : Dk.step ⟨shown, last, waits, done, fuse, false⟩ = ⟨shown, last, waits, done + 1, fuse, false⟩ := by simp [Dk.step, Dk.stop, t2, show ¬ fuse = 0 by omega]
      have e2 : Dk.stepE ⟨shown, last, waits, done, fuse, false⟩ = 0 := by simp [Dk.stepE, Dk.stop, show ¬ fuse = 0 by omega]
      rw [e1, e2]
      clear e1 e2
      go_enter Try.func31, Try.ntmps31
      go_wp2
      go_ret
      exact ⟨rfl, Ex.setCell _ _ _ _, by simp [World.setCell], HB.out.put 1 _⟩
    · subst hf
      have e1 : Dk.step ⟨shown, last, waits, done, 0, false⟩ = ⟨shown, last, waits, done, 0, true⟩ := by simp [Dk.step, Dk.stop]
      have e2 : Dk.stepE ⟨shown, last, waits, done, 0, false⟩ = 13 := by simp [Dk.stepE, Dk.stop]
      rw [e1, e2]
      clear e1 e2
      go_enter Try.func31, Try.ntmps31
      go_wp2
      go_ret
      exact ⟨rfl, Ex.setCell _ _ _ _, by simp [World.setCell], HB.out.put 2 _⟩
    · have t1 : (fuse == 0) = false := by simp; omega
      have w1 : IntKind.i64.wrap (fuse - 1) = fuse - 1 := IntWalk.i64_in _ (by omega)
      have e1 : Dk.step ⟨shown, last, waits, done, fuse, false⟩ = ⟨shown, last, waits, done + 1, fuse - 1, false⟩ := by simp [Dk.step, Dk.stop, hf, show ¬ fuse = 0 by omega]
      have e2 : Dk.stepE ⟨shown, last, waits, done, fuse, false⟩ = 0 := by simp [Dk.stepE, Dk.stop, show ¬ fuse = 0 by omega]
      rw [e1, e2]
      clear e1 e2
      go_enter Try.func31, Try.ntmps31
      go_wp2
      go_ret
      exact ⟨rfl, (Ex.setCell _ _ _ _).trans (Ex.setCell _ _ _ _), by simp [World.setCell], (HB.out.put 0 _).put 1 _⟩
  · have e1 : Dk.step ⟨shown, last, waits, done, fuse, true⟩ = ⟨shown, last, waits, done, fuse, true⟩ := by simp [Dk.step, Dk.stop]
    have e2 : Dk.stepE ⟨shown, last, waits, done, fuse, true⟩ = 13 := by simp [Dk.stepE, Dk.stop]
    rw [e1, e2]
    clear e1 e2
    go_enter Try.func31, Try.ntmps31
    go_wp2
    go_ret
    exact ⟨rfl, Ex.setCell _ _ _ _, by simp [World.setCell], HB.out.put 2 _⟩

end Go.Proofs.Ytcbfnbmkogeehaa
