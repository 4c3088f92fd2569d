/- graph.rising of a row that rises. -/
import Derived.Test.YtbhoingiibcboaaI0
import Derived.IntWalk
namespace Go.Proofs.Ytbhoingiibcboaa
open Go.RowKit

def Drew (w : World) (e : Ending) (w' : World) : Prop := e = .returned (.tuple #[]) ∧ ∃ n, w' = w.drewN n
/-- The closure that compares, and where what it holds lies. -/
def Cl1 (w : World) (pb : Nat) : Prop := w.cell? ⟨pb, 0, none⟩ = some (.func (.func 49) #[] #[])
theorem Cl1.dr {w : World} {pb : Nat} (h : Cl1 w pb) (a : Nat) : Cl1 (w.drewN a) pb := h
theorem quiet_sum {P : Program} {f : FuncId} {args : Array Value} {w : World} {n k : Nat} {v : Value}
    (h : Calls P f args (w.drewN (n + k)) fun e w' => e = .returned v ∧ ∃ m, w' = (w.drewN (n + k)).drewN m) : Calls P f args (w.drewN (n + k)) fun e w'' => e = .returned v ∧ ∃ m, w'' = w.drewN (n + m) :=
  h.mono fun _ _ ⟨he, m, hm⟩ => ⟨he, k + m, by rw [hm, World.drewN_drewN, Nat.add_assoc]⟩
theorem rise_at {l : List UInt32} (h : l.Pairwise (· < ·)) {k : Nat} (h0 : 0 < k) (hk : k < l.length) : l.getD (k - 1) 0 < l.getD k 0 := by
  have := List.pairwise_iff_getElem.1 h (k - 1) k (by omega) hk (by omega)
  rwa [getD_at, getD_at] at this
attribute [local irreducible] V
attribute [local irreducible] wpList in
set_option maxRecDepth 100000 in
set_option maxHeartbeats 2000000 in
theorem isort_walk (w : World) (A : Option Addr) (c pb : Nat) (l : List UInt32) (h : Rd w A l) (hs : l.Pairwise (· < ·)) (hp : Cl1 w pb) :
    Calls Try.prog 80 #[.slice A l.length c, .int .i64 0, .int .i64 l.length, .func (.func 64) #[] #[.pointer (some ⟨pb, 0, none⟩)]] w (Drew w) := by
  have H := Lib.hid h
  have S := Lib.hid hs
  have HP := Lib.hid hp
  have hn := h.len
  clear h hs hp
  go_enter Try.func80, Try.ntmps80
  go_wp2
  go_loopw [8] (fun i wr => ∃ k n : Nat, 1 ≤ k ∧ (k ≤ l.length ∨ k = 1) ∧ i = .int .i64 k ∧ wr = w.drewN n) (fun i _ => l.length - (intOf i).toNat)
  case atStart => exact ⟨1, 0, Nat.le_refl _, .inr rfl, rfl, rfl⟩
  case round =>
    obtain ⟨k, n, hk1, hk2, rfl, rfl⟩ := hrel
    by_cases hlt : k < l.length
    · obtain ⟨b, o, rfl, hc⟩ := H.out.spot (by omega)
      have HC := Lib.hid hc
      clear hc
      go_wp2
      go_loopw [9] (fun j wr => j = .int .i64 k ∧ ∃ n, wr = w.drewN n) (fun _ _ => 0)
      case atStart => exact ⟨rfl, _, rfl⟩
      case round =>
        obtain ⟨rfl, n2, rfl⟩ := hrel
        have c1 := HC.out k hlt
        have c2 := HC.out (k - 1) (by omega)
        rw [getD_at hlt] at c1
        rw [getD_at (by omega : k - 1 < l.length)] at c2
        have hr := rise_at S.out (by omega) hlt
        have HG := Lib.hid (cmpv_gt hr)
        have hq : (k : Int) - 1 = ((k - 1 : Nat) : Int) := by omega
        have q0 : (0 : Int) < (k : Int) := by omega
        have q1 : (1 : Int) ≤ (k : Int) := by omega
        have q2 : decide (0 < k) = true := decide_eq_true (by omega)
        have hjn : k - 1 < l.length := by omega
        have HCL := Lib.hid (fun W hW => clo1_walk W pb (l.getD k 0) (l.getD (k - 1) 0) hW)
        have hcl2 : ∀ W, Cl1 W pb → Calls Try.prog 64 #[V (l.getD k 0), V (l.getD (k - 1) 0), .pointer (some ⟨pb, 0, none⟩)] W fun e w' => e = .returned (.int .i64 1) ∧ ∃ m, w' = W.drewN m := fun W hW => (HCL.out W hW).mono fun e w' hh => by
          obtain ⟨h1, h2⟩ := hh
          rw [HG.out] at h1
          exact ⟨h1, h2⟩
        have HC2 := Lib.hid hcl2
        clear hr hcl2 HCL HG
        generalize l.getD k 0 = x at *
        generalize k - 1 = j at *
        generalize l.getD j 0 = y at *
        go_wp2
        have hwr : IntKind.i64.wrap ((j : Nat) : Int) = (j : Int) := IntWalk.i64_in _ (by omega)
        go_quiet ((go_at_call 64; exact quiet_sum (HC2.out _ (HP.out.dr _))))
        clear hwr hq
        go_wp2
        go_roundw
        case rel => exact ⟨k + 1, _, by omega, .inl (by omega), by go_num, rfl⟩
        case measure => simp [intOf]; omega
    · go_wp2
      go_end0
      exact ⟨rfl, _, rfl⟩
end Go.Proofs.Ytbhoingiibcboaa
