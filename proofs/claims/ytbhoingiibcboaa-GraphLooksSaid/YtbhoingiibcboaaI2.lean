/- The stable sort and CompactFunc of a row that rises; graph.rising of it. -/
import Derived.Test.YtbhoingiibcboaaI1
namespace Go.Proofs.Ytbhoingiibcboaa
open Go.RowKit

theorem owns_base {w : World} {b b' e sz n : Nat} {v : Value} {xs : List Value} (hb : b' ≤ b) (h : w.ownsRow b e sz v n xs) : w.ownsRow b' e sz v n xs := by
  obtain ⟨h1, h2⟩ := h
  refine ⟨h1, ?_⟩
  rcases h2 with h2 | ⟨g, cap, cur, h3, h4, h5⟩
  · exact .inl h2
  · exact .inr ⟨g, cap, cur, h3, Nat.le_trans hb h4, h5⟩
def Eq2 (w : World) (x y : UInt32) (e : Ending) (w' : World) : Prop := e = .returned (.bool (x == y)) ∧ ∃ n, w' = w.drewN n
def Gives (w : World) (v : Value) (e : Ending) (w' : World) : Prop := e = .returned v ∧ ∃ n, w' = w.drewN n
attribute [local irreducible] V
attribute [local irreducible] wpList in
set_option maxRecDepth 100000 in
set_option maxHeartbeats 1000000 in
theorem stable_walk (w : World) (A : Option Addr) (c pb : Nat) (l : List UInt32) (h : Rd w A l) (hs : l.Pairwise (· < ·)) (hl : l.length < 20) (hp : Cl1 w pb) :
    Calls Try.prog 75 #[.slice A l.length c, .int .i64 l.length, .func (.func 64) #[] #[.pointer (some ⟨pb, 0, none⟩)]] w (Drew w) := by
  have HI := Lib.hid (isort_walk w A c pb l h hs hp)
  have q1 : ¬ (20 : Int) ≤ (l.length : Int) := by omega
  have q2 : ¬ (20 : Int) < (l.length : Int) := by omega
  clear h hs hp hl
  go_enter Try.func75, Try.ntmps75
  go_wp2
  go_loop [7, 8] (fun a b => a = .int .i64 0 ∧ b = .int .i64 20) (fun _ _ => 0)
  case atStart => exact ⟨rfl, rfl⟩
  case round =>
    obtain ⟨rfl, rfl⟩ := hrel
    go_wp2_with (go_at_call 80; refine HI.out.mono ?_; rintro e w1 ⟨rfl, n, rfl⟩)
    go_loop [6] (fun a => a = .int .i64 20) (fun _ => 0)
    case atStart => rfl
    case round =>
      obtain rfl := hrel
      go_wp2
      go_end0
      exact ⟨rfl, n, rfl⟩
set_option maxRecDepth 100000 in
theorem sortst_walk (w : World) (A : Option Addr) (c pb : Nat) (l : List UInt32) (h : Rd w A l) (hs : l.Pairwise (· < ·)) (hl : l.length < 20) (hp : Cl1 w pb) :
    Calls Try.prog 63 #[.slice A l.length c, .func (.func 64) #[] #[.pointer (some ⟨pb, 0, none⟩)]] w (Drew w) := by
  have HI := Lib.hid (stable_walk w A c pb l h hs hl hp)
  clear h hs hp hl
  go_enter Try.func63, Try.ntmps63
  go_wp2_with (go_at_call 75; refine HI.out.mono ?_; rintro e w1 ⟨rfl, n, rfl⟩)
  go_end0
  exact ⟨rfl, n, rfl⟩
attribute [local irreducible] wpList in
set_option maxRecDepth 100000 in
set_option maxHeartbeats 1000000 in
theorem clo2_walk (w : World) (pb : Nat) (x y : UInt32) (hp : Cl1 w pb) :
    Calls Try.prog 66 #[V x, V y, .pointer (some ⟨pb, 0, none⟩)] w (Eq2 w x y) := by
  have hp1 : w.cell? ⟨pb, 0, none⟩ = some (.func (.func 49) #[] #[]) := hp
  have g := run_guard
  have he := run_eql 31 x y
  clear hp
  go_enter Try.func66, Try.ntmps66
  go_wp2
  go_quiet ((go_at_call 49; exact Calls.quiet_of_same ((id_walk _ _).mono fun _ _ h => ⟨h.1, h.2.symm⟩)))
  go_wp2
  go_ret
  exact ⟨rfl, _, rfl⟩
attribute [local irreducible] wpList in
set_option maxRecDepth 100000 in
set_option maxHeartbeats 2000000 in
theorem compact_walk (w : World) (A : Option Addr) (c pb : Nat) (l : List UInt32) (h : Rd w A l) (hs : l.Pairwise (· < ·)) (hp : Cl1 w pb) :
    Calls Try.prog 65 #[.slice A l.length c, .func (.func 66) #[] #[.pointer (some ⟨pb, 0, none⟩)]] w (Gives w (.slice A l.length c)) := by
  have H := Lib.hid h
  have S := Lib.hid hs
  have HP := Lib.hid hp
  have hn := h.len
  clear h hs hp
  by_cases hl2 : l.length < 2
  · have q1 : (l.length : Int) < 2 := by omega
    clear hl2
    go_enter Try.func65, Try.ntmps65
    go_wp2
    go_ret
    exact ⟨rfl, 0, rfl⟩
  · have q1 : ¬ (l.length : Int) < 2 := by omega
    have HL2 := Lib.hid hl2
    clear hl2
    go_enter Try.func65, Try.ntmps65
    go_wp2
    clear q1
    go_loopw [5] (fun i wr => ∃ k n : Nat, 1 ≤ k ∧ k ≤ l.length ∧ i = .int .i64 k ∧ wr = w.drewN n) (fun i _ => l.length - (intOf i).toNat)
    case atStart => exact ⟨1, 0, Nat.le_refl _, by have := HL2.out; omega, rfl, rfl⟩
    case round =>
      obtain ⟨k, n, hk1, hk2, rfl, rfl⟩ := hrel
      by_cases hlt : k < l.length
      · obtain ⟨b, o, rfl, hc⟩ := H.out.spot (by omega)
        have c1 := hc k hlt
        have c2 := hc (k - 1) (by omega)
        rw [getD_at hlt] at c1
        rw [getD_at (by omega : k - 1 < l.length)] at c2
        have hr := rise_at S.out (by omega) hlt
        have hq : (k : Int) - 1 = ((k - 1 : Nat) : Int) := by omega
        have q1 : (1 : Int) ≤ (k : Int) := by omega
        have hjn : k - 1 < l.length := by omega
        have hbe : (l.getD k 0 == l.getD (k - 1) 0) = false := by
          rw [beq_eq_false_iff_ne]
          intro e
          exact u32_lt_ne hr e.symm
        have hcl2 : ∀ W, Cl1 W pb → Calls Try.prog 66 #[V (l.getD k 0), V (l.getD (k - 1) 0), .pointer (some ⟨pb, 0, none⟩)] W fun e w' => e = .returned (.bool false) ∧ ∃ m, w' = W.drewN m := fun W hW => (clo2_walk W pb _ _ hW).mono fun e w' hh => by
          obtain ⟨h1, h2⟩ := hh
          rw [hbe] at h1
          exact ⟨h1, h2⟩
        have HC2 := Lib.hid hcl2
        clear hr hcl2 hc hbe
        generalize l.getD k 0 = x at *
        generalize k - 1 = j at *
        generalize l.getD j 0 = y at *
        go_wp2
        have hwr : IntKind.i64.wrap ((j : Nat) : Int) = (j : Int) := IntWalk.i64_in _ (by omega)
        go_quiet ((go_at_call 66; exact quiet_sum (HC2.out _ (HP.out.dr _))))
        clear hwr hq
        go_wp2
        go_roundw
        case rel => exact ⟨k + 1, _, by omega, by omega, by go_num, rfl⟩
        case measure => simp [intOf]; omega
      · go_wp2
        go_ret
        exact ⟨rfl, _, rfl⟩
attribute [local irreducible] wpList in
set_option maxRecDepth 100000 in
set_option maxHeartbeats 2000000 in
/-- graph.rising of a row that rises. -/
theorem rising_walk (w : World) (A : Option Addr) (c : Nat) (l : List UInt32) (h : Rd w A l) (hc : l.length ≤ c) (hs : l.Pairwise (· < ·)) (hl : l.length < 20) :
    Calls Try.prog 48 #[.slice A l.length c, .func (.func 49) #[] #[]] w fun e w' => ∃ v, e = .returned v ∧ Ow w' w.heap.size v l ∧ Below w.heap.size w w' := by
  have HV : Hid (RV (w.alloc (.cells #[.func (.func 49) #[] #[]] 71)) (.slice A l.length c) l) := ⟨A, c, rfl, hc, h.kept ((Below.refl _ w).alloc (Nat.le_refl _) _) (Nat.le_refl _)⟩
  have HB : Hid (Below w.heap.size w (w.alloc (.cells #[.func (.func 49) #[] #[]] 71))) := (Below.refl _ w).alloc (Nat.le_refl _) _
  have HP : Hid (Blk (w.alloc (.cells #[.func (.func 49) #[] #[]] 71)) w.heap.size 71 #[.func (.func 49) #[] #[]]) := Blk.fresh _ _ _
  have HLL : Hid (l.length ≤ 1000000) := h.len
  have hmf : ∀ (fn : Fn) (first cap : Array Value) (w : World), (Instr.makeFunc fn first cap).run Try.prog w = .ok (.func fn first cap) w := fun _ _ _ _ => rfl
  have S := Lib.hid hs
  have HL := Lib.hid hl
  clear h hc hs hl
  go_enter Try.func48, Try.ntmps48
  go_wp2_with (first
    | (go_at_call 38; refine (clone_rv _ _ _ HV.out).mono ?_; rintro e w1 ⟨u, rfl, ho, hb⟩; have HO1 := Lib.hid ho; have hrv := ho.rv HLL.out; obtain ⟨A1, c1, rfl, hc1, hr1⟩ := hrv; have HR1 := Lib.hid hr1; have HC1 := Lib.hid hc1; have HB1 := Lib.hid hb; have HP1 : Hid (Cl1 w1 w.heap.size) := (HP.out.kept hb HP.out.lt).cell 0; clear ho hb hr1 hc1)
    | (go_at_call 63; refine (sortst_walk _ _ _ _ _ HR1.out S.out HL.out HP1.out).mono ?_; rintro e w2 ⟨rfl, n2, rfl⟩)
    | (go_at_call 65; refine (compact_walk (w1.drewN n2) _ _ _ l (HR1.out.kept (w' := w1.drewN n2) (B := w1.heap.size) ⟨rfl, rfl, rfl, Nat.le_refl _, fun _ _ => rfl⟩ (Nat.le_refl _)) S.out HP1.out).mono ?_; rintro e w3 ⟨rfl, n3, rfl⟩))
  go_ret
  refine ⟨_, rfl, owns_base (by simp) (show Ow w1 _ _ l from HO1.out), (HB.out.trans (Below.mono HB1.out HB.out.size)).trans ⟨rfl, rfl, rfl, Nat.le_refl _, fun _ _ => rfl⟩⟩
end Go.Proofs.Ytbhoingiibcboaa
