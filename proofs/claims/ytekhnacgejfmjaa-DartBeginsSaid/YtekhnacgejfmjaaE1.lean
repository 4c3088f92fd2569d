/- IndexFunc and DeleteFunc, by the closure of Without. -/
import Derived.Test.YtekhnacgejfmjaaE0
namespace Go.Proofs.Ytekhnacgejfmjaa
open Go.RowKit

/-- The closure's value, and where its map lies. -/
def Cl (w : World) (pb mb n : Nat) (m : List UInt32) : Prop := Blk w pb 65 #[.map (some mb)] ∧ Mu w mb n (gone m)
theorem Cl.kept {w w' : World} {pb mb n B : Nat} {m : List UInt32} (h : Cl w pb mb n m) (hb : Below B w w') (h1 : pb < B) (h2 : mb < B) : Cl w' pb mb n m :=
  ⟨h.1.kept hb h1, h.2.kept (hb.block mb h2)⟩
theorem Cl.up {w w' : World} {pb mb n : Nat} {m : List UInt32} (h : Cl w pb mb n m) (hb : Below w.heap.size w w') : Cl w' pb mb n m :=
  h.kept hb h.1.lt h.2.lt
/-- The first one that goes. -/
def fo (l m : List UInt32) : Nat := l.findIdx (fun x => !out m x)
theorem fo_le (l m : List UInt32) : fo l m ≤ l.length := List.findIdx_le_length
theorem fo_no (l m : List UInt32) (k : Nat) (h : k < l.length) (hk : k < fo l m) : out m (l.getD k 0) = true := by
  have := List.not_of_lt_findIdx (p := fun x => !out m x) (xs := l) (i := k) hk
  rw [← getD_at h]
  simpa using this
theorem fo_yes (l m : List UInt32) (h : fo l m < l.length) : out m (l.getD (fo l m) 0) = false := by
  have := List.findIdx_getElem (p := fun x => !out m x) (xs := l) (w := h)
  rw [← getD_at h]
  have e : l[fo l m] = l[List.findIdx (fun x => !out m x) l] := rfl
  rw [e]
  simpa using this
def fox (l m : List UInt32) : Int := if fo l m < l.length then (fo l m : Int) else -1
theorem fox_lt {l m : List UInt32} (h : fo l m < l.length) : fox l m = (fo l m : Int) := if_pos h
theorem fox_ge {l m : List UInt32} (h : ¬ fo l m < l.length) : fox l m = -1 := if_neg h
attribute [local irreducible] V
set_option maxHeartbeats 1000000 in
theorem indexf_walk (w : World) (A : Option Addr) (c : Nat) (l : List UInt32) (pb mb n : Nat) (m : List UInt32) (h : Rd w A l) (hcl : Cl w pb mb n m) :
    Calls Try.prog 57 #[.slice A l.length c, .func (.func 51) #[] #[.pointer (some ⟨pb, 0, none⟩)]] w fun e w' => e = .returned (.int .i64 (fox l m)) ∧ Below w.heap.size w w' := by
  have H := Lib.hid h
  have hlen := h.len
  have HH := Lib.hid (fo_le l m)
  have HC := Lib.hid hcl
  clear h hcl
  go_enter Try.func57, Try.ntmps57
  go_wp2
  go_loopw [8] (fun i wr => ∃ k : Nat, k ≤ fo l m ∧ i = .int .i64 k ∧ Below w.heap.size w wr) (fun i _ => l.length - (intOf i).toNat)
  case atStart => exact ⟨0, Nat.zero_le _, rfl, Below.refl _ _⟩
  case round =>
    obtain ⟨k, hk, rfl, hb⟩ := hrel
    have HB := Lib.hid hb
    have hle := HH.out
    clear hb
    by_cases hlt : k < l.length
    · obtain ⟨b, o, rfl, hc⟩ := (H.out.kept HB.out (Nat.le_refl _)).spot (by omega)
      have hcell := hc k hlt
      rw [getD_at hlt] at hcell
      clear hc
      have hcl := HC.out.up HB.out
      have hw := gone_walk wr pb mb n m (l.getD k 0) hcl.1 hcl.2
      by_cases hkh : k < fo l m
      · rw [fo_no l m k hlt hkh] at hw
        have HW := Lib.hid hw
        clear hw hcl
        generalize l.getD k 0 = x at *
        go_wp2_with (go_at_call 51; refine HW.out.mono ?_; rintro e w1 ⟨rfl, h1⟩; have H1 := Lib.hid h1; clear h1)
        go_roundw
        case rel => exact ⟨k + 1, by omega, by go_num, HB.out.trans (Below.mono H1.out HB.out.size)⟩
        case measure => simp [intOf]; omega
      · obtain rfl : k = fo l m := by omega
        rw [fo_yes l m hlt] at hw
        have HW := Lib.hid hw
        have HX := Lib.hid (fox_lt hlt)
        clear hw hcl
        generalize l.getD (fo l m) 0 = x at *
        go_wp2_with (go_at_call 51; refine HW.out.mono ?_; rintro e w1 ⟨rfl, h1⟩; have H1 := Lib.hid h1; clear h1)
        go_ret
        exact ⟨ret_int HX.out.symm, HB.out.trans (Below.mono H1.out HB.out.size)⟩
    · have HX := Lib.hid (fox_ge (l := l) (m := m) (by omega))
      go_wp2
      go_ret
      exact ⟨ret_int HX.out.symm, HB.out⟩
end Go.Proofs.Ytekhnacgejfmjaa
