/- Copy. -/
import Derived.Test.YtoeniealmcihmaaP6
namespace Go.Proofs.Ytoeniealmcihmaa
open Go.RowKit

theorem below_drewN (B : Nat) (w : World) (n : Nat) : Below B w (w.drewN n) := ⟨rfl, rfl, rfl, Nat.le_refl _, fun _ _ => rfl⟩
/-- A space like this one, of its own. -/
def CopyPost (fr : Int) (f : List Bool) (w : World) (e : Ending) (w' : World) : Prop :=
  ∃ (g' lb' : Nat) (p' : Option Addr) (mr' : List Value), e = .returned (.pointer (some ⟨g', 0, none⟩)) ∧ Spc w' g' lb' fr p' mr' f ∧ w.heap.size ≤ g' ∧ (0 < f.length → w.heap.size ≤ lb') ∧ Below w.heap.size w w'

set_option maxHeartbeats 1000000 in
theorem copy_walk (w : World) (g lb : Nat) (fr : Int) (p : Option Addr) (mr : List Value) (f : List Bool) (h : Spc w g lb fr p mr f) :
    Calls Try.prog 8 #[.pointer (some ⟨g, 0, none⟩)] w (CopyPost fr f w) := by
  have c0 := h.cell0
  have c1 := h.cell1
  have hgl := h.blk.lt
  by_cases h0 : 0 < f.length
  · obtain rfl := (h.pos h0).1
    have hcl := fun n => clone_walk (w.drewN n) lb (f.length + mr.length) f h0 h.hi (fun i hi => h.at i hi)
    have HS := Lib.hid h
    clear h
    go_enter Try.func8, Try.ntmps8
    go_wp2
    go_region_held3 (fun w' => w'.cell? ⟨g, 0, none⟩ = some (.int .i64 fr) ∧ w'.cell? ⟨g, 1, none⟩ = some (.slice (some ⟨lb, 0, none⟩) f.length (f.length + mr.length))) (go_keep)
      (first | (go_at_call 16; refine (hcl _).mono ?_; rintro e w' ⟨g', mr', rfl, hb, hg, hcap, hbel⟩; have k0 : w'.cell? ⟨g, 0, none⟩ = some (.int .i64 fr) := (hbel.cell (p := ⟨g, 0, none⟩) hgl).trans c0; have k1 : w'.cell? ⟨g, 1, none⟩ = some (.slice (some ⟨lb, 0, none⟩) f.length (f.length + mr.length)) := (hbel.cell (p := ⟨g, 1, none⟩) hgl).trans c1))
    all_goals go_wp2
    go_ret
    have hbel' : Below w.heap.size w w' := (below_drewN _ w _).trans hbel
    have hsz := hbel'.size
    have hg' : w.heap.size ≤ g' := hg
    exact ⟨w'.heap.size, g', _, mr', rfl, { blk := Blk.fresh _ _ _, nil := fun h => absurd h (by omega), pos := fun _ => ⟨rfl, hb.more _⟩, ne := fun _ => by have := hb.lt; omega, cap := hcap, hi := HS.out.hi, lo := HS.out.lo, end' := HS.out.end' },
      hsz, fun _ => hg', hbel'.trans ((Below.refl _ w').alloc hsz _)⟩
  · obtain ⟨rfl, rfl⟩ := h.nil (by omega)
    obtain rfl : f = [] := List.eq_nil_of_length_eq_zero (by omega)
    have hcl := fun n => clone_nil (w.drewN n)
    have HS := Lib.hid h
    clear h
    go_enter Try.func8, Try.ntmps8
    go_wp2
    go_region_held3 (fun w' => w'.cell? ⟨g, 0, none⟩ = some (.int .i64 fr) ∧ w'.cell? ⟨g, 1, none⟩ = some (.slice none 0 0)) (go_keep)
      (first | (go_at_call 16; refine (hcl _).mono ?_; rintro e w' ⟨rfl, rfl⟩))
    all_goals go_wp2
    go_ret
    exact ⟨w.heap.size, 0, none, [], rfl, { blk := Blk.fresh _ _ _, nil := fun _ => ⟨rfl, rfl⟩, pos := fun h => absurd h (by simp), ne := fun h => absurd h (by simp), cap := by simp, hi := by simp, lo := HS.out.lo, end' := HS.out.end' },
      Nat.le_refl _, fun h => absurd h (by simp), (below_drewN _ w _).alloc (Nat.le_refl _) _⟩
theorem copy_nil (w : World) : Calls Try.prog 8 #[.pointer none] w fun e w' => e = .returned (.pointer none) ∧ w' = w := by
  go_enter Try.func8, Try.ntmps8
  go_wp2
  go_ret
  exact ⟨rfl, rfl⟩
end Go.Proofs.Ytoeniealmcihmaa
