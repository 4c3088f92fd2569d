/- String is all bytes that were laid. -/
import Derived.Test.YtjoiimhifogbhaaA6
import Derived.Test.YtjoiimhifogbhaaShelf
namespace Go.Proofs.Ytjoiimhifogbhaa
open Go.RowKit

theorem Ex.setCells (g : Nat) : ∀ (vs : List Value) (o : Nat) (w : World), Ex g w (w.setCells g o vs)
  | [], _, w => Ex.refl g w
  | v :: r, o, w => (Ex.setCell g o w v).trans (Ex.setCells g r (o + 1) _)
theorem Ex.drewN (g : Nat) (w : World) (q : Nat) : Ex g w (w.drewN q) := ⟨rfl, rfl, rfl, Nat.le_refl _, fun _ _ _ => rfl⟩
theorem strsOf_row (ps : List ByteArray) : Go.Lib.strsOf (fun i => ps.getD i ByteArray.empty) ps.length = ps.map (·.data.toList) := by
  apply List.ext_getElem
  · simp [Go.Lib.strsOf]
  · intro i h1 h2
    have : i < ps.length := by simpa using h2
    simp [Go.Lib.strsOf, List.getD, this]

/-- Reverse of a row of one's own. -/
theorem reverse_walk (w : World) (g c : Nat) (ps : List ByteArray) (hlen : ps.length ≤ 1000000000000) (hc : ∀ i (h : i < ps.length), w.cell? ⟨g, i, none⟩ = some (.string ps[i])) (hf : ∀ i, w.frozen? ⟨g, i, none⟩ = false) :
    Calls Try.prog 37 #[.slice (some ⟨g, 0, none⟩) ps.length c] w fun e w' => e = .returned (.tuple #[]) ∧ Ex g w w' ∧ ∀ i (h : i < ps.reverse.length), w'.cell? ⟨g, i, none⟩ = some (.string ps.reverse[i]) := by
  refine (Try.slices_Reverse_string_cells g 0 ps.length c (fun i => ps.getD i ByteArray.empty) w (by omega) (fun i hi => by rw [Nat.zero_add, hc i hi]; simp [List.getD, hi]) (fun j _ => by rw [Nat.zero_add]; exact hf j)).mono ?_
  rintro e w' ⟨rfl, q, rfl⟩
  refine ⟨rfl, (Ex.drewN g w q).trans (Ex.setCells g _ _ _), fun i hi => ?_⟩
  rw [strsOf_row]
  have hin := World.cell?_setCells_in g ((ps.map (·.data.toList)).reverse.map encStr) 0 (w.drewN q) (fun j hj => by
    have hj' : j < ps.length := by simpa using hj
    rw [Nat.zero_add, show (w.drewN q).cell? ⟨g, j, none⟩ = w.cell? ⟨g, j, none⟩ from rfl, hc j hj']; rfl) i (by simpa using hi)
  rw [Nat.zero_add] at hin
  rw [hin]
  simp [encStr]
end Go.Proofs.Ytjoiimhifogbhaa
