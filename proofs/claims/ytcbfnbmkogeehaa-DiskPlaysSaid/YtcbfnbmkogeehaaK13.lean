/- What settles: a map emptied, a sector laid down. -/
import Derived.Test.YtcbfnbmkogeehaaK12
namespace Go.Proofs.Ytcbfnbmkogeehaa
open Go.RowKit
open Go.ChangeMaps Go.MapKept
/-- 'clear(m)'. -/
theorem own_clear {w : World} {mb n : Nat} {D : DataW Value} (h : w.ownsMap Try.prog 3 RV mb n D) (ty : TypeId) :
    ∃ w', (Builtin.clear_ #[57] ty #[.map (some mb)]).run Try.prog w = .ok (.tuple #[]) w' ∧ w'.ownsMap Try.prog 3 RV mb 0 (.map []) ∧ w.mapTurned w' mb := by
  obtain ⟨es, clock, hb, F, hs, rfl⟩ := h
  refine ⟨setBlock w mb (.map #[] clock), ?_, ?_, ⟨es, clock, #[], clock, hb, rfl⟩⟩
  · simp [Builtin.clear_, run_underlying Try.underlying57, MapKept.run_getObj_map hb, MapKept.run_setObj_map _ hb, Result.andThen, setBlock]
  · exact ⟨#[], clock, ChangeMaps.heap_setBlock_same hb _, ⟨by simp, MapKept.stamped_empty _, by simp⟩, Nat.le_refl _, rfl⟩
/-- The state in which these sectors' blocks last, and nothing waits. -/
def Dk.settled (s : Dk) (l : List Nat) : Dk :=
  { s with
    last := l.foldl (fun r i => r.set i (s.shown.getD i z512)) s.last
    shown := l.foldl (fun r i => r.set i (s.shown.getD i z512)) s.last
    waits := List.replicate s.last.length false }
theorem settled_length (s : Dk) (l : List Nat) : ∀ r : List (List UInt8), (l.foldl (fun r i => r.set i (s.shown.getD i z512)) r).length = r.length := by
  induction l with
  | nil => intro r; rfl
  | cons i t ih => intro r; rw [List.foldl_cons, ih, List.length_set]
theorem settled_blocks (s : Dk) (h : s.Ok) (l : List Nat) : ∀ r : List (List UInt8), (∀ b ∈ r, b.length = 512) → ∀ b ∈ l.foldl (fun r i => r.set i (s.shown.getD i z512)) r, b.length = 512 := by
  induction l with
  | nil => intro r hr; exact hr
  | cons i t ih =>
    intro r hr
    rw [List.foldl_cons]
    refine ih _ fun b hb => ?_
    rcases List.mem_or_eq_of_mem_set hb with h1 | h1
    · exact hr b h1
    · rw [h1, List.getD_eq_getElem?_getD]
      cases hx : s.shown[i]? with
      | none => exact z512_length
      | some y => exact h.bs y (List.mem_of_getElem? hx)
theorem Dk.Ok.settled {s : Dk} (h : s.Ok) (l : List Nat) : (s.settled l).Ok := by
  have hl := settled_length s l s.last
  have hb := settled_blocks s h l s.last h.bl
  exact { h with
    low := by show 64 ≤ (l.foldl _ s.last).length; rw [hl]; exact h.low
    high := by show (l.foldl _ s.last).length ≤ 4096; rw [hl]; exact h.high
    sh := rfl
    wt := by show (List.replicate s.last.length false).length = (l.foldl _ s.last).length; rw [hl, List.length_replicate]
    bs := hb
    bl := hb
    same := fun _ _ => rfl }
end Go.Proofs.Ytcbfnbmkogeehaa
