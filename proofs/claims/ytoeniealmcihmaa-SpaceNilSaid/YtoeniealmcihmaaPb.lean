/- New. -/
import Derived.Test.YtoeniealmcihmaaPa
namespace Go.Proofs.Ytoeniealmcihmaa
open Go.RowKit

/-- How many sectors a space of these bounds has. -/
def many (fr to : Int) : Nat := min (to - fr).toNat 4096
/-- A new space, all free. -/
def NewPost (fr : Int) (n : Nat) (w : World) (e : Ending) (w' : World) : Prop :=
  ∃ (g lb : Nat) (p : Option Addr) (mr : List Value), e = .returned (.pointer (some ⟨g, 0, none⟩)) ∧ Spc w' g lb fr p mr (List.replicate n true) ∧ w.heap.size ≤ g ∧ (0 < n → w.heap.size ≤ lb) ∧ Below w.heap.size w w'

set_option maxHeartbeats 2000000 in
theorem new_walk (w : World) (fr to : Int) (h1 : -9223372036854775808 ≤ fr) (h2 : fr ≤ 9223372036854775807) (h3 : -9223372036854775808 ≤ to) (h4 : to ≤ 9223372036854775807) :
    Calls Try.prog 7 #[.int .i64 fr, .int .i64 to] w (NewPost fr (many fr to) w) := by
  by_cases hlt : fr < to
  · obtain ⟨n, hn⟩ : ∃ n, many fr to = n := ⟨_, rfl⟩
    have hn0 : 0 < n := by unfold many at hn; omega
    have hn1 : n ≤ 4096 := by unfold many at hn; omega
    have hn2 : fr + (n : Int) ≤ to := by unfold many at hn; omega
    have hw : IntKind.u64.wrap (IntKind.u64.wrap to - IntKind.u64.wrap fr) = to - fr := by
      rw [IntKind.wrap_u64, IntKind.wrap_u64, IntKind.wrap_u64]; omega
    have hmin : (if 4096 < to - fr then 4096 else to - fr) = (n : Int) := by unfold many at hn; split <;> omega
    rw [hn]
    have HN := Lib.hid hn
    clear hn
    go_enter Try.func7, Try.ntmps7
    go_wp2_with (go_at_call 15; refine (repeat_walk _ _ _ n hn0 hn1 (by simp)).mono ?_; rintro e w1 ⟨lb, rfl, hb, hlb, hbel⟩; have HB := Lib.hid hb; have HBL := Lib.hid hbel; have HLB := Lib.hid hlb; clear hb hlb hbel; have HK := Lib.hid (((Blk.fresh w 45 #[.int .i64 fr, .slice none 0 0]).more (.cells #[.bool true] 4)).kept HBL.out (by simp; omega)); have c1 := HK.out.cell 1; have cf := HK.out.thaw 1)
    go_ret
    have hl := HLB.out
    simp only [World.size_alloc] at hl
    have hbel : Below w.heap.size w w1 := (((Below.refl _ w).alloc (Nat.le_refl _) _).alloc (by simp) _).trans (HBL.out.mono (by simp; omega))
    have hsz := HBL.out.size
    simp only [World.size_alloc] at hsz
    have hbk := HK.out.put 1 (.slice (some ⟨lb, 0, none⟩) n n)
    refine ⟨w.heap.size, lb, some ⟨lb, 0, none⟩, [], rfl, { blk := ?_, nil := fun h => absurd h (by simp; omega), pos := fun _ => ⟨rfl, HB.out.off (by simp only; omega) _⟩, ne := fun _ => by omega, cap := by simp; unfold maxLen; omega, hi := by simpa using hn1, lo := h1, end' := by simp; omega },
      Nat.le_refl _, fun _ => by omega, hbel.setCell (p := ⟨w.heap.size, 1, none⟩) (Nat.le_refl _) _⟩
    simpa using hbk
  · have e : many fr to = 0 := by unfold many; omega
    rw [e]
    clear e
    go_enter Try.func7, Try.ntmps7
    go_wp2
    go_ret
    exact ⟨w.heap.size, 0, none, [], rfl, { blk := Blk.fresh _ _ _, nil := fun _ => ⟨rfl, rfl⟩, pos := fun h => absurd h (by simp), ne := fun h => absurd h (by simp), cap := by simp, hi := by simp, lo := h1, end' := by simpa using h2 },
      Nat.le_refl _, fun h => absurd h (by omega), (Below.refl _ w).alloc (Nat.le_refl _) _⟩
end Go.Proofs.Ytoeniealmcihmaa
