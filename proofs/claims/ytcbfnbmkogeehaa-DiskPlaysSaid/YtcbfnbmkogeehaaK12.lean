/- New, whole. -/
import Derived.Test.YtcbfnbmkogeehaaK11
namespace Go.Proofs.Ytcbfnbmkogeehaa
open Go.RowKit
def Dk.new (n : Nat) : Dk := ⟨List.replicate n z512, List.replicate n z512, List.replicate n false, 0, -1, false⟩
theorem Dk.new_ok (n : Nat) (h1 : 64 ≤ n) (h2 : n ≤ 4096) : (Dk.new n).Ok :=
  { low := by show 64 ≤ (List.replicate n z512).length; rw [List.length_replicate]; exact h1
    high := by show (List.replicate n z512).length ≤ 4096; rw [List.length_replicate]; exact h2
    sh := rfl
    wt := by show (List.replicate n false).length = (List.replicate n z512).length; rw [List.length_replicate, List.length_replicate]
    bs := fun l hl => by rw [List.eq_of_mem_replicate hl]; exact z512_length
    bl := fun l hl => by rw [List.eq_of_mem_replicate hl]; exact z512_length
    same := fun _ _ => rfl
    d0 := by show (0 : Int) ≤ 0; omega
    d1 := by show (0 : Int) < 1000000000; omega
    f0 := by show (-9223372036854775808 : Int) ≤ -1; omega
    f1 := by show (-1 : Int) ≤ 9223372036854775807; omega }
theorem own_empty (w : World) (mb : Nat) (h : w.heap[mb]? = some (.map #[] 0)) : w.ownsMap Try.prog 3 RV mb 0 (.map []) :=
  ⟨#[], 0, h, ⟨by simp, MapKept.stamped_empty 0, by simp⟩, Nat.le_refl _, rfl⟩
theorem new_walk (w : World) (n : Nat) (h1 : 64 ≤ n) (h2 : n ≤ 4096) : Calls Try.prog 7 #[.int .i64 (n : Int)] w fun e w' => ∃ g lb mb, e = .returned (.tuple #[.pointer (some ⟨g, 0, none⟩), .int .i64 0]) ∧ Below w.heap.size w w' ∧
    w.heap.size ≤ g ∧ w.heap.size ≤ lb ∧ w.heap.size ≤ mb ∧ Rep w' g lb mb (Dk.new n) (.map []) := by
  have hc := fun W => cache_walk W n h2
  have hm := meter_walk
  unfold Cm at hm
  go_enter Try.func7, Try.ntmps7
  go_wp2_with (first
    | (go_at_call 22; refine (hm _).mono ?_; rintro e w1 ⟨rfl, hb1⟩)
    | (go_at_call 23; refine (hc _).mono ?_; rintro e w2 ⟨lb, mb, rfl, hb2, hl1, hl2, hlb, hmb⟩))
  go_ret2
  have hmlt : mb < w2.heap.size := by
    rcases Nat.lt_or_ge mb w2.heap.size with h | h
    · exact h
    · rw [Array.getElem?_eq_none h] at hmb; cases hmb
  have hs1 := hb1.size
  have hs2 := hb2.size
  refine ⟨w2.heap.size, lb, mb, rfl, (hb1.trans (hb2.mono hs1)).alloc (by omega) _, by omega, by omega, by omega, ?_⟩
  have hcs : Cs (Dk.new n) lb mb = #[.int .i64 (-1), .int .i64 0, .bool false, .slice (some ⟨lb, 0, none⟩) n n, .map (some mb)] := by
    show #[Value.int .i64 (-1), .int .i64 0, .bool false, .slice (some ⟨lb, 0, none⟩) (List.replicate n z512).length (List.replicate n z512).length, .map (some mb)] = _
    rw [List.length_replicate]
  refine { ok := Dk.new_ok n h1 h2, blk := by rw [hcs]; exact Blk.fresh w2 _ _, lst := hlb.more _, own := ?_, cnt := by show ((0 : Nat) : Int) ≤ 0; omega, lg := by omega, mg := by omega, ml := by omega, has := ?_, val := ?_ }
  · exact own_empty _ _ ((RowKit.Below.heap_alloc w2 _ mb hmlt).trans hmb)
  · intro k _
    show false = _
    have : (List.replicate n false)[k.toNat]? ≠ some true := by
      intro h
      have := List.eq_of_mem_replicate (List.mem_of_getElem? h)
      cases this
    show false = (decide (0 ≤ k) && ((List.replicate n false)[k.toNat]? == some true))
    rw [show ((List.replicate n false)[k.toNat]? == some true) = false by simpa using this]
    simp
  · intro i l hw
    have := List.eq_of_mem_replicate (List.mem_of_getElem? (show (List.replicate n false)[i]? = some true from hw))
    cases this
end Go.Proofs.Ytcbfnbmkogeehaa
