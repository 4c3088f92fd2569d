/- Clone, Copy. -/
import Derived.Deep.AppendLies
import Derived.Deep.RegionHeld3
import Derived.Test.YtoeniealmcihmaaP3
namespace Go.Proofs.Ytoeniealmcihmaa
open Go.RowKit

theorem info4 : (Try.prog.info? 4).map (fun i => (i.zero, i.size, i.bytes)) = some (some (.bool false), 1, 1) := by kernel_rfl
/-- An own row of Booleans, as a known block. -/
theorem own_block {w : World} {base g cap n : Nat} {f : List Bool} (h : w.ownsRow base 4 1 (.slice (some ⟨g, 0, none⟩) n cap) n (f.map Value.bool)) (hn : n = f.length) (h0 : 0 < n) :
    ∃ mr : List Value, cap = f.length + mr.length ∧ Blk w g 4 (f.map Value.bool ++ mr).toArray ∧ base ≤ g ∧ cap ≤ maxLen := by
  rcases h.2 with ⟨_, h1⟩ | ⟨g', cap', cur, hv, hb, hg, hc1, hc2, hc3, hc4⟩
  · omega
  · simp only [Value.slice.injEq, Option.some.injEq, Addr.mk.injEq, and_true, true_and] at hv
    obtain ⟨rfl, rfl⟩ := hv
    refine ⟨cur.toList.drop n, ?_, ?_, hb, hc2⟩
    · have h2 : cur.toList.length = cur.size := Array.length_toList
      have h3 : n ≤ cur.size := by omega
      rw [List.length_drop, h2, ← hn]; omega
    · rw [← hc4, show n * 1 = n by omega, List.take_append_drop]; exact hg

set_option maxHeartbeats 1000000 in
theorem clone_walk (w : World) (lb cap : Nat) (f : List Bool) (h0 : 0 < f.length) (hi4 : f.length ≤ 4096) (hc : ∀ i, i < f.length → w.cell? ⟨lb, i, none⟩ = some (.bool (f.getD i false))) :
    Calls Try.prog 16 #[.slice (some ⟨lb, 0, none⟩) f.length cap] w fun e w' => ∃ (g' : Nat) (mr : List Value), e = .returned (.slice (some ⟨g', 0, none⟩) f.length (f.length + mr.length)) ∧
      Blk w' g' 4 (f.map Value.bool ++ mr).toArray ∧ w.heap.size ≤ g' ∧ f.length + mr.length ≤ maxLen ∧ Below w.heap.size w w' := by
  obtain ⟨i0, hi, hz0, hz1, hz2⟩ := info_parts info4
  have hown := World.ownsRow_made (base := w.heap.size) (e := 4) (size := 1) w #[] 0 (Nat.le_refl _) (Nat.zero_le _) rfl
  have hlb : lb < w.heap.size := by
    have := hc 0 h0
    exact World.block_lt_of_cell? w _ this
  have hnews : ∀ j u, (f.map Value.bool)[j]? = some u → (w.alloc (.cells #[] 4)).cell? ((⟨lb, 0, none⟩ : Addr).add j) = some u := fun j u hu => by
    have hj : j < f.length := by have := (List.getElem?_eq_some_iff.1 hu).1; simpa using this
    have hadd : (⟨lb, 0, none⟩ : Addr).add j = ⟨lb, j, none⟩ := by unfold Addr.add; split <;> simp_all
    rw [hadd, World.cell?_of_block (w := w) (Below.heap_alloc w _ lb hlb), hc j hj, ← hu]
    simp [List.getD_eq_getElem?_getD, List.getElem?_eq_getElem hj]
  have h1 : ∀ u ∈ f.map Value.bool, u.oneCell' = true := fun u hu => by
    obtain ⟨b, _, rfl⟩ := List.mem_map.1 hu
    rfl
  have hm : 0 + f.length ≤ maxLen := by unfold maxLen; omega
  have HC := Lib.hid hc
  have HN := Lib.hid hnews
  have HO := Lib.hid hown
  have H1 := Lib.hid h1
  have HM := Lib.hid hm
  clear hc hnews hown h1 hm
  have hq := fun (w : World) (a : Option Addr) (n c : Nat) => Lib.run_eql_slice_nil (P := Try.prog) w 43 4 a n c 0 0 Try.underlying43
  go_enter Try.func16, Try.ntmps16
  go_wp2_with (at_builtin; refine wpList_append_lies _ rfl _ _ _ rfl w.heap.size 4 i0 (.bool false) 1 1 Try.underlying43 hi hz0 hz1 hz2 rfl (by decide) _ 0 [] rfl HO.out ⟨lb, 0, none⟩ f.length cap (f.map Value.bool) rfl (by simp) HN.out H1.out h0 HM.out (by omega) (by simp) _ rfl ?_; intro g cap' w1 hown1 hgrow hat hlt; simp only [Nat.zero_add, List.nil_append] at hown1 ⊢; have HO1 := Lib.hid hown1; have HG := Lib.hid hgrow; clear hown1 hgrow hat hlt)
  go_ret
  obtain ⟨mr, rfl, hb, hg, hcap⟩ := own_block HO1.out rfl h0
  exact ⟨g, mr, rfl, hb, hg, hcap, ((Below.refl _ w).alloc (Nat.le_refl _) _).grown HG.out (by simp) (fun k e => by cases e; exact Nat.le_refl _)⟩
theorem clone_nil (w : World) : Calls Try.prog 16 #[.slice none 0 0] w fun e w' => e = .returned (.slice none 0 0) ∧ w' = w := by
  have hq := fun (w : World) (a : Option Addr) (n c : Nat) => Lib.run_eql_slice_nil (P := Try.prog) w 43 4 a n c 0 0 Try.underlying43
  go_enter Try.func16, Try.ntmps16
  go_wp2
  go_ret
  exact ⟨rfl, rfl⟩
end Go.Proofs.Ytoeniealmcihmaa
