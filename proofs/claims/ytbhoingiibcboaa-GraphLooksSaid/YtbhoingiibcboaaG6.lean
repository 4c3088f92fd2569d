/- Rows of darts of one's own, wherever they begin; many of them apart. -/
import Derived.Test.YtbhoingiibcboaaG5
import Derived.Maps.AppendAt
import Derived.ArgAppend
import Derived.Test.YtbhoingiibcboaaB0
namespace Go.Proofs.Ytbhoingiibcboaa
open Go.RowKit

/-- All rows of darts stay. -/
def Still (w w' : World) : Prop := ∀ g cur, Blk w g 31 cur → Blk w' g 31 cur
theorem Still.refl (w : World) : Still w w := fun _ _ h => h
theorem Still.trans {a b c : World} (h : Still a b) (k : Still b c) : Still a c := fun g cur hb => k g cur (h g cur hb)
theorem Still.below {w w' : World} (h : Below w.heap.size w w') : Still w w' := fun _ _ hb => hb.kept h hb.lt
theorem Still.put {w : World} {g i : Nat} {t : TypeId} {cs : Array Value} (h : Blk w g t cs) (ht : t ≠ 31) (v : Value) : Still w (w.setCell ⟨g, i, none⟩ v) := fun k cur hb =>
  hb.off (fun e => by
    have e' : k = g := e
    subst e'
    unfold Blk at h hb
    rw [h] at hb
    injection hb with hb
    injection hb with _ h2
    exact ht h2) v
/-- A row of darts of one's own. -/
def Oq (w : World) (base : Nat) (v : Value) (l : List UInt32) : Prop :=
  (v = .slice none 0 0 ∧ l = []) ∨ ∃ g off cap cur, v = .slice (some ⟨g, off, none⟩) l.length cap ∧ base ≤ g ∧ Blk w g 31 cur ∧ off + cap ≤ cur.size ∧ l.length ≤ cap ∧ cap ≤ maxLen ∧ ∀ i, i < l.length → cur[off + i]? = some (V (l.getD i 0))
theorem Oq.nil (w : World) (base : Nat) : Oq w base (.slice none 0 0) [] := .inl ⟨rfl, rfl⟩
theorem Oq.still {w w' : World} {base : Nat} {v : Value} {l : List UInt32} (h : Oq w base v l) (hs : Still w w') : Oq w' base v l := by
  rcases h with h | ⟨g, off, cap, cur, h1, h2, h3, h4⟩
  · exact .inl h
  · exact .inr ⟨g, off, cap, cur, h1, h2, hs _ _ h3, h4⟩
theorem Oq.grown {w w' : World} {base : Nat} {v : Value} {l : List UInt32} (h : Oq w base v l) {r : Option Nat} (hg : w.grownBy w' r) (hne : ∀ b, v.ownBlock = some b → r ≠ some b) : Oq w' base v l := by
  rcases h with h | ⟨g, off, cap, cur, rfl, h2, h3, h4⟩
  · exact .inl h
  · exact .inr ⟨g, off, cap, cur, rfl, h2, (hg.block g h3.lt (fun e => hne g rfl e.symm)).trans h3, h4⟩
theorem Oq.rv {w : World} {base : Nat} {v : Value} {l : List UInt32} (h : Oq w base v l) (hl : l.length ≤ 1000000) : RV w v l := by
  rcases h with ⟨rfl, rfl⟩ | ⟨g, off, cap, cur, rfl, h2, h3, h4, h5, h6, h7⟩
  · exact RV.nil w
  · refine ⟨_, cap, rfl, h5, hl, fun h0 => ⟨g, off, rfl, h3.lt, fun i hi => ?_⟩⟩
    rw [h3.cell, h7 i hi, getD_at hi]
theorem Oq.lt {w : World} {base : Nat} {v : Value} {l : List UInt32} (h : Oq w base v l) {b : Nat} (hb : v.ownBlock = some b) : b < w.heap.size ∧ base ≤ b ∧ ∃ cur, Blk w b 31 cur := by
  rcases h with ⟨rfl, _⟩ | ⟨g, off, cap, cur, rfl, h2, h3, h4⟩
  · cases hb
  · cases hb
    exact ⟨h3.lt, h2, cur, h3⟩
theorem Oq.owned {w : World} {base n : Nat} {v : Value} {l : List UInt32} (h : w.ownsRow base 31 1 v n (l.map V)) : Oq w base v l := by
  have hn : l.length = n := by have := h.1; simpa using this
  subst hn
  rcases h.2 with ⟨rfl, h0⟩ | ⟨b, cap, cur, rfl, hb, hgc, hcap, hm, hsz, htake⟩
  · exact .inl ⟨rfl, List.length_eq_zero_iff.1 h0⟩
  · refine .inr ⟨b, 0, cap, cur, rfl, hb, hgc, by omega, hcap, hm, fun i hi => ?_⟩
    have h1 : (cur.toList.take (l.length * 1))[i]? = (l.map V)[i]? := by rw [htake]
    rw [List.getElem?_take_of_lt (by omega)] at h1
    rw [Nat.zero_add, ← getD_at hi]
    simpa [hi] using h1
theorem info31 : ∃ i, Try.prog.info? 31 = some i ∧ i.zero = some (.int .u32 0) ∧ i.size = 1 ∧ i.bytes = 4 := by
  have h : (Try.prog.info? 31).map (fun i => (i.zero, i.size, i.bytes)) = some (some (.int .u32 0), 1, 4) := by kernel_rfl
  cases hi : Try.prog.info? 31 with
  | none => rw [hi] at h; cases h
  | some i =>
    rw [hi] at h
    simp only [Option.map_some, Option.some.injEq, Prod.mk.injEq] at h
    exact ⟨i, rfl, h.1, h.2.1, h.2.2⟩
theorem one_cell (x : UInt32) : ∀ u ∈ [V x], u.oneCell' = true := by intro u hu; rw [List.mem_singleton] at hu; subst hu; rfl
theorem src_one {w : World} {g0 : Nat} {x : UInt32} (h : Blk w g0 31 #[V x]) : ∀ j u, [V x][j]? = some u → w.cell? ((⟨g0, 0, none⟩ : Addr).add j) = some u := by
  intro j u hj
  match j, hj with
  | 0, hj =>
    simp at hj
    subst hj
    rw [addr_add]
    exact h.cell 0
set_option maxRecDepth 100000 in
/-- One is put behind a row of one's own. -/
theorem run_push (w : World) (base : Nat) (ty : TypeId) (v : Value) (l : List UInt32) (x : UInt32) (g0 : Nat) (h : Oq w base v l) (hl : l.length < 1000000) (hb : base ≤ w.heap.size) (hsrc : Blk w g0 31 #[V x]) :
    ∃ v' w', (Builtin.append_ #[22, 22] ty #[v, .slice (some ⟨g0, 0, none⟩) 1 1]).run Try.prog w = .ok v' w' ∧ Oq w' base v' (l ++ [x]) ∧ w.grownBy w' v.ownBlock ∧ (∃ b, v'.ownBlock = some b ∧ (v.ownBlock = some b ∨ w.heap.size ≤ b)) := by
  obtain ⟨i, hi, hz, hs, hby⟩ := info31
  rcases h with ⟨rfl, rfl⟩ | ⟨g, off, cap, cur, rfl, h2, h3, h4, h5, h6, h7⟩
  · obtain ⟨v', w', h1, h2, h3, h4, h5⟩ := run_append_own_at (P := Try.prog) (w := w) base 22 ty 31 i (.int .u32 0) 1 4 Try.underlying22 hi hz hs hby rfl (by decide) (.slice none 0 0) 0 [] (World.ownsRow_nil _ _ _ _) ⟨g0, 0, none⟩ 1 1 [V x] rfl (src_one hsrc) (one_cell x) (by decide) (by decide) hb
    refine ⟨v', w', h1, Oq.owned (n := 1) (by simpa using h2), h3, ?_⟩
    rcases h5 with h5 | h5
    · exfalso
      rcases h2.2 with ⟨_, h0⟩ | ⟨b, cap, cur, rfl, _⟩
      · cases h0
      · cases h5
    · exact ⟨_, h5, .inr (Nat.le_refl _)⟩
  · by_cases hroom : l.length + 1 ≤ cap
    · have hr := run_append_room_cells (P := Try.prog) w 22 ty 31 i Try.underlying22 hi g off l.length cap ⟨g0, 0, none⟩ 1 1 [V x] (by simp [hs]) (src_one hsrc) (one_cell x) hroom
        (fun j hj => by rw [h3.cell, hs]; simp at hj; subst hj; rw [Array.getElem?_eq_getElem (by omega)]; rfl) (fun j hj => h3.thaw _)
      rw [hs, Nat.mul_one] at hr
      have hset : w.setCells g (off + l.length) [V x] = w.setCell ⟨g, off + l.length, none⟩ (V x) := rfl
      rw [hset] at hr
      refine ⟨_, _, hr, .inr ⟨g, off, cap, _, by rw [List.length_append, List.length_singleton], h2, h3.put _ _, by rw [Array.size_setIfInBounds]; exact h4, by rw [List.length_append, List.length_singleton]; exact hroom, h6, fun k hk => ?_⟩, ⟨rfl, rfl, rfl, by simp [World.setCell], fun k _ hk => heap_setCell_other w _ k _ (fun e => hk (by rw [e]; rfl))⟩, g, rfl, .inl rfl⟩
      rw [List.length_append, List.length_singleton] at hk
      by_cases e : k = l.length
      · subst e
        rw [Array.getElem?_setIfInBounds_self_of_lt (by omega)]
        simp
      · rw [Array.getElem?_setIfInBounds_ne (by omega), h7 k (by omega)]
        congr 2
        rw [← getD_at (by omega : k < l.length), ← getD_at (by rw [List.length_append]; simp; omega), List.getElem_append_left]
    · obtain ⟨v', w', h1, h8, h9⟩ := run_append_arg_grows (P := Try.prog) w 22 ty 31 i (.int .u32 0) 1 4 Try.underlying22 hi hz hs hby rfl (by decide) ⟨g, off, none⟩ l.length cap (l.map V) (by simp)
        (fun j u hu => by
          rw [addr_add, h3.cell]
          rw [List.getElem?_map] at hu
          by_cases hj : j < l.length
          · rw [h7 j hj, ← getD_at hj]; simpa [hj] using hu
          · rw [List.getElem?_eq_none (by omega)] at hu; cases hu) ⟨g0, 0, none⟩ 1 1 [V x] rfl (src_one hsrc) (by omega) (by unfold maxLen; omega) (by omega)
      have ho : Oq w' w.heap.size v' (l ++ [x]) := Oq.owned (n := l.length + 1) (by rw [List.map_append]; exact h8)
      refine ⟨v', w', h1, ?_, ⟨h9.os, h9.tape, h9.output, h9.size, fun k hk _ => h9.block k hk (by simp)⟩, ?_⟩
      · rcases ho with ⟨_, h0⟩ | ⟨g', off', cap', cur', q1, q2, q3⟩
        · simp at h0
        · exact .inr ⟨g', off', cap', cur', q1, Nat.le_trans hb q2, q3⟩
      · rcases h8.2 with ⟨rfl, h0⟩ | ⟨g', cap', cur', rfl, q2, q3, _⟩
        · simp at h0
        · exact ⟨g', rfl, .inr q2⟩
end Go.Proofs.Ytbhoingiibcboaa
