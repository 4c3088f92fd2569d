/- Rows of rows. -/
import Derived.Test.YtbhoingiibcboaaH2
namespace Go.Proofs.Ytbhoingiibcboaa
open Go.RowKit

def nilv : Value := .slice none 0 0
/-- Rows of one's own that stand in a row of one's own. -/
def PartsAt (w : World) (B : Nat) (pv : Value) (rows : List (List UInt32)) : Prop :=
  ∃ vals : List Value, vals.length = rows.length ∧ w.ownsRow B 22 1 pv rows.length vals ∧ Fam w B (fun i : Nat => vals.getD i nilv) (fun i => rows.getD i [])
theorem PartsAt.nil (w : World) (B : Nat) : PartsAt w B (.slice none 0 0) [] := ⟨[], rfl, World.ownsRow_nil _ _ _ _, ⟨fun _ => Oq.nil w B, fun _ _ _ _ h => by simp [nilv, Value.ownBlock] at h⟩⟩
theorem owns_blk {w w' : World} {B n : Nat} {pv : Value} {vals : List Value} (h : w.ownsRow B 22 1 pv n vals) (hk : ∀ g cur, Blk w g 22 cur → Blk w' g 22 cur) : w'.ownsRow B 22 1 pv n vals := by
  obtain ⟨h1, h2⟩ := h
  refine ⟨h1, ?_⟩
  rcases h2 with h2 | ⟨g, cap, cur, h3, h4, h5, h6⟩
  · exact .inl h2
  · exact .inr ⟨g, cap, cur, h3, h4, hk g cur h5, h6⟩
theorem PartsAt.kept {w w' : World} {B : Nat} {pv : Value} {rows : List (List UInt32)} (h : PartsAt w B pv rows) (hb : Below w.heap.size w w') : PartsAt w' B pv rows := by
  obtain ⟨vals, h1, h2, h3⟩ := h
  exact ⟨vals, h1, owns_blk h2 (fun _ _ hk => hk.kept hb hk.lt), h3.still (Still.below hb)⟩
theorem PartsAt.ex {w w' : World} {B sm m : Nat} {s : UInt32 → Option Value} {pv : Value} {rows : List (List UInt32)} (h : PartsAt w B pv rows) (hs : Mu w sm m s) (hx : Ex sm w w') : PartsAt w' B pv rows := by
  obtain ⟨vals, h1, h2, h3⟩ := h
  refine ⟨vals, h1, owns_blk h2 (fun g cur hk => hx.blk hk (fun e => ?_)), h3.still (Still.ex hs hx)⟩
  subst e
  obtain ⟨es, c, hm⟩ := hs.map
  unfold Blk at hk
  rw [hm] at hk
  cases hk
theorem info22 : ∃ i, Try.prog.info? 22 = some i ∧ i.zero = some (.slice none 0 0) ∧ i.size = 1 ∧ i.bytes = 24 := by
  have h : (Try.prog.info? 22).map (fun i => (i.zero, i.size, i.bytes)) = some (some (.slice none 0 0), 1, 24) := by kernel_rfl
  cases hi : Try.prog.info? 22 with
  | none => rw [hi] at h; cases h
  | some i =>
    rw [hi] at h
    simp only [Option.map_some, Option.some.injEq, Prod.mk.injEq] at h
    exact ⟨i, rfl, h.1, h.2.1, h.2.2⟩
theorem src_val {w : World} {g0 : Nat} {t : TypeId} {u : Value} (h : Blk w g0 t #[u]) : ∀ j x, [u][j]? = some x → w.cell? ((⟨g0, 0, none⟩ : Addr).add j) = some x := by
  intro j x hj
  match j, hj with
  | 0, hj =>
    simp at hj
    subst hj
    rw [addr_add]
    exact h.cell 0
theorem getD_app {K : Type} (l : List K) (x d : K) (i : Nat) : (l ++ [x]).getD i d = if i = l.length then x else l.getD i d := by
  by_cases h : i < l.length
  · rw [if_neg (by omega), List.getD_eq_getElem?_getD, List.getD_eq_getElem?_getD, List.getElem?_append_left h]
  · by_cases e : i = l.length
    · rw [if_pos e, e]; simp
    · rw [if_neg e, List.getD_eq_getElem?_getD, List.getD_eq_getElem?_getD, List.getElem?_append_right (by omega), List.getElem?_eq_none (by simp; omega), List.getElem?_eq_none (by omega)]
/-- A row put behind the others. -/
theorem run_row (w : World) (B : Nat) (ty : TypeId) (pv u : Value) (l : List UInt32) (rows : List (List UInt32)) (g0 : Nat) (h : PartsAt w B pv rows) (hl : rows.length < 1000000) (hb : B ≤ w.heap.size) (hsrc : Blk w g0 22 #[u]) (hu : u.oneCell' = true)
    (ho : Oq w B u l) (hap : ∀ vals : List Value, vals.length = rows.length → w.ownsRow B 22 1 pv rows.length vals → ∀ i b, (vals.getD i nilv).ownBlock = some b → u.ownBlock ≠ some b) :
    ∃ v' w', (Builtin.append_ #[33, 33] ty #[pv, .slice (some ⟨g0, 0, none⟩) 1 1]).run Try.prog w = .ok v' w' ∧ PartsAt w' B v' (rows ++ [l]) ∧ w.grownBy w' pv.ownBlock := by
  obtain ⟨i, hi, hz, hs, hby⟩ := info22
  obtain ⟨vals, h1, h2, h3⟩ := h
  obtain ⟨v', w', hr, h4, h5, _, _⟩ := run_append_own_at (P := Try.prog) (w := w) B 33 ty 22 i (.slice none 0 0) 1 24 Try.underlying33 hi hz hs hby rfl (by decide) pv rows.length vals h2 ⟨g0, 0, none⟩ 1 1 [u] rfl (src_val hsrc) (by intro x hx; rw [List.mem_singleton] at hx; subst hx; exact hu) (by unfold maxLen; omega) (by omega) hb
  have hstill : Still w w' := fun g cur hk => (h5.block g hk.lt (fun e => by
    rcases h2.2 with ⟨rfl, _⟩ | ⟨g', cap, cur', rfl, _, hg', _⟩
    · cases e
    · cases e
      unfold Blk at hk
      rw [hg'] at hk
      injection hk with hk
      injection hk with _ h2
      exact absurd h2 (by decide))).trans hk
  refine ⟨v', w', hr, ⟨vals ++ [u], by simp [h1], by rw [List.length_append]; exact h4, ⟨fun j => ?_, fun j k b hjk hj hk => ?_⟩⟩, h5⟩
  · rw [getD_app, getD_app, h1]
    by_cases e : j = rows.length
    · rw [if_pos e, if_pos e]; exact ho.still hstill
    · rw [if_neg e, if_neg e]; exact (h3.own j).still hstill
  · simp only [getD_app] at hj hk
    by_cases e : j = vals.length
    · rw [if_pos e] at hj
      rw [if_neg (by omega)] at hk
      exact hap vals h1 h2 k b hk hj
    · rw [if_neg e] at hj
      by_cases e2 : k = vals.length
      · rw [if_pos e2] at hk
        exact hap vals h1 h2 j b hj hk
      · rw [if_neg e2] at hk
        exact h3.apart j k b hjk hj hk
/-- A row that reads so. -/
def RRv (w : World) (v : Value) (ls : List (List UInt32)) : Prop := ∃ A c, v = .slice A ls.length c ∧ ls.length ≤ c ∧ (0 < ls.length → ∃ b o, A = some ⟨b, o, none⟩ ∧ b < w.heap.size ∧ ∀ i, i < ls.length → ∃ u, w.cell? ⟨b, o + i, none⟩ = some u ∧ RV w u (ls.getD i []))
theorem RRv.kept {w w' : World} {v : Value} {ls : List (List UInt32)} (h : RRv w v ls) (hb : Below w.heap.size w w') : RRv w' v ls := by
  obtain ⟨A, c, h1, h2, h3⟩ := h
  refine ⟨A, c, h1, h2, fun h0 => ?_⟩
  obtain ⟨b, o, h4, h5, h6⟩ := h3 h0
  refine ⟨b, o, h4, Nat.lt_of_lt_of_le h5 hb.size, fun i hi => ?_⟩
  obtain ⟨u, h7, h8⟩ := h6 i hi
  exact ⟨u, (hb.cell h5).trans h7, h8.kept hb⟩
theorem PartsAt.rr {w : World} {B : Nat} {pv : Value} {rows : List (List UInt32)} (h : PartsAt w B pv rows) (hl : ∀ l ∈ rows, l.length ≤ 1000000) : RRv w pv rows := by
  obtain ⟨vals, h1, h2, h3⟩ := h
  rcases h2.2 with ⟨rfl, h0⟩ | ⟨g, cap, cur, rfl, hB, hg, hc, _, hsz, htake⟩
  · obtain rfl : rows = [] := List.length_eq_zero_iff.1 h0
    exact ⟨none, 0, rfl, Nat.le_refl _, fun h => absurd h (by simp)⟩
  · have hblk : Blk w g 22 cur := hg
    refine ⟨_, cap, rfl, hc, fun _ => ⟨g, 0, rfl, hblk.lt, fun i hi => ⟨vals.getD i nilv, ?_, ?_⟩⟩⟩
    · rw [Nat.zero_add, hblk.cell]
      have h4 : (cur.toList.take (rows.length * 1))[i]? = vals[i]? := by rw [htake]
      rw [List.getElem?_take_of_lt (by omega)] at h4
      rw [List.getD_eq_getElem?_getD, ← Array.getElem?_toList, h4, List.getElem?_eq_getElem (by omega)]
      rfl
    · exact (h3.own i).rv (by
        have : rows.getD i [] ∈ rows := by
          rw [List.getD_eq_getElem?_getD, List.getElem?_eq_getElem hi]; exact List.getElem_mem hi
        exact hl _ this)
/-- The cell of a row, and what becomes of all when one is put behind it. -/
theorem PartsAt.cell {w : World} {B : Nat} {pv : Value} {rows : List (List UInt32)} (h : PartsAt w B pv rows) {i : Nat} (hi : i < rows.length) :
    ∃ g cap u, pv = .slice (some ⟨g, 0, none⟩) rows.length cap ∧ w.cell? ⟨g, i, none⟩ = some u ∧ w.frozen? ⟨g, i, none⟩ = false ∧ (∃ cur, Blk w g 22 cur) ∧ Oq w B u (rows.getD i []) ∧
      ∀ w1 v' x, Below w.heap.size w w1 → ∀ w', Oq w' B v' (rows.getD i [] ++ [x]) → w1.grownBy w' u.ownBlock → (∃ b, v'.ownBlock = some b ∧ (u.ownBlock = some b ∨ w1.heap.size ≤ b)) →
        w'.cell? ⟨g, i, none⟩ = some u ∧ w'.frozen? ⟨g, i, none⟩ = false ∧ PartsAt (w'.setCell ⟨g, i, none⟩ v') B pv (rows.set i (rows.getD i [] ++ [x])) := by
  obtain ⟨vals, h1, h2, h3⟩ := h
  have h20 := h2
  rcases h2.2 with ⟨rfl, h0⟩ | ⟨g, cap, cur, rfl, hB, hg, hc, hm, hsz, htake⟩
  · omega
  · have hblk : Blk w g 22 cur := hg
    have hcur : ∀ j, j < rows.length → cur[j]? = some (vals.getD j nilv) := fun j hj => by
      have h4 : (cur.toList.take (rows.length * 1))[j]? = vals[j]? := by rw [htake]
      rw [List.getElem?_take_of_lt (by omega)] at h4
      rw [List.getD_eq_getElem?_getD, ← Array.getElem?_toList, h4, List.getElem?_eq_getElem (by omega)]
      rfl
    refine ⟨g, cap, vals.getD i nilv, rfl, by rw [hblk.cell]; exact hcur i hi, hblk.thaw _, ⟨cur, hblk⟩, h3.own i, fun w1 v' x hb1 w' ho' hg' hbk => ?_⟩
    have hblk1 := hblk.kept hb1 hblk.lt
    have h31 := h3.still (Still.below hb1)
    have hblk' : Blk w' g 22 cur := (hg'.block g hblk1.lt (fun e => by
      obtain ⟨_, _, c2, hc2⟩ := (h31.own i).lt e.symm
      unfold Blk at hc2 hblk1
      rw [hblk1] at hc2
      injection hc2 with hc2
      injection hc2 with _ h2
      exact absurd h2 (by decide))).trans hblk1
    refine ⟨by rw [hblk'.cell]; exact hcur i hi, hblk'.thaw _, ?_⟩
    have hfam := Fam.push (k := i) h31 ho' hg' hbk
    have hst : Still w' (w'.setCell ⟨g, i, none⟩ v') := Still.put hblk' (by decide) v'
    refine ⟨vals.set i v', by simp [h1], ⟨by simp [h1], .inr ⟨g, cap, cur.setIfInBounds i v', by rw [List.length_set], hB, hblk'.put i v', by rw [List.length_set]; exact hc, hm, by simp [hsz], ?_⟩⟩, ?_⟩
    · rw [List.length_set, Array.toList_setIfInBounds, List.take_set, htake]
    · have hi2 : i < vals.length := by omega
      refine ⟨fun j => ?_, fun j k b hjk hj hk => ?_⟩
      · have := (hfam.own j).still hst
        unfold upd at this
        by_cases e : j = i
        · subst e
          simpa [hi, hi2] using this
        · simpa [e, Ne.symm e, List.getElem?_set] using this
      · have := hfam.apart j k b hjk
        unfold upd at this
        refine this ?_ ?_
        · by_cases e : j = i
          · subst e; simpa [hi2] using hj
          · simpa [e, Ne.symm e, List.getElem?_set] using hj
        · by_cases e : k = i
          · subst e; simpa [hi2] using hk
          · simpa [e, Ne.symm e, List.getElem?_set] using hk
end Go.Proofs.Ytbhoingiibcboaa
