/- Rows of darts of one's own, wherever they begin; many of them apart. -/
import Derived.Test.YtcinbmekjlmdpaaY08
import Derived.Maps.AppendAt
import Derived.ArgAppend
import Derived.Test.YtcinbmekjlmdpaaY09
import Derived.Deep.RegionHeld3

/-! Rows of darts of one's own, wherever they begin; many of them apart. -/
namespace Go.Proofs.Ytcinbmekjlmdpaa
open Go.RowKit

/-- All rows of darts stay. -/
def Still (w w' : World) : Prop := ∀ g cur, Blk w g 30 cur → Blk w' g 30 cur
theorem Still.refl (w : World) : Still w w := fun _ _ h => h
theorem Still.trans {a b c : World} (h : Still a b) (k : Still b c) : Still a c := fun g cur hb => k g cur (h g cur hb)
theorem Still.below {w w' : World} (h : Below w.heap.size w w') : Still w w' := fun _ _ hb => hb.kept h hb.lt
theorem Still.put {w : World} {g i : Nat} {t : TypeId} {cs : Array Value} (h : Blk w g t cs) (ht : t ≠ 30) (v : Value) : Still w (w.setCell ⟨g, i, none⟩ v) := fun k cur hb =>
  hb.off (fun e => by
    have e' : k = g := e
    subst e'
    unfold Blk at h hb
    rw [h] at hb
    injection hb with hb
    injection hb with _ h2
    exact ht h2) v
/-- A row of darts of one's own. -/
def Oq (w : World) (base : Nat) (v : Value) (l : List UInt32) : Prop :=
  (v = .slice none 0 0 ∧ l = []) ∨ ∃ g off cap cur, v = .slice (some ⟨g, off, none⟩) l.length cap ∧ base ≤ g ∧ Blk w g 30 cur ∧ off + cap ≤ cur.size ∧ l.length ≤ cap ∧ cap ≤ maxLen ∧ ∀ i, i < l.length → cur[off + i]? = some (V (l.getD i 0))
theorem Oq.nil (w : World) (base : Nat) : Oq w base (.slice none 0 0) [] := .inl ⟨rfl, rfl⟩
theorem Oq.still {w w' : World} {base : Nat} {v : Value} {l : List UInt32} (h : Oq w base v l) (hs : Still w w') : Oq w' base v l := by
  rcases h with h | ⟨g, off, cap, cur, h1, h2, h3, h4⟩
  · exact .inl h
  · exact .inr ⟨g, off, cap, cur, h1, h2, hs _ _ h3, h4⟩
theorem Oq.grown {w w' : World} {base : Nat} {v : Value} {l : List UInt32} (h : Oq w base v l) {r : Option Nat} (hg : w.grownBy w' r) (hne : ∀ b, v.ownBlock = some b → r ≠ some b) : Oq w' base v l := by
  rcases h with h | ⟨g, off, cap, cur, rfl, h2, h3, h4⟩
  · exact .inl h
  · exact .inr ⟨g, off, cap, cur, rfl, h2, (hg.block g h3.lt (fun e => hne g rfl e.symm)).trans h3, h4⟩
theorem Oq.rv {w : World} {base : Nat} {v : Value} {l : List UInt32} (h : Oq w base v l) (hl : l.length ≤ 1000000) : RV w v l := by
  rcases h with ⟨rfl, rfl⟩ | ⟨g, off, cap, cur, rfl, h2, h3, h4, h5, h6, h7⟩
  · exact RV.nil w
  · refine ⟨_, cap, rfl, h5, hl, fun h0 => ⟨g, off, rfl, h3.lt, fun i hi => ?_⟩⟩
    rw [h3.cell, h7 i hi, getD_at hi]
theorem Oq.lt {w : World} {base : Nat} {v : Value} {l : List UInt32} (h : Oq w base v l) {b : Nat} (hb : v.ownBlock = some b) : b < w.heap.size ∧ base ≤ b ∧ ∃ cur, Blk w b 30 cur := by
  rcases h with ⟨rfl, _⟩ | ⟨g, off, cap, cur, rfl, h2, h3, h4⟩
  · cases hb
  · cases hb
    exact ⟨h3.lt, h2, cur, h3⟩
theorem Oq.owned {w : World} {base n : Nat} {v : Value} {l : List UInt32} (h : w.ownsRow base 30 1 v n (l.map V)) : Oq w base v l := by
  have hn : l.length = n := by have := h.1; simpa using this
  subst hn
  rcases h.2 with ⟨rfl, h0⟩ | ⟨b, cap, cur, rfl, hb, hgc, hcap, hm, hsz, htake⟩
  · exact .inl ⟨rfl, List.length_eq_zero_iff.1 h0⟩
  · refine .inr ⟨b, 0, cap, cur, rfl, hb, hgc, by omega, hcap, hm, fun i hi => ?_⟩
    have h1 : (cur.toList.take (l.length * 1))[i]? = (l.map V)[i]? := by rw [htake]
    rw [List.getElem?_take_of_lt (by omega)] at h1
    rw [Nat.zero_add, ← getD_at hi]
    simpa [hi] using h1
theorem info31 : ∃ i, Try.prog.info? 30 = some i ∧ i.zero = some (.int .u32 0) ∧ i.size = 1 ∧ i.bytes = 4 := by
  have h : (Try.prog.info? 30).map (fun i => (i.zero, i.size, i.bytes)) = some (some (.int .u32 0), 1, 4) := by kernel_rfl
  cases hi : Try.prog.info? 30 with
  | none => rw [hi] at h; cases h
  | some i =>
    rw [hi] at h
    simp only [Option.map_some, Option.some.injEq, Prod.mk.injEq] at h
    exact ⟨i, rfl, h.1, h.2.1, h.2.2⟩
theorem one_cell (x : UInt32) : ∀ u ∈ [V x], u.oneCell' = true := by intro u hu; rw [List.mem_singleton] at hu; subst hu; rfl
theorem src_one {w : World} {g0 : Nat} {x : UInt32} (h : Blk w g0 30 #[V x]) : ∀ j u, [V x][j]? = some u → w.cell? ((⟨g0, 0, none⟩ : Addr).add j) = some u := by
  intro j u hj
  match j, hj with
  | 0, hj =>
    simp at hj
    subst hj
    rw [addr_add]
    exact h.cell 0
set_option maxRecDepth 100000 in
/-- One is put behind a row of one's own. -/
theorem run_push (w : World) (base : Nat) (ty : TypeId) (v : Value) (l : List UInt32) (x : UInt32) (g0 : Nat) (h : Oq w base v l) (hl : l.length < 1000000) (hb : base ≤ w.heap.size) (hsrc : Blk w g0 30 #[V x]) :
    ∃ v' w', (Builtin.append_ #[22, 22] ty #[v, .slice (some ⟨g0, 0, none⟩) 1 1]).run Try.prog w = .ok v' w' ∧ Oq w' base v' (l ++ [x]) ∧ w.grownBy w' v.ownBlock ∧ (∃ b, v'.ownBlock = some b ∧ (v.ownBlock = some b ∨ w.heap.size ≤ b)) := by
  obtain ⟨i, hi, hz, hs, hby⟩ := info31
  rcases h with ⟨rfl, rfl⟩ | ⟨g, off, cap, cur, rfl, h2, h3, h4, h5, h6, h7⟩
  · obtain ⟨v', w', h1, h2, h3, h4, h5⟩ := run_append_own_at (P := Try.prog) (w := w) base 22 ty 30 i (.int .u32 0) 1 4 Try.underlying22 hi hz hs hby rfl (by decide) (.slice none 0 0) 0 [] (World.ownsRow_nil _ _ _ _) ⟨g0, 0, none⟩ 1 1 [V x] rfl (src_one hsrc) (one_cell x) (by decide) (by decide) hb
    refine ⟨v', w', h1, Oq.owned (n := 1) (by simpa using h2), h3, ?_⟩
    rcases h5 with h5 | h5
    · exfalso
      rcases h2.2 with ⟨_, h0⟩ | ⟨b, cap, cur, rfl, _⟩
      · cases h0
      · cases h5
    · exact ⟨_, h5, .inr (Nat.le_refl _)⟩
  · by_cases hroom : l.length + 1 ≤ cap
    · have hr := run_append_room_cells (P := Try.prog) w 22 ty 30 i Try.underlying22 hi g off l.length cap ⟨g0, 0, none⟩ 1 1 [V x] (by simp [hs]) (src_one hsrc) (one_cell x) hroom
        (fun j hj => by rw [h3.cell, hs]; simp at hj; subst hj; rw [Array.getElem?_eq_getElem (by omega)]; rfl) (fun j hj => h3.thaw _)
      rw [hs, Nat.mul_one] at hr
      have hset : w.setCells g (off + l.length) [V x] = w.setCell ⟨g, off + l.length, none⟩ (V x) := rfl
      rw [hset] at hr
      refine ⟨_, _, hr, .inr ⟨g, off, cap, _, by rw [List.length_append, List.length_singleton], h2, h3.put _ _, by rw [Array.size_setIfInBounds]; exact h4, by rw [List.length_append, List.length_singleton]; exact hroom, h6, fun k hk => ?_⟩, ⟨rfl, rfl, rfl, by simp [World.setCell], fun k _ hk => heap_setCell_other w _ k _ (fun e => hk (by rw [e]; rfl))⟩, g, rfl, .inl rfl⟩
      rw [List.length_append, List.length_singleton] at hk
      by_cases e : k = l.length
      · subst e
        rw [Array.getElem?_setIfInBounds_self_of_lt (by omega)]
        simp
      · rw [Array.getElem?_setIfInBounds_ne (by omega), h7 k (by omega)]
        congr 2
        rw [← getD_at (by omega : k < l.length), ← getD_at (by rw [List.length_append]; simp; omega), List.getElem_append_left]
    · obtain ⟨v', w', h1, h8, h9⟩ := run_append_arg_grows (P := Try.prog) w 22 ty 30 i (.int .u32 0) 1 4 Try.underlying22 hi hz hs hby rfl (by decide) ⟨g, off, none⟩ l.length cap (l.map V) (by simp)
        (fun j u hu => by
          rw [addr_add, h3.cell]
          rw [List.getElem?_map] at hu
          by_cases hj : j < l.length
          · rw [h7 j hj, ← getD_at hj]; simpa [hj] using hu
          · rw [List.getElem?_eq_none (by omega)] at hu; cases hu) ⟨g0, 0, none⟩ 1 1 [V x] rfl (src_one hsrc) (by omega) (by unfold maxLen; omega) (by omega)
      have ho : Oq w' w.heap.size v' (l ++ [x]) := Oq.owned (n := l.length + 1) (by rw [List.map_append]; exact h8)
      refine ⟨v', w', h1, ?_, ⟨h9.os, h9.tape, h9.output, h9.size, fun k hk _ => h9.block k hk (by simp)⟩, ?_⟩
      · rcases ho with ⟨_, h0⟩ | ⟨g', off', cap', cur', q1, q2, q3⟩
        · simp at h0
        · exact .inr ⟨g', off', cap', cur', q1, Nat.le_trans hb q2, q3⟩
      · rcases h8.2 with ⟨rfl, h0⟩ | ⟨g', cap', cur', rfl, q2, q3, _⟩
        · simp at h0
        · exact ⟨g', rfl, .inr q2⟩
end Go.Proofs.Ytcinbmekjlmdpaa

/-! Many rows apart; the vertices near each; graph.nearOf. -/
namespace Go.Proofs.Ytcinbmekjlmdpaa
open Go.RowKit

def upd {K A : Type} [DecidableEq K] (f : K → A) (k : K) (v : A) : K → A := fun y => if y = k then v else f y
/-- Rows apart. -/
structure Fam {K : Type} (w : World) (base : Nat) (f : K → Value) (L : K → List UInt32) : Prop where
  own : ∀ x, Oq w base (f x) (L x)
  apart : ∀ x y b, x ≠ y → (f x).ownBlock = some b → (f y).ownBlock ≠ some b
theorem Fam.still {K : Type} {w w' : World} {base : Nat} {f : K → Value} {L : K → List UInt32} (h : Fam w base f L) (hs : Still w w') : Fam w' base f L := ⟨fun x => (h.own x).still hs, h.apart⟩
theorem Fam.push {K : Type} [DecidableEq K] {w w' : World} {base : Nat} {f : K → Value} {L : K → List UInt32} {k : K} {v' : Value} {x : UInt32} (h : Fam w base f L) (h1 : Oq w' base v' (L k ++ [x])) (hg : w.grownBy w' (f k).ownBlock)
    (hb : ∃ b, v'.ownBlock = some b ∧ ((f k).ownBlock = some b ∨ w.heap.size ≤ b)) : Fam w' base (upd f k v') (upd L k (L k ++ [x])) := by
  obtain ⟨b, hb1, hb2⟩ := hb
  have hoth : ∀ y, y ≠ k → (f y).ownBlock ≠ some b := fun y hy e => by
    rcases hb2 with hb2 | hb2
    · exact h.apart y k b hy e hb2
    · have := ((h.own y).lt e).1; omega
  refine ⟨fun y => ?_, fun y z c hyz hc hd => ?_⟩
  · unfold upd
    by_cases e : y = k
    · subst e; simp only [if_true]; exact h1
    · simp only [e, if_false]
      exact (h.own y).grown hg (fun c hc hd => h.apart y k c e hc hd)
  · unfold upd at hc hd
    by_cases e : y = k
    · subst e
      have hz : z ≠ y := fun q => hyz q.symm
      simp only [if_true] at hc
      simp only [hz, if_false] at hd
      rw [hb1] at hc
      cases hc
      exact hoth z hz hd
    · simp only [e, if_false] at hc
      by_cases e2 : z = k
      · subst e2
        simp only [if_true] at hd
        rw [hb1] at hd
        cases hd
        exact hoth y e hc
      · simp only [e2, if_false] at hd
        exact h.apart y z c hyz hc hd
theorem Mu.map {w : World} {m n : Nat} {f : UInt32 → Option Value} (h : Mu w m n f) : ∃ es c, w.heap[m]? = some (.map es c) := by
  obtain ⟨D, ⟨es, clock, h1, _⟩, _⟩ := h
  exact ⟨es, clock, h1⟩
theorem Still.ex {w w' : World} {m n : Nat} {f : UInt32 → Option Value} (h : Mu w m n f) (hx : Ex m w w') : Still w w' := fun g cur hb => by
  obtain ⟨es, c, hm⟩ := h.map
  refine hx.blk hb (fun e => ?_)
  subst e
  unfold Blk at hb
  rw [hm] at hb
  cases hb
/-- A map of rows apart. -/
def NearAt (w : World) (base nm n : Nat) (f : UInt32 → Option Value) (L : UInt32 → List UInt32) : Prop := Mu w nm n f ∧ Fam w base (fun x => (f x).getD (.slice none 0 0)) L
theorem NearAt.below {w w' : World} {base nm n : Nat} {f : UInt32 → Option Value} {L : UInt32 → List UInt32} (h : NearAt w base nm n f L) (hb : Below w.heap.size w w') : NearAt w' base nm n f L :=
  ⟨h.1.kept (hb.block nm h.1.lt), h.2.still (Still.below hb)⟩
theorem zero22 (w : World) : (zeroValue 22).run Try.prog w = .ok (.slice none 0 0) w := by kernel_rfl
theorem NearAt.look {w : World} {base nm n : Nat} {f : UInt32 → Option Value} {L : UInt32 → List UInt32} (h : NearAt w base nm n f L) (x : UInt32) :
    (Instr.lookup 29 (.map (some nm)) (V x) false).run Try.prog w = .ok ((f x).getD (.slice none 0 0)) w :=
  h.1.look 29 22 Try.underlying29 _ (zero22 w) x
/-- One put behind the row of a key. -/
theorem near_push {W : World} {base nm n : Nat} {f : UInt32 → Option Value} {L : UInt32 → List UInt32} (a d : UInt32) (ty : TypeId) (h : NearAt W base nm n f L) (hl : (L a).length < 1000000) (hb : base ≤ W.heap.size) (hnm : base ≤ nm) (hn : n < 1000000) :
    ∃ v' w' w'' f', (Builtin.append_ #[22, 22] ty #[(f a).getD (.slice none 0 0), .slice (some ⟨W.heap.size, 0, none⟩) 1 1]).run Try.prog (W.alloc (.cells #[V d] 30)) = .ok v' w' ∧
      (Instr.mapUpdate 29 (.map (some nm)) (V a) v').run Try.prog w' = .ok () w'' ∧ NearAt w'' base nm (n + 1) f' (upd L a (L a ++ [d])) ∧ Below base W w'' ∧
      (∀ g t cs, Blk W g t cs → t ≠ 30 → Blk w' g t cs ∧ Blk w'' g t cs) := by
  have hB : Below W.heap.size W (W.alloc (.cells #[V d] 30)) := (Below.refl _ W).alloc (Nat.le_refl _) _
  have h1 := h.below hB
  obtain ⟨v', w', hr, ho, hg, hbk⟩ := run_push (W.alloc (.cells #[V d] 30)) base ty _ _ d W.heap.size (h1.2.own a) hl (Nat.le_trans hb hB.size) (Blk.fresh W _ _)
  have hnm0 : (W.alloc (.cells #[V d] 30)).heap[nm]? = w'.heap[nm]? := (hg.block nm h1.1.lt (fun e => by
    obtain ⟨_, _, cur, hcur⟩ := (h1.2.own a).lt e.symm
    obtain ⟨es, c, hm⟩ := h1.1.map
    unfold Blk at hcur
    rw [hm] at hcur
    cases hcur)).symm
  have hmu : Mu w' nm n f := h1.1.kept hnm0.symm
  obtain ⟨w'', hr2, hmu2, hex, hsz⟩ := hmu.put 29 22 Try.underlying29 (by unfold maxLen; omega) a v'
  have hfam := (h1.2.push ho hg hbk).still (Still.ex hmu hex)
  have hBg : Below base (W.alloc (.cells #[V d] 30)) w' := ⟨hg.os, hg.tape, hg.output, hg.size, fun k hk => hg.block k (Nat.lt_of_lt_of_le hk (Nat.le_trans hb hB.size)) (fun e => by
    have := ((h1.2.own a).lt e.symm).2.1; omega)⟩
  refine ⟨v', w', w'', _, hr, hr2, ⟨hmu2, ?_⟩, ?_, fun g t cs hbl ht => ?_⟩
  · have e : (fun x => ((if x = a then some v' else f x) : Option Value).getD (.slice none 0 0)) = upd (fun x => (f x).getD (.slice none 0 0)) a v' := by
      funext x
      unfold upd
      by_cases q : x = a
      · simp [q]
      · simp [q]
    rw [e]
    exact hfam
  · exact ((Below.mono hB hb).trans hBg).trans ⟨hex.os, hex.tape, hex.output, hex.size, fun k hk => hex.block k (Nat.lt_of_lt_of_le hk (Nat.le_trans (Nat.le_trans hb hB.size) hBg.size)) (by omega)⟩
  · have k1 : Blk w' g t cs := (hg.block g (Nat.lt_of_lt_of_le hbl.lt hB.size) (fun e => by
      obtain ⟨_, _, cur, hcur⟩ := (h1.2.own a).lt e.symm
      have hk := hbl.kept hB hbl.lt
      unfold Blk at hcur hk
      rw [hk] at hcur
      injection hcur with hcur
      injection hcur with _ h2
      exact ht h2)).trans (hbl.kept hB hbl.lt)
    exact ⟨k1, hex.blk k1 (fun e => by
      subst e
      obtain ⟨es, c, hm⟩ := hmu.map
      unfold Blk at k1
      rw [hm] at k1
      cases k1)⟩
/-- The vertices at the other ends of a vertex's edges. -/
def nbr (es : List Eg) (x : UInt32) : List UInt32 := es.flatMap fun e => (if e.a = x then [e.b] else []) ++ (if e.b = x then [e.a] else [])
theorem nbr_succ {es : List Eg} {k : Nat} (h : k < es.length) : nbr (es.take (k + 1)) = upd (upd (nbr (es.take k)) (es.getD k e0).a (nbr (es.take k) (es.getD k e0).a ++ [(es.getD k e0).b])) (es.getD k e0).b ((upd (nbr (es.take k)) (es.getD k e0).a (nbr (es.take k) (es.getD k e0).a ++ [(es.getD k e0).b])) (es.getD k e0).b ++ [(es.getD k e0).a]) := by
  funext x
  rw [List.take_succ_eq_append_getElem h, getE_at h]
  unfold nbr upd
  simp only [List.flatMap_append, List.flatMap_cons, List.flatMap_nil, List.append_nil]
  generalize es.getD k e0 = e
  by_cases h1 : x = e.a
  · subst h1
    by_cases h2 : e.a = e.b
    · simp [h2]
    · simp [h2, Ne.symm h2]
  · by_cases h2 : x = e.b
    · subst h2
      simp [h1, Ne.symm h1]
    · simp [h1, h2, Ne.symm h1, Ne.symm h2]
theorem nbr_len (es : List Eg) (x : UInt32) : (nbr es x).length ≤ 2 * es.length := by
  induction es with
  | nil => simp [nbr]
  | cons e r ih =>
    unfold nbr at *
    rw [List.flatMap_cons, List.length_append, List.length_cons]
    have : ((if e.a = x then [e.b] else []) ++ (if e.b = x then [e.a] else [])).length ≤ 2 := by
      rw [List.length_append]; split <;> split <;> simp
    omega
theorem nbr_take (es : List Eg) (k : Nat) (x : UInt32) : (nbr (es.take k) x).length ≤ 2 * es.length := by
  have := nbr_len (es.take k) x
  have h2 : (es.take k).length ≤ es.length := by rw [List.length_take]; omega
  omega
end Go.Proofs.Ytcinbmekjlmdpaa

/-! graph.nearOf. -/
namespace Go.Proofs.Ytcinbmekjlmdpaa
open Go.RowKit

theorem step_ran {P : Program} {ops : Array Oper} {o : Oper} {a : Act} {w : World} {K : Act → World → Prop} {Q : Exit → Act → World → Prop} {E : Prop}
    (hg : o.guard = none) (s x : Operand) (t tn : TypeId) (ho : o.op = .call { callee := .builtin .append, args := #[s, x], argTypes := #[t, tn] }) (v u : Value) (hs : a.eval s = v) (hx : a.eval x = u) {v' : Value} {w' : World}
    (hr : (Builtin.append_ #[t, tn] o.type #[v, u]).run P w = .ok v' w') (hK : K (a.put o.dst v') w') :
    if Region.wanted o (yielded ops a.tmps) = true then Oper.wp P o a w K Q else E := by
  have hw : Region.wanted o (yielded ops a.tmps) = true := by simp [Region.wanted, hg]
  rw [if_pos hw]
  exact Lib.wp_append_run w s x t tn ho v u hs hx v' w' hr hK
theorem Oq.base {w : World} {b b' : Nat} {v : Value} {l : List UInt32} (h : Oq w b v l) (hb : b' ≤ b) : Oq w b' v l := by
  rcases h with h | ⟨g, off, cap, cur, h1, h2, h3⟩
  · exact .inl h
  · exact .inr ⟨g, off, cap, cur, h1, Nat.le_trans hb h2, h3⟩
theorem NearAt.base {w : World} {b b' nm n : Nat} {f : UInt32 → Option Value} {L : UInt32 → List UInt32} (h : NearAt w b nm n f L) (hb : b' ≤ b) : NearAt w b' nm n f L :=
  ⟨h.1, ⟨fun x => (h.2.own x).base hb, h.2.apart⟩⟩
theorem upd_len (L : UInt32 → List UInt32) (a d y : UInt32) : (upd L a (L a ++ [d]) y).length ≤ (L y).length + 1 := by
  unfold upd
  by_cases h : y = a
  · subst h; simp
  · simp [h]
theorem Below.dr (B : Nat) (w : World) : Below B w w.drew := ⟨rfl, rfl, rfl, Nat.le_refl _, fun _ _ => rfl⟩
theorem Fam.none {K : Type} (w : World) (base : Nat) : Fam (K := K) w base (fun _ => (.slice none 0 0)) (fun _ => []) :=
  ⟨fun _ => Oq.nil w base, fun _ _ _ _ h => by cases h⟩
theorem NearAt.empty (w : World) (base : Nat) : NearAt (w.alloc (.map #[] 0)) base w.heap.size 0 (fun _ => none) (fun _ => []) :=
  ⟨Mu.empty w, Fam.none _ _⟩
attribute [local irreducible] V
attribute [local irreducible] wpList in
set_option maxRecDepth 100000 in
set_option maxHeartbeats 4000000 in
/-- graph.nearOf. -/
theorem near_walk (w : World) (v : Value) (g : Gr) (h : RG w v g) (hE : g.es.length ≤ 1000) :
    Calls Try.prog 33 #[v] w fun e w' => ∃ nm f, e = .returned (.map (some nm)) ∧ NearAt w' w.heap.size nm (2 * g.es.length) f (nbr g.es) ∧ Below w.heap.size w w' := by
  obtain ⟨A, c, B, d, rfl, _, _, hr, hre⟩ := h
  have hne := hre.len
  have hmm := @run_makeMap Try.prog
  have HB : Hid (Below w.heap.size w (w.alloc (.cells #[.slice A g.vs.length c, .slice B g.es.length d] 25))) := (Below.refl _ w).alloc (Nat.le_refl _) _
  have HBK : Hid (Blk (w.alloc (.cells #[.slice A g.vs.length c, .slice B g.es.length d] 25)) w.heap.size 25 #[.slice A g.vs.length c, .slice B g.es.length d]) := Blk.fresh _ _ _
  have HRE := Lib.hid (hre.kept HB.out (Nat.le_refl _))
  clear hr hre
  go_enter Try.func33, Try.ntmps33
  go_wp2
  have HSZ : Hid ((w.alloc (.cells #[.slice A g.vs.length c, .slice B g.es.length d] 25)).heap.size = w.heap.size + 1) := by show _ = _; simp
  generalize hw1 : w.alloc (.cells #[.slice A g.vs.length c, .slice B g.es.length d] 25) = w1 at *
  clear hw1
  have HN0 : Hid (NearAt (w1.alloc (.map #[] 0)) (w.heap.size + 1) (w.heap.size + 1) 0 (fun _ => none) (fun _ => [])) := by
    have := NearAt.empty w1 (w.heap.size + 1)
    rw [HSZ.out] at this
    exact this
  have HB1 : Hid (Below (w.heap.size + 1) w1 (w1.alloc (.map #[] 0))) := (Below.refl _ _).alloc (by rw [HSZ.out]; exact Nat.le_refl _) _
  go_loopw [10] (fun i wr => ∃ (k : Nat) (f : UInt32 → Option Value), k ≤ g.es.length ∧ i = .int .i64 k ∧ NearAt wr (w.heap.size + 1) (w.heap.size + 1) (2 * k) f (nbr (g.es.take k)) ∧ Below (w.heap.size + 1) w1 wr) (fun i _ => g.es.length - (intOf i).toNat)
  case atStart => exact ⟨0, _, Nat.zero_le _, rfl, HN0.out, HB1.out⟩
  case round =>
    obtain ⟨k, f, hk, rfl, hna, hb⟩ := hrel
    have HNA := Lib.hid hna
    have HBR := Lib.hid hb
    have HSR : Hid (w.heap.size + 1 ≤ wr.heap.size) := by show _ ≤ _; have := hb.size; rw [HSZ.out] at this; exact this
    have HBW : Hid (Below w.heap.size w wr) := HB.out.trans (Below.mono hb (Nat.le_succ _))
    clear hna hb
    by_cases hlt : k < g.es.length
    · obtain ⟨b, o, rfl, hc⟩ := (HRE.out.kept (Below.mono HBR.out (Nat.le_refl _)) (by rw [HSZ.out]; exact Nat.le_refl _)).spot (by omega)
      obtain ⟨hc1, hc2, hc3⟩ := hc k hlt
      have HS := Lib.hid (nbr_succ hlt)
      have HL1 := Lib.hid (nbr_take g.es k)
      have hz := zero39
      clear hc
      generalize g.es.getD k e0 = x at *
      go_wp2_with (refine wpList_store_fresh rfl 39 (.tmp 5) (.tmp 13) rfl #[V x.id, V x.a, V x.b] rfl rfl (by kernel_rfl) rfl (all3 _ _ _) ?_; intro w2 hb2 hs2 hk2; have HB2 := Lib.hid hb2; have HK2 := Lib.hid hk2; have HS2W := Lib.hid hs2; clear hb2 hs2 hk2)
      have HNA2 : Hid (NearAt w2.drew (w.heap.size + 1) (w.heap.size + 1) (2 * k) f (nbr (g.es.take k))) := HNA.out.below (HB2.out.trans ⟨rfl, rfl, rfl, Nat.le_refl _, fun _ _ => rfl⟩)
      obtain ⟨v3, w3, w4, f4, hr3, hr4, hn4, hb4, hk4⟩ := near_push x.a x.b 22 HNA2.out (by have := HL1.out x.a; omega) (by have := HSR.out; have := HB2.out.size; show _ ≤ w2.heap.size; omega) (Nat.le_refl _) (by omega)
      have hl1 := HNA2.out.look x.a
      have hl2 : (Instr.lookup 29 (.map (some (w.heap.size + 1))) (V x.a) false).run Try.prog (w2.alloc (.cells #[V x.b] 30)).drew = .ok ((f x.a).getD (.slice none 0 0)) (w2.alloc (.cells #[V x.b] 30)).drew := (HNA2.out.below ((Below.refl _ w2.drew).alloc (Nat.le_refl _) (.cells #[V x.b] 30))).look x.a
      have S0 : Hid (w2.drew.cell? ⟨wr.heap.size, 1, none⟩ = some (V x.a) ∧ w2.drew.cell? ⟨wr.heap.size, 2, none⟩ = some (V x.b)) := ⟨HK2.out.cell 1, HK2.out.cell 2⟩
      have S1 : Hid ((w2.drew.alloc (.cells #[V x.b] 30)).cell? ⟨wr.heap.size, 1, none⟩ = some (V x.a) ∧ (w2.drew.alloc (.cells #[V x.b] 30)).cell? ⟨wr.heap.size, 2, none⟩ = some (V x.b)) := ⟨(HK2.out.more _).cell 1, (HK2.out.more _).cell 2⟩
      have HK3 := Lib.hid (hk4 wr.heap.size 39 #[V x.id, V x.a, V x.b] HK2.out (by decide))
      have S2 : Hid (w3.cell? ⟨wr.heap.size, 1, none⟩ = some (V x.a) ∧ w3.cell? ⟨wr.heap.size, 2, none⟩ = some (V x.b)) := ⟨HK3.out.1.cell 1, HK3.out.1.cell 2⟩
      have S3 : Hid (w4.cell? ⟨wr.heap.size, 1, none⟩ = some (V x.a) ∧ w4.cell? ⟨wr.heap.size, 2, none⟩ = some (V x.b)) := ⟨HK3.out.2.cell 1, HK3.out.2.cell 2⟩
      have HN4 := Lib.hid hn4
      have HB4 := Lib.hid hb4
      have HR3 := Lib.hid hr3
      have r6 := V_cells x.b
      unfold Value.cells at r6
      clear hn4 hb4 hk4 hr3
      generalize (f x.a).getD (.slice none 0 0) = fv at *
      go_region_held3 (fun W => W.cell? ⟨wr.heap.size, 1, none⟩ = some (V x.a) ∧ W.cell? ⟨wr.heap.size, 2, none⟩ = some (V x.b)) (first | exact S0.out | exact S1.out | exact S2.out | exact S3.out) (refine step_ran rfl (.tmp 20) (.tmp 23) 22 22 rfl _ _ rfl rfl HR3.out ?_)
      all_goals
        clear hl1 hl2 S0 S1 S2 S3 r6 hr4
        go_wp2
        have HNA4 : Hid (NearAt w4.drew (w.heap.size + 1) (w.heap.size + 1) (2 * k + 1) f4 (upd (nbr (g.es.take k)) x.a (nbr (g.es.take k) x.a ++ [x.b]))) := HN4.out.below ⟨rfl, rfl, rfl, Nat.le_refl _, fun _ _ => rfl⟩
        obtain ⟨v5, w5, w6, f6, hr5, hr6, hn6, hb6, hk6⟩ := near_push x.b x.a 22 HNA4.out (by have := HL1.out x.b; have := upd_len (nbr (g.es.take k)) x.a x.b x.b; omega) (by have := HSR.out; have := HB2.out.size; have : w2.heap.size ≤ w4.heap.size := HB4.out.size; show _ ≤ w4.heap.size; omega) (Nat.le_refl _) (by omega)
        have hl1 := HNA4.out.look x.b
        have hl2 : (Instr.lookup 29 (.map (some (w.heap.size + 1))) (V x.b) false).run Try.prog (w4.alloc (.cells #[V x.a] 30)).drew = .ok ((f4 x.b).getD (.slice none 0 0)) (w4.alloc (.cells #[V x.a] 30)).drew := (HNA4.out.below ((Below.refl _ w4.drew).alloc (Nat.le_refl _) (.cells #[V x.a] 30))).look x.b
        have S0 : Hid (w4.drew.cell? ⟨wr.heap.size, 1, none⟩ = some (V x.a) ∧ w4.drew.cell? ⟨wr.heap.size, 2, none⟩ = some (V x.b)) := ⟨HK3.out.2.cell 1, HK3.out.2.cell 2⟩
        have S1 : Hid ((w4.drew.alloc (.cells #[V x.a] 30)).cell? ⟨wr.heap.size, 1, none⟩ = some (V x.a) ∧ (w4.drew.alloc (.cells #[V x.a] 30)).cell? ⟨wr.heap.size, 2, none⟩ = some (V x.b)) := ⟨(HK3.out.2.more _).cell 1, (HK3.out.2.more _).cell 2⟩
        have HK5 := Lib.hid (hk6 wr.heap.size 39 #[V x.id, V x.a, V x.b] HK3.out.2 (by decide))
        have S2 : Hid (w5.cell? ⟨wr.heap.size, 1, none⟩ = some (V x.a) ∧ w5.cell? ⟨wr.heap.size, 2, none⟩ = some (V x.b)) := ⟨HK5.out.1.cell 1, HK5.out.1.cell 2⟩
        have S3 : Hid (w6.cell? ⟨wr.heap.size, 1, none⟩ = some (V x.a) ∧ w6.cell? ⟨wr.heap.size, 2, none⟩ = some (V x.b)) := ⟨HK5.out.2.cell 1, HK5.out.2.cell 2⟩
        have HN6 := Lib.hid hn6
        have HB6 := Lib.hid hb6
        have HR5 := Lib.hid hr5
        have r6 := V_cells x.a
        unfold Value.cells at r6
        clear hn6 hb6 hk6 hr5
        generalize (f4 x.b).getD (.slice none 0 0) = fv4 at *
        go_region_held3 (fun W => W.cell? ⟨wr.heap.size, 1, none⟩ = some (V x.a) ∧ W.cell? ⟨wr.heap.size, 2, none⟩ = some (V x.b)) (first | exact S0.out | exact S1.out | exact S2.out | exact S3.out) (refine step_ran rfl (.tmp 31) (.tmp 34) 22 22 rfl _ _ rfl rfl HR5.out ?_)
        all_goals
          clear hl1 hl2 hr6 r6
          go_wp2
          go_roundw
          case rel => exact ⟨k + 1, f6, by omega, by go_num, by rw [HS.out]; exact HN6.out, ((HBR.out.trans (Below.mono (HB2.out.trans (Below.dr _ w2)) HSR.out)).trans HB4.out).trans ((Below.dr _ w4).trans HB6.out)⟩
          case measure => simp [intOf]; omega
    · obtain rfl : k = g.es.length := by omega
      have hna := HNA.out
      rw [List.take_length] at hna
      have HNE := Lib.hid (hna.base (Nat.le_succ _))
      clear hna
      go_wp2
      go_ret
      exact ⟨_, f, rfl, HNE.out, HBW.out⟩
end Go.Proofs.Ytcinbmekjlmdpaa
