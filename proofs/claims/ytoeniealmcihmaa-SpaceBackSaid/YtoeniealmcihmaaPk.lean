/- The law of what is taken and given back. -/
import Derived.Test.YtoeniealmcihmaaPe
import Derived.Test.YtoeniealmcihmaaPj
import Derived.Maps.AppendAt
import Derived.Deep.AppendLies
namespace Go.Proofs.Ytoeniealmcihmaa
open Go.RowKit

theorem info33 : (Try.prog.info? 33).map (fun i => (i.zero, i.size, i.bytes)) = some (some (.agg #[.int .i64 0, .int .i64 0]), 2, 16) := by kernel_rfl
/-- A row of bytes, as it lies. -/
def BytesAt (w : World) (P : Option Addr) (n : Nat) (l : List UInt8) : Prop :=
  n = l.length ∧ (0 < n → ∃ b o, P = some ⟨b, o, none⟩ ∧ b < w.heap.size ∧ ∀ i (h : i < l.length), w.cell? ⟨b, o + i, none⟩ = some (.int .u8 (l[i].toNat : Int)))
/-- What the rounds keep: the space, its copy, the runs taken. -/
structure Bk (w : World) (g gc lbc : Nat) (pc : Option Addr) (mrc : List Value) (N : Nat) (v : Value) (L : List (Nat × Nat)) (P : Nat) (wr : World) : Prop where
  s : ∃ lb p mr, Spc wr g lb 10 p mr (tf P (N - P))
  c : Spc wr gc lbc 10 pc mrc (tf 0 N)
  row : wr.ownsRow w.heap.size 33 2 v L.length (RL L)
  tiles : Tiles L P
  le : P ≤ N
  ne : gc ≠ g
  hg : w.heap.size ≤ g
  bel : Below w.heap.size w wr
theorem Blk.unlike {w : World} {a b : Nat} {t u : TypeId} {cs ds : Array Value} (h : Blk w a t cs) (k : Blk w b u ds) (ht : t ≠ u) : a ≠ b := by
  rintro rfl
  unfold Blk at h k
  rw [h] at k
  simp only [Option.some.injEq, Obj.cells.injEq] at k
  exact ht k.2.1
theorem own_unlike {w : World} {base e size n b : Nat} {v : Value} {xs : List Value} {u : TypeId} {ds : Array Value} (h : w.ownsRow base e size v n xs) (k : Blk w b u ds) (hu : e ≠ u) : v.ownBlock ≠ some b := by
  rcases h.2 with ⟨rfl, _⟩ | ⟨g, cap, cur, rfl, _, hg, _⟩
  · simp [Value.ownBlock]
  · have := Blk.unlike (show Blk w g e cur from hg) k hu
    simpa [Value.ownBlock] using this
theorem Spc.grown {w w' : World} {base e size n g lb : Nat} {v : Value} {xs : List Value} {fr : Int} {p : Option Addr} {mr : List Value} {f : List Bool} (h : Spc w g lb fr p mr f) (ho : w.ownsRow base e size v n xs) (hg : w.grownBy w' v.ownBlock) (h1 : e ≠ 45) (h2 : e ≠ 4) : Spc w' g lb fr p mr f :=
  { h with blk := (hg.block g h.blk.lt (fun e => own_unlike ho h.blk h1 e.symm)).trans h.blk, pos := fun h0 => ⟨(h.pos h0).1, (hg.block lb (h.pos h0).2.lt (fun e => own_unlike ho (h.pos h0).2 h2 e.symm)).trans (h.pos h0).2⟩ }
/-- Another space, behind what turned one. -/
theorem Spc.ex {w w' : World} {g gc lb : Nat} {fr : Int} {p : Option Addr} {mr : List Value} {f : List Bool} {cs : Array Value} (h : Spc w gc lb fr p mr f) (hx : Ex g w w') (hg : Blk w g 45 cs) (hne : gc ≠ g) : Spc w' gc lb fr p mr f :=
  { h with blk := hx.blk h.blk hne, pos := fun h0 => ⟨(h.pos h0).1, hx.blk (h.pos h0).2 (Blk.unlike (h.pos h0).2 hg (by decide))⟩ }
theorem Spc.exRow {w w' : World} {lg gc lb : Nat} {fr : Int} {p : Option Addr} {mr : List Value} {f : List Bool} {cs : Array Value} (h : Spc w gc lb fr p mr f) (hx : Ex lg w w') (hg : Blk w lg 33 cs) : Spc w' gc lb fr p mr f :=
  { h with blk := hx.blk h.blk (Blk.unlike h.blk hg (by decide)), pos := fun h0 => ⟨(h.pos h0).1, hx.blk (h.pos h0).2 (Blk.unlike (h.pos h0).2 hg (by decide))⟩ }
theorem own_ex {w w' : World} {base e size n g : Nat} {v : Value} {xs : List Value} {cs : Array Value} (h : w.ownsRow base e size v n xs) (hx : Ex g w w') (hg : Blk w g 45 cs) (he : e ≠ 45) : w'.ownsRow base e size v n xs := by
  obtain ⟨h1, h2⟩ := h
  refine ⟨h1, ?_⟩
  rcases h2 with h2 | ⟨b, cap, cur, h3, h4, h5, h6⟩
  · exact .inl h2
  · exact .inr ⟨b, cap, cur, h3, h4, hx.blk (show Blk w b e cur from h5) (Blk.unlike (show Blk w b e cur from h5) hg he), h6⟩
theorem own_below {w w' : World} {base e size n : Nat} {v : Value} {xs : List Value} (h : w.ownsRow base e size v n xs) (hb : Below w.heap.size w w') : w'.ownsRow base e size v n xs := by
  obtain ⟨h1, h2⟩ := h
  refine ⟨h1, ?_⟩
  rcases h2 with h2 | ⟨b, cap, cur, h3, h4, h5, h6⟩
  · exact .inl h2
  · exact .inr ⟨b, cap, cur, h3, h4, (show Blk w b e cur from h5).kept hb (show Blk w b e cur from h5).lt, h6⟩
/-- Behind what makes memory alone. -/
theorem Bk.up {w wr w' : World} {g gc lbc : Nat} {pc : Option Addr} {mrc : List Value} {N : Nat} {v : Value} {L : List (Nat × Nat)} {P : Nat} (h : Bk w g gc lbc pc mrc N v L P wr) (hb : Below wr.heap.size wr w') : Bk w g gc lbc pc mrc N v L P w' := by
  obtain ⟨lb, p, mr, hs⟩ := h.s
  exact ⟨⟨lb, p, mr, hs.up hb⟩, h.c.up hb, own_below h.row hb, h.tiles, h.le, h.ne, h.hg, h.bel.trans (hb.mono h.bel.size)⟩
theorem own_runs {w : World} {base n : Nat} {v : Value} {L : List (Nat × Nat)} (h : w.ownsRow base 33 2 v n (RL L)) (hn : n = L.length) (hb : ∀ r ∈ L, r.2 < 20) : ∃ A cap, v = .slice A n cap ∧ RunsAt w A n (L.map toI) := by
  rcases h.2 with ⟨rfl, h1⟩ | ⟨g, cap, cur, rfl, _, hg, hc1, hc2, hc3, hc4⟩
  · have : L = [] := List.eq_nil_of_length_eq_zero (by omega)
    subst this
    subst h1
    exact ⟨none, 0, rfl, rfl, by simp, fun h => absurd h (by omega)⟩
  · refine ⟨_, cap, rfl, by rw [List.length_map]; exact hn, fun r hr => ?_, fun h0 => ⟨g, 0, rfl, (show Blk w g 33 cur from hg).lt, fun i hi => ?_⟩⟩
    · obtain ⟨q, hq, rfl⟩ := List.mem_map.1 hr
      have := hb q hq
      simp only [toI]; omega
    · have hi2 : i < L.length := by simpa using hi
      have := RL_get L i hi2
      rw [← hc4] at this
      rw [Nat.zero_add, (show Blk w g 33 cur from hg).cell, (show Blk w g 33 cur from hg).cell]
      rw [List.getElem?_take_of_lt (by omega), List.getElem?_take_of_lt (by omega)] at this
      simp only [List.getElem_map, toI]
      exact ⟨by simpa using this.1, by simpa using this.2⟩
theorem own_runs' {w : World} {base n cap : Nat} {A : Option Addr} {L : List (Nat × Nat)} (h : w.ownsRow base 33 2 (.slice A n cap) L.length (RL L)) (hn : n = L.length) (hb : ∀ r ∈ L, r.2 < 20) : RunsAt w A n (L.map toI) := by
  obtain ⟨A', cap', e, hr⟩ := own_runs h rfl hb
  cases e
  exact hr
theorem tkA_fits {P N k : Nat} (h0 : 1 ≤ k) (h1 : k ≤ N - P) : tkA 10 (tf P (N - P)) (k : Int) = ((10 + (P : Int), 0), tf (P + k) (N - (P + k))) := by
  unfold tkA
  rw [if_neg (by omega), tk_tf, if_pos (by omega), show N - P - k = N - (P + k) by omega]
theorem tkA_not {P N k : Nat} (h : ¬ (1 ≤ k ∧ k ≤ N - P)) : ∃ E : Int, E ≠ 0 ∧ tkA 10 (tf P (N - P)) (k : Int) = ((0, E), tf P (N - P)) := by
  unfold tkA
  by_cases h0 : (k : Int) < 1
  · exact ⟨2, by decide, by rw [if_pos h0]⟩
  · exact ⟨14, by decide, by rw [if_neg h0, tk_tf, if_neg (by omega)]⟩
/-- Behind a call of Take that took nothing. -/
theorem Bk.stay {w wr w' : World} {g gc lbc lb : Nat} {p pc : Option Addr} {mr mrc : List Value} {N : Nat} {v : Value} {L : List (Nat × Nat)} {P : Nat} (h : Bk w g gc lbc pc mrc N v L P wr) (hs : Spc wr g lb 10 p mr (tf P (N - P))) (hx : Ex g wr w') :
    w'.ownsRow w.heap.size 33 2 v L.length (RL L) ∧ Spc w' gc lbc 10 pc mrc (tf 0 N) ∧ Below w.heap.size w w' ∧ Ex g wr w' :=
  ⟨own_ex h.row hx hs.blk (by decide), h.c.ex hx hs.blk h.ne, Ex.below h.bel hx h.hg h.bel.size, hx⟩
/-- The row's block. -/
theorem own_blk {w : World} {base n cap : Nat} {A : Option Addr} {L : List (Nat × Nat)} (h : w.ownsRow base 33 2 (.slice A n cap) L.length (RL L)) (hn : n = L.length) (h0 : 0 < L.length) : ∃ lg, ∃ cur : Array Value, A = some ⟨lg, 0, none⟩ ∧ base ≤ lg ∧ Blk w lg 33 cur ∧ cur.toList.take (L.length * 2) = RL L := by
  rcases h.2 with ⟨_, h2⟩ | ⟨lg, _, cur, h1, h2, h3, _, _, _, h4⟩
  · omega
  · cases h1
    exact ⟨lg, cur, rfl, h2, h3, h4⟩
/-- Two runs of a row, changed about. -/
theorem swap_runs {w : World} {lg i : Nat} {cur : Array Value} {L : List (Nat × Nat)} (h0 : 0 < L.length) (hi : i < L.length) (hc : cur.toList.take (L.length * 2) = RL L)
    (hb : Blk w lg 33 ((((cur.setIfInBounds 0 (.int .i64 ((10 : Int) + (L[i].1 : Int)))).setIfInBounds 1 (.int .i64 (L[i].2 : Int))).setIfInBounds (i * 2) (.int .i64 ((10 : Int) + (L[0].1 : Int)))).setIfInBounds (i * 2 + 1) (.int .i64 (L[0].2 : Int)))) (h20 : ∀ r ∈ L, r.2 < 20) :
    RunsAt w (some ⟨lg, 0, none⟩) L.length (((L.set 0 L[i]).set i L[0]).map toI) := by
  have hrl : ((((cur.setIfInBounds 0 (.int .i64 ((10 : Int) + (L[i].1 : Int)))).setIfInBounds 1 (.int .i64 (L[i].2 : Int))).setIfInBounds (i * 2) (.int .i64 ((10 : Int) + (L[0].1 : Int)))).setIfInBounds (i * 2 + 1) (.int .i64 (L[0].2 : Int))).toList.take (L.length * 2) = RL ((L.set 0 L[i]).set i L[0]) := by
    rw [← RL_set (L.set 0 L[i]) i (by simpa using hi), ← RL_set L 0 h0, ← hc]
    simp only [Array.toList_setIfInBounds, List.take_set, Nat.zero_mul, Nat.zero_add]
  refine ⟨by simp, fun r hr => ?_, fun _ => ⟨lg, 0, rfl, hb.lt, fun j hj => ?_⟩⟩
  · obtain ⟨q, hq, rfl⟩ := List.mem_map.1 hr
    have hq2 : q ∈ L := (List.set_set_perm h0 hi).mem_iff.1 hq
    have := h20 q hq2
    simp only [toI]; omega
  · have hj2 : j < ((L.set 0 L[i]).set i L[0]).length := by simpa using hj
    have hj3 : j < L.length := by simpa using hj2
    have := RL_get _ j hj2
    rw [← hrl, List.getElem?_take_of_lt (by omega), List.getElem?_take_of_lt (by omega)] at this
    rw [Nat.zero_add, hb.cell, hb.cell]
    simp only [List.getElem_map, toI]
    exact ⟨by rw [← Array.getElem?_toList]; exact this.1, by rw [← Array.getElem?_toList]; exact this.2⟩
/-- What a row's block has behind two stores of a run each. -/
def swapped (cur : Array Value) (i : Nat) (r0 ri : Nat × Nat) : Array Value := (((cur.setIfInBounds 0 (.int .i64 (10 + (ri.1 : Int)))).setIfInBounds 1 (.int .i64 (ri.2 : Int))).setIfInBounds (i * 2) (.int .i64 (10 + (r0.1 : Int)))).setIfInBounds (i * 2 + 1) (.int .i64 (r0.2 : Int))
theorem swap_pack {P lg i : Nat} {cur : Array Value} {L : List (Nat × Nat)} (ht : Tiles L P) (h0 : 0 < L.length) (hi : i < L.length) (hc : cur.toList.take (L.length * 2) = RL L) :
    ∃ (M : List (Nat × Nat)) (r0 ri : Nat × Nat), M.Perm L ∧ (i = 0 → r0 = ri) ∧ (0 < ri.2 ∧ ri.2 < 20 ∧ ri.1 + ri.2 ≤ P) ∧
      (cur[0]? = some (.int .i64 (10 + (r0.1 : Int))) ∧ cur[1]? = some (.int .i64 (r0.2 : Int)) ∧ cur[i * 2]? = some (.int .i64 (10 + (ri.1 : Int))) ∧ cur[i * 2 + 1]? = some (.int .i64 (ri.2 : Int))) ∧
      ∀ W : World, Blk W lg 33 (swapped cur i r0 ri) → RunsAt W (some ⟨lg, 0, none⟩) L.length (M.map toI) ∧ W.cell? ⟨lg, 0, none⟩ = some (.int .i64 (10 + (ri.1 : Int))) ∧ W.cell? ⟨lg, 1, none⟩ = some (.int .i64 (ri.2 : Int)) := by
  have g0 := RL_get L 0 h0
  have gi := RL_get L i hi
  rw [← hc, List.getElem?_take_of_lt (by omega), List.getElem?_take_of_lt (by omega)] at g0 gi
  refine ⟨(L.set 0 L[i]).set i L[0], L[0], L[i], List.set_set_perm h0 hi, fun e => by subst e; rfl, ht.each _ (List.getElem_mem hi),
    ⟨by rw [← Array.getElem?_toList]; simpa using g0.1, by rw [← Array.getElem?_toList]; simpa using g0.2, by rw [← Array.getElem?_toList]; exact gi.1, by rw [← Array.getElem?_toList]; exact gi.2⟩, fun W hW => ?_⟩
  have hr := swap_runs h0 hi hc hW (fun r hr => (ht.each r hr).2.1)
  refine ⟨hr, ?_⟩
  obtain ⟨b, o, e, _, hcl⟩ := hr.2.2 h0
  cases e
  have h1 := hcl 0 (by simpa using h0)
  have hm : (((L.set 0 L[i]).set i L[0]).map toI)[0]'(by simpa using h0) = toI L[i] := by
    rw [List.getElem_map, List.getElem_set]
    split
    · next e => subst e; rfl
    · rw [List.getElem_set_self]
  rw [hm] at h1
  exact h1
/-- A row of one run that was just laid. -/
theorem run_at (w : World) (r : Nat × Nat) (h : r.2 < 20) : RunsAt (w.alloc (.cells #[.int .i64 (10 + (r.1 : Int)), .int .i64 (r.2 : Int)] 33)) (some ⟨w.heap.size, 0, none⟩) 1 [toI r] :=
  ⟨rfl, fun q hq => by obtain rfl := List.mem_singleton.1 hq; simp only [toI]; omega, fun _ => ⟨w.heap.size, 0, rfl, (Blk.fresh w 33 _).lt, fun i hi => by
    have : i = 0 := by simp at hi; omega
    subst this
    exact ⟨(Blk.fresh w 33 _).cell 0, (Blk.fresh w 33 _).cell 1⟩⟩⟩
theorem TurnsPost.ok {g lb : Nat} {fr : Int} {p : Option Addr} {mr : List Value} {f f2 : List Bool} {w w' : World} {r : Int × List Bool} {e : Ending} (h : TurnsPost g lb fr p mr f w r e w') (hr : r = (0, f2)) :
    e = .returned (.int .i64 0) ∧ Ex g w w' ∧ ∃ lb' p' mr', Spc w' g lb' fr p' mr' f2 := by
  subst hr
  obtain ⟨h1, h2, ⟨h3, _⟩ | ⟨_, lb', p', mr', h3, _⟩⟩ := h
  · exact absurd rfl h3
  · exact ⟨h1, h2, lb', p', mr', h3⟩
theorem TurnsPost.bad {g lb : Nat} {fr : Int} {p : Option Addr} {mr : List Value} {f f2 : List Bool} {w w' : World} {r : Int × List Bool} {e : Ending} (h : TurnsPost g lb fr p mr f w r e w') (hr : r = (17, f2)) :
    e = .returned (.int .i64 17) ∧ Ex g w w' := by
  subst hr
  exact ⟨h.1, h.2.1⟩
end Go.Proofs.Ytoeniealmcihmaa
