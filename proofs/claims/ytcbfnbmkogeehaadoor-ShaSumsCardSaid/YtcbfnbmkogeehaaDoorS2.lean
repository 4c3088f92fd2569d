/- A row of bytes that grows byte by byte, made of a text. -/
import Derived.Test.YtcbfnbmkogeehaaDoorS1
import Derived.Laws.IdiomStrings
import Derived.Laws.AppendOwn
import Derived.Laws.CopyRow
namespace Go.Proofs.YtcbfnbmkogeehaaDoor
open Go.RowKit

/-- The call's own row of these bytes. -/
def OB (w : World) (base : Nat) (v : Value) (l : List UInt8) : Prop :=
  ∃ g cap cur fz, v = .slice (some ⟨g, 0, none⟩) l.length cap ∧ base ≤ g ∧ w.heap[g]? = some (.cells cur 5 fz) ∧ (fz.2 = 0 ∨ cur.size ≤ fz.1) ∧ l.length ≤ cap ∧ cap ≤ maxLen ∧ cur.size = cap ∧ cur.toList.take l.length = l.map U
theorem OB.kept {w w' : World} {base : Nat} {v : Value} {l : List UInt8} (h : OB w base v l) (hb : Below w.heap.size w w') : OB w' base v l := by
  obtain ⟨g, cap, cur, fz, h1, h2, h3, r⟩ := h
  exact ⟨g, cap, cur, fz, h1, h2, (hb.block g (Array.getElem?_eq_some_iff.1 h3).1).trans h3, r⟩
theorem OB.alloc {w : World} {base : Nat} {v : Value} {l : List UInt8} (h : OB w base v l) (o : Obj) : OB (w.alloc o) base v l := h.kept ((Below.refl _ w).alloc (Nat.le_refl _) o)
theorem OB.cell {w : World} {base : Nat} {v : Value} {l : List UInt8} (h : OB w base v l) : ∃ g cap, v = .slice (some ⟨g, 0, none⟩) l.length cap ∧ base ≤ g ∧ g < w.heap.size ∧ ∀ j x, l[j]? = some x → w.cell? ⟨g, j, none⟩ = some (U x) := by
  obtain ⟨g, cap, cur, fz, h1, h2, h3, h4, h5, h6, h7, h8⟩ := h
  refine ⟨g, cap, h1, h2, (Array.getElem?_eq_some_iff.1 h3).1, fun j x hx => ?_⟩
  rw [cell_of_row w g j cur 5 fz h3]
  have hj := (List.getElem?_eq_some_iff.1 hx).1
  have e := congrArg (·[j]?) h8
  simp only [List.getElem?_map, hx, Option.map_some] at e
  rw [List.getElem?_take_of_lt hj] at e
  simpa using e

theorem run_store_one (P : Program) (g o : Nat) (t : TypeId) (fz : Nat × Nat) (v : Value) (cur : Array Value) (w : World) (hg : w.heap[g]? = some (.cells cur t fz)) (hfz : fz.2 = 0 ∨ cur.size ≤ fz.1) (hl : o < cur.size) (h1 : v.oneCell' = true) :
    (storeCells ⟨g, o, none⟩ [v] 0).run P w = .ok () (w.setRow g (cur.setIfInBounds o v)) := by
  have hcell : w.cell? ⟨g, o, none⟩ = some cur[o] := by simp [World.cell?, hg, hl]
  have hfro : w.frozen? ⟨g, o, none⟩ = false := by
    obtain ⟨lo, hi'⟩ := fz
    simp only [World.frozen?, hg, Bool.and_eq_false_iff, decide_eq_false_iff_not]
    simp only at hfz
    omega
  have hadd : (⟨g, o, none⟩ : Addr).add 0 = ⟨g, o, none⟩ := by unfold Addr.add; split <;> simp_all
  have hst : (store ((⟨g, o, none⟩ : Addr).add 0) v).run P w = .ok () (w.setRow g (cur.setIfInBounds o v)) := by
    rw [hadd, run_store P w _ v _ h1, hcell]
    simp [hfro, setCell_eq_setRow w g o cur t fz v hg]
  simp only [storeCells, Sem.run_bind, hst, Result.andThen_ok]
  rfl
theorem run_push (w : World) (t ty : TypeId) (i : TypeInfo) (ht : Tryd.prog.underlying t = some (.slice 5)) (hi : Tryd.prog.info? 5 = some i) (hz : i.zero = some (.int .u8 0)) (hsize : i.size = 1) (hby : i.bytes = 1)
    (base : Nat) (v : Value) (l : List UInt8) (h : OB w base v l) (ad : Addr) (c : Nat) (x : UInt8) (hx : w.cell? ad = some (U x)) (hn : l.length + 1 ≤ 140737488355328) (hbase : base ≤ w.heap.size) :
    ∃ v' w', (Builtin.append_ #[t, t] ty #[v, .slice (some ad) 1 c]).run Tryd.prog w = .ok v' w' ∧ OB w' base v' (l ++ [x]) ∧ ∀ w0, Below base w0 w → Below base w0 w' := by
  obtain ⟨g, cap, cur, fz, rfl, hbg, hg, hfz, hlc, hcm, hcs, htk⟩ := h
  have hadd0 : ad.add 0 = ad := by unfold Addr.add; split <;> simp_all
  have hnews : ∀ j u, [U x][j]? = some u → w.cell? (ad.add j) = some u := by
    intro j u hj
    match j, hj with
    | 0, hj => rw [hadd0]; rw [hx]; exact hj
  by_cases hroom : l.length + 1 ≤ cap
  · have hf := run_firstCells_some (P := Tryd.prog) w i.size 1 ad 1 c [U x] (by rw [hsize]; rfl) hnews
    rw [hsize] at hf
    have hst := run_store_one Tryd.prog g l.length 5 fz (U x) cur w hg hfz (by omega) rfl
    refine ⟨.slice (some ⟨g, 0, none⟩) (l.length + 1) cap, w.setRow g (cur.setIfInBounds l.length (U x)), ?_, ⟨g, cap, _, fz, by rw [List.length_append]; rfl, hbg, setRow_heap w g cur _ 5 _ hg, ?_, ?_, hcm, ?_, ?_⟩, fun w0 hb => Below.setRow hb hbg _⟩
    · simp [Builtin.append_, run_underlying ht, sizeOf, typeInfo, hi, Builtin.lenOf, hroom, hf, Addr.add_lit, hst, hsize]
    · rw [Array.size_setIfInBounds]; exact hfz
    · rw [List.length_append]; exact hroom
    · rw [Array.size_setIfInBounds]; exact hcs
    · rw [List.length_append, List.length_singleton, Array.toList_setIfInBounds, List.take_add_one, List.take_set_of_le (Nat.le_refl _), htk, List.map_append]
      congr 1
      rw [List.getElem?_set_self (by simp; omega)]
      rfl
  · have holds : ∀ j u, (l.map U)[j]? = some u → w.cell? ((⟨g, 0, none⟩ : Addr).add j) = some u := by
      intro j u hu
      have hadd : (⟨g, 0, none⟩ : Addr).add j = ⟨g, j, none⟩ := by unfold Addr.add; split <;> simp_all
      rw [hadd, cell_of_row w g j cur 5 fz hg]
      rw [← htk, List.getElem?_take] at hu
      split at hu
      · simpa using hu
      · cases hu
    have hr := run_append_grow (P := Tryd.prog) w t ty 5 i (.int .u8 0) ht hi hz ⟨g, 0, none⟩ l.length cap (l.map U) (by rw [hsize]; simp) holds ad 1 c [U x] (by rw [hsize]; rfl) hnews (by omega) (by omega) (by rw [hby]; exact growslice_fits (by omega) (by omega))
    have hge := grownCap_ge w (l.length + 1) cap 5
    have hcm2 : grownCap w (l.length + 1) cap 5 ≤ maxLen := grownCap_le_maxLen w (l.length + 1) cap 5 (by unfold maxLen; omega)
    refine ⟨_, _, hr, ⟨w.heap.size, _, _, (0, 0), by rw [List.length_append]; rfl, hbase, heap_alloc_new w.drew _, .inl rfl, by rw [List.length_append]; exact hge, hcm2, ?_, ?_⟩, fun w0 hb => hb.drew.alloc hbase _⟩
    · have hz1 : (Value.int IntKind.u8 0).cells.size = 1 := rfl
      simp only [Array.size_append, List.size_toArray, size_zeroCells, hz1, List.length_map, List.length_singleton]
      omega
    · simp only [Array.toList_append, List.append_assoc, List.length_append, List.length_singleton, List.map_append, List.map_cons, List.map_nil]
      rw [← List.append_assoc, show l.length + 1 = (l.map U ++ [U x]).length by simp]
      exact List.take_left
theorem wpList_push {ops : Array Oper} {rest : List Oper} {o : Oper} {a : Act} {w : World} {Q : Exit → Act → World → Prop} (s y : Operand) (ho : o.op = .call { callee := .builtin .append, args := #[s, y], argTypes := #[42, 42] }) (hgd : o.guard = none)
    (base : Nat) (v : Value) (l : List UInt8) (hs : a.eval s = v) (h : OB w base v l) (ad : Addr) (c : Nat) (x : UInt8) (hy : a.eval y = .slice (some ad) 1 c) (hx : w.cell? ad = some (U x)) (hn : l.length + 1 ≤ 140737488355328) (hbase : base ≤ w.heap.size)
    (hk : ∀ v' w', OB w' base v' (l ++ [x]) → (∀ w0, Below base w0 w → Below base w0 w') → wpList Tryd.prog ops Q rest (a.put o.dst v') w') : wpList Tryd.prog ops Q (o :: rest) a w := by
  refine wpList_plain hgd fun K hK => ?_
  obtain ⟨v', w', hr, h2, h3⟩ := run_push w 42 o.type _ Tryd.underlying42 rfl rfl rfl rfl base v l h ad c x hx hn hbase
  unfold Oper.wp execOp
  simp only [ho, resolve, invoke, builtin, Sem.run_bind, Sem.run_pure, Result.andThen_ok, List.map_toArray, List.map_cons, List.map_nil, hs, hy, hr]
  exact hK _ _ (hk v' w' h2 h3)
theorem wpList_bytes {ops : Array Oper} {rest : List Oper} {o : Oper} {a : Act} {w : World} {Q : Exit → Act → World → Prop} (y : Operand) (ho : o.op = .convert 9 42 y) (hgd : o.guard = none) (base : Nat) (s : ByteArray) (hy : a.eval y = .string s) (hs : s.size ≤ 140737488355328) (hbase : base ≤ w.heap.size)
    (hk : ∀ v' w', OB w' base v' s.data.toList → (∀ w0, Below base w0 w → Below base w0 w') → wpList Tryd.prog ops Q rest (a.put o.dst v') w') : wpList Tryd.prog ops Q (o :: rest) a w := by
  refine wpList_plain hgd fun K hK => ?_
  have hr := run_bytes_of_string (P := Tryd.prog) w 9 42 5 s Tryd.underlying9 Tryd.underlying42 Tryd.underlying5
  have hge := grownCap_ge w s.size 0 5
  have hcm : grownCap w s.size 0 5 ≤ maxLen := grownCap_le_maxLen w s.size 0 5 (by unfold maxLen; omega)
  unfold Oper.wp execOp
  simp only [ho, hy, Sem.run_bind, Sem.run_pure, Result.andThen_ok, hr]
  refine hK _ _ (hk _ _ ⟨w.heap.size, _, _, _, by rw [Array.length_toList]; rfl, hbase, heap_alloc_new w.drew _, .inr (Nat.le_refl _), by rw [Array.length_toList]; exact hge, hcm, ?_, ?_⟩ fun w0 hb => hb.drew.alloc hbase _)
  · unfold bytesRow
    rw [Array.size_append, Array.size_map, Array.size_replicate]
    show s.data.size + _ = _
    have : s.size = s.data.size := rfl
    omega
  · unfold bytesRow
    rw [Array.toList_append, Array.toList_map, show s.data.toList.length = (s.data.toList.map U).length by rw [List.length_map]]
    exact List.take_left
end Go.Proofs.YtcbfnbmkogeehaaDoor
