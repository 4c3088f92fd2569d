/- Writes one behind the other; a row of acts. -/
import Derived.Test.YtcbfnbmkogeehaaK23
namespace Go.Proofs.Ytcbfnbmkogeehaa
open Go.RowKit

section
variable {P : Program}
/-- Cells from a place on, as one value. -/
theorem run_loadVar_cells (w : World) (g o : Nat) (ty : TypeId) (cs : List Value) (d : TypeDesc)
    (hc : ∀ j v, cs[j]? = some v → w.cell? ⟨g, o + j, none⟩ = some v)
    (hu : P.underlying ty = some d) (hd : (match d with | .struct _ | .array _ _ => true | _ => false) = true) (hi : (P.info? ty).map (·.size) = some cs.length) :
    (loadVar ty ⟨g, o, none⟩).run P w = .ok (.agg cs.toArray) w := by
  have hl : (loadCells ⟨g, o, none⟩ cs.length).run P w = .ok cs.toArray w :=
    run_loadCells_list (P := P) w ⟨g, o, none⟩ cs (fun j v hv => by
      have hadd : (⟨g, o, none⟩ : Addr).add j = ⟨g, o + j, none⟩ := by unfold Addr.add; split <;> simp_all
      rw [hadd]
      exact hc j v hv)
  cases hq : P.info? ty with
  | none => simp [hq] at hi
  | some i =>
    have hs : i.size = cs.length := by simpa [hq] using hi
    have hagg : (isAgg ty).run P w = .ok true w := by
      unfold isAgg
      rw [Sem.run_bind, run_underlying hu w]
      cases d <;> simp_all
    simp [loadVar, Sem.run_bind, hagg, sizeOf, typeInfo, hq, hs, hl]
theorem wpList_load_cells {ops : Array Oper} {rest : List Oper} {o : Oper} {a : Act} {w : World} {Q : Exit → Act → World → Prop} (hgd : o.guard = none) (ty : TypeId) (x : Operand) (ho : o.op = .load ty x)
    (g f : Nat) (hx : a.eval x = .pointer (some ⟨g, f, none⟩)) (cs : List Value) (d : TypeDesc)
    (hc : ∀ j v, cs[j]? = some v → w.cell? ⟨g, f + j, none⟩ = some v)
    (hu : P.underlying ty = some d) (hd : (match d with | .struct _ | .array _ _ => true | _ => false) = true) (hi : (P.info? ty).map (·.size) = some cs.length)
    (h : wpList P ops Q rest (a.put o.dst (.agg cs.toArray)) w) : wpList P ops Q (o :: rest) a w :=
  wpList_plain hgd fun _ hK => by
    unfold Oper.wp execOp
    simp only [ho, hx, Instr.loadAt, Instr.sureAddr, Sem.run_bind, Sem.run_pure, Result.andThen_ok, run_loadVar_cells w g f ty cs d hc hu hd hi]
    exact hK _ _ h
end
/-- A block that begins with a byte. -/
def blkOf (b : UInt8) : List UInt8 := b :: List.replicate 511 0
theorem blkOf_length (b : UInt8) : (blkOf b).length = 512 := by rw [blkOf, List.length_cons, List.length_replicate]
theorem built_of (b : UInt8) : Try.prog.built 43 [(0, U b)] = some ((blkOf b).map U).toArray := by kernel_rfl
theorem parts_of (a : Act) (x : Operand) (v : Value) (h : a.eval x = v) : (#[(0, x)].map fun ((i, x) : Nat × Operand) => (i, a.eval x)).toList = [(0, v)] := by
  rw [Array.toList_map]
  show [(0, a.eval x)] = _
  rw [h]
theorem wpList_of {ops : Array Oper} {rest : List Oper} {o : Oper} {a : Act} {w : World} {Q : Exit → Act → World → Prop} (hg : o.guard = none) (x : Operand) (ho : o.op = .build 43 #[(0, x)]) (b : UInt8) (hx : a.eval x = U b)
    (h : wpList Try.prog ops Q rest (a.put o.dst (B (blkOf b))) w) : wpList Try.prog ops Q (o :: rest) a w :=
  wpList_build hg 43 #[(0, x)] ho (by rw [parts_of a x (U b) hx, built_of]; rfl) (by
    rw [parts_of a x (U b) hx, built_of]; exact h)
/-- The state behind writes. -/
def wrt (s : Dk) (l : List (Int × UInt8)) : Dk := l.foldl (fun s a => s.write a.1 (blkOf a.2)) s
theorem wrt_snoc (s : Dk) (l : List (Int × UInt8)) (a : Int × UInt8) : wrt s (l ++ [a]) = (wrt s l).write a.1 (blkOf a.2) := by simp [wrt]
theorem write_done (s : Dk) (k : Int) (b : List UInt8) : s.done ≤ (s.write k b).done ∧ (s.write k b).done ≤ s.done + 1 := by
  unfold Dk.write
  split
  · have e : s.done ≤ s.step.done ∧ s.step.done ≤ s.done + 1 := by
      unfold Dk.step
      split
      · exact ⟨Int.le_refl _, by show s.done ≤ s.done + 1; omega⟩
      · exact ⟨by show s.done ≤ s.done + 1; omega, Int.le_refl _⟩
    split
    · exact e
    · exact e
  · exact ⟨Int.le_refl _, by omega⟩
theorem wrt_done (s : Dk) (l : List (Int × UInt8)) : (wrt s l).done ≤ s.done + l.length := by
  induction l generalizing s with
  | nil => simp [wrt]
  | cons a l ih =>
    have h1 := ih (s.write a.1 (blkOf a.2))
    have h2 := (write_done s a.1 (blkOf a.2)).2
    show (wrt (s.write a.1 (blkOf a.2)) l).done ≤ _
    rw [List.length_cons]
    push_cast
    omega
/-- A row of acts: of each the four cells, and what its sector and its byte are. -/
structure Acts (w : World) (A : Option Addr) (n : Nat) (l : List (Int × UInt8)) : Prop where
  len : n = l.length
  wf : ∀ a ∈ l, -9223372036854775808 ≤ a.1 ∧ a.1 ≤ 9223372036854775807
  place : 0 < n → ∃ b o, A = some ⟨b, o, none⟩ ∧ b < w.heap.size ∧ ∀ i (h : i < l.length), ∃ c0 c3, c0.oneCell' = true ∧ c3.oneCell' = true ∧ ∀ j v, [c0, .int .i64 l[i].1, U l[i].2, c3][j]? = some v → w.cell? ⟨b, o + i * 4 + j, none⟩ = some v
theorem Acts.kept {w w' : World} {A : Option Addr} {n B : Nat} {l : List (Int × UInt8)} (h : Acts w A n l) (hb : Below B w w') (hB : w.heap.size ≤ B) : Acts w' A n l :=
  ⟨h.len, h.wf, fun hn => by
    obtain ⟨b, o, ha, hlt, hc⟩ := h.place hn
    refine ⟨b, o, ha, Nat.lt_of_lt_of_le hlt hb.size, fun i hi => ?_⟩
    obtain ⟨c0, c3, h0, h3, hcs⟩ := hc i hi
    exact ⟨c0, c3, h0, h3, fun j v hv => (hb.cell (Nat.lt_of_lt_of_le hlt hB)).trans (hcs j v hv)⟩⟩
end Go.Proofs.Ytcbfnbmkogeehaa
