/- An evaluator for calls whose arguments are known: addresses, parts of values, new blocks of each kind. -/
import Derived.Test.YtfeoocgmbikocaaGreatV3
namespace Go.Proofs.YtfeoocgmbikocaaGreat.Ev
open Go.RowKit

theorem VR.int_eq {j : J} {k : IntKind} {n : Int} {v' : Value} (h : VR j (.int k n) v') : v' = .int k n := h.closed_eq 1 rfl

/-- The address of a field. -/
def afieldAddr (P : Program) (t : TypeId) (a : Value) (f : Nat) : Option Value :=
  match a with
  | .pointer (some ⟨b, o, none⟩) =>
    match P.underlying t with
    | some (.struct fields) =>
      match fields[f]? with
      | some fd =>
        match P.info? fd.type with
        | some i => bif Nat.beq i.size 0 then none else some (.pointer (some ⟨b, o + fd.offset, none⟩))
        | none => none
      | none => none
    | _ => none
  | _ => none

theorem afieldAddr_ok {P : Program} {j : J} {w : World} {t : TypeId} {a a' v : Value} {f : Nat} (ha : VR j a a') (h : afieldAddr P t a f = some v) :
    ∃ v', (Instr.fieldAt t a' f).run P w = .ok v' w ∧ VR j v v' := by
  unfold afieldAddr at h
  split at h
  · rename_i b o
    obtain ⟨p, hj, rfl⟩ := ptr_of ha
    split at h
    · rename_i fields hu
      split at h
      · rename_i fd hfd
        split at h
        · rename_i i hi
          cases hz : Nat.beq i.size 0 with
          | true => simp [hz] at h
          | false =>
            have hz' : ¬ i.size = 0 := fun e => by rw [e] at hz; cases hz
            simp only [hz, cond_false, Option.some.injEq] at h
            subst h
            refine ⟨.pointer (some ⟨p.r, p.d + (o + fd.offset), none⟩), ?_, .ptr hj⟩
            simp [Instr.fieldAt, underlying_run hu, hfd, Instr.sureAddr, fieldPlace, sizeOf_run hi, hz', add_addr, Nat.add_assoc]
        · cases h
      · cases h
    · cases h
  · cases h

/-- The address of an element. -/
def aindexAddr (P : Program) (t : TypeId) (x ix : Value) : Option Value :=
  match ix with
  | .int _ i =>
    match x, P.underlying t with
    | .slice (some ⟨b, o, none⟩) n _, some (.slice e) =>
      match P.info? e with
      | some inf => bif (decide (0 ≤ i) && decide (i < (n : Int))) then some (.pointer (some ⟨b, o + i.toNat * inf.size, none⟩)) else none
      | none => none
    | .pointer (some ⟨b, o, none⟩), some (.array n e) =>
      match P.info? e with
      | some inf => bif (decide (0 ≤ i) && decide (i < (n : Int))) then some (.pointer (some ⟨b, o + i.toNat * inf.size, none⟩)) else none
      | none => none
    | _, _ => none
  | _ => none

theorem slice_of {j : J} {b o n c : Nat} {v' : Value} (h : VR j (.slice (some ⟨b, o, none⟩) n c) v') :
    ∃ p c', j b = some p ∧ CR (p.d + o) p.rs c c' ∧ v' = .slice (some ⟨p.r, p.d + o, none⟩) n c' := by
  generalize hv : Value.slice (some ⟨b, o, none⟩) n c = v at h
  cases h with
  | same n hc => subst hv; cases n <;> simp [closed] at hc
  | slice hj hc => cases hv; exact ⟨_, _, hj, hc, rfl⟩
  | _ => cases hv

theorem aindexAddr_ok {P : Program} {j : J} {w : World} {t : TypeId} {x x' ix ix' v : Value} (hx : VR j x x') (hi : VR j ix ix') (h : aindexAddr P t x ix = some v) :
    ∃ v', (Instr.indexAt t x' ix').run P w = .ok v' w ∧ VR j v v' := by
  unfold aindexAddr at h
  split at h
  · rename_i k i
    have := hi.int_eq; subst this
    split at h
    · rename_i b o n c e hu
      obtain ⟨p, c', hj, hc, rfl⟩ := slice_of hx
      split at h
      · rename_i inf hinf
        cases hb : (decide (0 ≤ i) && decide (i < (n : Int))) with
        | false => simp [hb] at h
        | true =>
          simp only [hb, cond_true, Option.some.injEq] at h
          subst h
          simp only [Bool.and_eq_true, decide_eq_true_eq] at hb
          refine ⟨.pointer (some ⟨p.r, p.d + (o + i.toNat * inf.size), none⟩), ?_, .ptr hj⟩
          simp [Instr.indexAt, asIntOf, underlying_run hu, hb.1, hb.2, sizeOf_run hinf, add_addr, Nat.add_assoc]
      · cases h
    · rename_i b o n e hu
      obtain ⟨p, hj, rfl⟩ := ptr_of hx
      split at h
      · rename_i inf hinf
        cases hb : (decide (0 ≤ i) && decide (i < (n : Int))) with
        | false => simp [hb] at h
        | true =>
          simp only [hb, cond_true, Option.some.injEq] at h
          subst h
          simp only [Bool.and_eq_true, decide_eq_true_eq] at hb
          refine ⟨.pointer (some ⟨p.r, p.d + (o + i.toNat * inf.size), none⟩), ?_, .ptr hj⟩
          simp [Instr.indexAt, asIntOf, underlying_run hu, hb.1, hb.2, Instr.sureAddr, sizeOf_run hinf, add_addr, Nat.add_assoc]
      · cases h
    · cases h
  · cases h

/-- A part of a value: a field, an element. -/
def apart (P : Program) (t : TypeId) (cs : Array Value) (off : Nat) : Option Value :=
  match P.underlying t with
  | some d => bif isAggD d then
      (match P.info? t with
      | some i => bif Nat.ble (off + i.size) cs.size then some (.agg (cs.extract off (off + i.size))) else none
      | none => none)
    else bif Nat.blt off cs.size then some (cs.getD off undef) else none
  | none => none

theorem VRs.extract {j : J} {c c' : Array Value} (h : VRs j c c') (a b : Nat) : VRs j (c.extract a b) (c'.extract a b) := by
  refine ⟨by simp [h.1], fun i => ?_⟩
  have h0 := h.2 (a + i)
  simp only [Array.getD_eq_getD_getElem?, Array.getElem?_extract] at h0 ⊢
  rw [← h.1]
  split
  · exact h0
  · exact .udf j

theorem apart_ok {P : Program} {j : J} {w : World} {t : TypeId} {c c' : Array Value} {off : Nat} {v : Value} (hc : VRs j c c') (h : apart P t c off = some v) :
    ∃ v', (part t c' off).run P w = .ok v' w ∧ VR j v v' := by
  unfold apart at h
  cases hu : P.underlying t with
  | none => simp [hu] at h
  | some d =>
    simp only [hu] at h
    cases hd : isAggD d with
    | true =>
      simp only [hd, cond_true] at h
      cases hi : P.info? t with
      | none => simp [hi] at h
      | some i =>
        simp only [hi] at h
        cases hb : Nat.ble (off + i.size) c.size with
        | false => simp [hb] at h
        | true =>
          simp only [hb, cond_true, Option.some.injEq] at h
          subst h
          exact ⟨_, by simp [part, isAgg_run hu, hd, sizeOf_run hi], (hc.extract _ _).agg⟩
    | false =>
      simp only [hd, cond_false] at h
      cases hb : Nat.blt off c.size with
      | false => simp [hb] at h
      | true =>
        simp only [hb, cond_true, Option.some.injEq] at h
        subst h
        have hlt : off < c.size := by rwa [Nat.blt_eq] at hb
        have hlt' : off < c'.size := by rw [← hc.1]; exact hlt
        refine ⟨c'.getD off undef, ?_, hc.2 off⟩
        simp [part, isAgg_run hu, hd, Array.getD, hlt']

def afield (P : Program) (t : TypeId) (x : Value) (f : Nat) : Option Value :=
  match x, P.underlying t with
  | .agg cs, some (.struct fields) =>
    match fields[f]? with
    | some fd => apart P fd.type cs fd.offset
    | none => none
  | _, _ => none

theorem agg_of {j : J} {cs : Array Value} {v' : Value} (h : VR j (.agg cs) v') : ∃ cs', v' = .agg cs' ∧ VRs j cs cs' := by
  have h1 := h.cells
  generalize hv : Value.agg cs = v at h
  cases h with
  | same n hc => subst hv; exact ⟨cs, rfl, h1⟩
  | agg hc c1 => cases hv; exact ⟨_, rfl, hc, c1⟩
  | _ => cases hv

theorem tuple_of {j : J} {cs : Array Value} {v' : Value} (h : VR j (.tuple cs) v') : ∃ cs', v' = .tuple cs' ∧ VRs j cs cs' := by
  generalize hv : Value.tuple cs = v at h
  cases h with
  | same n hc =>
    subst hv
    refine ⟨cs, rfl, rfl, fun i => ?_⟩
    cases n with
    | zero => simp [closed] at hc
    | succ n =>
      by_cases hi : i < cs.size
      · exact .same n (all_getD (c := cs) (by rw [closed] at hc; exact hc) i hi)
      · rw [show cs.getD i undef = undef by simp [Array.getD, hi]]; exact .udf j
  | tuple hc c1 => cases hv; exact ⟨_, rfl, hc, c1⟩
  | _ => cases hv

theorem afield_ok {P : Program} {j : J} {w : World} {t : TypeId} {x x' v : Value} {f : Nat} (hx : VR j x x') (h : afield P t x f = some v) :
    ∃ v', (Instr.field t x' f).run P w = .ok v' w ∧ VR j v v' := by
  unfold afield at h
  split at h
  · rename_i cs fields hu
    obtain ⟨cs', rfl, hc⟩ := agg_of hx
    split at h
    · rename_i fd hfd
      obtain ⟨v', h1, h2⟩ := apart_ok (w := w) hc h
      exact ⟨v', by simp [Instr.field, underlying_run hu, hfd, asAgg, h1], h2⟩
    · cases h
  · cases h

def aindex (P : Program) (t : TypeId) (x ix : Value) : Option Value :=
  match ix, x, P.underlying t with
  | .int _ i, .agg cs, some (.array n e) =>
    match P.info? e with
    | some inf => bif (decide (0 ≤ i) && decide (i < (n : Int))) then apart P e cs (i.toNat * inf.size) else none
    | none => none
  | _, _, _ => none

theorem aindex_ok {P : Program} {j : J} {w : World} {t : TypeId} {x x' ix ix' v : Value} (hx : VR j x x') (hi : VR j ix ix') (h : aindex P t x ix = some v) :
    ∃ v', (Instr.index t x' ix').run P w = .ok v' w ∧ VR j v v' := by
  unfold aindex at h
  split at h
  · rename_i k i cs n e hu
    have := hi.int_eq; subst this
    obtain ⟨cs', rfl, hc⟩ := agg_of hx
    split at h
    · rename_i inf hinf
      cases hb : (decide (0 ≤ i) && decide (i < (n : Int))) with
      | false => simp [hb] at h
      | true =>
        simp only [hb, cond_true] at h
        simp only [Bool.and_eq_true, decide_eq_true_eq] at hb
        obtain ⟨v', h1, h2⟩ := apart_ok (w := w) hc h
        exact ⟨v', by simp [Instr.index, asIntOf, underlying_run hu, hb.1, hb.2, sizeOf_run hinf, h1], h2⟩
    · cases h
  · cases h

def aextract (x : Value) (i : Nat) : Option Value :=
  match x with
  | .tuple cs => bif Nat.blt i cs.size then some (cs.getD i undef) else none
  | _ => none

theorem aextract_ok {P : Program} {j : J} {w : World} {x x' v : Value} {i : Nat} (hx : VR j x x') (h : aextract x i = some v) :
    ∃ v', (Instr.extract x' i).run P w = .ok v' w ∧ VR j v v' := by
  unfold aextract at h
  split at h
  · rename_i cs
    obtain ⟨cs', rfl, hc⟩ := tuple_of hx
    cases hb : Nat.blt i cs.size with
    | false => simp [hb] at h
    | true =>
      simp only [hb, cond_true, Option.some.injEq] at h
      subst h
      have hlt : i < cs.size := by rwa [Nat.blt_eq] at hb
      have hlt' : i < cs'.size := by rw [← hc.1]; exact hlt
      exact ⟨cs'.getD i undef, by simp [Instr.extract, Array.getD, hlt'], hc.2 i⟩
  · cases h

/-- Zero values are closed. -/
def zeroOf (P : Program) (t : TypeId) : Option (Array Value) :=
  match P.info? t with
  | some i => match i.zero with
    | some z => bif z.cells.toList.all (closed 12) then some z.cells else none
    | none => none
  | none => none

theorem zeroOf_spec {P : Program} {t : TypeId} {z : Array Value} (h : zeroOf P t = some z) : ∃ v, (∀ w, (zeroValue t).run P w = .ok v w) ∧ v.cells = z ∧ z.toList.all (closed 12) = true := by
  unfold zeroOf at h
  split at h
  · rename_i i hi
    split at h
    · rename_i v hv
      cases hb : v.cells.toList.all (closed 12) with
      | false => simp [hb] at h
      | true =>
        simp only [hb, cond_true, Option.some.injEq] at h
        subst h
        exact ⟨v, fun w => zeroValue_run hi hv w, rfl, hb⟩
    · cases h
  · cases h

theorem closed_VR {j : J} {z : Array Value} (h : z.toList.all (closed 12) = true) (i : Nat) : VR j (z.getD i undef) (z.getD i undef) := by
  by_cases hi : i < z.size
  · exact .same 12 (all_getD h i hi)
  · rw [show z.getD i undef = undef by simp [Array.getD, hi]]; exact .udf j

def aalloc (P : Program) (t : TypeId) (s : AS) : Option (Value × AS) :=
  match zeroOf P t with
  | some z => match anew s z z.size t true with
    | some (b, s') => some (.pointer (some ⟨b, 0, none⟩), s')
    | none => none
  | none => none

theorem unfrozen (n : Nat) : ∀ i, i < n → ¬ ((0, 0) : Nat × Nat).1 ≤ i ∧ i < ((0, 0) : Nat × Nat).2 → False := fun _ _ h => absurd h.2 (Nat.not_lt_zero _)

theorem aalloc_ok {P : Program} {w0 : World} {j : J} {s s' : AS} {w : World} (hR : R w0 j s w) {t : TypeId} {v : Value} (h : aalloc P t s = some (v, s')) :
    Ok P w0 (Instr.alloc t true (.tuple #[])) j s w v s' := by
  unfold aalloc at h
  split at h
  · rename_i z hz
    obtain ⟨zv, h1, rfl, h3⟩ := zeroOf_spec hz
    split at h
    · rename_i b s1 hn
      simp only [Option.some.injEq, Prod.mk.injEq] at h
      obtain ⟨rfl, rfl⟩ := h
      obtain ⟨j', hb, hR', hE⟩ := anew_ok (c' := zv.cells) (e' := t) hR hn (Nat.le_refl _) (fun i hi => by rw [Nat.mod_eq_of_lt hi]; exact closed_VR h3 i) (0, 0) (fun i _ hx => absurd hx.2 (Nat.not_lt_zero _))
      refine ⟨j', .pointer (some ⟨w.heap.size, 0, none⟩), _, ?_, .ptr (o := 0) hb, hR', hE⟩
      simp [Instr.alloc, h1, newVar, newRow]
    · cases h
  · cases h

def abox (t : TypeId) (x : Value) (s : AS) : Option (Value × AS) :=
  match anew s x.cells x.cells.size t true with
  | some (b, s') => some (.pointer (some ⟨b, 0, none⟩), s')
  | none => none

theorem abox_ok {P : Program} {w0 : World} {j : J} {s s' : AS} {w : World} (hR : R w0 j s w) {t : TypeId} {x x' v : Value} (hx : VR j x x') (h : abox t x s = some (v, s')) :
    Ok P w0 (Instr.box t x') j s w v s' := by
  unfold abox at h
  have hc := hx.cells
  split at h
  · rename_i b s1 hn
    simp only [Option.some.injEq, Prod.mk.injEq] at h
    obtain ⟨rfl, rfl⟩ := h
    obtain ⟨j', hb, hR', hE⟩ := anew_ok (c' := x'.cells) (e' := t) hR hn (by rw [hc.1]; exact Nat.le_refl _) (fun i hi => by rw [Nat.mod_eq_of_lt hi]; exact hc.2 i) (0, 0) (fun i _ hx => absurd hx.2 (Nat.not_lt_zero _))
    refine ⟨j', .pointer (some ⟨w.heap.size, 0, none⟩), _, ?_, .ptr (o := 0) hb, hR', hE⟩
    simp [Instr.box, newVar, newRow]
  · cases h

end Go.Proofs.YtfeoocgmbikocaaGreat.Ev
