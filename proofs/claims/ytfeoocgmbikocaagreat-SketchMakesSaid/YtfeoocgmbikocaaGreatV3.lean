/- An evaluator for calls whose arguments are known: what needs no memory; loads, stores and new rows. -/
import Derived.Test.YtfeoocgmbikocaaGreatV2
import Derived.Laws.Cells
namespace Go.Proofs.YtfeoocgmbikocaaGreat.Ev
open Go.RowKit

/-- What comes of a step that asks for nothing but the program. -/
def quiet {α : Type} (P : Program) : Sem α → Option α
  | .pure a => some a
  | .program k => quiet P (k P)
  | _ => none

theorem quiet_run {α : Type} {P : Program} {X : Sem α} {v : α} (h : quiet P X = some v) (w : World) : X.run P w = .ok v w := by
  induction X with
  | pure a => simp only [quiet, Option.some.injEq] at h; subst h; rfl
  | program k ih => simp only [quiet] at h; simp only [Sem.run]; exact ih P h
  | _ => simp [quiet] at h

/-- What is left of a step, in a world where it is all right. -/
def Ok (P : Program) (w0 : World) (X : Sem Value) (j : J) (s : AS) (w : World) (v : Value) (s' : AS) : Prop :=
  ∃ j' v' w', X.run P w = .ok v' w' ∧ VR j' v v' ∧ R w0 j' s' w' ∧ Ext j s j' s'

theorem Ok.still {P : Program} {w0 : World} {X : Sem Value} {j : J} {s : AS} {w : World} {v v' : Value} (hR : R w0 j s w) (h : X.run P w = .ok v' w) (hv : VR j v v') : Ok P w0 X j s w v s :=
  ⟨j, v', w, h, hv, hR, .refl _ _⟩

theorem typeInfo_run {P : Program} {t : TypeId} {i : TypeInfo} (h : P.info? t = some i) (w : World) : (typeInfo t).run P w = .ok i w := by
  simp [typeInfo, h]
theorem underlying_run {P : Program} {t : TypeId} {d : TypeDesc} (h : P.underlying t = some d) (w : World) : (underlying t).run P w = .ok d w := by
  simp [underlying, h]
theorem sizeOf_run {P : Program} {t : TypeId} {i : TypeInfo} (h : P.info? t = some i) (w : World) : (Go.sizeOf t).run P w = .ok i.size w := by
  simp [Go.sizeOf, typeInfo_run h]
theorem zeroValue_run {P : Program} {t : TypeId} {i : TypeInfo} {z : Value} (h : P.info? t = some i) (hz : i.zero = some z) (w : World) : (zeroValue t).run P w = .ok z w := by
  simp [zeroValue, typeInfo_run h, hz]

def isAggD : TypeDesc → Bool
  | .struct _ | .array _ _ => true
  | _ => false
theorem isAgg_run {P : Program} {t : TypeId} {d : TypeDesc} (h : P.underlying t = some d) (w : World) : (isAgg t).run P w = .ok (isAggD d) w := by
  simp only [isAgg, Sem.run_bind, underlying_run h, Result.andThen_ok]
  cases d <;> rfl

/-! Rows of values. -/
theorem VRs.push {j : J} {c c' : Array Value} {v v' : Value} (h : VRs j c c') (hv : VR j v v') : VRs j (c.push v) (c'.push v') := by
  refine ⟨by simp [h.1], fun i => ?_⟩
  have := h.2 i
  simp only [Array.getD_eq_getD_getElem?, Array.getElem?_push] at this ⊢
  by_cases hi : i = c.size
  · simp [hi, h.1, hv]
  · rw [if_neg hi, if_neg (by rw [← h.1]; exact hi)]; exact this

theorem VRs.empty (j : J) : VRs j #[] #[] := ⟨rfl, fun i => by simpa using VR.udf j⟩

/-- A run of cells of a known row. -/
def rowN (m : Nat) (z : Array Value) (t : Tr Value) : Nat → Nat → Option (List Value)
  | 0, _ => some []
  | n + 1, o => match rget m z t o with
    | none => none
    | some v => match rowN m z t n (o + 1) with
      | none => none
      | some l => some (v :: l)

theorem rowN_spec {m : Nat} {z : Array Value} {t : Tr Value} : ∀ {n o : Nat} {l : List Value}, rowN m z t n o = some l → l.length = n ∧ ∀ k, k < n → rget m z t (o + k) = some (l.getD k undef)
  | 0, o, l, h => by simp only [rowN, Option.some.injEq] at h; subst h; exact ⟨rfl, fun k hk => absurd hk (Nat.not_lt_zero _)⟩
  | n + 1, o, l, h => by
    simp only [rowN] at h
    cases hv : rget m z t o with
    | none => simp [hv] at h
    | some v =>
      rw [hv] at h
      cases hl : rowN m z t n (o + 1) with
      | none => simp [hl] at h
      | some l' =>
        rw [hl] at h
        simp only [Option.some.injEq] at h
        subst h
        obtain ⟨h1, h2⟩ := rowN_spec hl
        refine ⟨by simp [h1], fun k hk => ?_⟩
        cases k with
        | zero => simpa using hv
        | succ k =>
          have := h2 k (by omega)
          rw [show o + (k + 1) = o + 1 + k by omega, this]; simp

def loadN (s : AS) (b o n : Nat) : Option (List Value) :=
  match s.mem.get b with
  | some (.row m z t _ _) => rowN m z t n o
  | _ => none

theorem add_addr (r o n : Nat) : (⟨r, o, none⟩ : Addr).add n = ⟨r, o + n, none⟩ := by
  unfold Addr.add; split
  · rename_i h; subst h; rfl
  · rfl

theorem R.cells {P : Program} {w0 : World} {j : J} {s : AS} {w : World} (h : R w0 j s w) {b o n : Nat} {p : Pl} {l : List Value} (hj : j b = some p) (hl : loadN s b o n = some l) :
    ∃ l' : List Value, l'.length = n ∧ l.length = n ∧ (∀ k, VR j (l.getD k undef) (l'.getD k undef)) ∧ (∀ k, k < n → w.cell? ⟨p.r, p.d + o + k, none⟩ = some (l'.getD k undef)) ∧ (loadCells ⟨p.r, p.d + o, none⟩ n).run P w = .ok l'.toArray w := by
  unfold loadN at hl
  cases hm : s.mem.get b with
  | none => simp [hm] at hl
  | some ob =>
    rw [hm] at hl
    cases ob with
    | row m z t e own =>
      obtain ⟨cs, e', fr, h1, h2, h3, h4, h5⟩ := h.obj b _ p hm hj
      obtain ⟨hlen, hg⟩ := rowN_spec hl
      have hc : ∀ k, k < n → w.cell? ((⟨p.r, p.d + o, none⟩ : Addr).add k) = some (cs.getD (p.d + (o + k)) undef) := fun k hk => by
        have := rget_lt (hg k hk)
        rw [add_addr, show p.d + o + k = p.d + (o + k) by omega]
        exact cell?_of h1 (by omega)
      refine ⟨(List.range n).map fun k => cs.getD (p.d + (o + k)) undef, by simp, hlen, fun k => ?_, fun k hk => ?_, run_loadCells w _ n _ hc⟩
      · by_cases hk : k < n
        · have := h5 _ _ (hg k hk)
          simp only [List.getD_eq_getElem?_getD, List.getElem?_map, List.getElem?_range hk, Option.map_some, Option.getD_some] at this ⊢
          exact this
        · rw [List.getD_eq_getElem?_getD, List.getElem?_eq_none (by omega), List.getD_eq_getElem?_getD, List.getElem?_eq_none (by simp; omega)]
          exact .udf j
      · have := hc k hk
        rw [add_addr] at this
        simp only [List.getD_eq_getElem?_getD, List.getElem?_map, List.getElem?_range hk, Option.map_some, Option.getD_some]
        exact this
    | _ => simp at hl

theorem VRs.ofList {j : J} {l l' : List Value} (hlen : l.length = l'.length) (h : ∀ k, VR j (l.getD k undef) (l'.getD k undef)) : VRs j l.toArray l'.toArray :=
  ⟨by simpa using hlen, fun i => by simpa [Array.getD_eq_getD_getElem?, List.getD_eq_getElem?_getD] using h i⟩

/-- A load. -/
def aload (P : Program) (t : TypeId) (v : Value) (s : AS) : Option Value :=
  match v with
  | .pointer (some ⟨b, o, none⟩) =>
    match P.underlying t with
    | some d => bif isAggD d then
        (match P.info? t with
        | some i => (match loadN s b o i.size with | some l => some (.agg l.toArray) | none => none)
        | none => none)
      else acell s b o
    | none => none
  | _ => none

theorem ptr_of {j : J} {b o : Nat} {v' : Value} (h : VR j (.pointer (some ⟨b, o, none⟩)) v') : ∃ p, j b = some p ∧ v' = .pointer (some ⟨p.r, p.d + o, none⟩) := by
  generalize hv : Value.pointer (some ⟨b, o, none⟩) = v at h
  cases h with
  | same n hc => subst hv; cases n <;> simp [closed] at hc
  | ptr hj => cases hv; exact ⟨_, hj, rfl⟩
  | _ => cases hv

theorem aload_ok {P : Program} {w0 : World} {j : J} {s : AS} {w : World} (hR : R w0 j s w) {t : TypeId} {a a' v : Value} (ha : VR j a a') (h : aload P t a s = some v) :
    ∃ v', (Instr.loadAt t a').run P w = .ok v' w ∧ VR j v v' := by
  unfold aload at h
  split at h
  · rename_i b o
    obtain ⟨p, hj, rfl⟩ := ptr_of ha
    cases hu : P.underlying t with
    | none => simp [hu] at h
    | some d =>
      simp only [hu] at h
      cases hd : isAggD d with
      | true =>
        simp only [hd, cond_true] at h
        cases hi : P.info? t with
        | none => simp [hi] at h
        | some i =>
          simp only [hi] at h
          cases hl : loadN s b o i.size with
          | none => simp [hl] at h
          | some l =>
            simp only [hl, Option.some.injEq] at h
            subst h
            obtain ⟨l', h1, h2, h3, _, h5⟩ := hR.cells (P := P) hj hl
            refine ⟨.agg l'.toArray, ?_, (VRs.ofList (h2.trans h1.symm) h3).agg⟩
            simp [Instr.loadAt, Instr.sureAddr, loadVar, isAgg_run hu, hd, sizeOf_run hi, h5]
      | false =>
        simp only [hd, cond_false] at h
        obtain ⟨v', h1, h2⟩ := hR.cell hj h
        refine ⟨v', ?_, h2⟩
        simp [Instr.loadAt, Instr.sureAddr, loadVar, isAgg_run hu, hd, h1]
  · cases h

/-- Stores, one behind the other. -/
def asets (s : AS) (b : Nat) : Nat → List Value → Option AS
  | _, [] => some s
  | o, v :: l => bif v.oneCell' then (match aset s b o v with
    | some s' => asets s' b (o + 1) l
    | none => none) else none

theorem VR.oneCell'_eq {j : J} {v v' : Value} (h : VR j v v') : v'.oneCell' = v.oneCell' := by cases h <;> rfl

theorem asets_ok {P : Program} {w0 : World} {j : J} {b : Nat} {p : Pl} (hj : j b = some p) : ∀ (l l' : List Value) (o i : Nat) (s s' : AS) (w : World), R w0 j s w → l.length = l'.length →
    (∀ k, VR j (l.getD k undef) (l'.getD k undef)) → asets s b (o + i) l = some s' →
    ∃ w', (storeCells ⟨p.r, p.d + o, none⟩ l' i).run P w = .ok () w' ∧ R w0 j s' w' ∧ Ext j s j s'
  | [], l', o, i, s, s', w, hR, hlen, hv, h => by
    simp only [asets, Option.some.injEq] at h; subst h
    have : l' = [] := by cases l' with | nil => rfl | cons _ _ => simp at hlen
    subst this
    exact ⟨w, by simp [storeCells], hR, .refl _ _⟩
  | v :: l, l', o, i, s, s', w, hR, hlen, hv, h => by
    cases l' with
    | nil => simp at hlen
    | cons v' l' =>
      simp only [asets] at h
      cases h1 : v.oneCell' with
      | false => simp [h1] at h
      | true =>
        simp only [h1, cond_true] at h
        cases hs : aset s b (o + i) v with
        | none => simp [hs] at h
        | some s1 =>
          simp only [hs] at h
          have hvv : VR j v v' := by simpa using hv 0
          obtain ⟨⟨u, hu⟩, hf, hR1, hE1⟩ := hR.store hj hvv hs
          obtain ⟨w', hrun, hR2, hE2⟩ := asets_ok (P := P) hj l l' o (i + 1) s1 s' _ hR1 (by simpa using hlen) (fun k => by simpa using hv (k + 1)) (by rw [← Nat.add_assoc]; exact h)
          refine ⟨w', ?_, hR2, hE1.trans hE2⟩
          have ho : v'.oneCell' = true := by rw [hvv.oneCell'_eq, h1]
          rw [← Nat.add_assoc] at hu hf hrun
          simp only [storeCells, Sem.run_bind, add_addr, run_store P w _ _ _ ho, hu, hf, Bool.false_eq_true, if_false, Result.andThen_ok]
          exact hrun

def astore (P : Program) (t : TypeId) (a v : Value) (s : AS) : Option AS :=
  match a with
  | .pointer (some ⟨b, o, none⟩) =>
    match P.info? t with
    | some i => bif Nat.beq v.cells.size i.size then asets s b o v.cells.toList else none
    | none => none
  | _ => none

theorem astore_ok {P : Program} {w0 : World} {j : J} {s s' : AS} {w : World} (hR : R w0 j s w) {t : TypeId} {a a' v v' : Value} (ha : VR j a a') (hv : VR j v v') (h : astore P t a v s = some s') :
    ∃ w', (Instr.storeAt t a' v').run P w = .ok () w' ∧ R w0 j s' w' ∧ Ext j s j s' := by
  unfold astore at h
  split at h
  · rename_i b o
    obtain ⟨p, hj, rfl⟩ := ptr_of ha
    cases hi : P.info? t with
    | none => simp [hi] at h
    | some i =>
      simp only [hi] at h
      cases hb : Nat.beq v.cells.size i.size with
      | false => simp [hb] at h
      | true =>
        simp only [hb, cond_true] at h
        have hsz := Nat.eq_of_beq_eq_true hb
        have hc := hv.cells
        obtain ⟨w', h1, h2, h3⟩ := asets_ok (P := P) hj v.cells.toList v'.cells.toList o 0 s s' w hR (by simpa using hc.1)
          (fun k => by simpa [Array.getD_eq_getD_getElem?, List.getD_eq_getElem?_getD] using hc.2 k) (by simpa using h)
        refine ⟨w', ?_, h2, h3⟩
        have hsz' : v'.cells.size = i.size := by rw [← hc.1, hsz]
        simp [Instr.storeAt, Instr.sureAddr, storeVar, sizeOf_run hi, hsz', h1]
  · cases h

/-- A new row. -/
def anew (s : AS) (cells : Array Value) (n : Nat) (e : TypeId) (own : Bool) : Option (Nat × AS) :=
  bif Nat.blt s.next lim then some (s.next, ⟨s.next + 1, s.mem.put s.next (.row n cells .nil e own)⟩) else none

theorem anew_ok {w0 : World} {j : J} {s s' : AS} {w : World} (hR : R w0 j s w) {c c' : Array Value} {n : Nat} {e e' : TypeId} {own : Bool} {b : Nat} (h : anew s c n e own = some (b, s'))
    (hn : n ≤ c'.size) (hc : ∀ i, i < n → VR j (c.getD (i % c.size) undef) (c'.getD i undef)) (fr : Nat × Nat) (hfr : ∀ i, i < c'.size → ¬ (fr.1 ≤ i ∧ i < fr.2)) :
    ∃ j', j' b = some ⟨w.heap.size, 0, c'.size⟩ ∧ R w0 j' s' (w.alloc (.cells c' e' fr)) ∧ Ext j s j' s' := by
  unfold anew at h
  cases hl : Nat.blt s.next lim with
  | false => simp [hl] at h
  | true =>
    simp only [hl, cond_true, Option.some.injEq, Prod.mk.injEq] at h
    obtain ⟨rfl, rfl⟩ := h
    have hl' : s.next < lim := by rwa [Nat.blt_eq] at hl
    have key := hR.new hl' (.row n c .nil e own) (.cells c' e' fr) ⟨w.heap.size, 0, c'.size⟩ rfl (fun j' hle => ⟨c', e', fr, by show (w.heap.push _)[w.heap.size]? = _; simp, rfl, by simpa using hn, hfr, fun i v hv => ?_⟩)
    · exact ⟨_, J.upd_self _ _ _, key⟩
    · have hi := rget_lt hv
      unfold rget at hv
      rw [show i.blt n = true by rw [Nat.blt_eq]; exact hi] at hv
      have hnil : (Tr.nil : Tr Value).get i = none := by cases i <;> rfl
      simp only [cond_true, hnil, Option.some.injEq] at hv
      subst hv
      simpa using (hc i hi).mono hle

end Go.Proofs.YtfeoocgmbikocaaGreat.Ev
