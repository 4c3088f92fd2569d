/- An evaluator for calls whose arguments are known: maps. -/
import Derived.Test.YtfeoocgmbikocaaGreatVB
namespace Go.Proofs.YtfeoocgmbikocaaGreat.Ev
open Go.RowKit

def aidx (P : Program) (okS : TypeId → Bool) (kt : TypeId) (k : Value) : List MapEntry → Nat → Option (Option (Nat × Value))
  | [], _ => some none
  | e :: es, i => bif closed 12 e.key then (match aeq P okS 10000 kt k e.key with
    | some true => some (some (i, e.val))
    | some false => aidx P okS kt k es (i + 1)
    | none => none) else none

def ELs (j : J) (l l' : List MapEntry) : Prop := l.length = l'.length ∧ ∀ (i : Nat) (e : MapEntry), l[i]? = some e → ∃ e' : MapEntry, l'[i]? = some e' ∧ ER j e e'

theorem ELs.cons {j : J} {e : MapEntry} {l l' : List MapEntry} (h : ELs j (e :: l) l') : ∃ e' l'', l' = e' :: l'' ∧ ER j e e' ∧ ELs j l l'' := by
  cases l' with
  | nil => exact absurd h.1 (by simp)
  | cons e' l'' =>
    obtain ⟨e1, h1, h2⟩ := h.2 0 e rfl
    simp only [List.getElem?_cons_zero, Option.some.injEq] at h1
    subst h1
    exact ⟨e', l'', rfl, h2, by simpa using h.1, fun i x hx => by simpa using h.2 (i + 1) x (by simpa using hx)⟩

/-- What was found: the place, and what lies there. -/
def FR (j : J) : Option (Nat × Value) → Option (Nat × Value) → Prop
  | none, none => True
  | some (i, v), some (i', v') => i = i' ∧ VR j v v'
  | _, _ => False

theorem ask_ok {P : Program} {okS : TypeId → Bool} (hS : ∀ t, okS t = true → P.stoodInHeld t = false) {j : J} {kt : TypeId} {k : Value} (hk : closed 12 k = true) (w : World) :
    ∀ (l l' : List MapEntry) (i : Nat) (r : Option (Nat × Value)), ELs j l l' → aidx P okS kt k l i = some r → ∃ r', (Instr.findAsking kt k l' i).run P w = .ok r' w ∧ FR j r r'
  | [], l', i, r, hl, h => by
    have : l' = [] := by have := hl.1; cases l' with | nil => rfl | cons _ _ => simp at this
    subst this
    simp only [aidx, Option.some.injEq] at h; subst h
    exact ⟨none, rfl, True.intro⟩
  | e :: l, l', i, r, hl, h => by
    obtain ⟨e', l'', rfl, he, hl2⟩ := hl.cons
    simp only [aidx] at h
    cases hc : closed 12 e.key with
    | false => simp [hc] at h
    | true =>
      simp only [hc, cond_true] at h
      have hek : e'.key = e.key := he.2.1.closed_eq 12 hc
      split at h
      · rename_i hq
        simp only [Option.some.injEq] at h; subst h
        have h0 := aeq_ok hS (j := j) _ _ _ _ _ _ _ w hq (.same 12 hk) (.same 12 hc)
        refine ⟨some (i, e'.val), ?_, rfl, he.2.2⟩
        simp only [Instr.findAsking, Op.equal, Op.maxDepth, Sem.run_bind, hek, h0, Result.andThen_ok, if_true, Sem.run_pure]
      · rename_i hq
        have h0 := aeq_ok hS (j := j) _ _ _ _ _ _ _ w hq (.same 12 hk) (.same 12 hc)
        obtain ⟨r', h1, h2⟩ := ask_ok hS hk w l l'' (i + 1) r hl2 h
        refine ⟨r', ?_, h2⟩
        simp only [Instr.findAsking, Op.equal, Op.maxDepth, Sem.run_bind, hek, h0, Result.andThen_ok, Bool.false_eq_true, if_false]
        exact h1
      · cases h

theorem sameNow_aeq {P : Program} {okS : TypeId → Bool} {kt : TypeId} {kd : TypeDesc} (hu : P.underlying kt = some kd) {k x : Value} {b c : Bool} (h : aeq P okS 10000 kt k x = some b) (h2 : Instr.sameNow kd k x = some c) : c = b := by
  unfold aeq at h
  rw [hu] at h
  unfold Instr.sameNow at h2
  split at h2
  · simp only at h
    rename_i k1 a k2 b2
    by_cases hk : k1 = k2
    · subst hk; simp at h h2; rw [← h2, ← h]
    · simp [hk] at h2
  · rename_i a b2
    simp only [Option.some.injEq] at h h2
    rw [← h, ← h2, beq_toListBytes, ByteArray.toList_eq, ByteArray.toList_eq]
  · simp only [Option.some.injEq] at h h2
    rw [← h, ← h2]
  · cases h2

theorem now_ok {P : Program} {okS : TypeId → Bool} {j : J} {kt : TypeId} {kd : TypeDesc} (hu : P.underlying kt = some kd) {k : Value} :
    ∀ (l l' : List MapEntry) (i : Nat) (r r1 : Option (Nat × Value)), ELs j l l' → aidx P okS kt k l i = some r → Instr.findNow kd k l' i = some r1 → FR j r r1
  | [], l', i, r, r1, hl, h, h1 => by
    have : l' = [] := by have := hl.1; cases l' with | nil => rfl | cons _ _ => simp at this
    subst this
    simp only [aidx, Option.some.injEq] at h; subst h
    simp only [Instr.findNow, Option.some.injEq] at h1; subst h1
    exact True.intro
  | e :: l, l', i, r, r1, hl, h, h1 => by
    obtain ⟨e', l'', rfl, he, hl2⟩ := hl.cons
    simp only [aidx] at h
    simp only [Instr.findNow] at h1
    cases hc : closed 12 e.key with
    | false => simp [hc] at h
    | true =>
      simp only [hc, cond_true] at h
      have hek : e'.key = e.key := he.2.1.closed_eq 12 hc
      rw [hek] at h1
      split at h1
      · rename_i hs
        simp only [Option.some.injEq] at h1; subst h1
        split at h
        · simp only [Option.some.injEq] at h; subst h; exact ⟨rfl, he.2.2⟩
        · rename_i hq; have := sameNow_aeq hu hq hs; cases this
        · cases h
      · rename_i hs
        split at h
        · rename_i hq; have := sameNow_aeq hu hq hs; cases this
        · exact now_ok hu l l'' (i + 1) r r1 hl2 h h1
        · cases h
      · cases h1

theorem find_ok {P : Program} {okS : TypeId → Bool} (hS : ∀ t, okS t = true → P.stoodInHeld t = false) {j : J} {kt : TypeId} {kd : TypeDesc} (hu : P.underlying kt = some kd) {k : Value} (hk : closed 12 k = true) (w : World)
    {l l' : List MapEntry} {r : Option (Nat × Value)} (hl : ELs j l l') (h : aidx P okS kt k l 0 = some r) : ∃ r', (Instr.findKey kt k l').run P w = .ok r' w ∧ FR j r r' := by
  simp only [Instr.findKey, Sem.run_bind, underlying_run hu, Result.andThen_ok]
  cases hn : Instr.findNow kd k l' 0 with
  | none => exact ask_ok hS hk w l l' 0 r hl h
  | some r1 => exact ⟨r1, rfl, now_ok hu l l' 0 r r1 hl h hn⟩

def entries (s : AS) (b : Nat) : Option (Array MapEntry × Nat) :=
  match s.mem.get b with
  | some (.map es clock) => some (es, clock)
  | _ => none

theorem R.entries {w0 : World} {j : J} {s : AS} {w : World} (h : R w0 j s w) {b : Nat} {p : Pl} {es : Array MapEntry} {clock : Nat} (hj : j b = some p) (he : entries s b = some (es, clock)) :
    ∃ es', w.heap[p.r]? = some (.map es' clock) ∧ ELs j es.toList es'.toList := by
  unfold Ev.entries at he
  split at he
  · rename_i es1 c1 hm
    simp only [Option.some.injEq, Prod.mk.injEq] at he
    obtain ⟨rfl, rfl⟩ := he
    obtain ⟨_, es', h1, h2, h3⟩ := h.obj b _ p hm hj
    exact ⟨es', h1, by simpa using h2, fun i e hi => by simpa using h3 i e (by simpa using hi)⟩
  · cases he

theorem getObj_run {P : Program} {w : World} {r : Nat} {es : Array MapEntry} {c : Nat} (h : w.heap[r]? = some (.map es c)) : (getObj r).run P w = .ok (.map es c) w := by
  simp [getObj, Sem.run, h]

theorem map_of {j : J} {b : Nat} {v' : Value} (h : VR j (.map (some b)) v') : ∃ p, j b = some p ∧ p.d = 0 ∧ v' = .map (some p.r) := by
  generalize hv : Value.map (some b) = v at h
  cases h with
  | same n hc => subst hv; cases n <;> simp [closed] at hc
  | map hj hd => cases hv; exact ⟨_, hj, hd, rfl⟩
  | _ => cases hv

def apair (v : Value) (ok commaOk : Bool) : Value := bif commaOk then .tuple #[v, .bool ok] else v

theorem VR.pair {j : J} {v v' : Value} (h : VR j v v') (ok commaOk : Bool) : VR j (apair v ok commaOk) (if commaOk then .tuple #[v', .bool ok] else v') := by
  cases commaOk with
  | true =>
    refine .tuple rfl fun i => ?_
    match i with
    | 0 => simpa [Array.getD] using h
    | 1 => exact .same 1 rfl
    | i + 2 => simp [Array.getD]; exact .udf j
  | false => exact h

def alookup (P : Program) (okS : TypeId → Bool) (t : TypeId) (m ix : Value) (commaOk : Bool) (s : AS) : Option Value :=
  match P.underlying t with
  | some (.map kt et) =>
    bif closed 12 ix then
      match (match m with | .map none => some #[] | .map (some b) => (entries s b).map (·.1) | _ => none : Option (Array MapEntry)), P.underlying kt with
      | some es, some _ =>
        match quiet P (Instr.checkKey es.isEmpty 10000 kt ix), aidx P okS kt ix es.toList 0 with
        | some (), some (some (_, v)) => some (apair v true commaOk)
        | some (), some none => match P.info? et with
          | some i => match i.zero with
            | some z => bif closed 12 z then some (apair z false commaOk) else none
            | none => none
          | none => none
        | _, _ => none
      | _, _ => none
    else none
  | _ => none

theorem alookup_ok {P : Program} {okS : TypeId → Bool} (hS : ∀ t, okS t = true → P.stoodInHeld t = false) {w0 : World} {j : J} {s : AS} {w : World} (hR : R w0 j s w) {t : TypeId} {m m' ix ix' v : Value} {commaOk : Bool}
    (hm : VR j m m') (hi : VR j ix ix') (h : alookup P okS t m ix commaOk s = some v) : ∃ v', (Instr.lookup t m' ix' commaOk).run P w = .ok v' w ∧ VR j v v' := by
  unfold alookup at h
  split at h
  · rename_i kt et hu
    cases hc : closed 12 ix with
    | false => simp [hc] at h
    | true =>
      simp only [hc, cond_true] at h
      have := hi.closed_eq 12 hc; subst this
      split at h
      · rename_i es kd hes hkd
        -- the entries that are there
        have hes' : ∃ es' : Array MapEntry, ELs j es.toList es'.toList ∧ ∀ (K : Array MapEntry → Sem Value), (do
            let es ← match m' with
              | .map none => pure #[]
              | .map (some r) => do
                let .map es _ ← getObj r | stuck "Lookup: map expected"
                pure es
              | _ => stuck "Lookup: map expected"
            K es : Sem Value).run P w = (K es').run P w := by
          split at hes
          · have := hm.closed_eq 1 rfl; subst this
            simp only [Option.some.injEq] at hes; subst hes
            exact ⟨#[], ⟨rfl, fun i e he => by simp at he⟩, fun K => rfl⟩
          · rename_i b
            obtain ⟨p, hj, hd, rfl⟩ := map_of hm
            cases he : entries s b with
            | none => simp [he] at hes
            | some ec =>
              obtain ⟨es1, c1⟩ := ec
              simp only [he, Option.map_some, Option.some.injEq] at hes
              subst hes
              obtain ⟨es', g1, g2⟩ := hR.entries hj he
              exact ⟨es', g2, fun K => by simp only [Sem.run_bind, getObj_run g1, Result.andThen_ok, Sem.run_pure]⟩
          · cases hes
        obtain ⟨es', hl, hrun⟩ := hes'
        have hemp : es'.isEmpty = es.isEmpty := by
          have := hl.1
          simp only [Array.length_toList] at this
          rw [Array.isEmpty, Array.isEmpty, this]
        split at h
        · rename_i i v1 hq hx
          simp only [Option.some.injEq] at h; subst h
          obtain ⟨r', f1, f2⟩ := find_ok hS hkd hc w hl hx
          cases r' with
          | none => exact f2.elim
          | some iv =>
            obtain ⟨i', v'⟩ := iv
            refine ⟨_, ?_, (f2.2).pair true commaOk⟩
            simp only [Instr.lookup, Sem.run_bind, underlying_run hu, Result.andThen_ok]
            have := hrun (fun es => do
              Instr.checkKey es.isEmpty 10000 kt ix'
              let (v, ok) ← match ← Instr.findKey kt ix' es.toList with
                | some (_, v) => pure (v, true)
                | none => pure (← zeroValue et, false)
              pure (if commaOk then .tuple #[v, .bool ok] else v))
            simp only [Sem.run_bind] at this
            refine this.trans ?_
            rw [hemp, quiet_run hq w]
            simp only [Result.andThen_ok, f1, Sem.run_bind, Sem.run_pure]
        · rename_i hq hx
          split at h
          · rename_i inf hinf
            split at h
            · rename_i z hz
              cases hcz : closed 12 z with
              | false => simp [hcz] at h
              | true =>
                simp only [hcz, cond_true, Option.some.injEq] at h; subst h
                obtain ⟨r', f1, f2⟩ := find_ok hS hkd hc w hl hx
                cases r' with
                | some iv => exact f2.elim
                | none =>
                  refine ⟨_, ?_, (VR.same (j := j) 12 hcz).pair false commaOk⟩
                  simp only [Instr.lookup, Sem.run_bind, underlying_run hu, Result.andThen_ok]
                  have := hrun (fun es => do
                    Instr.checkKey es.isEmpty 10000 kt ix'
                    let (v, ok) ← match ← Instr.findKey kt ix' es.toList with
                      | some (_, v) => pure (v, true)
                      | none => pure (← zeroValue et, false)
                    pure (if commaOk then .tuple #[v, .bool ok] else v))
                  simp only [Sem.run_bind] at this
                  refine this.trans ?_
                  rw [hemp, quiet_run hq w]
                  simp only [Result.andThen_ok, f1, Sem.run_bind, zeroValue_run hinf hz, Sem.run_pure]
            · cases h
          · cases h
        · cases h
      · cases h
  · cases h

end Go.Proofs.YtfeoocgmbikocaaGreat.Ev
