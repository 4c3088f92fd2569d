/- An evaluator for calls whose arguments are known: structs, slices, maps and functions that are made. -/
import Derived.Test.YtfeoocgmbikocaaGreatV4
namespace Go.Proofs.YtfeoocgmbikocaaGreat.Ev
open Go.RowKit

theorem VRs.set {j : J} {c c' : Array Value} {v v' : Value} (h : VRs j c c') (hv : VR j v v') (i : Nat) : VRs j (c.setIfInBounds i v) (c'.setIfInBounds i v') := by
  refine ⟨by simp [h.1], fun k => ?_⟩
  have h0 := h.2 k
  have hs := h.1
  simp only [Array.getD_eq_getD_getElem?, Array.getElem?_setIfInBounds, hs] at h0 ⊢
  by_cases hik : i = k
  · subst hik
    by_cases hlt : i < c'.size
    · simp [hlt, hv]
    · simp [hlt]; exact .udf j
  · simpa [hik] using h0

/-- Parts of a value, each at its place. -/
def PR (j : J) (a a' : List (Nat × Value)) : Prop := a.length = a'.length ∧ ∀ k, ((a.getD k (0, undef)).1 = (a'.getD k (0, undef)).1 ∧ VR j (a.getD k (0, undef)).2 (a'.getD k (0, undef)).2)

theorem PR.cons {j : J} {x x' : Nat × Value} {a a' : List (Nat × Value)} (h : PR j (x :: a) (x' :: a')) : x.1 = x'.1 ∧ VR j x.2 x'.2 ∧ PR j a a' :=
  ⟨by simpa using (h.2 0).1, by simpa using (h.2 0).2, by simpa using h.1, fun k => by simpa using h.2 (k + 1)⟩

theorem foldl_set_VRs {j : J} (off : Nat) : ∀ (l l' : List Value) (b : Nat) (c c' : Array Value), l.length = l'.length → (∀ k, VR j (l.getD k undef) (l'.getD k undef)) → VRs j c c' →
    VRs j ((l.zipIdx b).foldl (fun cs (x : Value × Nat) => cs.setIfInBounds (off + x.2) x.1) c) ((l'.zipIdx b).foldl (fun cs (x : Value × Nat) => cs.setIfInBounds (off + x.2) x.1) c')
  | [], l', b, c, c', hl, _, h => by
    have : l' = [] := by cases l' with | nil => rfl | cons _ _ => simp at hl
    subst this; exact h
  | v :: l, l', b, c, c', hl, hv, h => by
    cases l' with
    | nil => simp at hl
    | cons v' l' =>
      simp only [List.zipIdx_cons, List.foldl_cons]
      exact foldl_set_VRs off l l' (b + 1) _ _ (by simpa using hl) (fun k => by simpa using hv (k + 1)) (h.set (by simpa using hv 0) _)

theorem VRs.toList {j : J} {c c' : Array Value} (h : VRs j c c') (k : Nat) : VR j (c.toList.getD k undef) (c'.toList.getD k undef) := by
  simpa [Array.getD_eq_getD_getElem?, List.getD_eq_getElem?_getD] using h.2 k

theorem fill_cells (off : Nat) (v cells : Array Value) : (v.zipIdx.foldl (fun cs (x : Value × Nat) => cs.setIfInBounds (off + x.2) x.1) cells) = (v.toList.zipIdx.foldl (fun cs (x : Value × Nat) => cs.setIfInBounds (off + x.2) x.1) cells) := by
  rw [← Array.foldl_toList]; simp

theorem fill_ok {j : J} (place : Nat → Option (Nat × Nat)) : ∀ (a a' : List (Nat × Value)) (c c' r : Array Value), PR j a a' → VRs j c c' → Instr.fill place c a = some r → ∃ r', Instr.fill place c' a' = some r' ∧ VRs j r r'
  | [], a', c, c', r, hp, hc, h => by
    have : a' = [] := by have := hp.1; cases a' with | nil => rfl | cons _ _ => simp at this
    subst this
    simp only [Instr.fill, Option.some.injEq] at h ⊢
    subst h
    exact ⟨_, rfl, hc⟩
  | (i, v) :: a, a', c, c', r, hp, hc, h => by
    cases a' with
    | nil => have := hp.1; simp at this
    | cons x' a' =>
      obtain ⟨i', v'⟩ := x'
      obtain ⟨h1, h2, h3⟩ := hp.cons
      simp only at h1 h2
      subst h1
      simp only [Instr.fill] at h ⊢
      cases hpl : place i with
      | none => simp [hpl] at h
      | some q =>
        obtain ⟨off, size⟩ := q
        simp only [hpl] at h ⊢
        have hcs := h2.cells
        rw [← hcs.1, ← hc.1]
        split at h
        · cases h
        · rename_i hcond
          rw [if_neg hcond]
          have hf := foldl_set_VRs off v.cells.toList v'.cells.toList 0 c c' (by simpa using hcs.1) hcs.toList hc
          rw [← fill_cells, ← fill_cells] at hf
          exact fill_ok place a a' _ _ r h3 hf h

/-- Places of a struct's fields. -/
def places (P : Program) : List Field → Option (List (Nat × Nat))
  | [] => some []
  | f :: fs => match P.info? f.type with
    | some i => match places P fs with
      | some l => some ((f.offset, i.size) :: l)
      | none => none
    | none => none

theorem places_run {P : Program} (w : World) : ∀ (fs : List Field) (l : List (Nat × Nat)), places P fs = some l →
    (fs.mapM fun f => do pure (f.offset, ← Go.sizeOf f.type) : Sem (List (Nat × Nat))).run P w = .ok l w
  | [], l, h => by simp only [places, Option.some.injEq] at h; subst h; simp
  | f :: fs, l, h => by
    simp only [places] at h
    split at h
    · rename_i i hi
      split at h
      · rename_i l' hl'
        simp only [Option.some.injEq] at h
        subst h
        have := places_run w fs l' hl'
        simp only [List.mapM_cons, Sem.run_bind, sizeOf_run hi, Result.andThen_ok, Sem.run_pure, this]
      · cases h
    · cases h

def abuild (P : Program) (t : TypeId) (parts : List (Nat × Value)) : Option Value :=
  match zeroOf P t, P.underlying t with
  | some z, some (.struct fields) =>
    match places P fields.toList with
    | some l => match Instr.fill (l.toArray[·]?) z parts with
      | some r => some (.agg r)
      | none => none
    | none => none
  | some z, some (.array _ e) =>
    match P.info? e with
    | some i => match Instr.fill (fun k => some (k * i.size, i.size)) z parts with
      | some r => some (.agg r)
      | none => none
    | none => none
  | _, _ => none

theorem abuild_ok {P : Program} {j : J} {w : World} {t : TypeId} {parts parts' : List (Nat × Value)} {v : Value} (hp : PR j parts parts') (h : abuild P t parts = some v) :
    ∃ v', (Instr.build t parts'.toArray).run P w = .ok v' w ∧ VR j v v' := by
  unfold abuild at h
  split at h
  · rename_i z fields hz hu
    obtain ⟨zv, h1, rfl, h3⟩ := zeroOf_spec hz
    split at h
    · rename_i l hl
      split at h
      · rename_i r hr
        simp only [Option.some.injEq] at h
        subst h
        obtain ⟨r', hr', hv⟩ := fill_ok (j := j) _ parts parts' zv.cells zv.cells r hp ⟨rfl, closed_VR h3⟩ hr
        refine ⟨.agg r', ?_, hv.agg⟩
        have hm := places_run (P := P) w fields.toList l hl
        have hm' : (fields.mapM fun f => do pure (f.offset, ← Go.sizeOf f.type) : Sem (Array (Nat × Nat))).run P w = .ok l.toArray w := by
          rw [Array.mapM_eq_mapM_toList]
          simp only [Sem.run_map, hm, Result.andThen_ok]
        simp only [Instr.build, Sem.run_bind, h1, Result.andThen_ok, underlying_run hu, hm', hr']
        rfl
      · cases h
    · cases h
  · rename_i z n e hz hu
    obtain ⟨zv, h1, rfl, h3⟩ := zeroOf_spec hz
    split at h
    · rename_i i hi
      split at h
      · rename_i r hr
        simp only [Option.some.injEq] at h
        subst h
        obtain ⟨r', hr', hv⟩ := fill_ok (j := j) _ parts parts' zv.cells zv.cells r hp ⟨rfl, closed_VR h3⟩ hr
        refine ⟨.agg r', ?_, hv.agg⟩
        simp only [Instr.build, Sem.run_bind, h1, Result.andThen_ok, underlying_run hu, sizeOf_run hi, hr']
        rfl
      · cases h
    · cases h
  · cases h

/-- n zero cells. -/
def zeros (z : Array Value) (n : Nat) : Array Value := ((List.range n).map fun i => z.getD (i % z.size) undef).toArray

theorem zeros_run (z : Array Value) (n : Nat) (hz : n = 0 ∨ 0 < z.size) : (Array.range n).map (fun i => z[i % z.size]!) = zeros z n := by
  apply Array.ext'
  simp only [Array.toList_map, Array.toList_range, zeros]
  apply List.map_congr_left
  intro i hi
  rcases hz with rfl | hz
  · simp at hi
  · have : i % z.size < z.size := Nat.mod_lt _ hz
    simp [Array.getD, this, getElem!_pos]

theorem zeros_getD (z : Array Value) (n i : Nat) (hi : i < n) : (zeros z n).getD i undef = z.getD (i % z.size) undef := by
  simp [zeros, Array.getD_eq_getD_getElem?, hi]

def abuildSlice (P : Program) (t : TypeId) (len : Nat) (parts : List (Nat × Value)) (s : AS) : Option (Value × AS) :=
  match P.underlying t with
  | some (.slice e) =>
    match P.info? e, zeroOf P e with
    | some i, some z =>
      bif Nat.ble (len * i.size) 16777216 && (Nat.beq (len * i.size) 0 || Nat.blt 0 z.size) then
        match Instr.fill (fun k => some (k * i.size, i.size)) (zeros z (len * i.size)) parts with
        | some r => match anew s r r.size e true with
          | some (b, s') => some (.slice (some ⟨b, 0, none⟩) len len, s')
          | none => none
        | none => none
      else none
    | _, _ => none
  | _ => none

theorem abuildSlice_ok {P : Program} {w0 : World} {j : J} {s s' : AS} {w : World} (hR : R w0 j s w) {t : TypeId} {len : Nat} {parts parts' : List (Nat × Value)} {v : Value} (hp : PR j parts parts')
    (hlen : len < big) (h : abuildSlice P t len parts s = some (v, s')) : Ok P w0 (Instr.buildSlice t len parts'.toArray) j s w v s' := by
  unfold abuildSlice at h
  split at h
  · rename_i e hu
    split at h
    · rename_i i z hi hz
      obtain ⟨zv, h1, rfl, h3⟩ := zeroOf_spec hz
      cases hb : (Nat.ble (len * i.size) 16777216 && (Nat.beq (len * i.size) 0 || Nat.blt 0 zv.cells.size)) with
      | false => simp [hb] at h
      | true =>
        simp only [hb, cond_true] at h
        simp only [Bool.and_eq_true, Bool.or_eq_true] at hb
        split at h
        · rename_i r hr
          split at h
          · rename_i b s1 hn
            simp only [Option.some.injEq, Prod.mk.injEq] at h
            obtain ⟨rfl, rfl⟩ := h
            have hle : len * i.size ≤ 16777216 := Nat.le_of_ble_eq_true hb.1
            have hz0 : len * i.size = 0 ∨ 0 < zv.cells.size := hb.2.imp Nat.eq_of_beq_eq_true (fun x => by rwa [Nat.blt_eq] at x)
            obtain ⟨r', hr', hv⟩ := fill_ok (j := j) _ parts parts' (zeros zv.cells (len * i.size)) (zeros zv.cells (len * i.size)) r hp
              ⟨rfl, fun k => by
                by_cases hk : k < len * i.size
                · rw [zeros_getD _ _ _ hk]; exact closed_VR h3 _
                · rw [show (zeros zv.cells (len * i.size)).getD k undef = undef by simp [zeros, Array.getD_eq_getD_getElem?, hk]]; exact .udf j⟩ hr
            obtain ⟨j', hbj, hR', hE⟩ := anew_ok (c' := r') (e' := e) hR hn (by rw [hv.1]; exact Nat.le_refl _) (fun k hk => by rw [Nat.mod_eq_of_lt hk]; exact hv.2 k) (0, 0) (fun i _ hx => absurd hx.2 (Nat.not_lt_zero _))
            refine ⟨j', .slice (some ⟨w.heap.size, 0, none⟩) len len, _, ?_, .slice (o := 0) hbj (.inl ⟨hlen, rfl⟩), hR', hE⟩
            have hgt : ¬ len * i.size > 2 ^ 24 := by omega
            by_cases h0 : len * i.size = 0
            · have hr0 : Instr.fill (fun k => some (k * i.size, i.size)) #[] parts' = some r' := by rw [h0] at hr'; exact hr'
              have hr00 : Array.range 0 = #[] := rfl
              simp [Instr.buildSlice, underlying_run hu, sizeOf_run hi, h0, hr00, hr0, newRow]
            · have hz' := zeros_run zv.cells _ hz0
              simp only [Instr.buildSlice, Sem.run_bind, underlying_run hu, Result.andThen_ok, sizeOf_run hi, if_neg hgt, if_neg h0, Sem.run_pure, h1, hz', hr']
              simp [newRow]
          · cases h
        · cases h
    · cases h
  · cases h

theorem abuildSlice_run {P : Program} {j : J} {w : World} {t : TypeId} {len : Nat} {parts parts' : List (Nat × Value)} (hp : PR j parts parts') {e : TypeId} (hu : P.underlying t = some (.slice e)) {i : TypeInfo} (hi : P.info? e = some i)
    {z : Array Value} (hz : zeroOf P e = some z) (hb : (Nat.ble (len * i.size) 16777216 && (Nat.beq (len * i.size) 0 || Nat.blt 0 z.size)) = true) {r : Array Value}
    (hr : Instr.fill (fun k => some (k * i.size, i.size)) (zeros z (len * i.size)) parts = some r) :
    ∃ r', (Instr.buildSlice t len parts'.toArray).run P w = .ok (.slice (some ⟨w.heap.size, 0, none⟩) len len) (w.alloc (.cells r' e)) ∧ True ∧ VRs j r r' := by
  obtain ⟨zv, h1, rfl, h3⟩ := zeroOf_spec hz
  simp only [Bool.and_eq_true, Bool.or_eq_true] at hb
  have hle : len * i.size ≤ 16777216 := Nat.le_of_ble_eq_true hb.1
  have hz0 : len * i.size = 0 ∨ 0 < zv.cells.size := hb.2.imp Nat.eq_of_beq_eq_true (fun x => by rwa [Nat.blt_eq] at x)
  obtain ⟨r', hr', hv⟩ := fill_ok (j := j) _ parts parts' (zeros zv.cells (len * i.size)) (zeros zv.cells (len * i.size)) r hp
    ⟨rfl, fun k => by
      by_cases hk : k < len * i.size
      · rw [zeros_getD _ _ _ hk]; exact closed_VR h3 _
      · rw [show (zeros zv.cells (len * i.size)).getD k undef = undef by simp [zeros, Array.getD_eq_getD_getElem?, hk]]; exact .udf j⟩ hr
  refine ⟨r', ?_, True.intro, hv⟩
  have hgt : ¬ len * i.size > 2 ^ 24 := by omega
  by_cases h0 : len * i.size = 0
  · have hr0 : Instr.fill (fun k => some (k * i.size, i.size)) #[] parts' = some r' := by rw [h0] at hr'; exact hr'
    have hr00 : Array.range 0 = #[] := rfl
    simp [Instr.buildSlice, underlying_run hu, sizeOf_run hi, h0, hr00, hr0, newRow]
  · have hz' := zeros_run zv.cells _ hz0
    simp only [Instr.buildSlice, Sem.run_bind, underlying_run hu, Result.andThen_ok, sizeOf_run hi, if_neg hgt, if_neg h0, Sem.run_pure, h1, hz', hr']
    simp [newRow]

def amakeSlice (P : Program) (t : TypeId) (len cap : Value) (s : AS) : Option (Value × AS) :=
  match len, cap, P.underlying t with
  | .int _ l, .int _ c, some (.slice e) =>
    match P.info? e, zeroOf P e with
    | some i, some z =>
      bif decide (0 ≤ l) && decide (l ≤ c) && decide (c < 4611686018427387904) && decide ((i.bytes : Int) * c ≤ 281474976710656) && (Nat.beq (c.toNat * i.size) 0 || Nat.blt 0 z.size) then
        match anew s z (c.toNat * i.size) e true with
        | some (b, s') => some (.slice (some ⟨b, 0, none⟩) l.toNat c.toNat, s')
        | none => none
      else none
    | _, _ => none
  | _, _, _ => none

theorem wrap_small {c : Int} (h0 : 0 ≤ c) (h1 : c < 4611686018427387904) : IntKind.i64.wrap c = c := by
  unfold IntKind.wrap
  simp only [IntKind.bits, IntKind.signed, Bool.true_and]
  have : c % (2 ^ 64 : Int) = c := Int.emod_eq_of_lt h0 (by omega)
  simp only [this]
  rw [if_neg]
  simp only [decide_eq_true_eq, Int.not_le, ge_iff_le]
  omega

theorem amakeSlice_ok {P : Program} {w0 : World} {j : J} {s s' : AS} {w : World} (hR : R w0 j s w) {t : TypeId} {l l' c c' v : Value} (hl : VR j l l') (hc : VR j c c')
    (h : amakeSlice P t l c s = some (v, s')) : Ok P w0 (Instr.makeSlice t l' c') j s w v s' := by
  unfold amakeSlice at h
  split at h
  · rename_i kl ln kc cn e hu
    have := hl.int_eq; subst this
    have := hc.int_eq; subst this
    split at h
    · rename_i i z hi hz
      obtain ⟨zv, h1, rfl, h3⟩ := zeroOf_spec hz
      generalize hbb : (decide (0 ≤ ln) && decide (ln ≤ cn) && decide (cn < 4611686018427387904) && decide ((i.bytes : Int) * cn ≤ 281474976710656) && (Nat.beq (cn.toNat * i.size) 0 || Nat.blt 0 zv.cells.size)) = bb at h
      cases bb with
      | false => simp at h
      | true =>
        simp only [cond_true] at h
        simp only [Bool.and_eq_true, Bool.or_eq_true, decide_eq_true_eq] at hbb
        obtain ⟨⟨⟨⟨g1, g2⟩, g3⟩, g4⟩, g5⟩ := hbb
        split at h
        · rename_i b s1 hn
          simp only [Option.some.injEq, Prod.mk.injEq] at h
          obtain ⟨rfl, rfl⟩ := h
          have hz0 : cn.toNat * i.size = 0 ∨ 0 < zv.cells.size := g5.imp Nat.eq_of_beq_eq_true (fun x => by rwa [Nat.blt_eq] at x)
          obtain ⟨j', hbj, hR', hE⟩ := anew_ok (c' := zeros zv.cells (cn.toNat * i.size)) (e' := e) hR hn (by simp [zeros]) (fun k hk => by rw [zeros_getD _ _ _ hk]; exact closed_VR h3 _) (0, 0) (fun i _ hx => absurd hx.2 (Nat.not_lt_zero _))
          refine ⟨j', .slice (some ⟨w.heap.size, 0, none⟩) ln.toNat cn.toNat, _, ?_, .slice (o := 0) hbj (.inl ⟨by unfold big; omega, rfl⟩), hR', hE⟩
          have hw1 : IntKind.i64.wrap ln = ln := wrap_small g1 (by omega)
          have hw2 : IntKind.i64.wrap cn = cn := wrap_small (by omega) g3
          have t1 : ¬ cn < 0 := by omega
          have t2 : ¬ ((i.bytes : Int) * cn > 2 ^ 48) := by omega
          have t3 : ¬ ln < 0 := by omega
          have t4 : ¬ ln > cn := by omega
          by_cases h0 : cn.toNat * i.size = 0
          · have hr00 : Array.range 0 = #[] := rfl
            simp only [Instr.makeSlice, Sem.run_bind, underlying_run hu, Result.andThen_ok, asInt, asIntOf, Sem.run_pure, typeInfo_run hi, hw1, hw2, t1, t2, t3, t4, decide_false, Bool.or_self, Bool.false_eq_true, if_false, run_askRoom, sizeOf_run hi, h0, if_true]
            simp [newRow, hr00, zeros]
          · have hz' := zeros_run zv.cells _ hz0
            simp only [Instr.makeSlice, Sem.run_bind, underlying_run hu, Result.andThen_ok, asInt, asIntOf, Sem.run_pure, typeInfo_run hi, hw1, hw2, t1, t2, t3, t4, decide_false, Bool.or_self, Bool.false_eq_true, if_false, run_askRoom, sizeOf_run hi, if_neg h0, h1, hz']
            simp [newRow]
        · cases h
    · cases h
  · cases h

end Go.Proofs.YtfeoocgmbikocaaGreat.Ev
