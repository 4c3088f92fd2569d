/- An evaluator for calls whose arguments are known: append and copy, in a world. -/
import Derived.Test.YtfeoocgmbikocaaGreatV7
namespace Go.Proofs.YtfeoocgmbikocaaGreat.Ev
open Go.RowKit

theorem loadCells_heap {P : Program} {w w1 : World} (hh : w1.heap = w.heap) (a : Addr) (n : Nat) (l : Array Value) (h : (loadCells a n).run P w = .ok l w) (hc : ∀ k, k < n → ∃ v, w.cell? (a.add k) = some v) :
    (loadCells a n).run P w1 = .ok l w1 := by
  have hcell : ∀ a, w1.cell? a = w.cell? a := fun a => by simp only [World.cell?, hh]
  have h1 := run_loadCells (P := P) w a n (fun k => ((w.cell? (a.add k)).getD undef)) (fun k hk => by obtain ⟨v, hv⟩ := hc k hk; rw [hv]; rfl)
  have h2 := run_loadCells (P := P) w1 a n (fun k => ((w.cell? (a.add k)).getD undef)) (fun k hk => by obtain ⟨v, hv⟩ := hc k hk; rw [hcell, hv]; rfl)
  rw [h] at h1
  cases h1
  exact h2

theorem srcCells_heap {P : Program} {w0 : World} {j : J} {s : AS} {w : World} (hR : R w0 j s w) {size n : Nat} {x x' : Value} {l : List Value} (hx : VR j x x') (h : srcCells s size n x = some l) :
    ∃ l' : List Value, (∀ w1 : World, w1.heap = w.heap → (Builtin.firstCells size n x').run P w1 = .ok l'.toArray w1) ∧ l.length = l'.length ∧ ∀ k, VR j (l.getD k undef) (l'.getD k undef) := by
  obtain ⟨l', h1, h2, h3⟩ := srcCells_ok (P := P) hR hx h
  refine ⟨l', fun w1 hh => ?_, h2, h3⟩
  unfold srcCells at h
  split at h
  · rename_i b o m c
    obtain ⟨p, c', hj, hc, rfl⟩ := slice_of hx
    obtain ⟨l2, g1, g2, g3, g4, g5⟩ := hR.cells (P := P) hj h
    simp only [Builtin.firstCells] at h1 ⊢
    exact loadCells_heap hh _ _ _ h1 (fun k hk => ⟨_, by rw [add_addr]; exact g4 k hk⟩)
  · rename_i m c
    have : x' = .slice none m c := hx.closed_eq 1 rfl
    subst this
    simp only [Builtin.firstCells, Sem.run_pure, Result.ok.injEq] at h1 ⊢
    exact ⟨h1.1, trivial⟩
  · rename_i bs
    have : x' = .string bs := hx.closed_eq 1 rfl
    subst this
    simp only [Builtin.firstCells, Sem.run_pure, Result.ok.injEq] at h1 ⊢
    exact ⟨h1.1, trivial⟩
  · cases h

theorem rel_append {j : J} {a a' b b' : List Value} (h1 : a.length = a'.length) (ha : ∀ k, VR j (a.getD k undef) (a'.getD k undef)) (hb : ∀ k, VR j (b.getD k undef) (b'.getD k undef)) (k : Nat) :
    VR j ((a ++ b).getD k undef) ((a' ++ b').getD k undef) := by
  simp only [List.getD_eq_getElem?_getD, List.getElem?_append, h1] at *
  split
  · exact ha k
  · exact hb _

theorem mem_getD {l : List Value} {v : Value} (h : v ∈ l) : ∃ k, k < l.length ∧ l.getD k undef = v := by
  obtain ⟨k, hk, hv⟩ := List.getElem_of_mem h
  exact ⟨k, hk, by simp [List.getD_eq_getElem?_getD, hk, hv]⟩

theorem rel_oneCell {j : J} {l l' : List Value} (hl : l.length = l'.length) (h : ∀ k, VR j (l.getD k undef) (l'.getD k undef)) (h1 : l.all Value.oneCell' = true) : ∀ v ∈ l', v.oneCell' = true := by
  intro v hv
  obtain ⟨k, hk, rfl⟩ := mem_getD hv
  rw [(h k).oneCell'_eq]
  refine List.all_eq_true.1 h1 _ ?_
  rw [List.getD_eq_getElem?_getD, List.getElem?_eq_getElem (by omega)]
  exact List.getElem_mem ..

/-- A new row behind a draw, of which the first cells are told. -/
theorem grown_ok {w0 : World} {j : J} {s s' : AS} {w w1 : World} (hR : R w0 j s w) (hh : w1.heap = w.heap) (h1 : w1.os = w.os) (h2 : w1.tape = w.tape) (h3 : w1.output = w.output)
    {l l' : List Value} (hl : l.length = l'.length) (hv : ∀ k, VR j (l.getD k undef) (l'.getD k undef)) {n : Nat} (hn : n = l.length) {e : TypeId} {b : Nat} (ha : anew s l.toArray n e true = some (b, s')) (rest : Array Value) :
    ∃ j', j' b = some ⟨w.heap.size, 0, l'.length + rest.size⟩ ∧ R w0 j' s' (w1.alloc (.cells (l'.toArray ++ rest) e)) ∧ Ext j s j' s' := by
  have hR1 := hR.same hh h1 h2 h3
  obtain ⟨j', g1, g2, g3⟩ := anew_ok (c' := l'.toArray ++ rest) (e' := e) hR1 ha (by simp; omega) (fun i hi => by
    have hi' : i < l.toArray.size := by simpa using (show i < l.length by omega)
    rw [Nat.mod_eq_of_lt hi']
    have := hv i
    simp only [Array.getD_eq_getD_getElem?, List.getD_eq_getElem?_getD] at this ⊢
    rw [Array.getElem?_append_left (by simpa using (show i < l'.length by omega))]
    simpa using this) (0, 0) (fun i _ hx => absurd hx.2 (Nat.not_lt_zero _))
  refine ⟨j', ?_, g2, g3⟩
  rw [g1, hh]; simp

theorem slice_cap {j : J} {b rs need newCap size : Nat} {p : Pl} (hj : j b = some p) (hd : p.d = 0) (hr : p.rs = rs) (h1 : need ≤ newCap) (h2 : newCap * size ≤ rs) (hneed : need < 1099511627776) :
    VR j (.slice (some ⟨b, 0, none⟩) need (need + big * (size + 1))) (.slice (some ⟨p.r, 0, none⟩) need newCap) := by
  have := VR.slice (j := j) (b := b) (o := 0) (n := need) (c := need + big * (size + 1)) (c' := newCap) hj (.inr ⟨?_, ?_, ?_⟩)
  · rw [hd] at this; exact this
  · have : big * 1 ≤ big * (size + 1) := Nat.mul_le_mul_left _ (by omega)
    omega
  · rw [Nat.add_mul_mod_self_left, Nat.mod_eq_of_lt (by unfold big; omega)]; exact h1
  · rw [Nat.add_mul_div_left _ _ big_pos, Nat.div_eq_of_lt (by unfold big; omega), Nat.zero_add, Nat.add_sub_cancel, hd, hr]; omega

def acopy (P : Program) (ats : Array TypeId) (dv xv : Value) (s : AS) : Option (Value × AS) :=
  match ats[0]? with
  | some t =>
    match P.underlying t with
    | some (.slice e) =>
      match P.info? e, srcLen xv with
      | some i, some sn =>
        match dv with
        | .slice none dl _ => bif Nat.beq dl 0 then (match srcCells s i.size 0 xv with | some _ => some (.int .i64 0, s) | none => none) else none
        | .slice (some ⟨b, o, none⟩) dl _ =>
          match srcCells s i.size (Nat.min sn dl) xv with
          | some l => match asets s b o l with
            | some s' => some (.int .i64 ((Nat.min sn dl : Nat) : Int), s')
            | none => none
          | none => none
        | _ => none
      | _, _ => none
    | _ => none
  | none => none

theorem acopy_ok {P : Program} {w0 : World} {j : J} {s s' : AS} {w : World} (hR : R w0 j s w) {ats : Array TypeId} {t0 : TypeId} {dv dv' xv xv' v : Value} (hd : VR j dv dv') (hx : VR j xv xv')
    (h : acopy P ats dv xv s = some (v, s')) : Ok P w0 (Builtin.copy_ ats t0 #[dv', xv']) j s w v s' := by
  unfold acopy at h
  split at h
  · rename_i t ht
    split at h
    · rename_i e hu
      split at h
      · rename_i i sn hi hsn
        have hlen := srcLen_ok (P := P) w hx hsn
        split at h
        · rename_i dl dc
          have : dv' = .slice none dl dc := hd.closed_eq 1 rfl
          subst this
          cases hb : Nat.beq dl 0 with
          | false => simp [hb] at h
          | true =>
            have hdl := Nat.eq_of_beq_eq_true hb
            subst hdl
            simp only [Nat.beq_refl, cond_true] at h
            split at h
            · rename_i l hl
              simp only [Option.some.injEq, Prod.mk.injEq] at h
              obtain ⟨rfl, rfl⟩ := h
              obtain ⟨l', g1, g2, g3⟩ := srcCells_ok (P := P) hR hx hl
              refine ⟨j, .int .i64 0, w, ?_, .same 1 rfl, hR, .refl _ _⟩
              simp [Builtin.copy_, ht, underlying_run hu, hlen, sizeOf_run hi, g1, goInt]
            · cases h
        · rename_i b o dl dc
          obtain ⟨p, c', hj, hc, rfl⟩ := slice_of hd
          split at h
          · rename_i l hl
            split at h
            · rename_i s1 hs
              simp only [Option.some.injEq, Prod.mk.injEq] at h
              obtain ⟨rfl, rfl⟩ := h
              obtain ⟨l', g1, g2, g3⟩ := srcCells_ok (P := P) hR hx hl
              obtain ⟨w', k1, k2, k3⟩ := asets_ok (P := P) hj l l' o 0 s s1 w hR g2 g3 hs
              refine ⟨j, .int .i64 ((Nat.min sn dl : Nat) : Int), w', ?_, .same 1 rfl, k2, k3⟩
              simp only [Builtin.copy_, ht]
              simp [underlying_run hu, hlen, sizeOf_run hi, g1, goInt, k1]
            · cases h
          · cases h
        · cases h
      · cases h
    · cases h
  · cases h

end Go.Proofs.YtfeoocgmbikocaaGreat.Ev
