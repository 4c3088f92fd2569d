/- An evaluator for calls whose arguments are known: append and copy. -/
import Derived.Test.YtfeoocgmbikocaaGreatV6
namespace Go.Proofs.YtfeoocgmbikocaaGreat.Ev
open Go.RowKit

theorem R.scribble {w0 : World} {j : J} {s : AS} {w : World} (h : R w0 j s w) {r x : Nat} (v : Value) (hB : w0.heap.size ≤ r) {cs : Array Value} {e : TypeId} {fr : Nat × Nat}
    (hc : w.heap[r]? = some (.cells cs e fr)) (hcl : ∀ b o p, s.mem.get b = some o → j b = some p → p.r = r → ¬ claims o p.d x) : R w0 j s (w.setCell ⟨r, x, none⟩ v) := by
  have hset := setCell_heap w r x v cs e fr hc
  refine ⟨h.below.setCell hB _, fun b p hb => by have := h.dom b p hb; simpa [World.setCell] using this, h.memlt, fun b o p hm hj => ?_, h.sep⟩
  have ho := h.obj b o p hm hj
  by_cases hr : p.r = r
  · have hn := hcl b o p hm hj hr
    cases o with
    | row n z t e1 own =>
      obtain ⟨cs1, e1', fr1, g1, g2, g3, g4, g5⟩ := ho
      rw [hr, hc] at g1
      cases g1
      refine ⟨_, e, fr, by rw [hr]; exact hset, by simpa using g2, g3, by simpa using g4, fun i u hu => ?_⟩
      have hi := rget_lt hu
      have hne : x ≠ p.d + i := fun he => hn ⟨by omega, .inr (by omega)⟩
      rw [getD_set _ _ _ _ hne]
      exact g5 i u hu
    | map es clock => exact absurd True.intro hn
    | siter st pos => exact absurd True.intro hn
    | loop st jump fr nt ps assign body => exact absurd True.intro hn
    | defd => exact absurd True.intro hn
    | gone => exact True.intro
  · exact ho.mono (J.le_refl _) (Below.heap_setCell _ _ _ _ hr)

theorem scribbles {P : Program} {w0 : World} {j : J} {s : AS} {r lo : Nat} {e : TypeId} {fr : Nat × Nat} (hB : w0.heap.size ≤ r)
    (hcl : ∀ b o p, s.mem.get b = some o → j b = some p → p.r = r → ∀ x, lo ≤ x → ¬ claims o p.d x) : ∀ (l : List Value) (o i : Nat) (w : World) (cs : Array Value), R w0 j s w → lo ≤ o →
    w.heap[r]? = some (.cells cs e fr) → o + i + l.length ≤ cs.size → (∀ k, k < cs.size → ¬ (fr.1 ≤ k ∧ k < fr.2)) → (∀ v ∈ l, v.oneCell' = true) →
    ∃ w' cs', (storeCells ⟨r, o, none⟩ l i).run P w = .ok () w' ∧ w'.heap[r]? = some (.cells cs' e fr) ∧ cs'.size = cs.size ∧ R w0 j s w' ∧ w'.heap.size = w.heap.size ∧
      (∀ y, y < o + i → cs'.getD y undef = cs.getD y undef) ∧ ∀ k, k < l.length → cs'.getD (o + i + k) undef = l.getD k undef
  | [], o, i, w, cs, hR, _, hc, _, _, _ => ⟨w, cs, by simp [storeCells], hc, rfl, hR, rfl, fun _ _ => rfl, fun k hk => absurd hk (Nat.not_lt_zero _)⟩
  | v :: l, o, i, w, cs, hR, hlo, hc, hsz, hfr, h1 => by
    have hlt : o + i < cs.size := by simp only [List.length_cons] at hsz; omega
    have hcell := cell?_of hc hlt
    have hfz := frozen?_of hc (hfr _ hlt)
    have hv : v.oneCell' = true := h1 v (List.mem_cons_self ..)
    have hR1 := hR.scribble (x := o + i) v hB hc (fun b ob p hm hj hr => hcl b ob p hm hj hr _ (by omega))
    have hset := setCell_heap w r (o + i) v cs e fr hc
    obtain ⟨w', cs', g1, g2, g3, g4, g4', g5, g6⟩ := scribbles (P := P) hB hcl l o (i + 1) _ _ hR1 hlo hset (by simp only [List.length_cons] at hsz; simp only [Array.size_setIfInBounds]; omega) (by simpa using hfr)
      (fun u hu => h1 u (List.mem_cons_of_mem _ hu))
    refine ⟨w', cs', ?_, g2, by simpa using g3, g4, by rw [g4']; simp [World.setCell], fun y hy => ?_, fun k hk => ?_⟩
    · simp only [storeCells, Sem.run_bind, add_addr, run_store P w _ _ _ hv, hcell, hfz, Bool.false_eq_true, if_false, Result.andThen_ok]
      exact g1
    · rw [g5 y (by omega), getD_set _ _ _ _ (by omega)]
    · cases k with
      | zero =>
        rw [Nat.add_zero, g5 (o + i) (by omega)]
        simp [Array.getD_eq_getD_getElem?, hlt]
      | succ k =>
        have := g6 k (by simpa using hk)
        rw [show o + i + (k + 1) = o + (i + 1) + k by omega, this]; simp

/-- What an append or a copy reads. -/
def srcLen (x : Value) : Option Nat :=
  match x with
  | .slice _ n _ => some n
  | .string s => some s.size
  | _ => none

def srcCells (s : AS) (size n : Nat) (x : Value) : Option (List Value) :=
  match x with
  | .slice (some ⟨b, o, none⟩) _ _ => loadN s b o (n * size)
  | .slice none _ _ => some []
  | .string bs => some ((bs.extract 0 n).data.toList.map fun b => .int .u8 b.toNat)
  | _ => none

theorem srcLen_ok {P : Program} {j : J} {x x' : Value} {n : Nat} (w : World) (hx : VR j x x') (h : srcLen x = some n) : (Builtin.lenOf x').run P w = .ok n w := by
  unfold srcLen at h
  split at h
  · rename_i a n' c
    simp only [Option.some.injEq] at h; subst h
    cases hx with
    | same k hc => simp [Builtin.lenOf]
    | slice hj hc => simp [Builtin.lenOf]
  · rename_i bs
    simp only [Option.some.injEq] at h; subst h
    have : x' = .string bs := hx.closed_eq 1 rfl
    subst this; simp [Builtin.lenOf]
  · cases h

theorem srcCells_ok {P : Program} {w0 : World} {j : J} {s : AS} {w : World} (hR : R w0 j s w) {size n : Nat} {x x' : Value} {l : List Value} (hx : VR j x x') (h : srcCells s size n x = some l) :
    ∃ l' : List Value, (Builtin.firstCells size n x').run P w = .ok l'.toArray w ∧ l.length = l'.length ∧ ∀ k, VR j (l.getD k undef) (l'.getD k undef) := by
  unfold srcCells at h
  split at h
  · rename_i b o m c
    obtain ⟨p, c', hj, hc, rfl⟩ := slice_of hx
    obtain ⟨l', h1, h2, h3, _, h5⟩ := hR.cells (P := P) hj h
    exact ⟨l', by simp [Builtin.firstCells, h5], h2.trans h1.symm, h3⟩
  · rename_i m c
    simp only [Option.some.injEq] at h; subst h
    have : x' = .slice none m c := hx.closed_eq 1 rfl
    subst this
    exact ⟨[], by simp [Builtin.firstCells], rfl, fun k => by simpa using VR.udf j⟩
  · rename_i bs
    simp only [Option.some.injEq] at h; subst h
    have : x' = .string bs := hx.closed_eq 1 rfl
    subst this
    have hf : (Builtin.firstCells size n (.string bs)).run P w = .ok ((bs.extract 0 n).data.map fun b => Value.int .u8 b.toNat) w := rfl
    rw [hf]
    generalize bs.extract 0 n = q
    refine ⟨q.data.toList.map fun b => .int .u8 b.toNat, ?_, rfl, fun k => ?_⟩
    · congr 1
      apply Array.ext'
      simp only [Array.toList_map]
    · by_cases hk : k < q.data.size
      · simp only [List.getD_eq_getElem?_getD, List.getElem?_map]
        rw [List.getElem?_eq_getElem (by simpa using hk)]
        exact .same 1 rfl
      · simp only [List.getD_eq_getElem?_getD, List.getElem?_map]
        rw [List.getElem?_eq_none (by simpa using hk)]
        exact .udf j
  · cases h

theorem growBy_le (newLen : Nat) : ∀ (r c : Nat), c < newLen → Builtin.growBy newLen r c ≤ 2 * newLen + 192
  | 0, c, h => by simp only [Builtin.growBy]; omega
  | r + 1, c, h => by
    simp only [Builtin.growBy]
    split
    · omega
    · by_cases h2 : c + (c + 768) / 4 < newLen
      · exact growBy_le newLen r _ h2
      · cases r with
        | zero => simp only [Builtin.growBy]; omega
        | succ r => simp only [Builtin.growBy]; rw [if_pos (by omega)]; omega

theorem nextslicecap_le (need c : Nat) (h : c < need) : Builtin.nextslicecap need c ≤ 2 * need + 192 := by
  unfold Builtin.nextslicecap
  split
  · omega
  · split
    · omega
    · exact growBy_le need 4 c h

def aappend (P : Program) (ats : Array TypeId) (sv xv : Value) (s : AS) : Option (Value × AS) :=
  match ats[0]?, (match ats[1]? with | none => some true | some xt => (P.underlying xt).map fun d => !(d matches .int _)) with
  | some t, some true =>
    match P.underlying t with
    | some (.slice e) =>
      match P.info? e, zeroOf P e, srcLen xv with
      | some i, some z, some n =>
        match srcCells s i.size n xv with
        | some new =>
          bif Nat.beq new.length (n * i.size) && Nat.beq z.size i.size then
            match sv with
            | .slice none m c =>
              bif Nat.beq m 0 && Nat.beq c 0 then
                bif Nat.beq n 0 then some (sv, s)
                else bif Nat.blt n 1099511627776 && Nat.ble ((2 * n + 192) * i.bytes) 281474976710656 then
                  match anew s new.toArray (n * i.size) e true with
                  | some (b', s') => some (.slice (some ⟨b', 0, none⟩) n (n + big * (i.size + 1)), s')
                  | none => none
                else none
              else none
            | .slice (some ⟨b, o, none⟩) m c =>
              bif Nat.ble (m + n) (c % big) then
                bif new.all Value.oneCell' then
                  match asets s b (o + m * i.size) new with
                  | some s' => some (.slice (some ⟨b, o, none⟩) (m + n) c, s')
                  | none => none
                else none
              else
                match loadN s b o (m * i.size) with
                | some old =>
                  bif Nat.blt (m + n) 1099511627776 && Nat.ble ((2 * (m + n) + 192) * i.bytes) 281474976710656 then
                    bif Nat.blt c big then
                      match anew s (old ++ new).toArray ((m + n) * i.size) e true with
                      | some (b', s') => some (.slice (some ⟨b', 0, none⟩) (m + n) (m + n + big * (i.size + 1)), s')
                      | none => none
                    else
                      match s.mem.get b with
                      | some (.row _ _ _ _ true) =>
                        bif Nat.beq (c / big - 1) i.size && Nat.blt b lim && new.all Value.oneCell' then
                          match anew ⟨s.next, s.mem.put b .gone⟩ (old ++ new).toArray ((m + n) * i.size) e true with
                          | some (b', s') => some (.slice (some ⟨b', 0, none⟩) (m + n) (m + n + big * (i.size + 1)), s')
                          | none => none
                        else none
                      | _ => none
                  else none
                | none => none
            | _ => none
          else none
        | none => none
      | _, _, _ => none
    | _ => none
  | _, _ => none

/-- The part of append that makes a new row. -/
theorem grow_run {P : Program} {w : World} {e : TypeId} {i : TypeInfo} {zv : Value} (hz : ∀ w, (zeroValue e).run P w = .ok zv w) {need cap : Nat} {old new : Array Value}
    (x y : Sem (Array Value)) (hx : ∀ w1 : World, w1.heap = w.heap → x.run P w1 = .ok old w1) (hy : ∀ w1 : World, w1.heap = w.heap → y.run P w1 = .ok new w1) :
    ∃ (newCap : Nat) (w1 : World), need ≤ newCap ∧ w1.heap = w.heap ∧ w1.os = w.os ∧ w1.tape = w.tape ∧ w1.output = w.output ∧
      (do
        let newCap ← choose (.appendCap need cap e)
        askRoom (newCap * i.bytes)
        let old ← x
        let new ← y
        let rest := Builtin.zeroCells (← zeroValue e).cells (newCap - need)
        pure (.slice (some (← newRow e (old ++ new ++ rest))) need newCap) : Sem Value).run P w =
        .ok (.slice (some ⟨w.heap.size, 0, none⟩) need newCap) (w1.alloc (.cells (old ++ new ++ Builtin.zeroCells zv.cells (newCap - need)) e)) := by
  refine ⟨(Question.appendCap need cap e).cut (w.tape w.drawn (.appendCap need cap e)), { w with drawn := w.drawn + 1 }, ?_, rfl, rfl, rfl, rfl, ?_⟩
  · simp only [Question.cut]; omega
  · have hx' := hx { w with drawn := w.drawn + 1 } rfl
    have hy' := hy { w with drawn := w.drawn + 1 } rfl
    simp only [Sem.run_bind, run_choose, Question.forced, Bool.false_eq_true, if_false, Result.andThen_ok, run_askRoom, hx', hy', hz]
    simp [newRow]
    rfl

theorem zeroCells_size (z : Array Value) (n : Nat) : (Builtin.zeroCells z n).size = n * z.size := by simp [Builtin.zeroCells]

theorem getD_append (l m : List Value) (r : Array Value) (k : Nat) (hk : k < l.length + m.length) : (l.toArray ++ m.toArray ++ r).getD k undef = (l ++ m).getD k undef := by
  simp only [Array.getD_eq_getD_getElem?, List.getD_eq_getElem?_getD]
  rw [Array.getElem?_append_left (by simpa using hk)]
  simp

end Go.Proofs.YtfeoocgmbikocaaGreat.Ev
