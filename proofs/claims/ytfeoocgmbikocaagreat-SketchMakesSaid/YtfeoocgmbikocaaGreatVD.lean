/- An evaluator for calls whose arguments are known: maps that are written, lengths, bytes and strings. -/
import Derived.Test.YtfeoocgmbikocaaGreatVC
import Derived.Laws.BytesString
namespace Go.Proofs.YtfeoocgmbikocaaGreat.Ev
open Go.RowKit

theorem setObj_run {P : Program} {w : World} {r : Nat} {ob : Obj} (o : Obj) (h : w.heap[r]? = some ob) (hn : ∀ c e f, ob ≠ .cells c e f) :
    (setObj r o).run P w = .ok () { w with heap := w.heap.setIfInBounds r o } := by
  cases ob with
  | cells c e f => exact absurd rfl (hn c e f)
  | _ => simp [setObj, Sem.run, h]

def aupdate (P : Program) (okS : TypeId → Bool) (t : TypeId) (m k v : Value) (s : AS) : Option AS :=
  match m, P.underlying t with
  | .map (some b), some (.map kt _) =>
    match s.mem.get b with
    | some (.map es clock) =>
      bif closed 12 k && Nat.blt b lim then
        match P.underlying kt, quiet P (Instr.checkKey false 10000 kt k), aidx P okS kt k es.toList 0 with
        | some _, some (), some (some (i, _)) => (match es[i]? with
          | some e => bif closed 12 e.key && Instr.sameBits 10000 e.key k then some ⟨s.next, s.mem.put b (.map (es.setIfInBounds i { e with key := k, val := v }) clock)⟩ else none
          | none => none)
        | some _, some (), some none => some ⟨s.next, s.mem.put b (.map (es.push { key := k, val := v, born := clock }) (clock + 1))⟩
        | _, _, _ => none
      else none
    | _ => none
  | _, _ => none

theorem aupdate_ok {P : Program} {okS : TypeId → Bool} (hS : ∀ t, okS t = true → P.stoodInHeld t = false) {w0 : World} {j : J} {s s' : AS} {w : World} (hR : R w0 j s w) {t : TypeId} {m m' k k' v v' : Value}
    (hm : VR j m m') (hk : VR j k k') (hv : VR j v v') (h : aupdate P okS t m k v s = some s') : ∃ w', (Instr.mapUpdate t m' k' v').run P w = .ok () w' ∧ R w0 j s' w' ∧ Ext j s j s' := by
  unfold aupdate at h
  split at h
  · rename_i b kt vt hu
    obtain ⟨p, hj, hd, rfl⟩ := map_of hm
    split at h
    · rename_i es clock hmem
      generalize hb : (closed 12 k && Nat.blt b lim) = bb at h
      cases bb with
      | false => simp at h
      | true =>
        simp only [Bool.and_eq_true, Nat.blt_eq] at hb
        obtain ⟨hc, hbl⟩ := hb
        have := hk.closed_eq 12 hc; subst this
        simp only [cond_true] at h
        obtain ⟨_, es', g1, g2, g3⟩ := hR.obj b _ p hmem hj
        have hl : ELs j es.toList es'.toList := ⟨by simpa using g2, fun i e hi => by simpa using g3 i e (by simpa using hi)⟩
        have hdom := hR.dom b p hj
        have hset : ∀ (ob : Obj), ({ w with heap := w.heap.setIfInBounds p.r ob } : World).heap[p.r]? = some ob := fun ob => by simp [hdom.2.2]
        split at h
        · rename_i kd i vv hkd hq hx
          split at h
          · rename_i e he
            generalize hb2 : (closed 12 e.key && Instr.sameBits 10000 e.key k') = b2 at h
            cases b2 with
            | false => simp at h
            | true =>
              simp only [Bool.and_eq_true] at hb2
              simp only [cond_true, Option.some.injEq] at h; subst h
              obtain ⟨r', f1, f2⟩ := find_ok hS hkd hc w hl hx
              cases r' with
              | none => exact f2.elim
              | some iv =>
                obtain ⟨i', v1⟩ := iv
                obtain ⟨rfl, f3⟩ := f2
                obtain ⟨e', he', her⟩ := g3 i e he
                have hek : e'.key = e.key := her.2.1.closed_eq 12 hb2.1
                have hstay : (Instr.keyThatStays (((es'[i]?).map (·.key)).getD k') k').run P w = .ok k' w := by
                  simp only [he', Option.map_some, Option.getD_some, hek, Instr.keyThatStays, hb2.2, if_true, Sem.run_pure]
                have hkey := hR.setObj (o' := .map (es.setIfInBounds i { e with key := k', val := v }) clock) (.map (es'.modify i fun e => { e with key := k', val := v' }) clock) hj hmem True.intro
                  (fun ob hob cs e1 fr hcs => by rw [g1] at hob; cases hob; cases hcs) (fun _ => True.intro) ⟨hd, _, hset _, by simpa using g2, fun q x hqx => ?_⟩ hbl
                · refine ⟨_, ?_, hkey.1, hkey.2⟩
                  simp only [Instr.mapUpdate, Sem.run_bind, underlying_run hu, Result.andThen_ok, getObj_run g1, quiet_run hq w, f1, hstay]
                  rw [setObj_run _ g1 (fun _ _ _ hh => by cases hh)]
                · rw [Array.getElem?_setIfInBounds] at hqx
                  rw [Array.getElem?_modify]
                  by_cases hiq : i = q
                  · subst hiq
                    have hlt : i < es.size := (Array.getElem?_eq_some_iff.1 he).1
                    simp only [if_true, hlt, Option.some.injEq] at hqx
                    subst hqx
                    exact ⟨{ e' with key := k', val := v' }, by simp only [if_true, he', Option.map_some], her.1, .same 12 hc, hv⟩
                  · rw [if_neg hiq] at hqx ⊢
                    exact g3 q x hqx
          · cases h
        · rename_i kd hkd hq hx
          simp only [Option.some.injEq] at h; subst h
          obtain ⟨r', f1, f2⟩ := find_ok hS hkd hc w hl hx
          cases r' with
          | some iv => exact f2.elim
          | none =>
            have hkey := hR.setObj (o' := .map (es.push { key := k', val := v, born := clock }) (clock + 1)) (.map (es'.push { key := k', val := v', born := clock }) (clock + 1)) hj hmem True.intro
              (fun ob hob cs e1 fr hcs => by rw [g1] at hob; cases hob; cases hcs) (fun _ => True.intro) ⟨hd, _, hset _, by simp [g2], fun q x hqx => ?_⟩ hbl
            · refine ⟨_, ?_, hkey.1, hkey.2⟩
              simp only [Instr.mapUpdate, Sem.run_bind, underlying_run hu, Result.andThen_ok, getObj_run g1, quiet_run hq w, f1]
              rw [setObj_run _ g1 (fun _ _ _ hh => by cases hh)]
            · rw [Array.getElem?_push] at hqx ⊢
              rw [← g2]
              by_cases hiq : q = es.size
              · rw [if_pos hiq] at hqx ⊢
                simp only [Option.some.injEq] at hqx; subst hqx
                exact ⟨_, rfl, rfl, .same 12 hc, hv⟩
              · rw [if_neg hiq] at hqx ⊢
                exact g3 q x hqx
        · cases h
    · cases h
  · cases h

def amakeMap (P : Program) (t : TypeId) (hint : Option Value) (s : AS) : Option (Value × AS) :=
  match (match hint with
    | none => some ()
    | some (.int _ _) => (match P.underlying t with | some (.map _ _) => some () | _ => none)
    | _ => none) with
  | some () => bif Nat.blt s.next lim then some (.map (some s.next), ⟨s.next + 1, s.mem.put s.next (.map #[] 0)⟩) else none
  | none => none

theorem amakeMap_ok {P : Program} {w0 : World} {j : J} {s s' : AS} {w : World} (hR : R w0 j s w) {t : TypeId} {hint hint' : Option Value} {v : Value} (hh : OV j hint hint') (h : amakeMap P t hint s = some (v, s')) :
    Ok P w0 (Instr.makeMap t hint') j s w v s' := by
  unfold amakeMap at h
  split at h
  · rename_i hp
    cases hl : Nat.blt s.next lim with
    | false => simp [hl] at h
    | true =>
      simp only [hl, cond_true, Option.some.injEq, Prod.mk.injEq] at h
      obtain ⟨rfl, rfl⟩ := h
      have key := hR.new (by rwa [Nat.blt_eq] at hl) (.map #[] 0) (.map #[] 0) ⟨w.heap.size, 0, 0⟩ rfl (fun j' hle => ⟨rfl, #[], by show (w.heap.push _)[w.heap.size]? = _; simp, rfl, fun i e hi => by simp at hi⟩)
      refine ⟨_, .map (some w.heap.size), _, ?_, VR.map (p := ⟨w.heap.size, 0, 0⟩) (J.upd_self _ _ _) rfl, key.1, key.2⟩
      split at hp
      · cases hint' with
        | none => simp [Instr.makeMap]
        | some _ => exact hh.elim
      · rename_i k n
        cases hint' with
        | none => exact hh.elim
        | some v' =>
          have : v' = .int k n := VR.int_eq hh
          subst this
          split at hp
          · rename_i a b hu
            simp [Instr.makeMap, underlying_run hu, asInt, asIntOf]
          · cases hp
      · cases hp
  · cases h

def alen (P : Program) (ats : Array TypeId) (x : Value) (s : AS) : Option Value :=
  match ats[0]? with
  | some t =>
    match P.underlying t, x with
    | some .string, .string bs => some (.int .i64 (bs.size : Nat))
    | some (.array n _), _ => some (.int .i64 (n : Nat))
    | some (.slice _), .slice _ n _ => some (.int .i64 (n : Nat))
    | some (.map _ _), .map none => some (.int .i64 0)
    | some (.map _ _), .map (some b) => match entries s b with
      | some (es, _) => some (.int .i64 (es.size : Nat))
      | none => none
    | _, _ => none
  | none => none

theorem alen_ok {P : Program} {w0 : World} {j : J} {s : AS} {w : World} (hR : R w0 j s w) {ats : Array TypeId} {t0 : TypeId} {x x' v : Value} (hx : VR j x x') (h : alen P ats x s = some v) :
    (Builtin.len_ ats t0 #[x']).run P w = .ok v w ∧ VR j v v := by
  unfold alen at h
  split at h
  · rename_i t ht
    split at h
    · rename_i bs hu
      have := hx.closed_eq 1 rfl; subst this
      simp only [Option.some.injEq] at h; subst h
      exact ⟨by simp [Builtin.len_, ht, underlying_run hu, goInt], .same 1 rfl⟩
    · rename_i n e hu
      simp only [Option.some.injEq] at h; subst h
      exact ⟨by simp [Builtin.len_, ht, underlying_run hu, goInt], .same 1 rfl⟩
    · rename_i e a n c hu
      obtain ⟨a', c', rfl, _⟩ := slice_any hx
      simp only [Option.some.injEq] at h; subst h
      exact ⟨by simp [Builtin.len_, ht, underlying_run hu, goInt], .same 1 rfl⟩
    · rename_i kt vt hu
      have := hx.closed_eq 1 rfl; subst this
      simp only [Option.some.injEq] at h; subst h
      exact ⟨by simp [Builtin.len_, ht, underlying_run hu, goInt], .same 1 rfl⟩
    · rename_i kt vt b hu
      obtain ⟨p, hj, hd, rfl⟩ := map_of hx
      split at h
      · rename_i es clock he
        simp only [Option.some.injEq] at h; subst h
        obtain ⟨es', g1, g2⟩ := hR.entries hj he
        have hsz : es'.size = es.size := by have := g2.1; simpa using this.symm
        exact ⟨by simp [Builtin.len_, ht, underlying_run hu, goInt, getObj_run g1, hsz], .same 1 rfl⟩
      · cases h
    · cases h
  · cases h

/-- A value that is not nil, held against nil. -/
def anil (x : Value) : Bool :=
  match x with
  | .pointer (some _) | .func (.func _) _ _ | .func (.yield _) _ _ | .iface _ _ | .map _ | .slice _ _ _ => true
  | _ => false

theorem bytes_ints {j : J} {l l' : List Value} (hl : l.length = l'.length) (h : ∀ k, VR j (l.getD k undef) (l'.getD k undef)) (hc : l.all (closed 12) = true) : l' = l := by
  apply List.ext_getElem hl.symm
  intro i h1 h2
  have h0 := h i
  simp only [List.getD_eq_getElem?_getD, List.getElem?_eq_getElem h1, List.getElem?_eq_getElem h2, Option.getD_some] at h0
  exact h0.closed_eq 12 (List.all_eq_true.1 hc _ (List.getElem_mem h2))

def byteInts : List Value → Option (List Int)
  | [] => some []
  | .int .u8 n :: l => match byteInts l with
    | some r => some (n :: r)
    | none => none
  | _ => none

theorem byteInts_spec : ∀ {l : List Value} {r : List Int}, byteInts l = some r → l = r.map (Value.int .u8)
  | [], r, h => by simp only [byteInts, Option.some.injEq] at h; subst h; rfl
  | v :: l, r, h => by
    unfold byteInts at h
    split at h
    · rename_i heq; cases heq
    · rename_i n l2 heq
      simp only [List.cons.injEq] at heq
      obtain ⟨rfl, rfl⟩ := heq
      split at h
      · rename_i r2 hr
        simp only [Option.some.injEq] at h; subst h
        rw [List.map_cons, ← byteInts_spec hr]
      · cases h
    · cases h

def bytesStr : List Int → ByteArray := fun ns => ns.foldl (fun r n => r.push (UInt8.ofNat n.toNat)) ByteArray.empty

def abytesString (P : Program) (src dst : TypeId) (x : Value) (s : AS) : Option Value :=
  match P.underlying src, P.underlying dst, x with
  | some (.slice e), some .string, .slice (some ⟨b, o, none⟩) n _ =>
    match P.underlying e with
    | some (.int .u8) => match loadN s b o n with
      | some l => match byteInts l with
        | some r => some (.string (bytesStr r))
        | none => none
      | none => none
    | _ => none
  | _, _, _ => none

theorem closed_ints (r : List Int) : (r.map (Value.int .u8)).all (closed 12) = true := by
  induction r with
  | nil => rfl
  | cons n r ih => simp only [List.map_cons, List.all_cons, ih, Bool.and_true]; rfl

theorem abytesString_ok {P : Program} {w0 : World} {j : J} {s : AS} {w : World} (hR : R w0 j s w) {src dst : TypeId} {x x' v : Value} (hx : VR j x x') (h : abytesString P src dst x s = some v) :
    (convert src dst x').run P w = .ok v w ∧ VR j v v := by
  unfold abytesString at h
  split at h
  · rename_i e b o n c hs hd
    obtain ⟨p, c', hj, hc, rfl⟩ := slice_of hx
    split at h
    · rename_i he
      split at h
      · rename_i l hl
        split at h
        · rename_i r hr
          simp only [Option.some.injEq] at h; subst h
          obtain ⟨l', g1, g2, g3, _, g5⟩ := hR.cells (P := P) hj hl
          have hlr := byteInts_spec hr
          have hl' := bytes_ints (g2.trans g1.symm) g3 (by rw [hlr]; exact closed_ints r)
          rw [hl', hlr] at g5
          refine ⟨?_, .same 1 rfl⟩
          rw [run_convert_bytes_string w src dst e _ _ _ hs he hd]
          exact run_bytesToString w _ _ _ r g5
        · cases h
      · cases h
    · cases h
  · cases h

def astringBytes (P : Program) (dst : TypeId) (x : Value) (s : AS) : Option (Value × AS) :=
  match P.underlying dst, x with
  | some (.slice e), .string bs =>
    match P.underlying e with
    | some (.int .u8) =>
      bif Nat.blt bs.size 1099511627776 then
        match anew s (bs.data.toList.map fun b => Value.int .u8 (b.toNat : Int)).toArray bs.size e true with
        | some (b, s') => some (.slice (some ⟨b, 0, none⟩) bs.size (bs.size + big * 2), s')
        | none => none
      else none
    | _ => none
  | _, _ => none

theorem modify_push {α : Type} (a : Array α) (x : α) (f : α → α) : (a.push x).modify a.size f = a.push (f x) := by
  apply Array.ext_getElem?
  intro i
  rw [Array.getElem?_modify, Array.getElem?_push, Array.getElem?_push]
  by_cases hi : i = a.size
  · subst hi; simp
  · rw [if_neg (Ne.symm hi), if_neg hi]
    rw [if_neg hi]

theorem astringBytes_ok {P : Program} {w0 : World} {j : J} {s s' : AS} {w : World} (hR : R w0 j s w) {src dst : TypeId} {x x' v : Value} (hsrc : ∃ d, P.underlying src = some d) (hx : VR j x x') (h : astringBytes P dst x s = some (v, s')) :
    Ok P w0 (convert src dst x') j s w v s' := by
  unfold astringBytes at h
  obtain ⟨ds, hds⟩ := hsrc
  split at h
  · rename_i e bs hu
    have := hx.closed_eq 1 rfl; subst this
    split at h
    · rename_i he
      cases hsz : Nat.blt bs.size 1099511627776 with
      | false => simp [hsz] at h
      | true =>
        simp only [hsz, cond_true] at h
        rw [Nat.blt_eq] at hsz
        split at h
        · rename_i b s1 ha
          simp only [Option.some.injEq, Prod.mk.injEq] at h
          obtain ⟨rfl, rfl⟩ := h
          have hRd : R w0 j s { w with drawn := w.drawn + 1 } := hR.same rfl rfl rfl rfl
          let cap := (Question.appendCap bs.size 0 e).cut (w.tape w.drawn (.appendCap bs.size 0 e))
          have hcap : bs.size ≤ cap := by show bs.size ≤ Question.cut _ _; simp only [Question.cut]; omega
          let els : Array Value := bs.data.map fun b => .int .u8 b.toNat
          have hels : els.size = bs.size := Array.size_map ..
          let cells := els ++ Array.replicate (cap - bs.size) (.int .u8 0)
          have hcs : cells.size = cap := by simp [cells, hels]; omega
          obtain ⟨j', q1, q2, q3⟩ := anew_ok (c' := cells) (e' := e) hRd ha (by omega) (fun i hi => by
            have hi1 : i < (bs.data.toList.map fun b => Value.int .u8 (b.toNat : Int)).toArray.size := by rw [List.size_toArray, List.length_map, Array.length_toList]; exact hi
            rw [Nat.mod_eq_of_lt hi1]
            have hi2 : i < bs.data.size := hi
            have e1 : (bs.data.toList.map fun b => Value.int .u8 (b.toNat : Int)).toArray.getD i undef = .int .u8 (bs.data[i].toNat : Int) := by
              simp only [Array.getD_eq_getD_getElem?, List.getElem?_toArray, List.getElem?_map, Array.getElem?_toList]
              rw [Array.getElem?_eq_getElem hi2]; rfl
            have e2 : cells.getD i undef = .int .u8 (bs.data[i].toNat : Int) := by
              simp only [cells, Array.getD_eq_getD_getElem?]
              rw [Array.getElem?_append_left (by rw [hels]; exact hi)]
              simp only [els, Array.getElem?_map]
              rw [Array.getElem?_eq_getElem hi2]; rfl
            rw [e1, e2]
            exact .same 1 rfl) (cells.size, cells.size + 1) (fun i hi hx => absurd hx.1 (by simp only; omega))
          refine ⟨j', .slice (some ⟨w.heap.size, 0, none⟩) bs.size cap, _, ?_, slice_cap (size := 1) (rs := cells.size) q1 rfl rfl hcap (by omega) hsz, q2, q3⟩
          have hconv : (convert src dst (.string bs)).run P w = (Conv.stringToBytes e bs).run P w := by
            simp only [convert, Sem.run_bind, underlying_run hds, underlying_run hu, Result.andThen_ok]
            cases ds <;> simp only [underlying_run he, Result.andThen_ok]
          rw [hconv]
          simp only [Conv.stringToBytes, Sem.run_bind, run_choose, Question.forced, Bool.false_eq_true, if_false, Result.andThen_ok, newRow, run_newObj, Sem.run_pure, markStringish, run_shape]
          have hshape : World.shape? { heap := w.heap.push (Obj.cells cells e), tape := w.tape, drawn := w.drawn + 1, os := w.os, output := w.output } w.heap.size = some (e, cells.size) := by
            simp [World.shape?]
          have hsh2 : World.shape? { heap := w.heap.push (Obj.cells ((bs.data.map fun b => Value.int .u8 (b.toNat : Int)) ++ Array.replicate ((Question.appendCap bs.size 0 e).cut (w.tape w.drawn (Question.appendCap bs.size 0 e)) - bs.size) (Value.int .u8 0)) e), tape := w.tape, drawn := w.drawn + 1, os := w.os, output := w.output } w.heap.size = some (e, cells.size) := hshape
          simp only [hsh2, run_freeze, Result.andThen_ok, Result.ok.injEq]
          refine ⟨rfl, ?_⟩
          simp only [World.freeze, Nat.one_ne_zero, if_false, modify_push]
          rfl
        · cases h
    · cases h
  · cases h

end Go.Proofs.YtfeoocgmbikocaaGreat.Ev
