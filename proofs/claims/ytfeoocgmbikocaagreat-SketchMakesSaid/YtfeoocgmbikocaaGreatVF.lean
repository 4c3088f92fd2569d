/- An evaluator for calls whose arguments are known: one operation, whichever it is. -/
import Derived.Test.YtfeoocgmbikocaaGreatVE
namespace Go.Proofs.YtfeoocgmbikocaaGreat.Ev
open Go.RowKit

inductive ARes where
  | val (v : Value) (s : AS)
  | enter (f : FuncId) (args : Array Value)
  | round (l : Nat) (args : Array Value)

def rv (s : AS) (o : Option Value) : Option ARes := match o with | some v => some (.val v s) | none => none
def rvs (o : Option (Value × AS)) : Option ARes := match o with | some (v, s) => some (.val v s) | none => none
def ru (o : Option AS) : Option ARes := match o with | some s => some (.val undef s) | none => none

def arange (P : Program) (t : TypeId) (x : Value) (s : AS) : Option (Value × AS) :=
  match P.underlying t, x with
  | some .string, .string bs => bif Nat.blt s.next lim then some (.pointer (some ⟨s.next, 0, none⟩), ⟨s.next + 1, s.mem.put s.next (.siter bs 0)⟩) else none
  | _, _ => none

def anext (x : Value) (isString : Bool) (s : AS) : Option (Value × AS) :=
  match x, isString with
  | .pointer (some ⟨b, 0, none⟩), true =>
    match s.mem.get b with
    | some (.siter bs pos) =>
      bif Nat.blt pos bs.size then
        bif Nat.blt b lim then
          (match Utf8.decode bs pos with
          | (c, width) => some (.tuple #[.bool true, goInt pos, .int .i32 c], ⟨s.next, s.mem.put b (.siter bs (pos + width))⟩))
        else none
      else some (.tuple #[.bool false], s)
    | _ => none
  | _, _ => none

/-- A capacity that is told exactly. -/
def acap (P : Program) (ats : Array TypeId) (x : Value) : Option Value :=
  match ats[0]? with
  | some t =>
    match P.underlying t, x with
    | some (.slice _), .slice _ _ c => bif Nat.blt c big then some (.int .i64 (c : Nat)) else none
    | _, _ => none
  | none => none

/-- append(s, make([]T, n)...). -/
def aappendZ (P : Program) (ats : Array TypeId) (sv xv : Value) (s : AS) : Option (Value × AS) :=
  match ats[0]?, ats[1]? with
  | some t, some xt =>
    match P.underlying t, P.underlying xt, xv with
    | some (.slice e), some (.int _), .int _ l =>
      match P.info? e, zeroOf P e with
      | some i, some z =>
        bif decide (0 ≤ l) && decide (l < 1099511627776) && decide (l * (i.bytes : Int) ≤ 281474976710656) && Nat.beq z.size i.size && Nat.blt 0 z.size then
          match sv with
          | .slice none m c =>
            bif Nat.beq m 0 && Nat.beq c 0 && decide (0 < l) && Nat.ble ((2 * l.toNat + 192) * i.bytes) 281474976710656 then
              match anew s z (l.toNat * i.size) e true with
              | some (b', s') => some (.slice (some ⟨b', 0, none⟩) l.toNat (l.toNat + big * (i.size + 1)), s')
              | none => none
            else none
          | _ => none
        else none
      | _, _ => none
    | _, _, _ => none
  | _, _ => none

def acall (P : Program) (fr : Tmp → Option Value) (c : Call) (type : TypeId) (s : AS) : Option ARes :=
  match c.callee, aevs fr c.args.toList with
  | .value f, some args =>
    match aev fr f with
    | some (.func (.func g) first cap) => match P.funcs[g]? with
      | some fn => bif fn.body.isSome then some (.enter g (first ++ args.toArray ++ cap)) else none
      | none => none
    | some (.func (.yield l) _ _) => some (.round l args.toArray)
    | _ => none
  | .builtin .append, some [x, y] => (match aappendZ P c.argTypes x y s with
    | some r => rvs (some r)
    | none => rvs (aappend P c.argTypes x y s))
  | .builtin .cap, some [x] => rv s (acap P c.argTypes x)
  | .builtin .copy, some [x, y] => rvs (acopy P c.argTypes x y s)
  | .builtin .len, some [x] => rv s (alen P c.argTypes x s)
  | .builtin .min, some args => bif args.all (closed 12) then rv s (qv P (Builtin.min_ c.argTypes type args.toArray)) else none
  | .builtin .max, some args => bif args.all (closed 12) then rv s (qv P (Builtin.max_ c.argTypes type args.toArray)) else none
  | _, _ => none

def oclosed (o : Option Value) : Bool := match o with | none => true | some u => closed 12 u

def aop (P : Program) (okS : TypeId → Bool) (fr : Tmp → Option Value) (o : Oper) (s : AS) : Option ARes :=
  match o.op with
  | .move x => rv s (aev fr x)
  | .assign x => rv s (aev fr x)
  | .pick c a b => match aev fr c with
    | some (.bool t) => rv s (bif t then aev fr a else aev fr b)
    | _ => none
  | .alloc e => rvs (aalloc P e s)
  | .box e x => match aev fr x with
    | some v => rvs (abox e v s)
    | none => none
  | .build t parts => match aevp fr parts.toList with
    | some l => rv s (abuild P t l)
    | none => none
  | .buildSlice t n parts => match aevp fr parts.toList with
    | some l => bif Nat.blt n big then rvs (abuildSlice P t n l s) else none
    | none => none
  | .load t a => match aev fr a with
    | some v => rv s (aload P t v s)
    | none => none
  | .store t a x => match aev fr a, aev fr x with
    | some p, some v => ru (astore P t p v s)
    | _, _ => none
  | .nilCheck x => match aev fr x with
    | some v => bif anil v then rv s (some v) else none
    | none => none
  | .binOp op t x y _ => match aev fr x, aev fr y with
    | some u, some v => rv s (abin P okS op t (constO x) (constO y) u v)
    | _, _ => none
  | .unOp op _ x => match aev fr x with
    | some v => bif closed 12 v then rv s (qv P (Op.unary op v)) else none
    | none => none
  | .convert src dst x => match aev fr x with
    | some v => match abytesString P src dst v s with
      | some r => rv s (some r)
      | none => match P.underlying src, astringBytes P dst v s with
        | some _, some r => rvs (some r)
        | _, _ => bif closed 12 v then rv s (qv P (convert src dst v)) else none
    | none => none
  | .makeInterface t x => match aev fr x, P.underlying t with
    | some _, some (.interface _) => none
    | some v, some _ => rv s (some (.iface t v))
    | _, _ => none
  | .makeFunc (.func f) first cap => match aevs fr first.toList, aevs fr cap.toList with
    | some a, some b => rv s (some (.func (.func f) a.toArray b.toArray))
    | _, _ => none
  | .makeMap t r => match aevo fr r with
    | some h => rvs (amakeMap P t h s)
    | none => none
  | .makeSlice t l c => match aev fr l, aev fr c with
    | some u, some v => rvs (amakeSlice P t u v s)
    | _, _ => none
  | .slice t x lo hi mx => match aev fr x, aevo fr lo, aevo fr hi, aevo fr mx with
    | some v, some l, some h, some m =>
      bif closed 12 v then
        bif oclosed l && oclosed h && oclosed m then rv s (qv P (Instr.sliceAt t v l h m)) else none
      else rvs (aslice P t v l h m s)
    | _, _, _, _ => none
  | .fieldAddr t x f => match aev fr x with
    | some v => rv s (afieldAddr P t v f)
    | none => none
  | .field t x f => match aev fr x with
    | some v => rv s (afield P t v f)
    | none => none
  | .indexAddr t x i => match aev fr x, aev fr i with
    | some v, some u => rv s (aindexAddr P t v u)
    | _, _ => none
  | .index t x i => match aev fr x, aev fr i with
    | some (.string bs), some u => bif closed 12 u then rv s (qv P (Instr.index t (.string bs) u)) else none
    | some v, some u => rv s (aindex P t v u)
    | _, _ => none
  | .lookup t x i ok => match aev fr x, aev fr i with
    | some v, some u => rv s (alookup P okS t v u ok s)
    | _, _ => none
  | .mapUpdate t m k x => match aev fr m, aev fr k, aev fr x with
    | some u, some v, some y => ru (aupdate P okS t u v y s)
    | _, _, _ => none
  | .insert t m k x => match aev fr m, aev fr k, aev fr x with
    | some u, some v, some y => ru (aupdate P okS t u v y s)
    | _, _, _ => none
  | .range t x => match aev fr x with
    | some v => rvs (arange P t v s)
    | none => none
  | .next it isString => match aev fr it with
    | some v => rvs (anext v isString s)
    | none => none
  | .extract x i => match aev fr x with
    | some v => rv s (aextract v i)
    | none => none
  | .call c => acall P fr c o.type s
  | _ => none

/-- What is left of an operation that is all right. -/
def Good (P : Program) (w0 : World) (X : Sem Next) (j : J) (s : AS) (w : World) : ARes → Prop
  | .val v s' => ∃ nx v' j' w', X.run P w = .ok nx w' ∧ (nx = .value v' ∨ (nx = .skip ∧ v' = undef)) ∧ VR j' v v' ∧ R w0 j' s' w' ∧ Ext j s j' s'
  | .enter f args => ∃ args', X.run P w = .ok (.enter f args') w ∧ VRs j args args'
  | .round l args => ∃ p args', j l = some p ∧ X = Instr.yield p.r args' ∧ VRs j args args'

section
variable {P : Program} {w0 : World} {j : J} {s : AS} {w : World}
theorem good_v {Y : Sem Value} {v : Value} (hR : R w0 j s w) (h : ∃ v', Y.run P w = .ok v' w ∧ VR j v v') : Good P w0 (do pure (.value (← Y))) j s w (.val v s) := by
  obtain ⟨v', h1, h2⟩ := h
  exact ⟨.value v', v', j, w, by simp [h1], .inl rfl, h2, hR, .refl _ _⟩
theorem good_ok {Y : Sem Value} {v : Value} {s' : AS} (h : Ok P w0 Y j s w v s') : Good P w0 (do pure (.value (← Y))) j s w (.val v s') := by
  obtain ⟨j', v', w', h1, h2, h3, h4⟩ := h
  exact ⟨.value v', v', j', w', by simp [h1], .inl rfl, h2, h3, h4⟩
theorem good_u {Y : Sem Unit} {s' : AS} (h : ∃ w', Y.run P w = .ok () w' ∧ R w0 j s' w' ∧ Ext j s j s') : Good P w0 (do Y; pure .skip) j s w (.val undef s') := by
  obtain ⟨w', h1, h2, h3⟩ := h
  exact ⟨.skip, undef, j, w', by simp [h1], .inr ⟨rfl, rfl⟩, .udf _, h2, h3⟩
theorem good_p {X : Sem Next} {v v' : Value} (hR : R w0 j s w) (h : X.run P w = .ok (.value v') w) (hv : VR j v v') : Good P w0 X j s w (.val v s) :=
  ⟨.value v', v', j, w, h, .inl rfl, hv, hR, .refl _ _⟩

theorem rv_some {o : Option Value} {r : ARes} (h : rv s o = some r) : ∃ v, o = some v ∧ r = .val v s := by
  cases o with
  | none => cases h
  | some v => simp only [rv, Option.some.injEq] at h; exact ⟨v, rfl, h.symm⟩
theorem rvs_some {o : Option (Value × AS)} {r : ARes} (h : rvs o = some r) : ∃ v s', o = some (v, s') ∧ r = .val v s' := by
  cases o with
  | none => cases h
  | some vs => obtain ⟨v, s'⟩ := vs; simp only [rvs, Option.some.injEq] at h; exact ⟨v, s', rfl, h.symm⟩
theorem ru_some {o : Option AS} {r : ARes} (h : ru o = some r) : ∃ s', o = some s' ∧ r = .val undef s' := by
  cases o with
  | none => cases h
  | some s' => simp only [ru, Option.some.injEq] at h; exact ⟨s', rfl, h.symm⟩
end

theorem arange_ok {P : Program} {w0 : World} {j : J} {s s' : AS} {w : World} (hR : R w0 j s w) {t : TypeId} {x x' v : Value} (hx : VR j x x') (h : arange P t x s = some (v, s')) :
    Ok P w0 (Instr.range t x') j s w v s' := by
  unfold arange at h
  split at h
  · rename_i bs hu
    have := hx.closed_eq 1 rfl; subst this
    cases hl : Nat.blt s.next lim with
    | false => simp [hl] at h
    | true =>
      simp only [hl, cond_true, Option.some.injEq, Prod.mk.injEq] at h
      obtain ⟨rfl, rfl⟩ := h
      have key := hR.new (by rwa [Nat.blt_eq] at hl) (.siter bs 0) (.stringIter bs 0) ⟨w.heap.size, 0, 0⟩ rfl (fun j' hle => ⟨rfl, by show (w.heap.push _)[w.heap.size]? = _; simp⟩)
      refine ⟨_, .pointer (some ⟨w.heap.size, 0, none⟩), _, ?_, VR.ptr (p := ⟨w.heap.size, 0, 0⟩) (o := 0) (J.upd_self _ _ _), key.1, key.2⟩
      simp [Instr.range, underlying_run hu]
  · cases h

theorem anext_ok {P : Program} {w0 : World} {j : J} {s s' : AS} {w : World} (hR : R w0 j s w) {b : Bool} {t : TypeId} {x x' v : Value} (hx : VR j x x') (h : anext x b s = some (v, s')) :
    Ok P w0 (Instr.next x' b t) j s w v s' := by
  unfold anext at h
  split at h
  · rename_i b
    obtain ⟨p, hj, rfl⟩ := ptr_of hx
    split at h
    · rename_i bs pos hm
      obtain ⟨hd, hh⟩ := hR.obj b _ p hm hj
      have hget : (getObj p.r).run P w = .ok (.stringIter bs pos) w := by simp [getObj, Sem.run, hh]
      rw [hd]
      cases hp : Nat.blt pos bs.size with
      | false =>
        simp only [hp, cond_false, Option.some.injEq, Prod.mk.injEq] at h
        obtain ⟨rfl, rfl⟩ := h
        have hge : ¬ pos < bs.size := fun hq => by rw [← Nat.blt_eq, hp] at hq; cases hq
        exact ⟨j, .tuple #[.bool false], w, by simp [Instr.next, hget, hge], .same 3 rfl, hR, .refl _ _⟩
      | true =>
        simp only [hp, cond_true] at h
        have hlt : pos < bs.size := by rwa [Nat.blt_eq] at hp
        cases hb : Nat.blt b lim with
        | false => simp [hb] at h
        | true =>
          simp only [hb, cond_true] at h
          rw [Nat.blt_eq] at hb
          have hdom := hR.dom b p hj
          generalize hdec : Utf8.decode bs pos = cw at h
          obtain ⟨c, width⟩ := cw
          simp only [Option.some.injEq, Prod.mk.injEq] at h
          obtain ⟨rfl, rfl⟩ := h
          have key := hR.setObj (o' := .siter bs (pos + width)) (.stringIter bs (pos + width)) hj hm True.intro (fun ob hob cs e1 fr hcs => by rw [hh] at hob; cases hob; cases hcs) (fun _ => True.intro)
            ⟨hd, by simp [hdom.2.2]⟩ hb
          refine ⟨j, .tuple #[.bool true, goInt pos, .int .i32 c], _, ?_, .same 3 rfl, key.1, key.2⟩
          simp only [Instr.next, Nat.add_zero, Sem.run_bind, hget, Result.andThen_ok, if_pos hlt, hdec]
          rw [setObj_run _ hh (fun _ _ _ hq => by cases hq)]
          simp
    · cases h
  · cases h

end Go.Proofs.YtfeoocgmbikocaaGreat.Ev
