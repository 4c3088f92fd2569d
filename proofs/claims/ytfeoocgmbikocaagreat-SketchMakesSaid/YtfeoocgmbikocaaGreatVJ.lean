/- An evaluator for calls whose arguments are known: regions that draw their order; what is asked of each operation. -/
import Derived.Test.YtfeoocgmbikocaaGreatVP
namespace Go.Proofs.YtfeoocgmbikocaaGreat.Ev
open Go.RowKit

/-- An operation that may turn what is there, or that runs code: such ones must follow one another. -/
def isEff (o : Oper) : Bool :=
  match o.op with
  | .call c => (match c.callee with
    | .builtin .len | .builtin .cap | .builtin .min | .builtin .max => false
    | _ => true)
  | .store .. | .mapUpdate .. | .insert .. | .range .. | .next .. | .makeMap .. | .makeSlice .. => true
  | _ => false

/-- An operation that makes one block, whatever else is there. -/
def isAlloc (o : Oper) : Bool :=
  match o.op with
  | .alloc _ | .box .. | .buildSlice .. => true
  | _ => false

/-- An operation that hangs on its operands alone. -/
def isPure (o : Oper) : Bool :=
  match o.op with
  | .move _ | .assign _ | .pick .. | .build .. | .nilCheck _ | .binOp .. | .unOp .. | .makeInterface .. | .fieldAddr .. | .field .. | .indexAddr .. | .index .. | .extract .. => true
  | _ => false

theorem aevs_congr {g g' : Tmp → Option Value} : ∀ (l : List Operand), (∀ x ∈ l, aev g x = aev g' x) → aevs g l = aevs g' l
  | [], _ => rfl
  | x :: l, h => by
    simp only [aevs, h x (List.mem_cons_self ..), aevs_congr l fun y hy => h y (List.mem_cons_of_mem _ hy)]

theorem aevp_congr {g g' : Tmp → Option Value} : ∀ (l : List (Nat × Operand)), (∀ x ∈ l, aev g x.2 = aev g' x.2) → aevp g l = aevp g' l
  | [], _ => rfl
  | (i, x) :: l, h => by
    simp only [aevp, h (i, x) (List.mem_cons_self ..), aevp_congr l fun y hy => h y (List.mem_cons_of_mem _ hy)]

theorem aevo_congr {g g' : Tmp → Option Value} (o : Option Operand) (h : ∀ x ∈ o, aev g x = aev g' x) : aevo g o = aevo g' o := by
  cases o with
  | none => rfl
  | some x => simp only [aevo, h x rfl]

theorem acall_congr {P : Program} {g g' : Tmp → Option Value} (c : Call) (type : TypeId) (s : AS) (h : ∀ x ∈ c.operands, aev g x = aev g' x) : acall P g c type s = acall P g' c type s := by
  have ha : aevs g c.args.toList = aevs g' c.args.toList := aevs_congr _ fun x hx => h x (by simp [Call.operands]; exact .inr (by simpa using hx))
  unfold acall
  rw [ha]
  cases hc : c.callee with
  | value f =>
    have hf : aev g f = aev g' f := h f (by simp [Call.operands, hc])
    cases aevs g' c.args.toList with
    | none => rfl
    | some l => simp only [hf]
  | invoke r m => cases aevs g' c.args.toList <;> rfl
  | builtin b =>
    cases aevs g' c.args.toList with
    | none => cases b <;> rfl
    | some l => cases b <;> first | rfl | (cases l with
      | nil => rfl
      | cons x l => cases l with
        | nil => rfl
        | cons y l => cases l <;> rfl)

theorem aop_congr {P : Program} {okS : TypeId → Bool} {g g' : Tmp → Option Value} (o : Oper) (s : AS) (h : ∀ x ∈ o.op.operands, aev g x = aev g' x) : aop P okS g o s = aop P okS g' o s := by
  obtain ⟨dst, op, type, pos, after, guard⟩ := o
  cases op with
  | build t ps => simp only [aop]; rw [aevp_congr ps.toList fun x hx => h x.2 (by simp only [Op.operands]; simp; exact ⟨x.1, by simpa using hx⟩)]
  | buildSlice t n ps => simp only [aop]; rw [aevp_congr ps.toList fun x hx => h x.2 (by simp only [Op.operands]; simp; exact ⟨x.1, by simpa using hx⟩)]
  | makeFunc fn first cap =>
    cases fn with
    | func f =>
      simp only [aop]
      rw [aevs_congr first.toList fun x hx => h x (by simp only [Op.operands]; simp; exact .inl (by simpa using hx)), aevs_congr cap.toList fun x hx => h x (by simp only [Op.operands]; simp; exact .inr (by simpa using hx))]
    | _ => rfl
  | makeMap t r => simp only [aop]; rw [aevo_congr r fun x hx => h x (by simp only [Op.operands]; simpa using hx)]
  | slice t x lo hi mx =>
    simp only [Op.operands] at h
    simp only [aop]
    rw [h x (by simp), aevo_congr lo fun y hy => h y (by simp at hy ⊢; simp [hy]), aevo_congr hi fun y hy => h y (by simp at hy ⊢; simp [hy]), aevo_congr mx fun y hy => h y (by simp at hy ⊢; simp [hy])]
  | call c => simp only [aop]; exact acall_congr c type s h
  | _ =>
    simp only [Op.operands] at h
    first
      | rfl
      | (simp only [aop]; simp_all; done)
      | (simp_all [aop]; done)

theorem rv_val {s s' : AS} {o : Option Value} {v : Value} (h : rv s o = some (.val v s')) : o = some v ∧ s' = s := by
  cases o with
  | none => cases h
  | some u => simp only [rv, Option.some.injEq, ARes.val.injEq] at h; exact ⟨by rw [h.1], h.2.symm⟩

theorem cond_some {α : Type} {c : Bool} {x : Option α} {y : α} (h : (bif c then x else none) = some y) : c = true ∧ x = some y := by
  cases c with
  | false => cases h
  | true => exact ⟨rfl, h⟩

theorem pure_aop {P : Program} {okS : TypeId → Bool} {g : Tmp → Option Value} {o : Oper} {s s' : AS} {v : Value} (hp : isPure o = true) (h : aop P okS g o s = some (.val v s')) :
    s' = s ∧ ∀ s2, aop P okS g o s2 = some (.val v s2) := by
  obtain ⟨dst, op, type, pos, after, guard⟩ := o
  cases op <;> first
    | (simp [isPure] at hp; done)
    | (simp only [aop] at h ⊢
       repeat' split at h
       all_goals first
         | (cases h; done)
         | (obtain ⟨h1, rfl⟩ := rv_val h; refine ⟨rfl, fun s2 => ?_⟩; simp_all [rv]; done)
         | (obtain ⟨hc, h⟩ := cond_some h; obtain ⟨h1, rfl⟩ := rv_val h; refine ⟨rfl, fun s2 => ?_⟩; rw [hc]; simp_all [rv]; done))

/-- The slots that an operation looks at. -/
def msk (ops : Array Oper) (o : Oper) (g : Tmp → Option Value) : Tmp → Option Value := fun t => if t ∈ o.looksAt ops then g t else none

theorem msk_aev {ops : Array Oper} {o : Oper} {g : Tmp → Option Value} {x : Operand} (hx : x ∈ o.op.operands) : aev (msk ops o g) x = aev g x := by
  cases x with
  | tmp t =>
    have : t ∈ o.looksAt ops := List.mem_append_left _ (List.mem_filterMap.2 ⟨.tmp t, by simpa using hx, rfl⟩)
    simp [aev, msk, this]
  | _ => rfl

theorem msk_aop {P : Program} {okS : TypeId → Bool} {ops : Array Oper} {o : Oper} {g : Tmp → Option Value} (s : AS) : aop P okS (msk ops o g) o s = aop P okS g o s :=
  aop_congr o s fun _ hx => msk_aev hx

theorem msk_wanted {ops : Array Oper} {o : Oper} {g : Tmp → Option Value} : awanted ops (msk ops o g) o = awanted ops g o := by
  unfold awanted
  cases hg : o.guard with
  | none => rfl
  | some jw =>
    obtain ⟨i, want⟩ := jw
    simp only
    cases hd : (ops[i]?).bind (·.dst) with
    | none => rfl
    | some d =>
      have : d ∈ o.looksAt ops := List.mem_append_right _ (by simp [hg, hd])
      simp only [msk, this, if_true]

/-- Frames that know more. -/
def GLe (g g' : Tmp → Option Value) : Prop := ∀ t v, g t = some v → g' t = some v
theorem GLe.refl (g : Tmp → Option Value) : GLe g g := fun _ _ h => h
theorem GLe.trans {a b c : Tmp → Option Value} (h : GLe a b) (k : GLe b c) : GLe a c := fun t v x => k t v (h t v x)
theorem GLe.msk {ops : Array Oper} {o : Oper} {g g' : Tmp → Option Value} (h : GLe g g') : GLe (msk ops o g) (msk ops o g') := fun t v ht => by
  unfold Ev.msk at ht ⊢
  split at ht
  · rename_i hm; rw [if_pos hm]; exact h t v ht
  · cases ht

/-- All that an operation asks for is known. -/
def known (g : Tmp → Option Value) (o : Oper) : Bool := o.op.operands.toList.all fun x => (aev g x).isSome

theorem known_aev {g g' : Tmp → Option Value} (h : GLe g g') {o : Oper} (hk : known g o = true) : ∀ x ∈ o.op.operands, aev g' x = aev g x := fun x hx => by
  have := List.all_eq_true.1 hk x (by simpa using hx)
  cases x with
  | tmp t =>
    simp only [aev] at this ⊢
    cases hg : g t with
    | none => simp [hg] at this
    | some v => exact h t v hg
  | _ => rfl

theorem known_aop {P : Program} {okS : TypeId → Bool} {g g' : Tmp → Option Value} (h : GLe g g') {o : Oper} (hk : known g o = true) (s : AS) : aop P okS g' o s = aop P okS g o s :=
  aop_congr o s (known_aev h hk)

theorem known_mono {g g' : Tmp → Option Value} (h : GLe g g') {o : Oper} (hk : known g o = true) : known g' o = true :=
  List.all_eq_true.2 fun x hx => by rw [known_aev h hk x (by simpa using hx)]; exact List.all_eq_true.1 hk x hx

theorem awanted_mono {ops : Array Oper} {g g' : Tmp → Option Value} (h : GLe g g') {o : Oper} {b : Bool} (hw : awanted ops g o = some b) : awanted ops g' o = some b := by
  unfold awanted at hw ⊢
  cases hg : o.guard with
  | none => rw [hg] at hw; exact hw
  | some jw =>
    obtain ⟨i, want⟩ := jw
    simp only [hg] at hw ⊢
    cases hd : (ops[i]?).bind (·.dst) with
    | none => rw [hd] at hw; exact hw
    | some d =>
      simp only [hd] at hw ⊢
      cases hq : g d with
      | none => simp [hq] at hw
      | some u => rw [h d u hq]; rw [hq] at hw; exact hw

/-- A new block that hangs on nothing else that is there. -/
def Spec (P : Program) (o : Oper) (g : Tmp → Option Value) (ob : AObj) (mk : Nat → Value) : Prop :=
  ∀ (w0 : World) (j : J) (s : AS) (w : World) (nt : Nat) (ds : List Deferred) (a : Act), R w0 j s w → FRel ds j g nt a →
    ∃ (o' : Obj) (p : Pl) (v' : Value), (execOp a.eval o).run P w = .ok (.value v') (w.alloc o') ∧ p.r = w.heap.size ∧ (∀ j', j.le j' → OR j' (w.alloc o') p ob) ∧ ∀ j' id, j' id = some p → VR j' (mk id) v'

theorem FRel.less {ds : List Deferred} {j : J} {g g' : Tmp → Option Value} (h : GLe g g') {nt : Nat} {a : Act} (hF : FRel ds j g' nt a) : FRel ds j g nt a := ⟨hF.size, hF.defers, fun t v ht => hF.tmp t v (h t v ht)⟩

theorem Spec.mono {P : Program} {o : Oper} {g g' : Tmp → Option Value} (h : GLe g g') {ob : AObj} {mk : Nat → Value} (hs : Spec P o g ob mk) : Spec P o g' ob mk :=
  fun w0 j s w nt ds a hR hF => hs w0 j s w nt ds a hR (hF.less h)

theorem row_OR {j : J} {w : World} {c c' : Array Value} {e e' : TypeId} (hc : VRs j c c') : ∀ j', j.le j' → OR j' (w.alloc (.cells c' e')) ⟨w.heap.size, 0, c'.size⟩ (.row c.size c .nil e true) := fun j' hle =>
  ⟨c', e', (0, 0), by show (w.heap.push _)[w.heap.size]? = _; simp, rfl, by simp [hc.1], fun i _ hx => absurd hx.2 (Nat.not_lt_zero _), fun i v hv => by
    have hi := rget_lt hv
    unfold rget at hv
    rw [show i.blt c.size = true by rw [Nat.blt_eq]; exact hi] at hv
    have hnil : (Tr.nil : Tr Value).get i = none := by cases i <;> rfl
    simp only [cond_true, hnil, Option.some.injEq] at hv
    subst hv
    rw [Nat.mod_eq_of_lt hi]
    simpa using (hc.2 i).mono hle⟩

theorem anew_some {s s' : AS} {c : Array Value} {n : Nat} {e : TypeId} {own : Bool} {b : Nat} (h : anew s c n e own = some (b, s')) :
    b = s.next ∧ s.next < lim ∧ s' = ⟨s.next + 1, s.mem.put s.next (.row n c .nil e own)⟩ := by
  unfold anew at h
  obtain ⟨h1, h2⟩ := cond_some h
  simp only [Option.some.injEq, Prod.mk.injEq] at h2
  exact ⟨h2.1.symm, by rwa [Nat.blt_eq] at h1, h2.2.symm⟩

theorem alloc_spec {P : Program} {okS : TypeId → Bool} {g : Tmp → Option Value} {o : Oper} {s s' : AS} {v : Value} (ha : isAlloc o = true) (h : aop P okS g o s = some (.val v s')) :
    ∃ ob mk, v = mk s.next ∧ s.next < lim ∧ s' = ⟨s.next + 1, s.mem.put s.next ob⟩ ∧ Spec P o g ob mk := by
  obtain ⟨dst, op, type, pos, after, guard⟩ := o
  cases op with
  | alloc e =>
    simp only [aop] at h
    obtain ⟨v1, s1, h1, h2⟩ := rvs_some h
    simp only [ARes.val.injEq] at h2
    obtain ⟨rfl, rfl⟩ := h2
    unfold aalloc at h1
    split at h1
    · rename_i z hz
      obtain ⟨zv, g1, rfl, g3⟩ := zeroOf_spec hz
      split at h1
      · rename_i b s2 hn
        simp only [Option.some.injEq, Prod.mk.injEq] at h1
        obtain ⟨rfl, rfl⟩ := h1
        obtain ⟨rfl, hl, rfl⟩ := anew_some hn
        refine ⟨_, fun n => .pointer (some ⟨n, 0, none⟩), rfl, hl, rfl, fun w0 j s2 w nt ds a hR hF => ?_⟩
        refine ⟨.cells zv.cells e, ⟨w.heap.size, 0, zv.cells.size⟩, .pointer (some ⟨w.heap.size, 0, none⟩), ?_, rfl, row_OR ⟨rfl, closed_VR g3⟩, fun j' id hid => .ptr (o := 0) hid⟩
        simp [execOp, Instr.alloc, g1, newVar, newRow]
      · cases h1
    · cases h1
  | box e x =>
    simp only [aop] at h
    split at h
    · rename_i u hu
      obtain ⟨v1, s1, h1, h2⟩ := rvs_some h
      simp only [ARes.val.injEq] at h2
      obtain ⟨rfl, rfl⟩ := h2
      unfold abox at h1
      split at h1
      · rename_i b s2 hn
        simp only [Option.some.injEq, Prod.mk.injEq] at h1
        obtain ⟨rfl, rfl⟩ := h1
        obtain ⟨rfl, hl, rfl⟩ := anew_some hn
        refine ⟨_, fun n => .pointer (some ⟨n, 0, none⟩), rfl, hl, rfl, fun w0 j s2 w nt ds a hR hF => ?_⟩
        refine ⟨.cells (a.eval x).cells e, ⟨w.heap.size, 0, (a.eval x).cells.size⟩, .pointer (some ⟨w.heap.size, 0, none⟩), ?_, rfl, row_OR (aev_ok hF hu).cells, fun j' id hid => .ptr (o := 0) hid⟩
        simp [execOp, Instr.box, newVar, newRow]
      · cases h1
    · cases h
  | buildSlice t n parts =>
    simp only [aop] at h
    split at h
    · rename_i l hl
      obtain ⟨hbig, h⟩ := cond_some h
      obtain ⟨v1, s1, h1, h2⟩ := rvs_some h
      simp only [ARes.val.injEq] at h2
      obtain ⟨rfl, rfl⟩ := h2
      have h0 := h1
      unfold abuildSlice at h1
      split at h1
      · rename_i e hu
        split at h1
        · rename_i i z hi hz
          obtain ⟨hb, h1⟩ := cond_some h1
          split at h1
          · rename_i r hr
            split at h1
            · rename_i b s2 hn
              simp only [Option.some.injEq, Prod.mk.injEq] at h1
              obtain ⟨rfl, rfl⟩ := h1
              obtain ⟨rfl, hlim, rfl⟩ := anew_some hn
              refine ⟨_, fun m => .slice (some ⟨m, 0, none⟩) n n, rfl, hlim, rfl, fun w0 j s2 w nt ds a hR hF => ?_⟩
              obtain ⟨r', k1, k2, k3⟩ := abuildSlice_run (w := w) (aevp_ok hF hl) hu hi hz hb hr
              refine ⟨.cells r' e, ⟨w.heap.size, 0, r'.size⟩, .slice (some ⟨w.heap.size, 0, none⟩) n n, ?_, rfl, row_OR k3, fun j' id hid => .slice (o := 0) hid (.inl ⟨by rwa [Nat.blt_eq] at hbig, rfl⟩)⟩
              simp only [execOp, parts_arr, Sem.run_bind, k1, Result.andThen_ok, Sem.run_pure]
            · cases h1
          · cases h1
        · cases h1
      · cases h1
    · cases h
  | _ => simp [isAlloc] at ha

end Go.Proofs.YtfeoocgmbikocaaGreat.Ev
