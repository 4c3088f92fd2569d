/- An evaluator for calls whose arguments are known: a region that draws its order, in the evaluator's own order. -/
import Derived.Test.YtfeoocgmbikocaaGreatVK
namespace Go.Proofs.YtfeoocgmbikocaaGreat.Ev
open Go.RowKit

theorem some_pair {α β : Type} {a a' : α} {b b' : β} (h : some (a, b) = some (a', b')) : b' = b := by
  simp only [Option.some.injEq, Prod.mk.injEq] at h
  exact h.2.symm

theorem aslice_same {P : Program} {t : TypeId} {x v : Value} {lo hi mx : Option Value} {s s' : AS} (h : aslice P t x lo hi mx s = some (v, s')) (hn : s'.next = s.next) : s' = s := by
  unfold aslice at h
  split at h
  · rename_i b o n c e hu
    split at h
    · rename_i i l hh _ _ _
      split at h
      · split at h
        · obtain ⟨_, h1⟩ := cond_some h; exact some_pair h1
        · cases h
      · obtain ⟨_, h1⟩ := cond_some h
        cases hc : Nat.blt c big with
        | true => rw [hc] at h1; exact some_pair h1
        | false =>
          rw [hc] at h1
          obtain ⟨_, h2⟩ := cond_some h1
          cases hq : (Nat.blt l (c % big) || Nat.beq l 0) with
          | true => rw [hq] at h2; exact some_pair h2
          | false =>
            rw [hq] at h2
            simp only [cond_false] at h2
            split at h2
            · obtain ⟨_, h3⟩ := cond_some h2
              have := some_pair h3
              rw [this] at hn; simp at hn
            · cases h2
    · cases h
  · split at h
    · obtain ⟨_, h1⟩ := cond_some h; exact some_pair h1
    · cases h
  · cases h

theorem astringBytes_next {P : Program} {t : TypeId} {x v : Value} {s s' : AS} (h : astringBytes P t x s = some (v, s')) : s'.next = s.next + 1 := by
  unfold astringBytes at h
  split at h
  · split at h
    · obtain ⟨_, h⟩ := cond_some h
      split at h
      · rename_i b s1 ha
        simp only [Option.some.injEq, Prod.mk.injEq] at h
        obtain ⟨_, _, rfl⟩ := anew_some ha
        rw [← h.2]
      · cases h
    · cases h
  · cases h

theorem rest_same {P : Program} {okS : TypeId → Bool} {g : Tmp → Option Value} {o : Oper} {s s' : AS} {v : Value} (he : isEff o = false) (ha : isAlloc o = false) (h : aop P okS g o s = some (.val v s')) (hn : s'.next = s.next) : s' = s := by
  cases hp : isPure o with
  | true => exact (pure_aop hp h).1
  | false =>
    obtain ⟨dst, op, type, pos, after, guard⟩ := o
    cases op with
    | load t x =>
      simp only [aop] at h
      split at h
      · exact (rv_val h).2
      · cases h
    | lookup t x i ok =>
      simp only [aop] at h
      split at h
      · exact (rv_val h).2
      · cases h
    | convert src dst x =>
      simp only [aop] at h
      split at h
      · split at h
        · exact (rv_val h).2
        · split at h
          · rename_i hq
            obtain ⟨v1, s1, h1, h2⟩ := rvs_some h
            simp only [Option.some.injEq] at h1; subst h1
            simp only [ARes.val.injEq] at h2
            have := astringBytes_next hq
            rw [← h2.2] at this
            omega
          · obtain ⟨_, h⟩ := cond_some h
            exact (rv_val h).2
      · cases h
    | makeFunc fn first cap =>
      cases fn with
      | func f =>
        simp only [aop] at h
        split at h
        · exact (rv_val h).2
        · cases h
      | _ => cases h
    | slice t x lo hi mx =>
      simp only [aop] at h
      split at h
      · rename_i v1 l hh m _ _ _ _
        cases hc : closed 12 v1 with
        | true =>
          simp only [hc, cond_true] at h
          obtain ⟨_, h⟩ := cond_some h
          exact (rv_val h).2
        | false =>
          simp only [hc, cond_false] at h
          obtain ⟨v2, s1, h1, h2⟩ := rvs_some h
          simp only [ARes.val.injEq] at h2
          obtain ⟨_, rfl⟩ := h2
          exact aslice_same h1 hn
      · cases h
    | call c =>
      simp only [aop] at h
      unfold acall at h
      simp only [isEff] at he
      split at h
      · rename_i hcal _; simp [hcal] at he
      · rename_i hcal _; simp [hcal] at he
      · exact (rv_val h).2
      · rename_i hcal _; simp [hcal] at he
      · exact (rv_val h).2
      · obtain ⟨_, h⟩ := cond_some h; exact (rv_val h).2
      · obtain ⟨_, h⟩ := cond_some h; exact (rv_val h).2
      · cases h
    | _ => first | (simp [isEff] at he; done) | (simp [isAlloc] at ha; done) | (simp [isPure] at hp; done) | (cases h; done)

section
variable {P : Program} {okS : TypeId → Bool} {ops : Array Oper} {nt : Nat} {w0 : World} {j0 : J} {s0 : AS} {ds : List Deferred}

def PFact (P : Program) (okS : TypeId → Bool) (ops : Array Oper) (s0 : AS) (j : J) (s : AS) (fr : Tr Value) (idf : Nat → Nat) (i : Nat) (o : Oper) : Prop :=
  (awanted ops fr.get o = some false ∧ ∀ d, o.dst = some d → fr.get d = some undef) ∨
  (awanted ops fr.get o = some true ∧ known fr.get o = true ∧
    ((isAlloc o = true ∧ ∃ ob mk, Spec P o (msk ops o fr.get) ob mk ∧ s.mem.get (idf i) = some ob ∧ j (idf i) = none ∧ s0.next ≤ idf i ∧ ∀ d, o.dst = some d → fr.get d = some (mk (idf i))) ∨
     (isAlloc o = false ∧ isPure o = true ∧ ∃ v, (∀ s2, aop P okS fr.get o s2 = some (.val v s2)) ∧ ∀ d, o.dst = some d → fr.get d = some v) ∨
     (isAlloc o = false ∧ isPure o = false)))

theorem PFact.mono {j j' : J} {s s' : AS} {fr fr' : Tr Value} {idf idf' : Nat → Nat} {i : Nat} {o : Oper} (h : PFact P okS ops s0 j s fr idf i o) (hf : GLe fr.get fr'.get) (hid : idf' i = idf i)
    (hs : ∀ ob, s.mem.get (idf i) = some ob → j (idf i) = none → s'.mem.get (idf i) = some ob ∧ j' (idf i) = none) : PFact P okS ops s0 j' s' fr' idf' i o := by
  rcases h with ⟨h1, h2⟩ | ⟨h1, h2, h3⟩
  · exact .inl ⟨awanted_mono hf h1, fun d hd => hf _ _ (h2 d hd)⟩
  · refine .inr ⟨awanted_mono hf h1, known_mono hf h2, ?_⟩
    rcases h3 with ⟨ha, ob, mk, k1, k2, k3, k4, k5⟩ | ⟨ha, hp, v, k1, k2⟩ | h3
    · obtain ⟨q1, q2⟩ := hs ob k2 k3
      exact .inl ⟨ha, ob, mk, k1.mono hf.msk, by rw [hid]; exact q1, by rw [hid]; exact q2, by rw [hid]; exact k4, fun d hd => by rw [hid]; exact hf _ _ (k5 d hd)⟩
    · exact .inr (.inl ⟨ha, hp, v, fun s2 => by rw [known_aop hf h2]; exact k1 s2, fun d hd => hf _ _ (k2 d hd)⟩)
    · exact .inr (.inr h3)

structure DE (P : Program) (okS : TypeId → Bool) (ops : Array Oper) (nt : Nat) (ds : List Deferred) (w0 : World) (j0 : J) (s0 : AS) (done : Nat) (pend : List Nat) (fr : Tr Value) (s : AS) (listed : Array Bool) (a : Act) (w : World) (j : J) (idf : Nat → Nat) : Prop where
  lsz : listed.size = ops.size
  sub : ∀ i, i < ops.size → listed.getD i true = true → done.testBit i = true
  effd : ∀ (i : Nat) (o : Oper), ops[i]? = some o → done.testBit i = true → isEff o = true → listed.getD i true = true
  rel : R w0 j s w
  ext : Ext j0 s0 j s
  tsz : a.tmps.size = nt
  dfr : a.defers = ds
  slots : ∀ t v, fr.get t = some v → (∀ (i : Nat) (o : Oper), ops[i]? = some o → o.dst = some t → listed.getD i true = true) → VR j v (a.tmps.getD t undef)
  fresh : ∀ (i : Nat) (o : Oper) (d : Tmp), ops[i]? = some o → done.testBit i = false → o.dst = some d → fr.get d = none
  pnd : ∀ (i : Nat) (o : Oper), ops[i]? = some o → done.testBit i = true → listed.getD i true = false → isEff o = false ∧ i ∈ pend ∧ PFact P okS ops s0 j s fr idf i o
  idd : ∀ (i i' : Nat) (o o' : Oper), i ≠ i' → ops[i]? = some o → ops[i']? = some o' → done.testBit i = true → done.testBit i' = true → listed.getD i true = false → listed.getD i' true = false →
    isAlloc o = true → isAlloc o' = true → awanted ops fr.get o = some true → awanted ops fr.get o' = some true → idf i ≠ idf i'

theorem put_le {fr fr' : Tr Value} {dst : Option Tmp} {v : Value} (h : aput nt fr dst v = some fr') (hf : ∀ d, dst = some d → fr.get d = none) : GLe fr.get fr'.get := by
  cases dst with
  | none => simp only [aput, Option.some.injEq] at h; subst h; exact .refl _
  | some d =>
    simp only [aput] at h
    obtain ⟨hb, h⟩ := cond_some h
    simp only [Bool.and_eq_true, Nat.blt_eq] at hb
    simp only [Option.some.injEq] at h; subst h
    intro t u ht
    rw [Tr.get_put _ _ _ _ hb.2]
    by_cases e : t = d
    · subst e; rw [hf t rfl] at ht; cases ht
    · rw [if_neg e]; exact ht

theorem put_get {fr fr' : Tr Value} {dst : Option Tmp} {v : Value} (h : aput nt fr dst v = some fr') : (∀ d, dst = some d → fr'.get d = some v ∧ d < nt) ∧ ∀ t, (∀ d, dst = some d → t ≠ d) → fr'.get t = fr.get t := by
  cases dst with
  | none => simp only [aput, Option.some.injEq] at h; subst h; exact ⟨fun _ hd => (by cases hd), fun _ _ => rfl⟩
  | some d =>
    simp only [aput] at h
    obtain ⟨hb, h⟩ := cond_some h
    simp only [Bool.and_eq_true, Nat.blt_eq] at hb
    simp only [Option.some.injEq] at h; subst h
    refine ⟨fun d' hd => ?_, fun t ht => ?_⟩
    · cases hd; exact ⟨by rw [Tr.get_put _ _ _ _ hb.2, if_pos rfl], hb.1⟩
    · rw [Tr.get_put _ _ _ _ hb.2, if_neg (ht d rfl)]

/-- One more operation that the evaluator has done, and the world has not. -/
theorem DE.more (hsh : Shape ops) {done : Nat} {pend : List Nat} {fr fr' : Tr Value} {s s' : AS} {listed : Array Bool} {a : Act} {w : World} {j : J} {idf : Nat → Nat}
    (h : DE P okS ops nt ds w0 j0 s0 done pend fr s listed a w j idf) {i : Nat} {o : Oper} {v : Value} (ho : ops[i]? = some o) (hd : done.testBit i = false) (he : isEff o = false) (hp : aput nt fr o.dst v = some fr')
    (hs : s' = s ∨ (isAlloc o = true ∧ s.next < lim ∧ ∃ ob, s' = ⟨s.next + 1, s.mem.put s.next ob⟩))
    (hf : PFact P okS ops s0 j s' fr' (fun x => if x = i then s.next else idf x) i o) :
    DE P okS ops nt ds w0 j0 s0 (done ||| 2 ^ i) (i :: pend) fr' s' listed a w j (fun x => if x = i then s.next else idf x) := by
  have hi : i < ops.size := (Array.getElem?_eq_some_iff.1 ho).1
  have hfr : ∀ d, o.dst = some d → fr.get d = none := fun d hdd => h.fresh i o d ho hd hdd
  have hle := put_le hp hfr
  obtain ⟨pg1, pg2⟩ := put_get hp
  have hli : listed.getD i true = false := by
    cases hq : listed.getD i true with
    | false => rfl
    | true => have := h.sub i hi hq; rw [hd] at this; cases this
  have hbit : ∀ x, (done ||| 2 ^ i).testBit x = true → x = i ∨ done.testBit x = true := fun x hx => by
    rw [or_bit, Bool.or_eq_true, decide_eq_true_eq] at hx
    exact hx.symm.imp Eq.symm id
  have hmem : ∀ b, b < s.next → s'.mem.get b = s.mem.get b := fun b hb => by
    rcases hs with rfl | ⟨_, hl, ob, rfl⟩
    · rfl
    · simp only [Tr.get_put _ _ _ _ hl, if_neg (show b ≠ s.next by omega)]
  refine ⟨h.lsz, fun x hx hl => ?_, fun x ox hox hx hex => ?_, ?_, ?_, h.tsz, h.dfr, fun t u ht hall => ?_, fun x ox d hox hx hdd => ?_, fun x ox hox hx hl => ?_, ?_⟩
  · rw [or_bit, h.sub x hx hl]; rfl
  · rcases hbit x hx with rfl | hx
    · rw [ho] at hox; cases hox; rw [he] at hex; cases hex
    · exact h.effd x ox hox hx hex
  · rcases hs with rfl | ⟨_, hl, ob, rfl⟩
    · exact h.rel
    · exact h.rel.extra hl ob
  · refine h.ext.trans ⟨J.le_refl _, ?_, fun b hb hj => ⟨hj, hmem b hb⟩⟩
    rcases hs with rfl | ⟨_, hl, ob, rfl⟩
    · exact Nat.le_refl _
    · exact Nat.le_succ _
  · by_cases e : o.dst = some t
    · have := hall i o ho e; rw [hli] at this; cases this
    · rw [pg2 t (fun d hdd heq => e (by rw [hdd, heq]))] at ht
      exact h.slots t u ht hall
  · have hne : x ≠ i := fun e => by subst e; rw [or_bit] at hx; simp at hx
    have hx' : done.testBit x = false := by rw [or_bit, Bool.or_eq_false_iff] at hx; exact hx.1
    rw [pg2 d (fun d' hd' heq => by subst heq; exact hsh.once x i ox o d hox ho hne hd' hdd)]
    exact h.fresh x ox d hox hx' hdd
  · rcases hbit x hx with rfl | hx
    · rw [ho] at hox; cases hox; exact ⟨he, List.mem_cons_self .., hf⟩
    · have hne : x ≠ i := fun e => absurd hx (by rw [e, hd]; simp)
      obtain ⟨k1, k2, k3⟩ := h.pnd x ox hox hx hl
      exact ⟨k1, List.mem_cons_of_mem _ k2, k3.mono hle (by simp [hne]) fun ob q1 q2 => ⟨by rw [hmem _ (h.rel.memlt _ _ q1)]; exact q1, q2⟩⟩
  · -- the blocks' names
    have lt : ∀ x ox, x ≠ i → ops[x]? = some ox → done.testBit x = true → listed.getD x true = false → isAlloc ox = true → awanted ops fr'.get ox = some true → idf x < s.next := by
      intro x ox hne hox hx hl hal hw
      obtain ⟨_, _, k3⟩ := h.pnd x ox hox hx hl
      rcases k3 with ⟨q, _⟩ | ⟨_, _, q⟩
      · rw [awanted_mono hle q] at hw; cases hw
      · rcases q with ⟨_, ob, mk, _, q2, _⟩ | ⟨q, _⟩ | ⟨q, _⟩
        · exact h.rel.memlt _ _ q2
        · rw [hal] at q; cases q
        · rw [hal] at q; cases q
    have wn : ∀ x ox, x ≠ i → ops[x]? = some ox → done.testBit x = true → listed.getD x true = false → awanted ops fr'.get ox = some true → awanted ops fr.get ox = some true := by
      intro x ox hne hox hx hl hw
      obtain ⟨_, _, k3⟩ := h.pnd x ox hox hx hl
      rcases k3 with ⟨q, _⟩ | ⟨q, _⟩
      · rw [awanted_mono hle q] at hw; cases hw
      · exact q
    intro x x' ox ox' hne hox hox' hx hx' hl hl' hal hal' hw hw'
    show (if x = i then s.next else idf x) ≠ (if x' = i then s.next else idf x')
    by_cases e : x = i
    · subst e
      rcases hbit x' hx' with e' | hx'
      · exact absurd e'.symm hne
      · rw [if_pos rfl, if_neg (Ne.symm hne)]
        have := lt x' ox' (Ne.symm hne) hox' hx' hl' hal' hw'
        omega
    · rw [if_neg e]
      have hxd := (hbit x hx).resolve_left e
      by_cases e' : x' = i
      · subst e'
        rw [if_pos rfl]
        have := lt x ox e hox hxd hl hal hw
        omega
      · rw [if_neg e']
        have hxd' := (hbit x' hx').resolve_left e'
        exact h.idd x x' ox ox' hne hox hox' hxd hxd' hl hl' hal hal' (wn x ox e hox hxd hl hw) (wn x' ox' e' hox' hxd' hl' hw')

theorem restGo_ok (hsh : Shape ops) : ∀ (is : List Nat) (done : Nat) (pend : List Nat) (fr : Tr Value) (s : AS) (done' : Nat) (pend' : List Nat) (fr' : Tr Value) (s' : AS),
    restGo P okS ops nt is done pend fr s = some (done', pend', fr', s') → ∀ (listed : Array Bool) (a : Act) (w : World) (j : J) (idf : Nat → Nat), DE P okS ops nt ds w0 j0 s0 done pend fr s listed a w j idf →
    ∃ idf', DE P okS ops nt ds w0 j0 s0 done' pend' fr' s' listed a w j idf'
  | [], done, pend, fr, s, done', pend', fr', s', h, listed, a, w, j, idf, hd => by
    simp only [restGo, Option.some.injEq, Prod.mk.injEq] at h
    obtain ⟨rfl, rfl, rfl, rfl⟩ := h
    exact ⟨idf, hd⟩
  | i :: is, done, pend, fr, s, done', pend', fr', s', h, listed, a, w, j, idf, hd => by
    simp only [restGo] at h
    split at h
    · cases h
    · rename_i o ho
      generalize hb : (!done.testBit i && !isEff o && sub (depMask o) done) = b at h
      cases b with
      | false =>
        simp only [cond_false] at h
        exact restGo_ok hsh is done pend fr s done' pend' fr' s' h listed a w j idf hd
      | true =>
        simp only [cond_true] at h
        simp only [Bool.and_eq_true, Bool.not_eq_true'] at hb
        obtain ⟨⟨hb1, hb2⟩, hb3⟩ := hb
        have hfr : ∀ d, o.dst = some d → fr.get d = none := fun d hdd => hd.fresh i o d ho hb1 hdd
        split at h
        · rename_i hw
          split at h
          · rename_i fr1 hp
            have hle := put_le hp hfr
            have := hd.more hsh ho hb1 hb2 hp (.inl rfl) (.inl ⟨awanted_mono hle hw, fun d hdd => ((put_get hp).1 d hdd).1⟩)
            exact restGo_ok hsh is _ _ fr1 s done' pend' fr' s' h listed a w j _ this
          · cases h
        · rename_i hw
          obtain ⟨hk, h2⟩ := cond_some h
          split at h2
          · rename_i v s1 hop
            obtain ⟨hn, h3⟩ := cond_some h2
            split at h3
            · rename_i fr1 hp
              have hle := put_le hp hfr
              cases hal : isAlloc o with
              | true =>
                rw [hal] at h3
                simp only [cond_true] at h3
                have hop' : aop P okS (msk ops o fr.get) o s = some (.val v s1) := by rw [msk_aop]; exact hop
                obtain ⟨ob, mk, e1, hl, e2, hsp⟩ := alloc_spec hal hop'
                have := hd.more hsh ho hb1 hb2 hp (.inr ⟨hal, hl, ob, e2⟩) (.inr ⟨awanted_mono hle hw, known_mono hle hk, .inl ⟨hal, ob, mk, hsp.mono hle.msk, ?_, ?_, ?_, fun d hdd => by rw [((put_get hp).1 d hdd).1, e1]; simp⟩⟩)
                · exact restGo_ok hsh is _ _ fr1 _ done' pend' fr' s' h3 listed a w j _ this
                · rw [e2]; simp [Tr.get_put _ _ _ _ hl]
                · simpa using hd.rel.fresh
                · simpa using hd.ext.next
              | false =>
                rw [hal] at h3 hn
                simp only [cond_false] at h3
                simp only [Bool.false_or] at hn
                have hs1 := rest_same hb2 hal hop (Nat.eq_of_beq_eq_true hn)
                cases hpu : isPure o with
                | true =>
                  have := hd.more hsh ho hb1 hb2 hp (.inl rfl) (.inr ⟨awanted_mono hle hw, known_mono hle hk, .inr (.inl ⟨hal, hpu, v, fun s2 => by rw [known_aop hle hk]; exact (pure_aop hpu hop).2 s2, fun d hdd => ((put_get hp).1 d hdd).1⟩)⟩)
                  exact restGo_ok hsh is _ _ fr1 _ done' pend' fr' s' h3 listed a w j _ this
                | false =>
                  have := hd.more hsh ho hb1 hb2 hp (.inl rfl) (.inr ⟨awanted_mono hle hw, known_mono hle hk, .inr (.inr ⟨hal, hpu⟩)⟩)
                  exact restGo_ok hsh is _ _ fr1 _ done' pend' fr' s' h3 listed a w j _ this
            · cases h3
          · cases h2
        · cases h

end

end Go.Proofs.YtfeoocgmbikocaaGreat.Ev
