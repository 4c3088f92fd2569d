/- An evaluator for calls whose arguments are known: parts of slices, and what is appended. -/
import Derived.Test.YtfeoocgmbikocaaGreatV5
namespace Go.Proofs.YtfeoocgmbikocaaGreat.Ev
open Go.RowKit

def natOf (o : Option Value) (d : Nat) : Option Nat :=
  match o with
  | none => some d
  | some (.int _ i) => bif decide (0 ≤ i) then some i.toNat else none
  | _ => none

def OV (j : J) : Option Value → Option Value → Prop
  | none, none => True
  | some v, some v' => VR j v v'
  | _, _ => False

theorem natOf_rel {j : J} {o o' : Option Value} {d n : Nat} (h : OV j o o') (hn : natOf o d = some n) : (o' = none ∧ n = d) ∨ (∃ k, o' = some (.int k (n : Int))) := by
  cases o with
  | none =>
    cases o' with
    | none => simp only [natOf, Option.some.injEq] at hn; exact .inl ⟨rfl, hn.symm⟩
    | some _ => exact h.elim
  | some v =>
    cases o' with
    | none => exact h.elim
    | some v' =>
      cases v with
      | int k i =>
        have hv : v' = .int k i := VR.int_eq h
        simp only [natOf] at hn
        by_cases hi : 0 ≤ i
        · simp only [hi, decide_true, cond_true, Option.some.injEq] at hn
          right; exact ⟨k, by rw [hv, ← hn, Int.toNat_of_nonneg hi]⟩
        · simp [hi] at hn
      | _ => simp [natOf] at hn

theorem sliceBound_run {P : Program} (w : World) (k : IntKind) (n y : Nat) (code : BoundsCode) (h : n ≤ y) : (Instr.sliceBound (.int k (n : Int)) y code).run P w = .ok n w := by
  simp [Instr.sliceBound, asIntOf, h]

theorem bounds_none {P : Program} {j : J} (w : World) (isS : Bool) {len cap l h : Nat} {lo lo' hi hi' : Option Value} (hlo : OV j lo lo') (hhi : OV j hi hi')
    (h1 : natOf lo 0 = some l) (h2 : natOf hi len = some h) (hl : l ≤ h) (hc : h ≤ cap) : (Instr.sliceBounds isS len cap lo' hi' none).run P w = .ok (l, h, cap) w := by
  rcases natOf_rel hhi h2 with ⟨rfl, rfl⟩ | ⟨k, rfl⟩ <;> rcases natOf_rel hlo h1 with ⟨rfl, rfl⟩ | ⟨k', rfl⟩ <;>
    simp [Instr.sliceBounds, sliceBound_run, hc, hl]

theorem bounds_some {P : Program} {j : J} (w : World) (isS : Bool) {len cap l h m : Nat} {lo lo' hi hi' mx mx' : Option Value} (hlo : OV j lo lo') (hhi : OV j hi hi') (hmx : OV j mx mx')
    (h1 : natOf lo 0 = some l) (h2 : natOf hi len = some h) (h3 : natOf mx 0 = some m) (hs : mx.isSome = true) (hs2 : hi.isSome = true) (hl : l ≤ h) (hm : h ≤ m) (hc : m ≤ cap) :
    (Instr.sliceBounds isS len cap lo' hi' mx').run P w = .ok (l, h, m) w := by
  rcases natOf_rel hmx h3 with ⟨rfl, rfl⟩ | ⟨k, rfl⟩
  · cases mx with
    | none => cases hs
    | some _ => exact hmx.elim
  · rcases natOf_rel hhi h2 with ⟨rfl, rfl⟩ | ⟨k2, rfl⟩
    · cases hi with
      | none => cases hs2
      | some _ => exact hhi.elim
    · rcases natOf_rel hlo h1 with ⟨rfl, rfl⟩ | ⟨k', rfl⟩ <;>
        simp [Instr.sliceBounds, sliceBound_run, hc, hl, hm]

def aslice (P : Program) (t : TypeId) (x : Value) (lo hi mx : Option Value) (s : AS) : Option (Value × AS) :=
  match x, P.underlying t with
  | .slice (some ⟨b, o, none⟩) n c, some (.slice e) =>
    match P.info? e, natOf lo 0, natOf hi n with
    | some i, some l, some h =>
      match mx with
      | some mv =>
        match natOf (some mv) 0 with
        | some m => bif hi.isSome && Nat.ble l h && Nat.ble h m && Nat.ble m (c % big) && Nat.blt m big then
            some (.slice (some ⟨b, bif Nat.beq m l then o else o + l * i.size, none⟩) (h - l) (m - l), s) else none
        | none => none
      | none =>
        bif Nat.ble l h && Nat.ble h (c % big) then
          bif Nat.blt c big then some (.slice (some ⟨b, bif Nat.beq c l then o else o + l * i.size, none⟩) (h - l) (c - l), s)
          else bif Nat.beq (c / big - 1) i.size then
            bif Nat.blt l (c % big) || Nat.beq l 0 then some (.slice (some ⟨b, o + l * i.size, none⟩) (h - l) (c - l), s)
            else match s.mem.get b with
            | some (.row _ _ _ _ _) => bif Nat.blt s.next lim then some (.slice (some ⟨s.next, 0, none⟩) (h - l) (c - l), ⟨s.next + 1, s.mem.put s.next (.row 0 #[] .nil e false)⟩) else none
            | _ => none
          else none
        else none
    | _, _, _ => none
  | .pointer (some ⟨b, o, none⟩), some (.array n e) =>
    match P.info? e, natOf lo 0, natOf hi n, mx with
    | some i, some l, some h, none =>
      bif Nat.ble l h && Nat.ble h n && Nat.blt n big then some (.slice (some ⟨b, bif Nat.beq n l then o else o + l * i.size, none⟩) (h - l) (n - l), s) else none
    | _, _, _, _ => none
  | _, _ => none

theorem big_pos : 0 < big := by unfold big; omega

theorem aslice_ok {P : Program} {w0 : World} {j : J} {s s' : AS} {w : World} (hR : R w0 j s w) {t : TypeId} {x x' v : Value} {lo lo' hi hi' mx mx' : Option Value} (hx : VR j x x')
    (hlo : OV j lo lo') (hhi : OV j hi hi') (hmx : OV j mx mx') (h : aslice P t x lo hi mx s = some (v, s')) : Ok P w0 (Instr.sliceAt t x' lo' hi' mx') j s w v s' := by
  unfold aslice at h
  split at h
  · rename_i b o n c e hu
    obtain ⟨p, c', hj, hc, rfl⟩ := slice_of hx
    split at h
    · rename_i i l hh hi' h1 h2
      split at h
      · rename_i mv
        split at h
        · rename_i m hm
          generalize hb : (hi.isSome && Nat.ble l hh && Nat.ble hh m && Nat.ble m (c % big) && Nat.blt m big) = bb at h
          cases bb with
          | false => simp at h
          | true =>
            simp only [cond_true, Option.some.injEq, Prod.mk.injEq] at h
            obtain ⟨rfl, rfl⟩ := h
            simp only [Bool.and_eq_true, Nat.ble_eq, Nat.blt_eq] at hb
            obtain ⟨⟨⟨⟨g0, g1⟩, g2⟩, g3⟩, g4⟩ := hb
            have hmc : m ≤ c' := by
              rcases hc with ⟨ha, rfl⟩ | ⟨_, hb', _⟩
              · rwa [Nat.mod_eq_of_lt ha] at g3
              · omega
            have hbd := bounds_some (P := P) w true hlo hhi hmx h1 h2 hm rfl g0 g1 g2 hmc
            refine ⟨j, .slice (some ⟨p.r, p.d + (bif Nat.beq m l then o else o + l * i.size), none⟩) (hh - l) (m - l), w, ?_, .slice hj (.inl ⟨by omega, rfl⟩), hR, .refl _ _⟩
            simp only [Instr.sliceAt, Sem.run_bind, underlying_run hu, Result.andThen_ok, Instr.slice, hbd, sizeOf_run hi', Sem.run_pure]
            by_cases hml : m = l
            · simp [hml]
            · have : Nat.beq m l = false := by cases hq : Nat.beq m l with | false => rfl | true => exact absurd (Nat.eq_of_beq_eq_true hq) hml
              simp [hml, this, add_addr, Nat.add_assoc]
        · cases h
      · have hmx0 : mx' = none := by cases mx' with | none => rfl | some _ => exact hmx.elim
        subst hmx0
        generalize hb : (Nat.ble l hh && Nat.ble hh (c % big)) = bb at h
        cases bb with
        | false => simp at h
        | true =>
          simp only [Bool.and_eq_true, Nat.ble_eq] at hb
          obtain ⟨g1, g2⟩ := hb
          simp only [cond_true] at h
          cases hcb : Nat.blt c big with
          | true =>
            simp only [hcb, cond_true, Option.some.injEq, Prod.mk.injEq] at h
            obtain ⟨rfl, rfl⟩ := h
            have hlt : c < big := by rwa [Nat.blt_eq] at hcb
            have hcc : c' = c := by
              rcases hc with ⟨_, h⟩ | ⟨h, _⟩
              · exact h
              · omega
            subst hcc
            rw [Nat.mod_eq_of_lt hlt] at g2
            have hbd := bounds_none (P := P) w true hlo hhi h1 h2 g1 g2
            refine ⟨j, .slice (some ⟨p.r, p.d + (bif Nat.beq c' l then o else o + l * i.size), none⟩) (hh - l) (c' - l), w, ?_, .slice hj (.inl ⟨by omega, rfl⟩), hR, .refl _ _⟩
            simp only [Instr.sliceAt, Sem.run_bind, underlying_run hu, Result.andThen_ok, Instr.slice, hbd, sizeOf_run hi', Sem.run_pure]
            by_cases hml : c' = l
            · simp [hml]
            · have : Nat.beq c' l = false := by cases hq : Nat.beq c' l with | false => rfl | true => exact absurd (Nat.eq_of_beq_eq_true hq) hml
              simp [hml, this, add_addr, Nat.add_assoc]
          | false =>
            simp only [hcb, cond_false] at h
            have hge : big ≤ c := by
              rcases Nat.lt_or_ge c big with hq | hq
              · rw [show Nat.blt c big = true by rw [Nat.blt_eq]; exact hq] at hcb; cases hcb
              · exact hq
            obtain ⟨hk1, hk2⟩ : c % big ≤ c' ∧ p.d + o + c' * (c / big - 1) ≤ p.rs := by
              rcases hc with ⟨h, _⟩ | ⟨_, h⟩
              · omega
              · exact h
            have hbd := bounds_none (P := P) w true hlo hhi h1 h2 g1 (Nat.le_trans g2 hk1)
            cases hsz : Nat.beq (c / big - 1) i.size with
            | false => simp [hsz] at h
            | true =>
              have hse : c / big - 1 = i.size := Nat.eq_of_beq_eq_true hsz
              simp only [hsz, cond_true] at h
              have hmod : (c - l) % big = c % big - l := by
                have hd := Nat.div_add_mod c big
                have hlc : l ≤ c % big := by omega
                have hcl : c - l = (c % big - l) + big * (c / big) := by omega
                have hlt : c % big - l < big := Nat.lt_of_le_of_lt (Nat.sub_le _ _) (Nat.mod_lt _ big_pos)
                rw [hcl, Nat.add_mul_mod_self_left, Nat.mod_eq_of_lt hlt]
              have hdiv : (c - l) / big = c / big := by
                have hd := Nat.div_add_mod c big
                have hlc : l ≤ c % big := by omega
                have hcl : c - l = (c % big - l) + big * (c / big) := by omega
                have hlt : c % big - l < big := Nat.lt_of_le_of_lt (Nat.sub_le _ _) (Nat.mod_lt _ big_pos)
                rw [hcl, Nat.add_mul_div_left _ _ big_pos, Nat.div_eq_of_lt hlt, Nat.zero_add]
              have hbig' : big ≤ c - l := by
                have hd := Nat.div_add_mod c big
                have hlc : l ≤ c % big := by omega
                have h1d : 1 ≤ c / big := (Nat.one_le_div_iff big_pos).2 hge
                have : big * 1 ≤ big * (c / big) := Nat.mul_le_mul_left _ h1d
                omega
              have hmul : (c' - l) * i.size = c' * i.size - l * i.size := Nat.sub_mul _ _ _
              have hlm : l * i.size ≤ c' * i.size := Nat.mul_le_mul_right _ (by omega)
              rw [hse] at hk2
              cases hll : (Nat.blt l (c % big) || Nat.beq l 0) with
              | true =>
                simp only [hll, cond_true, Option.some.injEq, Prod.mk.injEq] at h
                obtain ⟨rfl, rfl⟩ := h
                simp only [Bool.or_eq_true, Nat.blt_eq] at hll
                refine ⟨j, .slice (some ⟨p.r, p.d + (o + l * i.size), none⟩) (hh - l) (c' - l), w, ?_, .slice hj (.inr ⟨hbig', by rw [hmod]; omega, by rw [hdiv, hse, hmul]; omega⟩), hR, .refl _ _⟩
                simp only [Instr.sliceAt, Sem.run_bind, underlying_run hu, Result.andThen_ok, Instr.slice, hbd, sizeOf_run hi', Sem.run_pure]
                by_cases hml : c' = l
                · have hl0 : l = 0 := by
                    rcases hll with hq | hq
                    · omega
                    · exact Nat.eq_of_beq_eq_true hq
                  simp [hml, hl0]
                · simp [hml, add_addr, Nat.add_assoc]
              | false =>
                simp only [hll, cond_false] at h
                split at h
                · rename_i m0 z0 t0 e0 own0 hm0
                  cases hnl : Nat.blt s.next lim with
                  | false => simp [hnl] at h
                  | true =>
                    simp only [hnl, cond_true, Option.some.injEq, Prod.mk.injEq] at h
                    obtain ⟨rfl, rfl⟩ := h
                    have hnl' : s.next < lim := by rwa [Nat.blt_eq] at hnl
                    have hdom := hR.dom b p hj
                    obtain ⟨cs, e', fr, q1, q2, _, q3, _⟩ := hR.obj b _ p hm0 hj
                    -- the place is either where it was, or behind what it holds
                    have key : ∀ d', d' ≤ p.rs → R w0 (j.upd s.next ⟨p.r, d', p.rs⟩) ⟨s.next + 1, s.mem.put s.next (.row 0 #[] .nil e false)⟩ w ∧ Ext j s (j.upd s.next ⟨p.r, d', p.rs⟩) ⟨s.next + 1, s.mem.put s.next (.row 0 #[] .nil e false)⟩ := by
                      intro d' hd2
                      refine hR.alias hnl' (.row 0 #[] .nil e false) ⟨p.r, d', p.rs⟩ hdom.2.1 hdom.2.2 ⟨cs, e', fr, q1, q2, by simpa using hd2, q3, fun i v hv => absurd (rget_lt hv) (Nat.not_lt_zero _)⟩ (fun b1 o1 p1 _ _ _ x hx => ?_)
                      have := hx.2
                      simp only [claims, Bool.false_eq_true, false_or, Nat.add_zero] at this
                      omega
                    by_cases hml : c' = l
                    · obtain ⟨k1, k2⟩ := key (p.d + o) (by omega)
                      refine ⟨_, .slice (some ⟨p.r, p.d + o, none⟩) (hh - l) (c' - l), w, ?_, VR.slice (p := ⟨p.r, p.d + o, p.rs⟩) (o := 0) (J.upd_self _ _ _) (.inr ⟨hbig', by rw [hmod]; omega, by rw [hdiv, hse, hmul]; simp only; omega⟩), k1, k2⟩
                      simp only [Instr.sliceAt, Sem.run_bind, underlying_run hu, Result.andThen_ok, Instr.slice, hbd, sizeOf_run hi', Sem.run_pure]
                      simp [hml]
                    · obtain ⟨k1, k2⟩ := key (p.d + o + l * i.size) (by omega)
                      refine ⟨_, .slice (some ⟨p.r, p.d + o + l * i.size, none⟩) (hh - l) (c' - l), w, ?_, VR.slice (p := ⟨p.r, p.d + o + l * i.size, p.rs⟩) (o := 0) (J.upd_self _ _ _) (.inr ⟨hbig', by rw [hmod]; omega, by rw [hdiv, hse, hmul]; simp only; omega⟩), k1, k2⟩
                      simp only [Instr.sliceAt, Sem.run_bind, underlying_run hu, Result.andThen_ok, Instr.slice, hbd, sizeOf_run hi', Sem.run_pure]
                      simp [hml, add_addr, Nat.add_assoc]
                · cases h
    · cases h
  · rename_i b o n e hu
    obtain ⟨p, hj, rfl⟩ := ptr_of hx
    split at h
    · rename_i i l hh hi1 h1 h2
      have hmx0 : mx' = none := by cases mx' with | none => rfl | some _ => exact hmx.elim
      subst hmx0
      generalize hb : (Nat.ble l hh && Nat.ble hh n && Nat.blt n big) = bb at h
      cases bb with
      | false => simp at h
      | true =>
        simp only [cond_true, Option.some.injEq, Prod.mk.injEq] at h
        obtain ⟨rfl, rfl⟩ := h
        simp only [Bool.and_eq_true, Nat.ble_eq, Nat.blt_eq] at hb
        obtain ⟨⟨g1, g2⟩, g4⟩ := hb
        have hbd := bounds_none (P := P) w false hlo hhi h1 h2 g1 g2
        refine ⟨j, .slice (some ⟨p.r, p.d + (bif Nat.beq n l then o else o + l * i.size), none⟩) (hh - l) (n - l), w, ?_, .slice hj (.inl ⟨by omega, rfl⟩), hR, .refl _ _⟩
        simp only [Instr.sliceAt, Sem.run_bind, underlying_run hu, Result.andThen_ok, Instr.sureAddr, hbd, sizeOf_run hi1, Sem.run_pure]
        by_cases hml : n = l
        · simp [hml]
        · have : Nat.beq n l = false := by cases hq : Nat.beq n l with | false => rfl | true => exact absurd (Nat.eq_of_beq_eq_true hq) hml
          simp [hml, this, add_addr, Nat.add_assoc]
    · cases h
  · cases h

end Go.Proofs.YtfeoocgmbikocaaGreat.Ev
