/- An evaluator for calls whose arguments are known: append is right. -/
import Derived.Test.YtfeoocgmbikocaaGreatV9
namespace Go.Proofs.YtfeoocgmbikocaaGreat.Ev
open Go.RowKit

theorem toArray_append (l m : List Value) : l.toArray ++ m.toArray = (l ++ m).toArray := by simp

theorem aappend_ok {P : Program} {w0 : World} {j : J} {s s' : AS} {w : World} (hR : R w0 j s w) {ats : Array TypeId} {t0 : TypeId} {sv sv' xv xv' v : Value} (hs : VR j sv sv') (hx : VR j xv xv')
    (h : aappend P ats sv xv s = some (v, s')) : Ok P w0 (Builtin.append_ ats t0 #[sv', xv']) j s w v s' := by
  unfold aappend at h
  split at h
  · rename_i t ht hz0
    split at h
    · rename_i e hu
      split at h
      · rename_i i z n hi hz hn
        obtain ⟨zv, h1, rfl, h3⟩ := zeroOf_spec hz
        split at h
        · rename_i new hnew
          generalize hb0 : (Nat.beq new.length (n * i.size) && Nat.beq zv.cells.size i.size) = bb at h
          cases bb with
          | false => simp at h
          | true =>
            simp only [Bool.and_eq_true] at hb0
            have hnl := Nat.eq_of_beq_eq_true hb0.1
            have hzs := Nat.eq_of_beq_eq_true hb0.2
            have pre : APre P ats xv s e i zv n new := ⟨⟨t, ht, hu⟩, zeros_false hz0, hi, h1, hn, hnew, hnl, hzs⟩
            simp only [cond_true] at h
            split at h
            · rename_i m c
              have : sv' = .slice none m c := hs.closed_eq 1 rfl
              subst this
              generalize hb1 : (Nat.beq m 0 && Nat.beq c 0) = b1 at h
              cases b1 with
              | false => simp at h
              | true =>
                simp only [Bool.and_eq_true] at hb1
                have hm0 := Nat.eq_of_beq_eq_true hb1.1
                have hc0 := Nat.eq_of_beq_eq_true hb1.2
                subst hm0; subst hc0
                simp only [cond_true] at h
                cases hn0 : Nat.beq n 0 with
                | true =>
                  have hn00 := Nat.eq_of_beq_eq_true hn0
                  subst hn00
                  simp only [cond_true, Nat.beq_refl, Option.some.injEq, Prod.mk.injEq] at h
                  obtain ⟨rfl, rfl⟩ := h
                  obtain ⟨l', g1, g2, g3⟩ := srcCells_ok (P := P) hR hx hnew
                  refine ⟨j, .slice none 0 0, w, ?_, .same 1 rfl, hR, .refl _ _⟩
                  exact append_fits pre hx g1 (base := none) (m := 0) (c := 0) (Nat.le_refl _) rfl
                | false =>
                  simp only [hn0, cond_false] at h
                  have hnpos : 0 < n := by
                    cases n with
                    | zero => cases hn0
                    | succ n => omega
                  generalize hb2 : (Nat.blt n 1099511627776 && Nat.ble ((2 * n + 192) * i.bytes) 281474976710656) = b2 at h
                  cases b2 with
                  | false => simp at h
                  | true =>
                    simp only [Bool.and_eq_true, Nat.blt_eq, Nat.ble_eq] at hb2
                    simp only [cond_true] at h
                    split at h
                    · rename_i b' s1 ha
                      simp only [Option.some.injEq, Prod.mk.injEq] at h
                      obtain ⟨rfl, rfl⟩ := h
                      obtain ⟨l', g1, g2, g3⟩ := srcCells_heap (P := P) hR hx hnew
                      obtain ⟨newCap, w1, k1, k2, k3, k4, k5, k6⟩ := append_grows (t0 := t0) pre hx (base := none) (m := 0) (c := 0) (w := w) (by omega) (by omega) (by rw [Nat.zero_add]; exact hb2.2)
                        (old' := #[]) (new' := l'.toArray) (fun w1 _ => by simp [Builtin.firstCells]) g1
                      obtain ⟨j', q1, q2, q3⟩ := grown_ok hR k2 k3 k4 k5 g2 g3 hnl.symm ha (Builtin.zeroCells zv.cells (newCap - (0 + n)))
                      refine ⟨j', _, _, k6, ?_, ?_, q3⟩
                      · have := slice_cap (size := i.size) (newCap := newCap) (need := n) q1 rfl rfl (by omega) (by
                          rw [zeroCells_size, hzs, ← g2, hnl, ← Nat.add_mul]
                          exact Nat.mul_le_mul_right _ (by omega)) hb2.1
                        simpa using this
                      · simpa using q2
                    · cases h
            · rename_i b o m c
              obtain ⟨p, c', hj, hc, rfl⟩ := slice_of hs
              cases hfit : Nat.ble (m + n) (c % big) with
              | true =>
                simp only [hfit, cond_true] at h
                have hfit' : m + n ≤ c % big := Nat.le_of_ble_eq_true hfit
                cases hone : new.all Value.oneCell' with
                | false => simp [hone] at h
                | true =>
                  simp only [hone, cond_true] at h
                  split at h
                  · rename_i s1 hset
                    simp only [Option.some.injEq, Prod.mk.injEq] at h
                    obtain ⟨rfl, rfl⟩ := h
                    obtain ⟨l', g1, g2, g3⟩ := srcCells_ok (P := P) hR hx hnew
                    have hle : m + n ≤ c' := by
                      rcases hc with ⟨q, rfl⟩ | ⟨_, q, _⟩
                      · rwa [Nat.mod_eq_of_lt q] at hfit'
                      · omega
                    obtain ⟨w', k1, k2, k3⟩ := asets_ok (P := P) hj new l' (o + m * i.size) 0 s s1 w hR g2 g3 hset
                    refine ⟨j, _, w', append_fits pre hx g1 (base := some ⟨p.r, p.d + o, none⟩) hle ?_, .slice hj hc, k2, k3⟩
                    simp only [add_addr]
                    rw [← Nat.add_assoc] at k1
                    exact k1
                  · cases h
              | false =>
                simp only [hfit, cond_false] at h
                have hfit' : c % big < m + n := by
                  rcases Nat.lt_or_ge (c % big) (m + n) with q | q
                  · exact q
                  · rw [show Nat.ble (m + n) (c % big) = true by rw [Nat.ble_eq]; exact q] at hfit; cases hfit
                split at h
                · rename_i old hold
                  generalize hb2 : (Nat.blt (m + n) 1099511627776 && Nat.ble ((2 * (m + n) + 192) * i.bytes) 281474976710656) = b2 at h
                  cases b2 with
                  | false => simp at h
                  | true =>
                    simp only [Bool.and_eq_true, Nat.blt_eq, Nat.ble_eq] at hb2
                    simp only [cond_true] at h
                    -- what a new row gives
                    have grow : ∀ (sx : AS) (b' : Nat) (s1 : AS), R w0 j sx w → anew sx (old ++ new).toArray ((m + n) * i.size) e true = some (b', s1) → c' < m + n →
                        ∃ j' v' w', (Builtin.append_ ats t0 #[.slice (some ⟨p.r, p.d + o, none⟩) m c', xv']).run P w = .ok v' w' ∧ VR j' (.slice (some ⟨b', 0, none⟩) (m + n) (m + n + big * (i.size + 1))) v' ∧ R w0 j' s1 w' ∧ Ext j sx j' s1 := by
                      intro sx b' s1 hRx ha hgt
                      obtain ⟨l', g1, g2, g3⟩ := srcCells_heap (P := P) hR hx hnew
                      obtain ⟨o', o1, o2, o3, o4, o5⟩ := hR.cells (P := P) hj hold
                      obtain ⟨newCap, w1, k1, k2, k3, k4, k5, k6⟩ := append_grows (t0 := t0) pre hx (base := some ⟨p.r, p.d + o, none⟩) (m := m) (c := c') (w := w) hgt hb2.1 hb2.2
                        (old' := o'.toArray) (new' := l'.toArray) (fun w1 hh => by
                          simp only [Builtin.firstCells]
                          exact loadCells_heap hh _ _ _ o5 (fun k hk => ⟨_, by rw [add_addr]; exact o4 k hk⟩)) g1
                      have hlen : (old ++ new).length = (m + n) * i.size := by rw [List.length_append, o2, hnl, Nat.add_mul]
                      obtain ⟨j', q1, q2, q3⟩ := grown_ok hRx k2 k3 k4 k5 (l := old ++ new) (l' := o' ++ l') (by simp [o1, o2, g2]) (rel_append (o2.trans o1.symm) o3 g3) hlen.symm ha (Builtin.zeroCells zv.cells (newCap - (m + n)))
                      refine ⟨j', _, _, k6, ?_, ?_, q3⟩
                      · refine slice_cap (size := i.size) (newCap := newCap) (need := m + n) q1 rfl rfl k1 (by
                          rw [zeroCells_size, hzs, List.length_append, ← g2, o1, hnl, ← Nat.add_mul, ← Nat.add_mul]
                          exact Nat.mul_le_mul_right _ (by omega)) hb2.1
                      · rw [← toArray_append o' l'] at q2; exact q2
                    cases hcb : Nat.blt c big with
                    | true =>
                      simp only [hcb, cond_true] at h
                      have hlt : c < big := by rwa [Nat.blt_eq] at hcb
                      have hcc : c' = c := by
                        rcases hc with ⟨_, q⟩ | ⟨q, _⟩
                        · exact q
                        · omega
                      split at h
                      · rename_i b' s1 ha
                        simp only [Option.some.injEq, Prod.mk.injEq] at h
                        obtain ⟨rfl, rfl⟩ := h
                        rw [Nat.mod_eq_of_lt hlt] at hfit'
                        exact grow s b' s1 hR ha (by omega)
                      · cases h
                    | false =>
                      simp only [hcb, cond_false] at h
                      have hge : big ≤ c := by
                        rcases Nat.lt_or_ge c big with q | q
                        · rw [show Nat.blt c big = true by rw [Nat.blt_eq]; exact q] at hcb; cases hcb
                        · exact q
                      obtain ⟨hk1, hk2⟩ : c % big ≤ c' ∧ p.d + o + c' * (c / big - 1) ≤ p.rs := by
                        rcases hc with ⟨q, _⟩ | ⟨_, q⟩
                        · omega
                        · exact q
                      split at h
                      · rename_i m0 z0 tr0 e0 hm0
                        generalize hb3 : (Nat.beq (c / big - 1) i.size && Nat.blt b lim && new.all Value.oneCell') = b3 at h
                        cases b3 with
                        | false => simp at h
                        | true =>
                          simp only [Bool.and_eq_true, Nat.blt_eq] at hb3
                          obtain ⟨⟨hse', hbl⟩, hone⟩ := hb3
                          have hse := Nat.eq_of_beq_eq_true hse'
                          rw [hse] at hk2
                          simp only [cond_true] at h
                          split at h
                          · rename_i b' s1 ha
                            simp only [Option.some.injEq, Prod.mk.injEq] at h
                            obtain ⟨rfl, rfl⟩ := h
                            obtain ⟨hRd, hEd⟩ := hR.drop hj hm0 hbl
                            by_cases hgt : c' < m + n
                            · obtain ⟨j', v', w', r1, r2, r3, r4⟩ := grow _ b' s1 hRd ha hgt
                              exact ⟨j', v', w', r1, r2, r3, hEd.trans r4⟩
                            · -- there was room
                              obtain ⟨l', g1, g2, g3⟩ := srcCells_ok (P := P) hR hx hnew
                              obtain ⟨o', o1, o2, o3, o4, o5⟩ := hR.cells (P := P) hj hold
                              obtain ⟨cs, e', fr, q1, q2, q3, q4, q5⟩ := hR.obj b _ p hm0 hj
                              have hdom := hR.dom b p hj
                              have hroom : (m + n) * i.size ≤ c' * i.size := Nat.mul_le_mul_right _ (by omega)
                              have hmn : (m + n) * i.size = m * i.size + n * i.size := Nat.add_mul _ _ _
                              have hcl : ∀ b1 o1 p1, (s.mem.put b .gone).get b1 = some o1 → j b1 = some p1 → p1.r = p.r → ∀ x, p.d ≤ x → ¬ claims o1 p1.d x := by
                                intro b1 ob1 p1 hm1 hj1 hr1 x hx1 hcl1
                                rw [Tr.get_put _ _ _ _ hbl] at hm1
                                by_cases hbb : b1 = b
                                · rw [if_pos hbb] at hm1; cases hm1; exact hcl1
                                · rw [if_neg hbb] at hm1
                                  exact hR.sep b b1 _ ob1 p p1 (Ne.symm hbb) hm0 hm1 hj hj1 hr1.symm x ⟨⟨hx1, .inl rfl⟩, hcl1⟩
                              obtain ⟨w', cs', f1, f2, f3, f4, f4', f5, f6⟩ := scribbles (P := P) (lo := p.d) hdom.2.1 hcl l' (p.d + o + m * i.size) 0 w cs hRd (by omega) q1 (by rw [← g2, hnl]; omega) q4
                                (rel_oneCell g2 g3 hone)
                              have hal : Nat.blt s.next lim = true := by
                                unfold anew at ha
                                cases hq : Nat.blt s.next lim with
                                | true => rfl
                                | false => simp [hq] at ha
                              unfold anew at ha
                              simp only [hal, cond_true, Option.some.injEq, Prod.mk.injEq] at ha
                              obtain ⟨rfl, rfl⟩ := ha
                              have hlen : (old ++ new).length = (m + n) * i.size := by rw [List.length_append, o2, hnl, Nat.add_mul]
                              have hrel := rel_append (b := new) (b' := l') (o2.trans o1.symm) o3 g3
                              have hOR : OR j w' ⟨p.r, p.d + o, p.rs⟩ (.row ((m + n) * i.size) (old ++ new).toArray .nil e true) := by
                                refine ⟨cs', e', fr, f2, by rw [f3]; exact q2, by simp only; omega, by rw [f3]; exact q4, fun k u hu => ?_⟩
                                have hk := rget_lt hu
                                unfold rget at hu
                                rw [show k.blt ((m + n) * i.size) = true by rw [Nat.blt_eq]; exact hk] at hu
                                have hnil : (Tr.nil : Tr Value).get k = none := by cases k <;> rfl
                                simp only [cond_true, hnil, Option.some.injEq] at hu
                                subst hu
                                have hsz : (old ++ new).toArray.size = (m + n) * i.size := by simpa using hlen
                                rw [hsz, Nat.mod_eq_of_lt hk]
                                have hA : (old ++ new).toArray.getD k undef = (old ++ new).getD k undef := by simp [Array.getD_eq_getD_getElem?, List.getD_eq_getElem?_getD]
                                have hB : cs'.getD (p.d + o + k) undef = (o' ++ l').getD k undef := by
                                  by_cases hko : k < m * i.size
                                  · rw [f5 _ (by omega)]
                                    have := o4 k hko
                                    rw [show (o' ++ l').getD k undef = o'.getD k undef by simp only [List.getD_eq_getElem?_getD]; rw [List.getElem?_append_left (by omega)]]
                                    have hlt : p.d + o + k < cs.size := by omega
                                    rw [cell?_of q1 hlt] at this
                                    exact Option.some.inj this
                                  · have := f6 (k - m * i.size) (by rw [← g2, hnl]; omega)
                                    rw [show p.d + o + m * i.size + 0 + (k - m * i.size) = p.d + o + k by omega] at this
                                    rw [this]
                                    simp only [List.getD_eq_getElem?_getD]
                                    rw [List.getElem?_append_right (by omega), o1]
                                rw [hA]
                                simp only
                                rw [hB]
                                exact (hrel k).mono (J.le_refl _)
                              obtain ⟨A1, A2⟩ := f4.alias (by rwa [Nat.blt_eq] at hal) (.row ((m + n) * i.size) (old ++ new).toArray .nil e true) ⟨p.r, p.d + o, p.rs⟩ hdom.2.1 (by rw [f4']; exact hdom.2.2) hOR (fun b1 ob1 p1 hm1 hj1 hr1 x hx1 => hcl b1 ob1 p1 hm1 hj1 hr1 x (by have := hx1.2.1; simp only at this; omega) hx1.1)
                              refine ⟨_, .slice (some ⟨p.r, p.d + o, none⟩) (m + n) c', w', append_fits pre hx g1 (base := some ⟨p.r, p.d + o, none⟩) (by omega) ?_, ?_, A1, hEd.trans A2⟩
                              · simp only [add_addr]; exact f1
                              · have := VR.slice (j := j.upd s.next ⟨p.r, p.d + o, p.rs⟩) (b := s.next) (o := 0) (n := m + n) (c := m + n + big * (i.size + 1)) (c' := c') (J.upd_self _ _ _) (.inr ⟨?_, ?_, ?_⟩)
                                · exact this
                                · have : big * 1 ≤ big * (i.size + 1) := Nat.mul_le_mul_left _ (by omega)
                                  omega
                                · rw [Nat.add_mul_mod_self_left, Nat.mod_eq_of_lt (by unfold big; omega)]; omega
                                · rw [Nat.add_mul_div_left _ _ big_pos, Nat.div_eq_of_lt (by unfold big; omega), Nat.zero_add, Nat.add_sub_cancel]; simp only; omega
                          · cases h
                      · cases h
                · cases h
            · cases h
        · cases h
      · cases h
    · cases h
  · cases h

end Go.Proofs.YtfeoocgmbikocaaGreat.Ev
