/- The document's Parse of names. -/
import Derived.Test.YtekhnacgejfmjaaNc
namespace Go.Proofs.Ytekhnacgejfmjaa
open Go.RowKit

theorem pairs_app : ∀ (n : Nat) (A R : List UInt8), A.length = 2 * n → pairs (A ++ R) = (pairs A).bind fun d => (pairs R).map (d ++ ·)
  | 0, A, R, h => by
    obtain rfl : A = [] := List.eq_nil_of_length_eq_zero (by omega)
    simp [pairs]
  | n + 1, x :: y :: A, R, h => by
    have ih := pairs_app n A R (by simp at h; omega)
    simp only [List.cons_append, pairs]
    cases hexV x with
    | none => rfl
    | some a =>
      cases hexV y with
      | none => rfl
      | some b =>
        simp only [ih]
        cases pairs A with
        | none => rfl
        | some d => cases pairs R <;> rfl
  | n + 1, [x], R, h => by simp at h; omega
  | n + 1, [], R, h => by simp at h
theorem nib_some {c : UInt8} (h : nibN c ≤ 15) : hexV c = some (nibN c) := by
  unfold nibN at *
  cases hv : hexV c with
  | none => rw [hv] at h; simp at h
  | some v => rfl
theorem nib_none {c : UInt8} (h : 15 < nibN c) : hexV c = none := by
  unfold nibN at h
  cases hv : hexV c with
  | none => rfl
  | some v => rw [hv] at h; have := hexV_lt hv; simp at h; omega
theorem take_two (l : List UInt8) (k : Nat) (h : 2 * k + 1 < l.length) : l.take (2 * (k + 1)) = l.take (2 * k) ++ [l[2 * k], l[2 * k + 1]] := by
  rw [show 2 * (k + 1) = 2 * k + 1 + 1 by omega, List.take_succ_eq_append_getElem h, List.take_succ_eq_append_getElem (by omega), List.append_assoc]
  rfl
theorem pairs_on (l D : List UInt8) (k : Nat) (h : 2 * k + 1 < l.length) (hp : pairs (l.take (2 * k)) = some D) (h1 : nibN l[2 * k] ≤ 15) (h2 : nibN l[2 * k + 1] ≤ 15) :
    pairs (l.take (2 * (k + 1))) = some (D ++ [UInt8.ofNat (16 * nibN l[2 * k] + nibN l[2 * k + 1])]) := by
  rw [take_two l k h, pairs_app k _ _ (by rw [List.length_take]; omega), hp]
  simp only [pairs, nib_some h1, nib_some h2]
  rfl
theorem pairs_bad (l D : List UInt8) (k : Nat) (h : 2 * k + 1 < l.length) (hp : pairs (l.take (2 * k)) = some D) (h1 : 15 < nibN l[2 * k] ∨ 15 < nibN l[2 * k + 1]) : pairs l = none := by
  have e : l = l.take (2 * k) ++ (l[2 * k] :: l[2 * k + 1] :: l.drop (2 * k + 2)) := by
    rw [← List.drop_eq_getElem_cons (by omega : 2 * k + 1 < l.length), ← List.drop_eq_getElem_cons (by omega : 2 * k < l.length), List.take_append_drop]
  rw [e, pairs_app k _ _ (by rw [List.length_take]; omega), hp]
  generalize l[2 * k] = x at *
  generalize l[2 * k + 1] = y at *
  have : pairs (x :: y :: l.drop (2 * k + 2)) = none := by
    simp only [pairs]
    rcases h1 with h | h
    · rw [nib_none h]
    · rw [nib_none h]; cases hexV x <;> rfl
  rw [this]; rfl
theorem resN_no {l : List UInt8} (h1 : parseN 111 l = none) (h2 : parseN 112 l = none) : resN l = (0, zero32, false) := by unfold resN; rw [h1, h2]
/-- Of a text of 66 bytes, by its parts. -/
theorem parseN_66 (m : UInt8) (l : List UInt8) (h : l.length = 66) (a b : UInt8) (ha : l.getD 0 0 = a) (hb : l.getD 1 0 = b) : parseN m l = if a = m ∧ b = 46 then pairs (l.drop 2) else none := by
  match l, h with
  | x :: y :: r, h =>
    have hx : x = a := ha
    have hy : y = b := hb
    subst hx hy
    unfold parseN
    have hr : r.length = 64 := by simpa using h
    simp only [List.take_succ_cons, List.take_zero, List.drop_succ_cons, List.drop_zero, parseL_pairs r hr]
    by_cases c : x = m ∧ y = 46
    · rw [if_pos c, if_pos]; simp [c.1, c.2]
    · rw [if_neg c, if_neg]; simp; exact fun e f => c ⟨e, f⟩
theorem parseN_len (m : UInt8) (l : List UInt8) (h : l.length ≠ 66) : parseN m l = none := by
  unfold parseN
  split
  · rename_i q
    rw [beq_iff_eq] at q
    have hl := congrArg List.length q
    rw [List.length_take] at hl
    simp at hl
    unfold parseL
    rw [if_neg]
    rw [List.length_drop]; omega
  · rfl
section
variable {o : Oper} {a : Act} {w : World} {K : Act → World → Prop} {Q : Exit → Act → World → Prop}
theorem wp_ixS (x : Operand) {y : Operand} (ho : o.op = .index 9 x y) (v r : Value) (hx : a.eval x = v) (hr : ∀ w, (Instr.index 9 v (a.eval y)).run Try.prog w = .ok r w) (h : K (a.put o.dst r) w) : o.wp Try.prog a w K Q := by
  unfold Oper.wp execOp
  simp only [ho, hx, Sem.run_bind, hr, Result.andThen_ok, Sem.run_pure]
  exact h
end
theorem idx8 (s : ByteArray) (j : Nat) (h : j < s.size) : s.data.toList.getD j 0 = s[j] := by
  rw [List.getD_eq_getElem?_getD, Array.getElem?_toList, Array.getElem?_eq_getElem h]; rfl
theorem drop8 (s : ByteArray) (j : Nat) (h : j + 2 < s.size) : (s.data.toList.drop 2)[j]'(by rw [List.length_drop]; simp; omega) = s[j + 2] := by
  rw [List.getElem_drop]
  simp only [Nat.add_comm 2 j]
  rfl
theorem below_drewN {B : Nat} {a w : World} (h : Below B a w) (n : Nat) : Below B a (w.drewN n) := ⟨h.os, h.tape, h.output, h.size, h.block⟩
def zr (D : List UInt8) : List UInt8 := D ++ List.replicate (32 - D.length) 0
theorem zr_len (D : List UInt8) (h : D.length ≤ 32) : (zr D).length = 32 := by unfold zr; rw [List.length_append, List.length_replicate]; omega
theorem zr_put (D : List UInt8) (x : UInt8) (h : D.length < 32) : ((zr D).map U).toArray.setIfInBounds D.length (U x) = ((zr (D ++ [x])).map U).toArray := by
  unfold zr
  rw [List.setIfInBounds_toArray, ← List.map_set]
  congr 2
  rw [List.set_append_right _ _ (Nat.le_refl _), Nat.sub_self, List.length_append, List.length_singleton, show 32 - D.length = (32 - (D.length + 1)) + 1 by omega, List.replicate_succ, List.set_cons_zero, List.append_assoc]
  rfl
theorem zr_full (D : List UInt8) (h : D.length = 32) : zr D = D := by unfold zr; rw [h]; simp
theorem byte_of (a b : Nat) (ha : a ≤ 15) (hb : b ≤ 15) : Value.int .u8 (16 * (a : Int) + (b : Int)) = U (UInt8.ofNat (16 * a + b)) := by
  rw [U_def]
  congr 1
  show _ = (((16 * a + b) % 256 : Nat) : Int)
  omega
attribute [local irreducible] pairs parseN
set_option maxRecDepth 100000 in
set_option maxHeartbeats 8000000 in
theorem rparse_walk (s : ByteArray) (w : World) :
    Calls Try.prog 16 #[.string s] w fun e w' => e = .returned (resV (resN s.data.toList)) ∧ Below w.heap.size w w' := by
  have HLN : Hid (s.data.toList.length = s.size) := by show _ = _; simp
  have HZ0 : Hid (Blk ((w.alloc (.cells (zero32.map U).toArray 25)).alloc (.cells (zero32.map U).toArray 25)) w.heap.size 25 (zero32.map U).toArray) := (Blk.fresh w 25 _).more _
  have H50 : Hid (Blk ((w.alloc (.cells (zero32.map U).toArray 25)).alloc (.cells (zero32.map U).toArray 25)) (w.heap.size + 1) 25 (zero32.map U).toArray) := Blk.fresh_at (by simp) _ _
  have HB0 : Hid (Below w.heap.size w ((w.alloc (.cells (zero32.map U).toArray 25)).alloc (.cells (zero32.map U).toArray 25))) := ((Below.refl _ w).alloc (Nat.le_refl _) _).alloc (by simp) _
  rw [← zeros_eq] at HZ0 H50 HB0
  by_cases h66 : s.size = 66
  · have hi0 : (s.size : Int) = 66 := by omega
    have t0 : ((s.size : Int) != 66) = false := by rw [hi0]; rfl
    have p0 := parseN_66 111 s.data.toList (by rw [HLN.out]; exact h66) s[0] s[1] (idx8 s 0 (by omega)) (idx8 s 1 (by omega))
    have p1 := parseN_66 112 s.data.toList (by rw [HLN.out]; exact h66) s[0] s[1] (idx8 s 0 (by omega)) (idx8 s 1 (by omega))
    have h1s : 1 < s.size := by omega
    have h0s : 0 < s.size := by omega
    by_cases c1 : s[1] = 46
    · have t1 : ((s[1].toNat : Int) != 46) = false := by rw [c1]; rfl
      by_cases c0 : s[0] = 111 ∨ s[0] = 112
      · skip
        have hkeep : ∃ m : UInt8, s[0] = m ∧ resN s.data.toList = match pairs (s.data.toList.drop 2) with | some d => (m, d, true) | none => (0, zero32, false) := by
          rcases c0 with c0 | c0
          · refine ⟨111, c0, ?_⟩
            unfold resN
            rw [p0, if_pos ⟨c0, c1⟩, p1, if_neg (fun h => by rw [c0] at h; exact absurd h.1 (by decide))]
            cases pairs (s.data.toList.drop 2) <;> rfl
          · refine ⟨112, c0, ?_⟩
            unfold resN
            rw [p0, if_neg (fun h => by rw [c0] at h; exact absurd h.1 (by decide)), p1, if_pos ⟨c0, c1⟩]
            rfl
        obtain ⟨m, hm0, hres⟩ := hkeep
        have t2 : (((s[0].toNat : Int) != 111) && ((s[0].toNat : Int) != 112)) = false := by
          rcases c0 with h | h <;> (rw [h]; rfl)
        have t4 : ((s[0].toNat : Int) != 111) = false ∨ (((s[0].toNat : Int) != 111) = true ∧ ((s[0].toNat : Int) != 112) = false) := by
          rcases c0 with h | h
          · left; rw [h]; rfl
          · right; rw [h]; exact ⟨rfl, rfl⟩
        have HL2 : Hid ((s.data.toList.drop 2).length = 64) := by show _ = _; rw [List.length_drop, HLN.out, h66]
        have HM0 := Lib.hid hm0
        have HRS := Lib.hid hres
        have H66 := Lib.hid h66
        have hsz66 : (s.size : Int) ≤ 66 ∧ (66 : Int) ≤ (s.size : Int) := by omega
        obtain ⟨hsz1, hsz2⟩ := hsz66
        clear p0 p1 c1 c0 hres hm0 h66 hi0 t2
        rcases t4 with t4 | ⟨t4, t5⟩
        all_goals
          go_enter Try.func16, Try.ntmps16
          go_wp2
          rw [zeros_eq] at HZ0 H50 HB0 ⊢
          generalize World.alloc _ _ = w1 at *
          generalize hg5 : w.heap.size + 1 = g5 at *
          have HNE : Hid (g5 ≠ w.heap.size) := by show _ ≠ _; omega
          have HG5 : Hid (w.heap.size ≤ g5) := by show _ ≤ _; omega
          clear hg5
          go_loopw [6] (fun i wr => ∃ (k : Nat) (D : List UInt8), k ≤ 32 ∧ i = .int .i64 k ∧ D.length = k ∧ pairs ((s.data.toList.drop 2).take (2 * k)) = some D ∧ Blk wr w.heap.size 25 (zero32.map U).toArray ∧ Blk wr g5 25 ((zr D).map U).toArray ∧ Below w.heap.size w wr) (fun i _ => 32 - (intOf i).toNat)
          case atStart => exact ⟨0, [], by omega, rfl, rfl, by rw [Nat.mul_zero, List.take_zero]; unfold pairs; rfl, HZ0.out, H50.out, HB0.out⟩
          case round =>
            obtain ⟨k, D, hk, rfl, hDk, hpr, hz, h5, hb⟩ := hrel
            have HZ := Lib.hid hz
            have H5 := Lib.hid h5
            have HB := Lib.hid hb
            have HPR := Lib.hid hpr
            have HDK := Lib.hid hDk
            clear hz h5 hb hpr hDk
            by_cases hlt : k < 32
            · have hin : 2 * k + 1 < (s.data.toList.drop 2).length := by rw [HL2.out]; omega
              have h66 := H66.out
              have hx1 : 2 + 2 * k < s.size := by omega
              have hx2 : 3 + 2 * k < s.size := by omega
              have ex : (s.data.toList.drop 2)[2 * k] = s[2 + 2 * k] := by rw [drop8 s (2 * k) (by omega)]; simp only [Nat.add_comm]
              have ey : (s.data.toList.drop 2)[2 * k + 1] = s[3 + 2 * k] := by rw [drop8 s (2 * k + 1) (by omega)]; simp only [show 2 * k + 1 + 2 = 3 + 2 * k by omega]
              have hbad := pairs_bad _ D k hin HPR.out
              have hgood := pairs_on _ D k hin HPR.out
              rw [ex, ey] at hbad hgood
              have HBAD := Lib.hid hbad
              have HGOOD := Lib.hid hgood
              have wa : IntKind.i64.wrap (2 * (k : Int)) = 2 * (k : Int) := IntWalk.i64_in _ (by omega)
              have wb : IntKind.i64.wrap (2 + 2 * (k : Int)) = 2 + 2 * (k : Int) := IntWalk.i64_in _ (by omega)
              have wc : IntKind.i64.wrap (3 + 2 * (k : Int)) = 3 + 2 * (k : Int) := IntWalk.i64_in _ (by omega)
              have b1 : 2 + 2 * (k : Int) < (s.size : Int) := by omega
              have b2 : 3 + 2 * (k : Int) < (s.size : Int) := by omega
              have b3 : (0 : Int) ≤ 2 + 2 * (k : Int) := by omega
              have b4 : (0 : Int) ≤ 3 + 2 * (k : Int) := by omega
              have n1 : (2 + 2 * (k : Int)).toNat = 2 + 2 * k := by omega
              have n2 : (3 + 2 * (k : Int)).toNat = 3 + 2 * k := by omega
              have hk32 : (k : Int) < 32 := by omega
              clear h66 hin ex ey hbad hgood
              go_wp2
              go_quiet ((go_at_call 42; exact Calls.quiet_of_same (nib_walk _ _)))
              have HDK2 : Hid (D.length < 32) := by show _ < _; rw [HDK.out]; exact hlt
              by_cases ga : nibN s[2 + 2 * k] ≤ 15
              · by_cases gb : nibN s[3 + 2 * k] ≤ 15
                · have HG := Lib.hid (HGOOD.out ga gb)
                  have hby := byte_of _ _ ga gb
                  have hput := zr_put D (UInt8.ofNat (16 * nibN s[2 + 2 * k] + nibN s[3 + 2 * k])) HDK2.out
                  rw [← hby, HDK.out] at hput
                  have HPUT := Lib.hid hput
                  clear hby hput HGOOD HBAD
                  generalize nibN s[2 + 2 * k] = x at *
                  generalize nibN s[3 + 2 * k] = y at *
                  have i1 : ¬ ((15 : Int) < (x : Int)) := by omega
                  have i2 : ¬ ((15 : Int) < (y : Int)) := by omega
                  have j1 : decide ((15 : Int) < (x : Int)) = false := decide_eq_false i1
                  have j2 : decide ((15 : Int) < (y : Int)) = false := decide_eq_false i2
                  have v1 : IntKind.u8.wrap (16 * (x : Int)) = 16 * (x : Int) := by rw [IntKind.wrap_u8]; omega
                  have v2 : IntKind.u8.wrap (16 * (x : Int) + (y : Int)) = 16 * (x : Int) + (y : Int) := by rw [IntKind.wrap_u8]; omega
                  have q1 := H5.out.thaw
                  have q0 : ∃ v, wr.cell? ⟨g5, k, none⟩ = some v := by
                    rw [H5.out.cell]
                    exact ⟨_, Array.getElem?_eq_getElem (by simp [zr_len D (by rw [HDK.out]; omega)]; omega)⟩
                  obtain ⟨v0, q0⟩ := q0
                  go_wp2
                  refine ⟨⟨k + 1, D ++ [UInt8.ofNat (16 * x + y)], by omega, by go_num, by rw [List.length_append, HDK.out]; rfl, HG.out, (HZ.out.drewN _).off (fun e => HNE.out e.symm) _, ?_, Below.setCell (p := ⟨g5, k, none⟩) (below_drewN HB.out _) HG5.out _⟩, by simp [intOf]; omega⟩
                  have h := (H5.out.drewN nq).put k (.int .u8 (16 * (x : Int) + (y : Int)))
                  rw [HPUT.out] at h
                  exact h
                · have HRES : Hid (resN s.data.toList = (0, zero32, false)) := by
                    show _ = _
                    rw [HRS.out, HBAD.out (.inr (by omega))]
                  clear HGOOD HBAD
                  generalize nibN s[2 + 2 * k] = x at *
                  generalize nibN s[3 + 2 * k] = y at *
                  have i1 : ¬ ((15 : Int) < (x : Int)) := by omega
                  have i2 : (15 : Int) < (y : Int) := by omega
                  have j1 : decide ((15 : Int) < (x : Int)) = false := decide_eq_false i1
                  have j2 : decide ((15 : Int) < (y : Int)) = true := decide_eq_true i2
                  go_wp2_with (refine wpList_store_blk rfl 25 _ _ rfl w.heap.size _ rfl rfl 25 _ HZ.out (by kernel_rfl) rfl (by kernel_rfl) ?_; intro w2 hx2 hb2; have HX2 := Lib.hid hx2; have HB2 := Lib.hid hb2; clear hx2 hb2)
                  refine bodyPost_ret (results_three rfl _ w2 w.heap.size 25 (zero32.map U).toArray _ rfl HB2.out Try.underlying25 rfl (by kernel_rfl)) rfl ⟨by rw [HRES.out]; rfl, Ex.below (below_drewN HB.out _) HX2.out (Nat.le_refl _) (below_drewN HB.out nq).size⟩
              · have HRES : Hid (resN s.data.toList = (0, zero32, false)) := by
                  show _ = _
                  rw [HRS.out, HBAD.out (.inl (by omega))]
                clear HGOOD HBAD
                generalize nibN s[2 + 2 * k] = x at *
                generalize nibN s[3 + 2 * k] = y at *
                have i1 : (15 : Int) < (x : Int) := by omega
                have j1 : decide ((15 : Int) < (x : Int)) = true := decide_eq_true i1
                go_wp2_with (refine wpList_store_blk rfl 25 _ _ rfl w.heap.size _ rfl rfl 25 _ HZ.out (by kernel_rfl) rfl (by kernel_rfl) ?_; intro w2 hx2 hb2; have HX2 := Lib.hid hx2; have HB2 := Lib.hid hb2; clear hx2 hb2)
                refine bodyPost_ret (results_three rfl _ w2 w.heap.size 25 (zero32.map U).toArray _ rfl HB2.out Try.underlying25 rfl (by kernel_rfl)) rfl ⟨by rw [HRES.out]; rfl, Ex.below (below_drewN HB.out _) HX2.out (Nat.le_refl _) (below_drewN HB.out nq).size⟩
            · obtain rfl : k = 32 := by omega
              have hD32 := HDK.out
              have hfull := zr_full D hD32
              have hpr := HPR.out
              rw [show 2 * 32 = (s.data.toList.drop 2).length by rw [HL2.out], List.take_length] at hpr
              have HRES : Hid (resN s.data.toList = (s[0], D, true)) := by
                show _ = _
                rw [HRS.out, hpr, HM0.out]
              have H5' := H5
              rw [hfull] at H5'
              clear H5
              have H5 := H5'
              clear H5'
              have HI := Lib.hid (b_size D hD32)
              have HSZ : Hid ((zero32.map U).toArray.size = (D.map U).toArray.size) := by show _ = _; simp [zero32, hD32]
              have HIX : Hid (∀ w, (Instr.index 9 (.string s) (.int .i64 0)).run Try.prog w = .ok (.int .u8 (s[0].toNat : Int)) w) := by
                show ∀ w, _
                intro w
                go_simp
              clear hD32 hfull hpr
              simp only [Int.cast_ofNat_Int]
              go_wp2
              refine Seq.wp_region_seq (by kernel_rfl) (R := Ex w.heap.size) (Ex.refl _) (fun _ _ _ => Ex.trans) (StP w.heap.size (D)) [4] [[0], [57], [5], [58], [3, 59], []] [(57, spX (.string s)), (58, spX (.int .u8 (s[0].toNat : Int))), (59, spX (.agg (D.map U).toArray)), (2, spX (.int .u8 (s[0].toNat : Int))), (4, spX (.bool true))] 60 rfl (by kernel_rfl) (by kernel_rfl) (by kernel_rfl) (by kernel_rfl) HZ.out ?_ ?_
              · refine ⟨?_, ?_, ?_, ?_, ?_, ?_, trivial⟩
                · refine Seq.UpOb.plain (by decide) StP_keep (fun _ _ h => Ex.of_below h) rfl fun a W m hR _ hl K hK => ?_
                  have h0 : a.tmps.getD 0 undef = (.string s) := hl 0 (by decide)
                  replace hK : ∀ v W2, Below W.heap.size W W2 → v = (.string s) → K (a.put (some 57) v) W2 := fun v W2 h1 h2 => hK v W2 h1 (fun d hd => by cases hd; exact h2)
                  clear hl
                  simp only [Array.getD_eq_getD_getElem?] at h0
                  go_simp
                  exact hK _ W (Below.refl _ W) rfl
                · refine Seq.UpOb.plain (by decide) StP_keep (fun _ _ h => Ex.of_below h) rfl fun a W m hR _ hl K hK => ?_
                  have h57 : a.tmps.getD 57 undef = (.string s) := hl 57 (by decide)
                  replace hK : ∀ v W2, Below W.heap.size W W2 → v = (.int .u8 (s[0].toNat : Int)) → K (a.put (some 58) v) W2 := fun v W2 h1 h2 => hK v W2 h1 (fun d hd => by cases hd; exact h2)
                  clear hl
                  exact wp_ixS (.tmp 57) rfl _ _ h57 HIX.out (hK _ W (Below.refl _ W) rfl)
                · refine Seq.UpOb.plain (by decide) StP_keep (fun _ _ h => Ex.of_below h) rfl fun a W m hR _ hl K hK => ?_
                  have h5 : a.tmps.getD 5 undef = (.pointer (some ⟨g5, 0, none⟩)) := hl 5 (by decide)
                  replace hK : ∀ v W2, Below W.heap.size W W2 → v = (.agg (D.map U).toArray) → K (a.put (some 59) v) W2 := fun v W2 h1 h2 => hK v W2 h1 (fun d hd => by cases hd; exact h2)
                  clear hl
                  exact wp_load_row 25 (.tmp 5) rfl g5 h5 25 _ (0, 0) _ (hR.blk H5.out HNE.out) Try.underlying25 rfl HI.out (hK _ W (Below.refl _ W) rfl)
                · refine Seq.UpOb.plain (by decide) StP_keep (fun _ _ h => Ex.of_below h) rfl fun a W m hR _ hl K hK => ?_
                  have h58 : a.tmps.getD 58 undef = (.int .u8 (s[0].toNat : Int)) := hl 58 (by decide)
                  replace hK : ∀ v W2, Below W.heap.size W W2 → v = (.int .u8 (s[0].toNat : Int)) → K (a.put (some 2) v) W2 := fun v W2 h1 h2 => hK v W2 h1 (fun d hd => by cases hd; exact h2)
                  clear hl
                  simp only [Array.getD_eq_getD_getElem?] at h58
                  go_simp
                  exact hK _ W (Below.refl _ W) rfl
                · refine Seq.UpOb.turns 0 rfl rfl fun a W hl hR hS K hK => ?_
                  have h3 : a.tmps.getD 3 undef = (.pointer (some ⟨w.heap.size, 0, none⟩)) := hl 3 (by decide)
                  have h59 : a.tmps.getD 59 undef = (.agg (D.map U).toArray) := hl 59 (by decide)
                  exact wp_store_row 25 (.tmp 3) (.tmp 59) rfl w.heap.size _ h3 h59 25 _ hS HI.out HSZ.out (SAll _) (hK _ _ (Ex.setRow _ W _) (fun d hd => by cases hd) (Blk.setRow hS _))
                · refine Seq.UpOb.plain (by decide) StP_keep (fun _ _ h => Ex.of_below h) rfl fun a W m hR _ hl K hK => ?_
                  replace hK : ∀ v W2, Below W.heap.size W W2 → v = (.bool true) → K (a.put (some 4) v) W2 := fun v W2 h1 h2 => hK v W2 h1 (fun d hd => by cases hd; exact h2)
                  clear hl
                  go_simp
                  exact hK _ W (Below.refl _ W) rfl
              · intro a W hd hsz hR hl hS
                have h2 : a.tmps.getD 2 undef = .int .u8 (s[0].toNat : Int) := hl 2
                have h4 : a.tmps.getD 4 undef = .bool true := hl 4
                have h3 : a.tmps.getD 3 undef = .pointer (some ⟨w.heap.size, 0, none⟩) := hl 3
                have hS1 : Blk W w.heap.size 25 ((D).map U).toArray := hS
                have hbW : Below w.heap.size w W := Ex.below HB.out (show Ex w.heap.size wr W from ⟨hR.os, hR.tape, hR.output, hR.size, fun k hk hne => hR.block k hk hne⟩) (Nat.le_refl _) HB.out.size
                clear hl hsz hR hS
                go_wp2
                refine bodyPost_ret (results_three rfl _ W w.heap.size 25 _ _ h3 hS1 Try.underlying25 rfl HI.out) hd ⟨?_, hbW⟩
                rw [HRES.out, h2, h4]
                rfl
      · have n0 : s[0] ≠ 111 := fun e => c0 (.inl e)
        have n1 : s[0] ≠ 112 := fun e => c0 (.inr e)
        have t2 : ((s[0].toNat : Int) != 111) = true := neT8 (y := 111) n0
        have t3 : ((s[0].toNat : Int) != 112) = true := neT8 (y := 112) n1
        have HRES : Hid (resN s.data.toList = (0, zero32, false)) := resN_no (by rw [p0, if_neg (fun h => n0 h.1)]) (by rw [p1, if_neg (fun h => n1 h.1)])
        have HI := Lib.hid (b_size zero32 zero_len)
        clear p0 p1 c1 c0 n0 n1 h66 hi0
        go_enter Try.func16, Try.ntmps16
        go_wp2
        rw [zeros_eq] at HZ0 H50 HB0 ⊢
        generalize World.alloc _ _ = w1 at *
        generalize hg5 : w.heap.size + 1 = g5 at *
        have HZ := HZ0
        have H5 := H50
        have HB := HB0
        have HNE : Hid (g5 ≠ w.heap.size) := by show _ ≠ _; omega
        clear hg5
        refine Seq.wp_region_seq (by kernel_rfl) (R := Ex w.heap.size) (Ex.refl _) (fun _ _ _ => Ex.trans) (StP w.heap.size (zero32)) [2] [[5], [], [3, 27], []] [(27, spX (.agg (zero32.map U).toArray)), (2, spX (.int .u8 0)), (4, spX (.bool false))] 60 rfl (by kernel_rfl) (by kernel_rfl) (by kernel_rfl) (by kernel_rfl) HZ.out ?_ ?_
        · refine ⟨?_, ?_, ?_, ?_, trivial⟩
          · refine Seq.UpOb.plain (by decide) StP_keep (fun _ _ h => Ex.of_below h) rfl fun a W m hR _ hl K hK => ?_
            have h5 : a.tmps.getD 5 undef = (.pointer (some ⟨g5, 0, none⟩)) := hl 5 (by decide)
            replace hK : ∀ v W2, Below W.heap.size W W2 → v = (.agg (zero32.map U).toArray) → K (a.put (some 27) v) W2 := fun v W2 h1 h2 => hK v W2 h1 (fun d hd => by cases hd; exact h2)
            clear hl
            exact wp_load_row 25 (.tmp 5) rfl g5 h5 25 _ (0, 0) _ (hR.blk H5.out HNE.out) Try.underlying25 rfl HI.out (hK _ W (Below.refl _ W) rfl)
          · refine Seq.UpOb.plain (by decide) StP_keep (fun _ _ h => Ex.of_below h) rfl fun a W m hR _ hl K hK => ?_
            replace hK : ∀ v W2, Below W.heap.size W W2 → v = (.int .u8 0) → K (a.put (some 2) v) W2 := fun v W2 h1 h2 => hK v W2 h1 (fun d hd => by cases hd; exact h2)
            clear hl
            go_simp
            exact hK _ W (Below.refl _ W) rfl
          · refine Seq.UpOb.turns 0 rfl rfl fun a W hl hR hS K hK => ?_
            have h3 : a.tmps.getD 3 undef = (.pointer (some ⟨w.heap.size, 0, none⟩)) := hl 3 (by decide)
            have h27 : a.tmps.getD 27 undef = (.agg (zero32.map U).toArray) := hl 27 (by decide)
            exact wp_store_row 25 (.tmp 3) (.tmp 27) rfl w.heap.size _ h3 h27 25 _ hS HI.out rfl (SAll _) (hK _ _ (Ex.setRow _ W _) (fun d hd => by cases hd) (Blk.setRow hS _))
          · refine Seq.UpOb.plain (by decide) StP_keep (fun _ _ h => Ex.of_below h) rfl fun a W m hR _ hl K hK => ?_
            replace hK : ∀ v W2, Below W.heap.size W W2 → v = (.bool false) → K (a.put (some 4) v) W2 := fun v W2 h1 h2 => hK v W2 h1 (fun d hd => by cases hd; exact h2)
            clear hl
            go_simp
            exact hK _ W (Below.refl _ W) rfl
        · intro a W hd hsz hR hl hS
          have h2 : a.tmps.getD 2 undef = .int .u8 0 := hl 2
          have h4 : a.tmps.getD 4 undef = .bool false := hl 4
          have h3 : a.tmps.getD 3 undef = .pointer (some ⟨w.heap.size, 0, none⟩) := hl 3
          have hS1 : Blk W w.heap.size 25 ((zero32).map U).toArray := hS
          have hbW : Below w.heap.size w W := Ex.below HB.out (show Ex w.heap.size w1 W from ⟨hR.os, hR.tape, hR.output, hR.size, fun k hk hne => hR.block k hk hne⟩) (Nat.le_refl _) HB.out.size
          clear hl hsz hR hS
          go_wp2
          refine bodyPost_ret (results_three rfl _ W w.heap.size 25 _ _ h3 hS1 Try.underlying25 rfl HI.out) hd ⟨?_, hbW⟩
          rw [HRES.out, h2, h4]
          rfl
    · have t1 : ((s[1].toNat : Int) != 46) = true := neT8 (y := 46) c1
      have HRES : Hid (resN s.data.toList = (0, zero32, false)) := resN_no (by rw [p0, if_neg (fun h => c1 h.2)]) (by rw [p1, if_neg (fun h => c1 h.2)])
      have HI := Lib.hid (b_size zero32 zero_len)
      clear p0 p1 c1 h66 hi0
      go_enter Try.func16, Try.ntmps16
      go_wp2
      rw [zeros_eq] at HZ0 H50 HB0 ⊢
      generalize World.alloc _ _ = w1 at *
      generalize hg5 : w.heap.size + 1 = g5 at *
      have HZ := HZ0
      have H5 := H50
      have HB := HB0
      have HNE : Hid (g5 ≠ w.heap.size) := by show _ ≠ _; omega
      clear hg5
      refine Seq.wp_region_seq (by kernel_rfl) (R := Ex w.heap.size) (Ex.refl _) (fun _ _ _ => Ex.trans) (StP w.heap.size (zero32)) [2] [[5], [], [3, 27], []] [(27, spX (.agg (zero32.map U).toArray)), (2, spX (.int .u8 0)), (4, spX (.bool false))] 60 rfl (by kernel_rfl) (by kernel_rfl) (by kernel_rfl) (by kernel_rfl) HZ.out ?_ ?_
      · refine ⟨?_, ?_, ?_, ?_, trivial⟩
        · refine Seq.UpOb.plain (by decide) StP_keep (fun _ _ h => Ex.of_below h) rfl fun a W m hR _ hl K hK => ?_
          have h5 : a.tmps.getD 5 undef = (.pointer (some ⟨g5, 0, none⟩)) := hl 5 (by decide)
          replace hK : ∀ v W2, Below W.heap.size W W2 → v = (.agg (zero32.map U).toArray) → K (a.put (some 27) v) W2 := fun v W2 h1 h2 => hK v W2 h1 (fun d hd => by cases hd; exact h2)
          clear hl
          exact wp_load_row 25 (.tmp 5) rfl g5 h5 25 _ (0, 0) _ (hR.blk H5.out HNE.out) Try.underlying25 rfl HI.out (hK _ W (Below.refl _ W) rfl)
        · refine Seq.UpOb.plain (by decide) StP_keep (fun _ _ h => Ex.of_below h) rfl fun a W m hR _ hl K hK => ?_
          replace hK : ∀ v W2, Below W.heap.size W W2 → v = (.int .u8 0) → K (a.put (some 2) v) W2 := fun v W2 h1 h2 => hK v W2 h1 (fun d hd => by cases hd; exact h2)
          clear hl
          go_simp
          exact hK _ W (Below.refl _ W) rfl
        · refine Seq.UpOb.turns 0 rfl rfl fun a W hl hR hS K hK => ?_
          have h3 : a.tmps.getD 3 undef = (.pointer (some ⟨w.heap.size, 0, none⟩)) := hl 3 (by decide)
          have h27 : a.tmps.getD 27 undef = (.agg (zero32.map U).toArray) := hl 27 (by decide)
          exact wp_store_row 25 (.tmp 3) (.tmp 27) rfl w.heap.size _ h3 h27 25 _ hS HI.out rfl (SAll _) (hK _ _ (Ex.setRow _ W _) (fun d hd => by cases hd) (Blk.setRow hS _))
        · refine Seq.UpOb.plain (by decide) StP_keep (fun _ _ h => Ex.of_below h) rfl fun a W m hR _ hl K hK => ?_
          replace hK : ∀ v W2, Below W.heap.size W W2 → v = (.bool false) → K (a.put (some 4) v) W2 := fun v W2 h1 h2 => hK v W2 h1 (fun d hd => by cases hd; exact h2)
          clear hl
          go_simp
          exact hK _ W (Below.refl _ W) rfl
      · intro a W hd hsz hR hl hS
        have h2 : a.tmps.getD 2 undef = .int .u8 0 := hl 2
        have h4 : a.tmps.getD 4 undef = .bool false := hl 4
        have h3 : a.tmps.getD 3 undef = .pointer (some ⟨w.heap.size, 0, none⟩) := hl 3
        have hS1 : Blk W w.heap.size 25 ((zero32).map U).toArray := hS
        have hbW : Below w.heap.size w W := Ex.below HB.out (show Ex w.heap.size w1 W from ⟨hR.os, hR.tape, hR.output, hR.size, fun k hk hne => hR.block k hk hne⟩) (Nat.le_refl _) HB.out.size
        clear hl hsz hR hS
        go_wp2
        refine bodyPost_ret (results_three rfl _ W w.heap.size 25 _ _ h3 hS1 Try.underlying25 rfl HI.out) hd ⟨?_, hbW⟩
        rw [HRES.out, h2, h4]
        rfl
  · have t0 : ((s.size : Int) != 66) = true := by simp; omega
    have HRES : Hid (resN s.data.toList = (0, zero32, false)) := resN_no (parseN_len 111 _ (by rw [HLN.out]; exact h66)) (parseN_len 112 _ (by rw [HLN.out]; exact h66))
    have HI := Lib.hid (b_size zero32 zero_len)
    clear h66
    go_enter Try.func16, Try.ntmps16
    go_wp2
    rw [zeros_eq] at HZ0 H50 HB0 ⊢
    generalize World.alloc _ _ = w1 at *
    generalize hg5 : w.heap.size + 1 = g5 at *
    have HZ := HZ0
    have H5 := H50
    have HB := HB0
    have HNE : Hid (g5 ≠ w.heap.size) := by show _ ≠ _; omega
    clear hg5
    refine Seq.wp_region_seq (by kernel_rfl) (R := Ex w.heap.size) (Ex.refl _) (fun _ _ _ => Ex.trans) (StP w.heap.size (zero32)) [2] [[5], [], [3, 27], []] [(27, spX (.agg (zero32.map U).toArray)), (2, spX (.int .u8 0)), (4, spX (.bool false))] 60 rfl (by kernel_rfl) (by kernel_rfl) (by kernel_rfl) (by kernel_rfl) HZ.out ?_ ?_
    · refine ⟨?_, ?_, ?_, ?_, trivial⟩
      · refine Seq.UpOb.plain (by decide) StP_keep (fun _ _ h => Ex.of_below h) rfl fun a W m hR _ hl K hK => ?_
        have h5 : a.tmps.getD 5 undef = (.pointer (some ⟨g5, 0, none⟩)) := hl 5 (by decide)
        replace hK : ∀ v W2, Below W.heap.size W W2 → v = (.agg (zero32.map U).toArray) → K (a.put (some 27) v) W2 := fun v W2 h1 h2 => hK v W2 h1 (fun d hd => by cases hd; exact h2)
        clear hl
        exact wp_load_row 25 (.tmp 5) rfl g5 h5 25 _ (0, 0) _ (hR.blk H5.out HNE.out) Try.underlying25 rfl HI.out (hK _ W (Below.refl _ W) rfl)
      · refine Seq.UpOb.plain (by decide) StP_keep (fun _ _ h => Ex.of_below h) rfl fun a W m hR _ hl K hK => ?_
        replace hK : ∀ v W2, Below W.heap.size W W2 → v = (.int .u8 0) → K (a.put (some 2) v) W2 := fun v W2 h1 h2 => hK v W2 h1 (fun d hd => by cases hd; exact h2)
        clear hl
        go_simp
        exact hK _ W (Below.refl _ W) rfl
      · refine Seq.UpOb.turns 0 rfl rfl fun a W hl hR hS K hK => ?_
        have h3 : a.tmps.getD 3 undef = (.pointer (some ⟨w.heap.size, 0, none⟩)) := hl 3 (by decide)
        have h27 : a.tmps.getD 27 undef = (.agg (zero32.map U).toArray) := hl 27 (by decide)
        exact wp_store_row 25 (.tmp 3) (.tmp 27) rfl w.heap.size _ h3 h27 25 _ hS HI.out rfl (SAll _) (hK _ _ (Ex.setRow _ W _) (fun d hd => by cases hd) (Blk.setRow hS _))
      · refine Seq.UpOb.plain (by decide) StP_keep (fun _ _ h => Ex.of_below h) rfl fun a W m hR _ hl K hK => ?_
        replace hK : ∀ v W2, Below W.heap.size W W2 → v = (.bool false) → K (a.put (some 4) v) W2 := fun v W2 h1 h2 => hK v W2 h1 (fun d hd => by cases hd; exact h2)
        clear hl
        go_simp
        exact hK _ W (Below.refl _ W) rfl
    · intro a W hd hsz hR hl hS
      have h2 : a.tmps.getD 2 undef = .int .u8 0 := hl 2
      have h4 : a.tmps.getD 4 undef = .bool false := hl 4
      have h3 : a.tmps.getD 3 undef = .pointer (some ⟨w.heap.size, 0, none⟩) := hl 3
      have hS1 : Blk W w.heap.size 25 ((zero32).map U).toArray := hS
      have hbW : Below w.heap.size w W := Ex.below HB.out (show Ex w.heap.size w1 W from ⟨hR.os, hR.tape, hR.output, hR.size, fun k hk hne => hR.block k hk hne⟩) (Nat.le_refl _) HB.out.size
      clear hl hsz hR hS
      go_wp2
      refine bodyPost_ret (results_three rfl _ W w.heap.size 25 _ _ h3 hS1 Try.underlying25 rfl HI.out) hd ⟨?_, hbW⟩
      rw [HRES.out, h2, h4]
      rfl
end Go.Proofs.Ytekhnacgejfmjaa
