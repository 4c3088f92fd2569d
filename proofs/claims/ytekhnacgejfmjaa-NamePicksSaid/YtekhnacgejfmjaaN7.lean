/- Files of two digests stand in their order: the law's walk. -/
import Derived.Test.YtekhnacgejfmjaaN6
namespace Go.Proofs.Ytekhnacgejfmjaa
open Go.RowKit

def UpN (W W' : World) : Prop := Below W.heap.size W W'
theorem UpN.refl (W : World) : UpN W W := Below.refl _ W
theorem UpN.trans (a b c : World) (h : UpN a b) (k : UpN b c) : UpN a c := Below.trans h (Below.mono k h.size)
def spU (x : Value) : Seq.Sp UpN := ⟨fun v _ => v = x, fun _ _ _ h _ => h⟩
theorem neT8 {x y : UInt8} (h : ¬ x = y) : ((x.toNat : Int) != (y.toNat : Int)) = true := by
  have : x.toNat ≠ y.toNat := fun e => h (UInt8.toNat_inj.1 e)
  simp; omega
theorem neF8 {x y : UInt8} (h : x = y) : ((x.toNat : Int) != (y.toNat : Int)) = false := by subst h; simp
theorem take_on {l m : List UInt8} {k : Nat} (h : l.take k = m.take k) (hl : k < l.length) (hm : k < m.length) (e : l[k] = m[k]) : l.take (k + 1) = m.take (k + 1) := by
  rw [List.take_succ_eq_append_getElem hl, List.take_succ_eq_append_getElem hm, h, e]
attribute [local irreducible] bstr nmT hexOf lt32
set_option maxRecDepth 100000 in
set_option maxHeartbeats 8000000 in
theorem orders_walk (w : World) (la lb : List UInt8) (ha : la.length = 32) (hb : lb.length = 32) :
    Calls Try.prog 6 #[.agg (la.map U).toArray, .agg (lb.map U).toArray] w fun e w' => e = .returned (.bool true) ∧ Below w.heap.size w w' := by
  have HLA := Lib.hid ha
  have HLB := Lib.hid hb
  have HLL : Hid (la.length = lb.length) := by show _ = _; omega
  have HIA := Lib.hid (b_size la ha)
  have HIB := Lib.hid (b_size lb hb)
  have HNO : Hid (∀ W, Calls Try.prog 11 #[.string (bstr (nmT 111 la))] W fun e w' => e = .returned (.bool false) ∧ Below W.heap.size W w') := fun W => by
    have h := ref_walk (bstr (nmT 111 la)) W (by rw [bstr_size, nmT_length 111 la ha]; decide)
    have e : (bstr (nmT 111 la)).data.toList = nmT 111 la := by unfold bstr; simp
    rw [e, nm_no la ha 111] at h
    exact h
  have B0 : Hid (Blk ((w.alloc (.cells (la.map U).toArray 25)).alloc (.cells (lb.map U).toArray 25)) w.heap.size 25 (la.map U).toArray) := (Blk.fresh w 25 _).more _
  have B1 : Hid (Blk ((w.alloc (.cells (la.map U).toArray 25)).alloc (.cells (lb.map U).toArray 25)) (w.heap.size + 1) 25 (lb.map U).toArray) := Blk.fresh_at (by simp) _ _
  have HB0 : Hid (Below w.heap.size w ((w.alloc (.cells (la.map U).toArray 25)).alloc (.cells (lb.map U).toArray 25))) := ((Below.refl _ w).alloc (Nat.le_refl _) _).alloc (by simp) _
  clear ha hb
  go_enter Try.func6, Try.ntmps6
  go_wp2_with fail
  generalize World.alloc _ _ = w0 at *
  generalize hgb : w.heap.size + 1 = gb at *
  generalize hga : w.heap.size = ga at *
  have HGA := Lib.hid hga
  clear hgb hga
  go_wp2_with (go_at_call 10; refine (awake7_walk w0).mono ?_; rintro e w1 ⟨rfl, hb1⟩; have HB1 := Lib.hid (HB0.out.trans (Below.mono hb1 (by rw [← HGA.out]; exact HB0.out.size))); have BA : Hid (∀ W, Below w1.heap.size w1 W → Blk W ga 25 (la.map U).toArray) := (fun W hW => (B0.out.kept hb1 B0.out.lt).kept hW (Nat.lt_of_lt_of_le B0.out.lt hb1.size)); have BB : Hid (∀ W, Below w1.heap.size w1 W → Blk W gb 25 (lb.map U).toArray) := (fun W hW => (B1.out.kept hb1 B1.out.lt).kept hW (Nat.lt_of_lt_of_le B1.out.lt hb1.size)); clear hb1)
  refine Seq.wp_region_seq (by kernel_rfl) (R := UpN) UpN.refl UpN.trans (fun _ _ => True) [] [[2], [11], [3], [13], [12], [14]] [(11, spU (.agg (la.map U).toArray)), (12, spU (.string (bstr (nmT 111 la)))), (13, spU (.agg (lb.map U).toArray)), (14, spU (.string (bstr (nmT 111 lb)))), (5, spU (.string (bstr (nmT 111 la)))), (6, spU (.string (bstr (nmT 111 lb))))] 67 rfl (by kernel_rfl) (by kernel_rfl) (by kernel_rfl) (by kernel_rfl) trivial ?_ ?_
  · refine ⟨?_, ?_, ?_, ?_, ?_, ?_, trivial⟩
    · as_aux_lemma =>
      refine Seq.UpOb.plain (by decide) (fun _ _ _ h _ => h) (fun _ _ h => h) rfl fun a W m hR _ hl K hK => ?_
      have h2 : a.tmps.getD 2 undef = (.pointer (some ⟨ga, 0, none⟩)) := hl 2 (by decide)
      replace hK : ∀ v W2, Below W.heap.size W W2 → v = (.agg (la.map U).toArray) → K (a.put (some 11) v) W2 := fun v W2 h1 h2 => hK v W2 h1 (fun d hd => by cases hd; exact h2)
      clear hl
      exact wp_load_row 25 (.tmp 2) rfl ga h2 25 _ (0, 0) _ (BA.out W ⟨hR.os, hR.tape, hR.output, hR.size, fun k hk => hR.block k hk⟩) Try.underlying25 rfl HIA.out (hK _ W (Below.refl _ W) rfl)
    · as_aux_lemma =>
      refine Seq.UpOb.plain (by decide) (fun _ _ _ h _ => h) (fun _ _ h => h) rfl fun a W m hR _ hl K hK => ?_
      have h11 : a.tmps.getD 11 undef = (.agg (la.map U).toArray) := hl 11 (by decide)
      replace hK : ∀ v W2, Below W.heap.size W W2 → v = (.string (bstr (nmT 111 la))) → K (a.put (some 12) v) W2 := fun v W2 h1 h2 => hK v W2 h1 (fun d hd => by cases hd; exact h2)
      clear hl
      simp only [Array.getD_eq_getD_getElem?] at h11
      go_simp
      refine (object_walk W la HLA.out).mono ?_
      rintro e w4 ⟨rfl, hb4⟩
      exact hK _ w4 hb4 rfl
    · as_aux_lemma =>
      refine Seq.UpOb.plain (by decide) (fun _ _ _ h _ => h) (fun _ _ h => h) rfl fun a W m hR _ hl K hK => ?_
      have h3 : a.tmps.getD 3 undef = (.pointer (some ⟨gb, 0, none⟩)) := hl 3 (by decide)
      replace hK : ∀ v W2, Below W.heap.size W W2 → v = (.agg (lb.map U).toArray) → K (a.put (some 13) v) W2 := fun v W2 h1 h2 => hK v W2 h1 (fun d hd => by cases hd; exact h2)
      clear hl
      exact wp_load_row 25 (.tmp 3) rfl gb h3 25 _ (0, 0) _ (BB.out W ⟨hR.os, hR.tape, hR.output, hR.size, fun k hk => hR.block k hk⟩) Try.underlying25 rfl HIB.out (hK _ W (Below.refl _ W) rfl)
    · as_aux_lemma =>
      refine Seq.UpOb.plain (by decide) (fun _ _ _ h _ => h) (fun _ _ h => h) rfl fun a W m hR _ hl K hK => ?_
      have h13 : a.tmps.getD 13 undef = (.agg (lb.map U).toArray) := hl 13 (by decide)
      replace hK : ∀ v W2, Below W.heap.size W W2 → v = (.string (bstr (nmT 111 lb))) → K (a.put (some 14) v) W2 := fun v W2 h1 h2 => hK v W2 h1 (fun d hd => by cases hd; exact h2)
      clear hl
      simp only [Array.getD_eq_getD_getElem?] at h13
      go_simp
      refine (object_walk W lb HLB.out).mono ?_
      rintro e w4 ⟨rfl, hb4⟩
      exact hK _ w4 hb4 rfl
    · as_aux_lemma =>
      refine Seq.UpOb.plain (by decide) (fun _ _ _ h _ => h) (fun _ _ h => h) rfl fun a W m hR _ hl K hK => ?_
      have h12 : a.tmps.getD 12 undef = (.string (bstr (nmT 111 la))) := hl 12 (by decide)
      replace hK : ∀ v W2, Below W.heap.size W W2 → v = (.string (bstr (nmT 111 la))) → K (a.put (some 5) v) W2 := fun v W2 h1 h2 => hK v W2 h1 (fun d hd => by cases hd; exact h2)
      clear hl
      simp only [Array.getD_eq_getD_getElem?] at h12
      go_simp
      exact hK _ W (Below.refl _ W) rfl
    · as_aux_lemma =>
      refine Seq.UpOb.plain (by decide) (fun _ _ _ h _ => h) (fun _ _ h => h) rfl fun a W m hR _ hl K hK => ?_
      have h14 : a.tmps.getD 14 undef = (.string (bstr (nmT 111 lb))) := hl 14 (by decide)
      replace hK : ∀ v W2, Below W.heap.size W W2 → v = (.string (bstr (nmT 111 lb))) → K (a.put (some 6) v) W2 := fun v W2 h1 h2 => hK v W2 h1 (fun d hd => by cases hd; exact h2)
      clear hl
      simp only [Array.getD_eq_getD_getElem?] at h14
      go_simp
      exact hK _ W (Below.refl _ W) rfl
  · intro a W hd hsz hR hl _
    have hl' : ∀ t, Seq.SpOf _ _ t (a.tmps.getD t undef) W := hl
    have htm := Seq.tmps_eq (hsz.trans rfl) [11, 12, 13, 14, 5, 6] [(11, .agg (la.map U).toArray), (12, .string (bstr (nmT 111 la))), (13, .agg (lb.map U).toArray), (14, .string (bstr (nmT 111 lb))), (5, .string (bstr (nmT 111 la))), (6, .string (bstr (nmT 111 lb)))] rfl rfl (by decide) 67 rfl (by decide) hl' (by
      intro p hp
      simp only [List.mem_cons, List.not_mem_nil, or_false] at hp
      rcases hp with rfl | rfl | rfl | rfl | rfl | rfl
      · exact hl 11
      · exact hl 12
      · exact hl 13
      · exact hl 14
      · exact hl 5
      · exact hl 6
      )
    clear hl hl' hsz
    have hact : a = ⟨_, []⟩ := Seq.act_eq hd htm
    clear htm hd
    rw [hact]
    clear hact
    simp only [List.foldl, List.setIfInBounds_toArray, List.set]
    have hW : Below w1.heap.size w1 W := ⟨hR.os, hR.tape, hR.output, hR.size, fun k hk => hR.block k hk⟩
    have HB3 := Lib.hid (HB1.out.trans (Below.mono hW (by have := HB1.out.size; rw [HGA.out] at this; exact this)))
    have BA3 : Hid (∀ W2, Below W.heap.size W W2 → Blk W2 ga 25 (la.map U).toArray) := fun W2 h2 => BA.out W2 (hW.trans (Below.mono h2 hW.size))
    have BB3 : Hid (∀ W2, Below W.heap.size W W2 → Blk W2 gb 25 (lb.map U).toArray) := fun W2 h2 => BB.out W2 (hW.trans (Below.mono h2 hW.size))
    have HGW : Hid (ga ≤ W.heap.size) := by show _ ≤ _; have := HB3.out.size; rw [HGA.out] at this; exact this
    clear hR hW BA BB HB1 B0 B1 HB0
    have BA := BA3
    have BB := BB3
    clear BA3 BB3
    go_wp2
    go_loopw [7, 15] (fun v i wr => ∃ k n : Nat, k ≤ 32 ∧ v = .bool false ∧ i = .int .i64 k ∧ la.take k = lb.take k ∧ wr = W.drewN n) (fun _ i _ => 32 - (intOf i).toNat)
    case atStart => exact ⟨0, 0, by omega, rfl, rfl, rfl, rfl⟩
    case round =>
      obtain ⟨k, n, hk, rfl, rfl, heq, rfl⟩ := hrel
      have HEQ := Lib.hid heq
      clear heq
      by_cases hlt : k < 32
      · have hka : k < la.length := by rw [HLA.out]; exact hlt
        have hkb : k < lb.length := by rw [HLB.out]; exact hlt
        have ca : W.cell? ⟨ga, k, none⟩ = some (.int .u8 (la[k].toNat : Int)) := by rw [(BA.out W (Below.refl _ _)).cell k]; simp [hka]; rfl
        have cb : W.cell? ⟨gb, k, none⟩ = some (.int .u8 (lb[k].toNat : Int)) := by rw [(BB.out W (Below.refl _ _)).cell k]; simp [hkb]; rfl
        have hk32 : (k : Int) < 32 := by omega
        by_cases hxy : la[k] = lb[k]
        · have HS := Lib.hid (take_on HEQ.out hka hkb hxy)
          have ht := neF8 hxy
          clear hxy
          generalize la[k] = x at *
          generalize lb[k] = y at *
          go_wp2
          go_quiet (fail)
          go_wp2
          go_roundw
          case rel => exact ⟨k + 1, _, by omega, rfl, by go_num, HS.out, rfl⟩
          case measure => simp [intOf]; omega
        · have hlt32 := lt_at la lb k hka hkb HEQ.out hxy
          have ht := neT8 hxy
          have hlt33 : lt32 la lb = decide (la[k].toNat < lb[k].toNat) := by rw [hlt32]; simp
          have HQ := Lib.hid hlt33
          clear hxy hlt32 hlt33
          generalize la[k] = x at *
          generalize lb[k] = y at *
          go_wp2
          go_quiet (fail)
          go_wp2
          go_quiet (fail)
          go_wp2
          rw [← HQ.out]
          refine Seq.wp_region_seq (by kernel_rfl) (R := UpN) UpN.refl UpN.trans (fun _ _ => True) [] [[5], [6], [33, 34], [7], [35, 36], [37], [5, 38], [6, 38], [39, 40, 38], [2, 38], [3, 38], [42, 43, 38], [41, 44, 38], [38, 45], [46], [2, 47], [48, 47], [3, 47], [50, 47], [49, 51, 47], [7, 47], [52, 53, 47], [47, 54], [55], [5, 56], [3, 56], [58, 56], [57, 59, 56], [56, 60], [61], [5, 62], [63, 62], [64, 62], [62, 65], [66]] [(33, spU (.string (bstr (nmT 111 la)))), (34, spU (.string (bstr (nmT 111 lb)))), (35, spU (.bool (lt32 la lb))), (36, spU (.bool (lt32 la lb))), (37, spU (.bool true)), (38, spU (.bool true)), (39, spU (.string (bstr (nmT 111 la)))), (40, spU (.string (bstr (nmT 111 lb)))), (41, spU (.bool (la == lb))), (42, spU (.agg (la.map U).toArray)), (43, spU (.agg (lb.map U).toArray)), (44, spU (.bool (la == lb))), (45, spU (.bool true)), (46, spU (.bool true)), (47, spU (.bool true)), (48, spU (.agg (la.map U).toArray)), (49, spU (.string (bstr (nmT 112 la)))), (50, spU (.agg (lb.map U).toArray)), (51, spU (.string (bstr (nmT 112 lb)))), (52, spU (.bool (lt32 la lb))), (53, spU (.bool (lt32 la lb))), (54, spU (.bool true)), (55, spU (.bool true)), (56, spU (.bool true)), (57, spU (.string (bstr (nmT 111 la)))), (58, spU (.agg (lb.map U).toArray)), (59, spU (.string (bstr (nmT 112 lb)))), (60, spU (.bool true)), (61, spU (.bool true)), (62, spU (.bool true)), (63, spU (.string (bstr (nmT 111 la)))), (64, spU (.bool false)), (65, spU (.bool true)), (66, spU (.bool true)), (4, spU (.bool true))] 67 rfl (by kernel_rfl) (by kernel_rfl) (by kernel_rfl) (by kernel_rfl) trivial ?_ ?_
          · refine ⟨?_, ?_, ?_, ?_, ?_, ?_, ?_, ?_, ?_, ?_, ?_, ?_, ?_, ?_, ?_, ?_, ?_, ?_, ?_, ?_, ?_, ?_, ?_, ?_, ?_, ?_, ?_, ?_, ?_, ?_, ?_, ?_, ?_, ?_, ?_, trivial⟩
            · as_aux_lemma =>
              refine Seq.UpOb.plain (by decide) (fun _ _ _ h _ => h) (fun _ _ h => h) rfl fun a W m hR _ hl K hK => ?_
              have h5 : a.tmps.getD 5 undef = (.string (bstr (nmT 111 la))) := hl 5 (by decide)
              replace hK : ∀ v W2, Below W.heap.size W W2 → v = (.string (bstr (nmT 111 la))) → K (a.put (some 33) v) W2 := fun v W2 h1 h2 => hK v W2 h1 (fun d hd => by cases hd; exact h2)
              clear hl
              simp only [Array.getD_eq_getD_getElem?] at h5
              go_simp
              exact hK _ W (Below.refl _ W) rfl
            · as_aux_lemma =>
              refine Seq.UpOb.plain (by decide) (fun _ _ _ h _ => h) (fun _ _ h => h) rfl fun a W m hR _ hl K hK => ?_
              have h6 : a.tmps.getD 6 undef = (.string (bstr (nmT 111 lb))) := hl 6 (by decide)
              replace hK : ∀ v W2, Below W.heap.size W W2 → v = (.string (bstr (nmT 111 lb))) → K (a.put (some 34) v) W2 := fun v W2 h1 h2 => hK v W2 h1 (fun d hd => by cases hd; exact h2)
              clear hl
              simp only [Array.getD_eq_getD_getElem?] at h6
              go_simp
              exact hK _ W (Below.refl _ W) rfl
            · as_aux_lemma =>
              refine Seq.UpOb.plain (by decide) (fun _ _ _ h _ => h) (fun _ _ h => h) rfl fun a W m hR _ hl K hK => ?_
              have h33 : a.tmps.getD 33 undef = (.string (bstr (nmT 111 la))) := hl 33 (by decide)
              have h34 : a.tmps.getD 34 undef = (.string (bstr (nmT 111 lb))) := hl 34 (by decide)
              replace hK : ∀ v W2, Below W.heap.size W W2 → v = (.bool (lt32 la lb)) → K (a.put (some 35) v) W2 := fun v W2 h1 h2 => hK v W2 h1 (fun d hd => by cases hd; exact h2)
              clear hl
              exact wp_lsS (.tmp 33) (.tmp 34) 9 rfl _ _ _ (nm_lt 111 la lb HLL.out) h33 h34 (hK _ W (Below.refl _ W) rfl)
            · as_aux_lemma =>
              refine Seq.UpOb.plain (by decide) (fun _ _ _ h _ => h) (fun _ _ h => h) rfl fun a W m hR _ hl K hK => ?_
              have h7 : a.tmps.getD 7 undef = (.bool (lt32 la lb)) := hl 7 (by decide)
              replace hK : ∀ v W2, Below W.heap.size W W2 → v = (.bool (lt32 la lb)) → K (a.put (some 36) v) W2 := fun v W2 h1 h2 => hK v W2 h1 (fun d hd => by cases hd; exact h2)
              clear hl
              simp only [Array.getD_eq_getD_getElem?] at h7
              go_simp
              exact hK _ W (Below.refl _ W) rfl
            · as_aux_lemma =>
              refine Seq.UpOb.plain (by decide) (fun _ _ _ h _ => h) (fun _ _ h => h) rfl fun a W m hR _ hl K hK => ?_
              have h35 : a.tmps.getD 35 undef = (.bool (lt32 la lb)) := hl 35 (by decide)
              have h36 : a.tmps.getD 36 undef = (.bool (lt32 la lb)) := hl 36 (by decide)
              replace hK : ∀ v W2, Below W.heap.size W W2 → v = (.bool true) → K (a.put (some 37) v) W2 := fun v W2 h1 h2 => hK v W2 h1 (fun d hd => by cases hd; exact h2)
              clear hl
              exact wp_eqB (.tmp 35) (.tmp 36) 4 rfl _ _ rfl h35 h36 (hK _ W (Below.refl _ W) rfl)
            · as_aux_lemma =>
              refine Seq.UpOb.plain (by decide) (fun _ _ _ h _ => h) (fun _ _ h => h) rfl fun a W m hR _ hl K hK => ?_
              have h37 : a.tmps.getD 37 undef = (.bool true) := hl 37 (by decide)
              replace hK : ∀ v W2, Below W.heap.size W W2 → v = (.bool true) → K (a.put (some 38) v) W2 := fun v W2 h1 h2 => hK v W2 h1 (fun d hd => by cases hd; exact h2)
              clear hl
              simp only [Array.getD_eq_getD_getElem?] at h37
              go_simp
              exact hK _ W (Below.refl _ W) rfl
            · as_aux_lemma =>
              refine Seq.UpOb.guarded (d := 38) (by decide) (fun _ _ _ h _ => h) (fun _ _ h => h) rfl rfl (fun a W hl => hl 38 (by decide)) fun a W m hR _ hl K hK => ?_
              have h5 : a.tmps.getD 5 undef = (.string (bstr (nmT 111 la))) := hl 5 (by decide)
              have h38 : a.tmps.getD 38 undef = (.bool true) := hl 38 (by decide)
              replace hK : ∀ v W2, Below W.heap.size W W2 → v = (.string (bstr (nmT 111 la))) → K (a.put (some 39) v) W2 := fun v W2 h1 h2 => hK v W2 h1 (fun d hd => by cases hd; exact h2)
              clear hl
              simp only [Array.getD_eq_getD_getElem?] at h5 h38
              go_simp
              exact hK _ W (Below.refl _ W) rfl
            · as_aux_lemma =>
              refine Seq.UpOb.guarded (d := 38) (by decide) (fun _ _ _ h _ => h) (fun _ _ h => h) rfl rfl (fun a W hl => hl 38 (by decide)) fun a W m hR _ hl K hK => ?_
              have h6 : a.tmps.getD 6 undef = (.string (bstr (nmT 111 lb))) := hl 6 (by decide)
              have h38 : a.tmps.getD 38 undef = (.bool true) := hl 38 (by decide)
              replace hK : ∀ v W2, Below W.heap.size W W2 → v = (.string (bstr (nmT 111 lb))) → K (a.put (some 40) v) W2 := fun v W2 h1 h2 => hK v W2 h1 (fun d hd => by cases hd; exact h2)
              clear hl
              simp only [Array.getD_eq_getD_getElem?] at h6 h38
              go_simp
              exact hK _ W (Below.refl _ W) rfl
            · as_aux_lemma =>
              refine Seq.UpOb.guarded (d := 38) (by decide) (fun _ _ _ h _ => h) (fun _ _ h => h) rfl rfl (fun a W hl => hl 38 (by decide)) fun a W m hR _ hl K hK => ?_
              have h39 : a.tmps.getD 39 undef = (.string (bstr (nmT 111 la))) := hl 39 (by decide)
              have h40 : a.tmps.getD 40 undef = (.string (bstr (nmT 111 lb))) := hl 40 (by decide)
              have h38 : a.tmps.getD 38 undef = (.bool true) := hl 38 (by decide)
              replace hK : ∀ v W2, Below W.heap.size W W2 → v = (.bool (la == lb)) → K (a.put (some 41) v) W2 := fun v W2 h1 h2 => hK v W2 h1 (fun d hd => by cases hd; exact h2)
              clear hl
              exact wp_eqS (.tmp 39) (.tmp 40) 9 rfl _ _ _ (nm_eq 111 la lb) h39 h40 (hK _ W (Below.refl _ W) rfl)
            · as_aux_lemma =>
              refine Seq.UpOb.guarded (d := 38) (by decide) (fun _ _ _ h _ => h) (fun _ _ h => h) rfl rfl (fun a W hl => hl 38 (by decide)) fun a W m hR _ hl K hK => ?_
              have h2 : a.tmps.getD 2 undef = (.pointer (some ⟨ga, 0, none⟩)) := hl 2 (by decide)
              have h38 : a.tmps.getD 38 undef = (.bool true) := hl 38 (by decide)
              replace hK : ∀ v W2, Below W.heap.size W W2 → v = (.agg (la.map U).toArray) → K (a.put (some 42) v) W2 := fun v W2 h1 h2 => hK v W2 h1 (fun d hd => by cases hd; exact h2)
              clear hl
              exact wp_load_row 25 (.tmp 2) rfl ga h2 25 _ (0, 0) _ (BA.out W ⟨hR.os, hR.tape, hR.output, hR.size, fun k hk => hR.block k hk⟩) Try.underlying25 rfl HIA.out (hK _ W (Below.refl _ W) rfl)
            · as_aux_lemma =>
              refine Seq.UpOb.guarded (d := 38) (by decide) (fun _ _ _ h _ => h) (fun _ _ h => h) rfl rfl (fun a W hl => hl 38 (by decide)) fun a W m hR _ hl K hK => ?_
              have h3 : a.tmps.getD 3 undef = (.pointer (some ⟨gb, 0, none⟩)) := hl 3 (by decide)
              have h38 : a.tmps.getD 38 undef = (.bool true) := hl 38 (by decide)
              replace hK : ∀ v W2, Below W.heap.size W W2 → v = (.agg (lb.map U).toArray) → K (a.put (some 43) v) W2 := fun v W2 h1 h2 => hK v W2 h1 (fun d hd => by cases hd; exact h2)
              clear hl
              exact wp_load_row 25 (.tmp 3) rfl gb h3 25 _ (0, 0) _ (BB.out W ⟨hR.os, hR.tape, hR.output, hR.size, fun k hk => hR.block k hk⟩) Try.underlying25 rfl HIB.out (hK _ W (Below.refl _ W) rfl)
            · as_aux_lemma =>
              refine Seq.UpOb.guarded (d := 38) (by decide) (fun _ _ _ h _ => h) (fun _ _ h => h) rfl rfl (fun a W hl => hl 38 (by decide)) fun a W m hR _ hl K hK => ?_
              have h42 : a.tmps.getD 42 undef = (.agg (la.map U).toArray) := hl 42 (by decide)
              have h43 : a.tmps.getD 43 undef = (.agg (lb.map U).toArray) := hl 43 (by decide)
              have h38 : a.tmps.getD 38 undef = (.bool true) := hl 38 (by decide)
              replace hK : ∀ v W2, Below W.heap.size W W2 → v = (.bool (la == lb)) → K (a.put (some 44) v) W2 := fun v W2 h1 h2 => hK v W2 h1 (fun d hd => by cases hd; exact h2)
              clear hl
              exact wp_eqD .eql rfl (.tmp 42) (.tmp 43) 25 rfl la lb HLA.out HLB.out _ rfl h42 h43 (hK _ W (Below.refl _ W) rfl)
            · as_aux_lemma =>
              refine Seq.UpOb.guarded (d := 38) (by decide) (fun _ _ _ h _ => h) (fun _ _ h => h) rfl rfl (fun a W hl => hl 38 (by decide)) fun a W m hR _ hl K hK => ?_
              have h41 : a.tmps.getD 41 undef = (.bool (la == lb)) := hl 41 (by decide)
              have h44 : a.tmps.getD 44 undef = (.bool (la == lb)) := hl 44 (by decide)
              have h38 : a.tmps.getD 38 undef = (.bool true) := hl 38 (by decide)
              replace hK : ∀ v W2, Below W.heap.size W W2 → v = (.bool true) → K (a.put (some 45) v) W2 := fun v W2 h1 h2 => hK v W2 h1 (fun d hd => by cases hd; exact h2)
              clear hl
              exact wp_eqB (.tmp 41) (.tmp 44) 4 rfl _ _ rfl h41 h44 (hK _ W (Below.refl _ W) rfl)
            · as_aux_lemma =>
              refine Seq.UpOb.plain (by decide) (fun _ _ _ h _ => h) (fun _ _ h => h) rfl fun a W m hR _ hl K hK => ?_
              have h38 : a.tmps.getD 38 undef = (.bool true) := hl 38 (by decide)
              have h45 : a.tmps.getD 45 undef = (.bool true) := hl 45 (by decide)
              replace hK : ∀ v W2, Below W.heap.size W W2 → v = (.bool true) → K (a.put (some 46) v) W2 := fun v W2 h1 h2 => hK v W2 h1 (fun d hd => by cases hd; exact h2)
              clear hl
              simp only [Array.getD_eq_getD_getElem?] at h38 h45
              go_simp
              exact hK _ W (Below.refl _ W) rfl
            · as_aux_lemma =>
              refine Seq.UpOb.plain (by decide) (fun _ _ _ h _ => h) (fun _ _ h => h) rfl fun a W m hR _ hl K hK => ?_
              have h46 : a.tmps.getD 46 undef = (.bool true) := hl 46 (by decide)
              replace hK : ∀ v W2, Below W.heap.size W W2 → v = (.bool true) → K (a.put (some 47) v) W2 := fun v W2 h1 h2 => hK v W2 h1 (fun d hd => by cases hd; exact h2)
              clear hl
              simp only [Array.getD_eq_getD_getElem?] at h46
              go_simp
              exact hK _ W (Below.refl _ W) rfl
            · as_aux_lemma =>
              refine Seq.UpOb.guarded (d := 47) (by decide) (fun _ _ _ h _ => h) (fun _ _ h => h) rfl rfl (fun a W hl => hl 47 (by decide)) fun a W m hR _ hl K hK => ?_
              have h2 : a.tmps.getD 2 undef = (.pointer (some ⟨ga, 0, none⟩)) := hl 2 (by decide)
              have h47 : a.tmps.getD 47 undef = (.bool true) := hl 47 (by decide)
              replace hK : ∀ v W2, Below W.heap.size W W2 → v = (.agg (la.map U).toArray) → K (a.put (some 48) v) W2 := fun v W2 h1 h2 => hK v W2 h1 (fun d hd => by cases hd; exact h2)
              clear hl
              exact wp_load_row 25 (.tmp 2) rfl ga h2 25 _ (0, 0) _ (BA.out W ⟨hR.os, hR.tape, hR.output, hR.size, fun k hk => hR.block k hk⟩) Try.underlying25 rfl HIA.out (hK _ W (Below.refl _ W) rfl)
            · as_aux_lemma =>
              refine Seq.UpOb.guarded (d := 47) (by decide) (fun _ _ _ h _ => h) (fun _ _ h => h) rfl rfl (fun a W hl => hl 47 (by decide)) fun a W m hR _ hl K hK => ?_
              have h48 : a.tmps.getD 48 undef = (.agg (la.map U).toArray) := hl 48 (by decide)
              have h47 : a.tmps.getD 47 undef = (.bool true) := hl 47 (by decide)
              replace hK : ∀ v W2, Below W.heap.size W W2 → v = (.string (bstr (nmT 112 la))) → K (a.put (some 49) v) W2 := fun v W2 h1 h2 => hK v W2 h1 (fun d hd => by cases hd; exact h2)
              clear hl
              simp only [Array.getD_eq_getD_getElem?] at h48 h47
              go_simp
              refine (pack_walk W la HLA.out).mono ?_
              rintro e w4 ⟨rfl, hb4⟩
              exact hK _ w4 hb4 rfl
            · as_aux_lemma =>
              refine Seq.UpOb.guarded (d := 47) (by decide) (fun _ _ _ h _ => h) (fun _ _ h => h) rfl rfl (fun a W hl => hl 47 (by decide)) fun a W m hR _ hl K hK => ?_
              have h3 : a.tmps.getD 3 undef = (.pointer (some ⟨gb, 0, none⟩)) := hl 3 (by decide)
              have h47 : a.tmps.getD 47 undef = (.bool true) := hl 47 (by decide)
              replace hK : ∀ v W2, Below W.heap.size W W2 → v = (.agg (lb.map U).toArray) → K (a.put (some 50) v) W2 := fun v W2 h1 h2 => hK v W2 h1 (fun d hd => by cases hd; exact h2)
              clear hl
              exact wp_load_row 25 (.tmp 3) rfl gb h3 25 _ (0, 0) _ (BB.out W ⟨hR.os, hR.tape, hR.output, hR.size, fun k hk => hR.block k hk⟩) Try.underlying25 rfl HIB.out (hK _ W (Below.refl _ W) rfl)
            · as_aux_lemma =>
              refine Seq.UpOb.guarded (d := 47) (by decide) (fun _ _ _ h _ => h) (fun _ _ h => h) rfl rfl (fun a W hl => hl 47 (by decide)) fun a W m hR _ hl K hK => ?_
              have h50 : a.tmps.getD 50 undef = (.agg (lb.map U).toArray) := hl 50 (by decide)
              have h47 : a.tmps.getD 47 undef = (.bool true) := hl 47 (by decide)
              replace hK : ∀ v W2, Below W.heap.size W W2 → v = (.string (bstr (nmT 112 lb))) → K (a.put (some 51) v) W2 := fun v W2 h1 h2 => hK v W2 h1 (fun d hd => by cases hd; exact h2)
              clear hl
              simp only [Array.getD_eq_getD_getElem?] at h50 h47
              go_simp
              refine (pack_walk W lb HLB.out).mono ?_
              rintro e w4 ⟨rfl, hb4⟩
              exact hK _ w4 hb4 rfl
            · as_aux_lemma =>
              refine Seq.UpOb.guarded (d := 47) (by decide) (fun _ _ _ h _ => h) (fun _ _ h => h) rfl rfl (fun a W hl => hl 47 (by decide)) fun a W m hR _ hl K hK => ?_
              have h49 : a.tmps.getD 49 undef = (.string (bstr (nmT 112 la))) := hl 49 (by decide)
              have h51 : a.tmps.getD 51 undef = (.string (bstr (nmT 112 lb))) := hl 51 (by decide)
              have h47 : a.tmps.getD 47 undef = (.bool true) := hl 47 (by decide)
              replace hK : ∀ v W2, Below W.heap.size W W2 → v = (.bool (lt32 la lb)) → K (a.put (some 52) v) W2 := fun v W2 h1 h2 => hK v W2 h1 (fun d hd => by cases hd; exact h2)
              clear hl
              exact wp_lsS (.tmp 49) (.tmp 51) 9 rfl _ _ _ (nm_lt 112 la lb HLL.out) h49 h51 (hK _ W (Below.refl _ W) rfl)
            · as_aux_lemma =>
              refine Seq.UpOb.guarded (d := 47) (by decide) (fun _ _ _ h _ => h) (fun _ _ h => h) rfl rfl (fun a W hl => hl 47 (by decide)) fun a W m hR _ hl K hK => ?_
              have h7 : a.tmps.getD 7 undef = (.bool (lt32 la lb)) := hl 7 (by decide)
              have h47 : a.tmps.getD 47 undef = (.bool true) := hl 47 (by decide)
              replace hK : ∀ v W2, Below W.heap.size W W2 → v = (.bool (lt32 la lb)) → K (a.put (some 53) v) W2 := fun v W2 h1 h2 => hK v W2 h1 (fun d hd => by cases hd; exact h2)
              clear hl
              simp only [Array.getD_eq_getD_getElem?] at h7 h47
              go_simp
              exact hK _ W (Below.refl _ W) rfl
            · as_aux_lemma =>
              refine Seq.UpOb.guarded (d := 47) (by decide) (fun _ _ _ h _ => h) (fun _ _ h => h) rfl rfl (fun a W hl => hl 47 (by decide)) fun a W m hR _ hl K hK => ?_
              have h52 : a.tmps.getD 52 undef = (.bool (lt32 la lb)) := hl 52 (by decide)
              have h53 : a.tmps.getD 53 undef = (.bool (lt32 la lb)) := hl 53 (by decide)
              have h47 : a.tmps.getD 47 undef = (.bool true) := hl 47 (by decide)
              replace hK : ∀ v W2, Below W.heap.size W W2 → v = (.bool true) → K (a.put (some 54) v) W2 := fun v W2 h1 h2 => hK v W2 h1 (fun d hd => by cases hd; exact h2)
              clear hl
              exact wp_eqB (.tmp 52) (.tmp 53) 4 rfl _ _ rfl h52 h53 (hK _ W (Below.refl _ W) rfl)
            · as_aux_lemma =>
              refine Seq.UpOb.plain (by decide) (fun _ _ _ h _ => h) (fun _ _ h => h) rfl fun a W m hR _ hl K hK => ?_
              have h47 : a.tmps.getD 47 undef = (.bool true) := hl 47 (by decide)
              have h54 : a.tmps.getD 54 undef = (.bool true) := hl 54 (by decide)
              replace hK : ∀ v W2, Below W.heap.size W W2 → v = (.bool true) → K (a.put (some 55) v) W2 := fun v W2 h1 h2 => hK v W2 h1 (fun d hd => by cases hd; exact h2)
              clear hl
              simp only [Array.getD_eq_getD_getElem?] at h47 h54
              go_simp
              exact hK _ W (Below.refl _ W) rfl
            · as_aux_lemma =>
              refine Seq.UpOb.plain (by decide) (fun _ _ _ h _ => h) (fun _ _ h => h) rfl fun a W m hR _ hl K hK => ?_
              have h55 : a.tmps.getD 55 undef = (.bool true) := hl 55 (by decide)
              replace hK : ∀ v W2, Below W.heap.size W W2 → v = (.bool true) → K (a.put (some 56) v) W2 := fun v W2 h1 h2 => hK v W2 h1 (fun d hd => by cases hd; exact h2)
              clear hl
              simp only [Array.getD_eq_getD_getElem?] at h55
              go_simp
              exact hK _ W (Below.refl _ W) rfl
            · as_aux_lemma =>
              refine Seq.UpOb.guarded (d := 56) (by decide) (fun _ _ _ h _ => h) (fun _ _ h => h) rfl rfl (fun a W hl => hl 56 (by decide)) fun a W m hR _ hl K hK => ?_
              have h5 : a.tmps.getD 5 undef = (.string (bstr (nmT 111 la))) := hl 5 (by decide)
              have h56 : a.tmps.getD 56 undef = (.bool true) := hl 56 (by decide)
              replace hK : ∀ v W2, Below W.heap.size W W2 → v = (.string (bstr (nmT 111 la))) → K (a.put (some 57) v) W2 := fun v W2 h1 h2 => hK v W2 h1 (fun d hd => by cases hd; exact h2)
              clear hl
              simp only [Array.getD_eq_getD_getElem?] at h5 h56
              go_simp
              exact hK _ W (Below.refl _ W) rfl
            · as_aux_lemma =>
              refine Seq.UpOb.guarded (d := 56) (by decide) (fun _ _ _ h _ => h) (fun _ _ h => h) rfl rfl (fun a W hl => hl 56 (by decide)) fun a W m hR _ hl K hK => ?_
              have h3 : a.tmps.getD 3 undef = (.pointer (some ⟨gb, 0, none⟩)) := hl 3 (by decide)
              have h56 : a.tmps.getD 56 undef = (.bool true) := hl 56 (by decide)
              replace hK : ∀ v W2, Below W.heap.size W W2 → v = (.agg (lb.map U).toArray) → K (a.put (some 58) v) W2 := fun v W2 h1 h2 => hK v W2 h1 (fun d hd => by cases hd; exact h2)
              clear hl
              exact wp_load_row 25 (.tmp 3) rfl gb h3 25 _ (0, 0) _ (BB.out W ⟨hR.os, hR.tape, hR.output, hR.size, fun k hk => hR.block k hk⟩) Try.underlying25 rfl HIB.out (hK _ W (Below.refl _ W) rfl)
            · as_aux_lemma =>
              refine Seq.UpOb.guarded (d := 56) (by decide) (fun _ _ _ h _ => h) (fun _ _ h => h) rfl rfl (fun a W hl => hl 56 (by decide)) fun a W m hR _ hl K hK => ?_
              have h58 : a.tmps.getD 58 undef = (.agg (lb.map U).toArray) := hl 58 (by decide)
              have h56 : a.tmps.getD 56 undef = (.bool true) := hl 56 (by decide)
              replace hK : ∀ v W2, Below W.heap.size W W2 → v = (.string (bstr (nmT 112 lb))) → K (a.put (some 59) v) W2 := fun v W2 h1 h2 => hK v W2 h1 (fun d hd => by cases hd; exact h2)
              clear hl
              simp only [Array.getD_eq_getD_getElem?] at h58 h56
              go_simp
              refine (pack_walk W lb HLB.out).mono ?_
              rintro e w4 ⟨rfl, hb4⟩
              exact hK _ w4 hb4 rfl
            · as_aux_lemma =>
              refine Seq.UpOb.guarded (d := 56) (by decide) (fun _ _ _ h _ => h) (fun _ _ h => h) rfl rfl (fun a W hl => hl 56 (by decide)) fun a W m hR _ hl K hK => ?_
              have h57 : a.tmps.getD 57 undef = (.string (bstr (nmT 111 la))) := hl 57 (by decide)
              have h59 : a.tmps.getD 59 undef = (.string (bstr (nmT 112 lb))) := hl 59 (by decide)
              have h56 : a.tmps.getD 56 undef = (.bool true) := hl 56 (by decide)
              replace hK : ∀ v W2, Below W.heap.size W W2 → v = (.bool true) → K (a.put (some 60) v) W2 := fun v W2 h1 h2 => hK v W2 h1 (fun d hd => by cases hd; exact h2)
              clear hl
              exact wp_lsS (.tmp 57) (.tmp 59) 9 rfl _ _ _ (nm_op la lb) h57 h59 (hK _ W (Below.refl _ W) rfl)
            · as_aux_lemma =>
              refine Seq.UpOb.plain (by decide) (fun _ _ _ h _ => h) (fun _ _ h => h) rfl fun a W m hR _ hl K hK => ?_
              have h56 : a.tmps.getD 56 undef = (.bool true) := hl 56 (by decide)
              have h60 : a.tmps.getD 60 undef = (.bool true) := hl 60 (by decide)
              replace hK : ∀ v W2, Below W.heap.size W W2 → v = (.bool true) → K (a.put (some 61) v) W2 := fun v W2 h1 h2 => hK v W2 h1 (fun d hd => by cases hd; exact h2)
              clear hl
              simp only [Array.getD_eq_getD_getElem?] at h56 h60
              go_simp
              exact hK _ W (Below.refl _ W) rfl
            · as_aux_lemma =>
              refine Seq.UpOb.plain (by decide) (fun _ _ _ h _ => h) (fun _ _ h => h) rfl fun a W m hR _ hl K hK => ?_
              have h61 : a.tmps.getD 61 undef = (.bool true) := hl 61 (by decide)
              replace hK : ∀ v W2, Below W.heap.size W W2 → v = (.bool true) → K (a.put (some 62) v) W2 := fun v W2 h1 h2 => hK v W2 h1 (fun d hd => by cases hd; exact h2)
              clear hl
              simp only [Array.getD_eq_getD_getElem?] at h61
              go_simp
              exact hK _ W (Below.refl _ W) rfl
            · as_aux_lemma =>
              refine Seq.UpOb.guarded (d := 62) (by decide) (fun _ _ _ h _ => h) (fun _ _ h => h) rfl rfl (fun a W hl => hl 62 (by decide)) fun a W m hR _ hl K hK => ?_
              have h5 : a.tmps.getD 5 undef = (.string (bstr (nmT 111 la))) := hl 5 (by decide)
              have h62 : a.tmps.getD 62 undef = (.bool true) := hl 62 (by decide)
              replace hK : ∀ v W2, Below W.heap.size W W2 → v = (.string (bstr (nmT 111 la))) → K (a.put (some 63) v) W2 := fun v W2 h1 h2 => hK v W2 h1 (fun d hd => by cases hd; exact h2)
              clear hl
              simp only [Array.getD_eq_getD_getElem?] at h5 h62
              go_simp
              exact hK _ W (Below.refl _ W) rfl
            · as_aux_lemma =>
              refine Seq.UpOb.guarded (d := 62) (by decide) (fun _ _ _ h _ => h) (fun _ _ h => h) rfl rfl (fun a W hl => hl 62 (by decide)) fun a W m hR _ hl K hK => ?_
              have h63 : a.tmps.getD 63 undef = (.string (bstr (nmT 111 la))) := hl 63 (by decide)
              have h62 : a.tmps.getD 62 undef = (.bool true) := hl 62 (by decide)
              replace hK : ∀ v W2, Below W.heap.size W W2 → v = (.bool false) → K (a.put (some 64) v) W2 := fun v W2 h1 h2 => hK v W2 h1 (fun d hd => by cases hd; exact h2)
              clear hl
              simp only [Array.getD_eq_getD_getElem?] at h63 h62
              go_simp
              refine (HNO.out W).mono ?_
              rintro e w4 ⟨rfl, hb4⟩
              exact hK _ w4 hb4 rfl
            · as_aux_lemma =>
              refine Seq.UpOb.guarded (d := 62) (by decide) (fun _ _ _ h _ => h) (fun _ _ h => h) rfl rfl (fun a W hl => hl 62 (by decide)) fun a W m hR _ hl K hK => ?_
              have h64 : a.tmps.getD 64 undef = (.bool false) := hl 64 (by decide)
              have h62 : a.tmps.getD 62 undef = (.bool true) := hl 62 (by decide)
              replace hK : ∀ v W2, Below W.heap.size W W2 → v = (.bool true) → K (a.put (some 65) v) W2 := fun v W2 h1 h2 => hK v W2 h1 (fun d hd => by cases hd; exact h2)
              clear hl
              simp only [Array.getD_eq_getD_getElem?] at h64 h62
              go_simp
              exact hK _ W (Below.refl _ W) rfl
            · as_aux_lemma =>
              refine Seq.UpOb.plain (by decide) (fun _ _ _ h _ => h) (fun _ _ h => h) rfl fun a W m hR _ hl K hK => ?_
              have h62 : a.tmps.getD 62 undef = (.bool true) := hl 62 (by decide)
              have h65 : a.tmps.getD 65 undef = (.bool true) := hl 65 (by decide)
              replace hK : ∀ v W2, Below W.heap.size W W2 → v = (.bool true) → K (a.put (some 66) v) W2 := fun v W2 h1 h2 => hK v W2 h1 (fun d hd => by cases hd; exact h2)
              clear hl
              simp only [Array.getD_eq_getD_getElem?] at h62 h65
              go_simp
              exact hK _ W (Below.refl _ W) rfl
            · as_aux_lemma =>
              refine Seq.UpOb.plain (by decide) (fun _ _ _ h _ => h) (fun _ _ h => h) rfl fun a W m hR _ hl K hK => ?_
              have h66 : a.tmps.getD 66 undef = (.bool true) := hl 66 (by decide)
              replace hK : ∀ v W2, Below W.heap.size W W2 → v = (.bool true) → K (a.put (some 4) v) W2 := fun v W2 h1 h2 => hK v W2 h1 (fun d hd => by cases hd; exact h2)
              clear hl
              simp only [Array.getD_eq_getD_getElem?] at h66
              go_simp
              exact hK _ W (Below.refl _ W) rfl
          · intro a Wz hd hsz hR hl _
            have h4 : a.tmps.getD 4 undef = .bool true := hl 4
            go_wp2
            refine bodyPost_ret (v := .bool true) ?_ hd ⟨rfl, HGA.out ▸ HB3.out.trans (Below.mono (show Below W.heap.size W Wz from ⟨hR.os, hR.tape, hR.output, hR.size, fun k hk => hR.block k hk⟩) HGW.out)⟩
            rw [results_tmp rfl, h4]
      · obtain rfl : k = 32 := by omega
        have hl : lt32 la lb = false := by
          have h := HEQ.out
          rw [List.take_of_length_le (by rw [HLA.out]; exact Nat.le_refl _), List.take_of_length_le (by rw [HLB.out]; exact Nat.le_refl _)] at h
          rw [h]; exact lt_same lb
        have HQ := Lib.hid hl
        clear hl
        go_wp2
        refine Seq.wp_region_seq (by kernel_rfl) (R := UpN) UpN.refl UpN.trans (fun _ _ => True) [] [[5], [6], [33, 34], [7], [35, 36], [37], [5, 38], [6, 38], [39, 40, 38], [2, 38], [3, 38], [42, 43, 38], [41, 44, 38], [38, 45], [46], [2, 47], [48, 47], [3, 47], [50, 47], [49, 51, 47], [7, 47], [52, 53, 47], [47, 54], [55], [5, 56], [3, 56], [58, 56], [57, 59, 56], [56, 60], [61], [5, 62], [63, 62], [64, 62], [62, 65], [66]] [(33, spU (.string (bstr (nmT 111 la)))), (34, spU (.string (bstr (nmT 111 lb)))), (35, spU (.bool (lt32 la lb))), (36, spU (.bool false)), (37, spU (.bool true)), (38, spU (.bool true)), (39, spU (.string (bstr (nmT 111 la)))), (40, spU (.string (bstr (nmT 111 lb)))), (41, spU (.bool (la == lb))), (42, spU (.agg (la.map U).toArray)), (43, spU (.agg (lb.map U).toArray)), (44, spU (.bool (la == lb))), (45, spU (.bool true)), (46, spU (.bool true)), (47, spU (.bool true)), (48, spU (.agg (la.map U).toArray)), (49, spU (.string (bstr (nmT 112 la)))), (50, spU (.agg (lb.map U).toArray)), (51, spU (.string (bstr (nmT 112 lb)))), (52, spU (.bool (lt32 la lb))), (53, spU (.bool false)), (54, spU (.bool true)), (55, spU (.bool true)), (56, spU (.bool true)), (57, spU (.string (bstr (nmT 111 la)))), (58, spU (.agg (lb.map U).toArray)), (59, spU (.string (bstr (nmT 112 lb)))), (60, spU (.bool true)), (61, spU (.bool true)), (62, spU (.bool true)), (63, spU (.string (bstr (nmT 111 la)))), (64, spU (.bool false)), (65, spU (.bool true)), (66, spU (.bool true)), (4, spU (.bool true))] 67 rfl (by kernel_rfl) (by kernel_rfl) (by kernel_rfl) (by kernel_rfl) trivial ?_ ?_
        · refine ⟨?_, ?_, ?_, ?_, ?_, ?_, ?_, ?_, ?_, ?_, ?_, ?_, ?_, ?_, ?_, ?_, ?_, ?_, ?_, ?_, ?_, ?_, ?_, ?_, ?_, ?_, ?_, ?_, ?_, ?_, ?_, ?_, ?_, ?_, ?_, trivial⟩
          · as_aux_lemma =>
            refine Seq.UpOb.plain (by decide) (fun _ _ _ h _ => h) (fun _ _ h => h) rfl fun a W m hR _ hl K hK => ?_
            have h5 : a.tmps.getD 5 undef = (.string (bstr (nmT 111 la))) := hl 5 (by decide)
            replace hK : ∀ v W2, Below W.heap.size W W2 → v = (.string (bstr (nmT 111 la))) → K (a.put (some 33) v) W2 := fun v W2 h1 h2 => hK v W2 h1 (fun d hd => by cases hd; exact h2)
            clear hl
            simp only [Array.getD_eq_getD_getElem?] at h5
            go_simp
            exact hK _ W (Below.refl _ W) rfl
          · as_aux_lemma =>
            refine Seq.UpOb.plain (by decide) (fun _ _ _ h _ => h) (fun _ _ h => h) rfl fun a W m hR _ hl K hK => ?_
            have h6 : a.tmps.getD 6 undef = (.string (bstr (nmT 111 lb))) := hl 6 (by decide)
            replace hK : ∀ v W2, Below W.heap.size W W2 → v = (.string (bstr (nmT 111 lb))) → K (a.put (some 34) v) W2 := fun v W2 h1 h2 => hK v W2 h1 (fun d hd => by cases hd; exact h2)
            clear hl
            simp only [Array.getD_eq_getD_getElem?] at h6
            go_simp
            exact hK _ W (Below.refl _ W) rfl
          · as_aux_lemma =>
            refine Seq.UpOb.plain (by decide) (fun _ _ _ h _ => h) (fun _ _ h => h) rfl fun a W m hR _ hl K hK => ?_
            have h33 : a.tmps.getD 33 undef = (.string (bstr (nmT 111 la))) := hl 33 (by decide)
            have h34 : a.tmps.getD 34 undef = (.string (bstr (nmT 111 lb))) := hl 34 (by decide)
            replace hK : ∀ v W2, Below W.heap.size W W2 → v = (.bool (lt32 la lb)) → K (a.put (some 35) v) W2 := fun v W2 h1 h2 => hK v W2 h1 (fun d hd => by cases hd; exact h2)
            clear hl
            exact wp_lsS (.tmp 33) (.tmp 34) 9 rfl _ _ _ (nm_lt 111 la lb HLL.out) h33 h34 (hK _ W (Below.refl _ W) rfl)
          · as_aux_lemma =>
            refine Seq.UpOb.plain (by decide) (fun _ _ _ h _ => h) (fun _ _ h => h) rfl fun a W m hR _ hl K hK => ?_
            have h7 : a.tmps.getD 7 undef = (.bool false) := hl 7 (by decide)
            replace hK : ∀ v W2, Below W.heap.size W W2 → v = (.bool false) → K (a.put (some 36) v) W2 := fun v W2 h1 h2 => hK v W2 h1 (fun d hd => by cases hd; exact h2)
            clear hl
            simp only [Array.getD_eq_getD_getElem?] at h7
            go_simp
            exact hK _ W (Below.refl _ W) rfl
          · as_aux_lemma =>
            refine Seq.UpOb.plain (by decide) (fun _ _ _ h _ => h) (fun _ _ h => h) rfl fun a W m hR _ hl K hK => ?_
            have h35 : a.tmps.getD 35 undef = (.bool (lt32 la lb)) := hl 35 (by decide)
            have h36 : a.tmps.getD 36 undef = (.bool false) := hl 36 (by decide)
            replace hK : ∀ v W2, Below W.heap.size W W2 → v = (.bool true) → K (a.put (some 37) v) W2 := fun v W2 h1 h2 => hK v W2 h1 (fun d hd => by cases hd; exact h2)
            clear hl
            exact wp_eqB (.tmp 35) (.tmp 36) 4 rfl _ _ HQ.out h35 h36 (hK _ W (Below.refl _ W) rfl)
          · as_aux_lemma =>
            refine Seq.UpOb.plain (by decide) (fun _ _ _ h _ => h) (fun _ _ h => h) rfl fun a W m hR _ hl K hK => ?_
            have h37 : a.tmps.getD 37 undef = (.bool true) := hl 37 (by decide)
            replace hK : ∀ v W2, Below W.heap.size W W2 → v = (.bool true) → K (a.put (some 38) v) W2 := fun v W2 h1 h2 => hK v W2 h1 (fun d hd => by cases hd; exact h2)
            clear hl
            simp only [Array.getD_eq_getD_getElem?] at h37
            go_simp
            exact hK _ W (Below.refl _ W) rfl
          · as_aux_lemma =>
            refine Seq.UpOb.guarded (d := 38) (by decide) (fun _ _ _ h _ => h) (fun _ _ h => h) rfl rfl (fun a W hl => hl 38 (by decide)) fun a W m hR _ hl K hK => ?_
            have h5 : a.tmps.getD 5 undef = (.string (bstr (nmT 111 la))) := hl 5 (by decide)
            have h38 : a.tmps.getD 38 undef = (.bool true) := hl 38 (by decide)
            replace hK : ∀ v W2, Below W.heap.size W W2 → v = (.string (bstr (nmT 111 la))) → K (a.put (some 39) v) W2 := fun v W2 h1 h2 => hK v W2 h1 (fun d hd => by cases hd; exact h2)
            clear hl
            simp only [Array.getD_eq_getD_getElem?] at h5 h38
            go_simp
            exact hK _ W (Below.refl _ W) rfl
          · as_aux_lemma =>
            refine Seq.UpOb.guarded (d := 38) (by decide) (fun _ _ _ h _ => h) (fun _ _ h => h) rfl rfl (fun a W hl => hl 38 (by decide)) fun a W m hR _ hl K hK => ?_
            have h6 : a.tmps.getD 6 undef = (.string (bstr (nmT 111 lb))) := hl 6 (by decide)
            have h38 : a.tmps.getD 38 undef = (.bool true) := hl 38 (by decide)
            replace hK : ∀ v W2, Below W.heap.size W W2 → v = (.string (bstr (nmT 111 lb))) → K (a.put (some 40) v) W2 := fun v W2 h1 h2 => hK v W2 h1 (fun d hd => by cases hd; exact h2)
            clear hl
            simp only [Array.getD_eq_getD_getElem?] at h6 h38
            go_simp
            exact hK _ W (Below.refl _ W) rfl
          · as_aux_lemma =>
            refine Seq.UpOb.guarded (d := 38) (by decide) (fun _ _ _ h _ => h) (fun _ _ h => h) rfl rfl (fun a W hl => hl 38 (by decide)) fun a W m hR _ hl K hK => ?_
            have h39 : a.tmps.getD 39 undef = (.string (bstr (nmT 111 la))) := hl 39 (by decide)
            have h40 : a.tmps.getD 40 undef = (.string (bstr (nmT 111 lb))) := hl 40 (by decide)
            have h38 : a.tmps.getD 38 undef = (.bool true) := hl 38 (by decide)
            replace hK : ∀ v W2, Below W.heap.size W W2 → v = (.bool (la == lb)) → K (a.put (some 41) v) W2 := fun v W2 h1 h2 => hK v W2 h1 (fun d hd => by cases hd; exact h2)
            clear hl
            exact wp_eqS (.tmp 39) (.tmp 40) 9 rfl _ _ _ (nm_eq 111 la lb) h39 h40 (hK _ W (Below.refl _ W) rfl)
          · as_aux_lemma =>
            refine Seq.UpOb.guarded (d := 38) (by decide) (fun _ _ _ h _ => h) (fun _ _ h => h) rfl rfl (fun a W hl => hl 38 (by decide)) fun a W m hR _ hl K hK => ?_
            have h2 : a.tmps.getD 2 undef = (.pointer (some ⟨ga, 0, none⟩)) := hl 2 (by decide)
            have h38 : a.tmps.getD 38 undef = (.bool true) := hl 38 (by decide)
            replace hK : ∀ v W2, Below W.heap.size W W2 → v = (.agg (la.map U).toArray) → K (a.put (some 42) v) W2 := fun v W2 h1 h2 => hK v W2 h1 (fun d hd => by cases hd; exact h2)
            clear hl
            exact wp_load_row 25 (.tmp 2) rfl ga h2 25 _ (0, 0) _ (BA.out W ⟨hR.os, hR.tape, hR.output, hR.size, fun k hk => hR.block k hk⟩) Try.underlying25 rfl HIA.out (hK _ W (Below.refl _ W) rfl)
          · as_aux_lemma =>
            refine Seq.UpOb.guarded (d := 38) (by decide) (fun _ _ _ h _ => h) (fun _ _ h => h) rfl rfl (fun a W hl => hl 38 (by decide)) fun a W m hR _ hl K hK => ?_
            have h3 : a.tmps.getD 3 undef = (.pointer (some ⟨gb, 0, none⟩)) := hl 3 (by decide)
            have h38 : a.tmps.getD 38 undef = (.bool true) := hl 38 (by decide)
            replace hK : ∀ v W2, Below W.heap.size W W2 → v = (.agg (lb.map U).toArray) → K (a.put (some 43) v) W2 := fun v W2 h1 h2 => hK v W2 h1 (fun d hd => by cases hd; exact h2)
            clear hl
            exact wp_load_row 25 (.tmp 3) rfl gb h3 25 _ (0, 0) _ (BB.out W ⟨hR.os, hR.tape, hR.output, hR.size, fun k hk => hR.block k hk⟩) Try.underlying25 rfl HIB.out (hK _ W (Below.refl _ W) rfl)
          · as_aux_lemma =>
            refine Seq.UpOb.guarded (d := 38) (by decide) (fun _ _ _ h _ => h) (fun _ _ h => h) rfl rfl (fun a W hl => hl 38 (by decide)) fun a W m hR _ hl K hK => ?_
            have h42 : a.tmps.getD 42 undef = (.agg (la.map U).toArray) := hl 42 (by decide)
            have h43 : a.tmps.getD 43 undef = (.agg (lb.map U).toArray) := hl 43 (by decide)
            have h38 : a.tmps.getD 38 undef = (.bool true) := hl 38 (by decide)
            replace hK : ∀ v W2, Below W.heap.size W W2 → v = (.bool (la == lb)) → K (a.put (some 44) v) W2 := fun v W2 h1 h2 => hK v W2 h1 (fun d hd => by cases hd; exact h2)
            clear hl
            exact wp_eqD .eql rfl (.tmp 42) (.tmp 43) 25 rfl la lb HLA.out HLB.out _ rfl h42 h43 (hK _ W (Below.refl _ W) rfl)
          · as_aux_lemma =>
            refine Seq.UpOb.guarded (d := 38) (by decide) (fun _ _ _ h _ => h) (fun _ _ h => h) rfl rfl (fun a W hl => hl 38 (by decide)) fun a W m hR _ hl K hK => ?_
            have h41 : a.tmps.getD 41 undef = (.bool (la == lb)) := hl 41 (by decide)
            have h44 : a.tmps.getD 44 undef = (.bool (la == lb)) := hl 44 (by decide)
            have h38 : a.tmps.getD 38 undef = (.bool true) := hl 38 (by decide)
            replace hK : ∀ v W2, Below W.heap.size W W2 → v = (.bool true) → K (a.put (some 45) v) W2 := fun v W2 h1 h2 => hK v W2 h1 (fun d hd => by cases hd; exact h2)
            clear hl
            exact wp_eqB (.tmp 41) (.tmp 44) 4 rfl _ _ rfl h41 h44 (hK _ W (Below.refl _ W) rfl)
          · as_aux_lemma =>
            refine Seq.UpOb.plain (by decide) (fun _ _ _ h _ => h) (fun _ _ h => h) rfl fun a W m hR _ hl K hK => ?_
            have h38 : a.tmps.getD 38 undef = (.bool true) := hl 38 (by decide)
            have h45 : a.tmps.getD 45 undef = (.bool true) := hl 45 (by decide)
            replace hK : ∀ v W2, Below W.heap.size W W2 → v = (.bool true) → K (a.put (some 46) v) W2 := fun v W2 h1 h2 => hK v W2 h1 (fun d hd => by cases hd; exact h2)
            clear hl
            simp only [Array.getD_eq_getD_getElem?] at h38 h45
            go_simp
            exact hK _ W (Below.refl _ W) rfl
          · as_aux_lemma =>
            refine Seq.UpOb.plain (by decide) (fun _ _ _ h _ => h) (fun _ _ h => h) rfl fun a W m hR _ hl K hK => ?_
            have h46 : a.tmps.getD 46 undef = (.bool true) := hl 46 (by decide)
            replace hK : ∀ v W2, Below W.heap.size W W2 → v = (.bool true) → K (a.put (some 47) v) W2 := fun v W2 h1 h2 => hK v W2 h1 (fun d hd => by cases hd; exact h2)
            clear hl
            simp only [Array.getD_eq_getD_getElem?] at h46
            go_simp
            exact hK _ W (Below.refl _ W) rfl
          · as_aux_lemma =>
            refine Seq.UpOb.guarded (d := 47) (by decide) (fun _ _ _ h _ => h) (fun _ _ h => h) rfl rfl (fun a W hl => hl 47 (by decide)) fun a W m hR _ hl K hK => ?_
            have h2 : a.tmps.getD 2 undef = (.pointer (some ⟨ga, 0, none⟩)) := hl 2 (by decide)
            have h47 : a.tmps.getD 47 undef = (.bool true) := hl 47 (by decide)
            replace hK : ∀ v W2, Below W.heap.size W W2 → v = (.agg (la.map U).toArray) → K (a.put (some 48) v) W2 := fun v W2 h1 h2 => hK v W2 h1 (fun d hd => by cases hd; exact h2)
            clear hl
            exact wp_load_row 25 (.tmp 2) rfl ga h2 25 _ (0, 0) _ (BA.out W ⟨hR.os, hR.tape, hR.output, hR.size, fun k hk => hR.block k hk⟩) Try.underlying25 rfl HIA.out (hK _ W (Below.refl _ W) rfl)
          · as_aux_lemma =>
            refine Seq.UpOb.guarded (d := 47) (by decide) (fun _ _ _ h _ => h) (fun _ _ h => h) rfl rfl (fun a W hl => hl 47 (by decide)) fun a W m hR _ hl K hK => ?_
            have h48 : a.tmps.getD 48 undef = (.agg (la.map U).toArray) := hl 48 (by decide)
            have h47 : a.tmps.getD 47 undef = (.bool true) := hl 47 (by decide)
            replace hK : ∀ v W2, Below W.heap.size W W2 → v = (.string (bstr (nmT 112 la))) → K (a.put (some 49) v) W2 := fun v W2 h1 h2 => hK v W2 h1 (fun d hd => by cases hd; exact h2)
            clear hl
            simp only [Array.getD_eq_getD_getElem?] at h48 h47
            go_simp
            refine (pack_walk W la HLA.out).mono ?_
            rintro e w4 ⟨rfl, hb4⟩
            exact hK _ w4 hb4 rfl
          · as_aux_lemma =>
            refine Seq.UpOb.guarded (d := 47) (by decide) (fun _ _ _ h _ => h) (fun _ _ h => h) rfl rfl (fun a W hl => hl 47 (by decide)) fun a W m hR _ hl K hK => ?_
            have h3 : a.tmps.getD 3 undef = (.pointer (some ⟨gb, 0, none⟩)) := hl 3 (by decide)
            have h47 : a.tmps.getD 47 undef = (.bool true) := hl 47 (by decide)
            replace hK : ∀ v W2, Below W.heap.size W W2 → v = (.agg (lb.map U).toArray) → K (a.put (some 50) v) W2 := fun v W2 h1 h2 => hK v W2 h1 (fun d hd => by cases hd; exact h2)
            clear hl
            exact wp_load_row 25 (.tmp 3) rfl gb h3 25 _ (0, 0) _ (BB.out W ⟨hR.os, hR.tape, hR.output, hR.size, fun k hk => hR.block k hk⟩) Try.underlying25 rfl HIB.out (hK _ W (Below.refl _ W) rfl)
          · as_aux_lemma =>
            refine Seq.UpOb.guarded (d := 47) (by decide) (fun _ _ _ h _ => h) (fun _ _ h => h) rfl rfl (fun a W hl => hl 47 (by decide)) fun a W m hR _ hl K hK => ?_
            have h50 : a.tmps.getD 50 undef = (.agg (lb.map U).toArray) := hl 50 (by decide)
            have h47 : a.tmps.getD 47 undef = (.bool true) := hl 47 (by decide)
            replace hK : ∀ v W2, Below W.heap.size W W2 → v = (.string (bstr (nmT 112 lb))) → K (a.put (some 51) v) W2 := fun v W2 h1 h2 => hK v W2 h1 (fun d hd => by cases hd; exact h2)
            clear hl
            simp only [Array.getD_eq_getD_getElem?] at h50 h47
            go_simp
            refine (pack_walk W lb HLB.out).mono ?_
            rintro e w4 ⟨rfl, hb4⟩
            exact hK _ w4 hb4 rfl
          · as_aux_lemma =>
            refine Seq.UpOb.guarded (d := 47) (by decide) (fun _ _ _ h _ => h) (fun _ _ h => h) rfl rfl (fun a W hl => hl 47 (by decide)) fun a W m hR _ hl K hK => ?_
            have h49 : a.tmps.getD 49 undef = (.string (bstr (nmT 112 la))) := hl 49 (by decide)
            have h51 : a.tmps.getD 51 undef = (.string (bstr (nmT 112 lb))) := hl 51 (by decide)
            have h47 : a.tmps.getD 47 undef = (.bool true) := hl 47 (by decide)
            replace hK : ∀ v W2, Below W.heap.size W W2 → v = (.bool (lt32 la lb)) → K (a.put (some 52) v) W2 := fun v W2 h1 h2 => hK v W2 h1 (fun d hd => by cases hd; exact h2)
            clear hl
            exact wp_lsS (.tmp 49) (.tmp 51) 9 rfl _ _ _ (nm_lt 112 la lb HLL.out) h49 h51 (hK _ W (Below.refl _ W) rfl)
          · as_aux_lemma =>
            refine Seq.UpOb.guarded (d := 47) (by decide) (fun _ _ _ h _ => h) (fun _ _ h => h) rfl rfl (fun a W hl => hl 47 (by decide)) fun a W m hR _ hl K hK => ?_
            have h7 : a.tmps.getD 7 undef = (.bool false) := hl 7 (by decide)
            have h47 : a.tmps.getD 47 undef = (.bool true) := hl 47 (by decide)
            replace hK : ∀ v W2, Below W.heap.size W W2 → v = (.bool false) → K (a.put (some 53) v) W2 := fun v W2 h1 h2 => hK v W2 h1 (fun d hd => by cases hd; exact h2)
            clear hl
            simp only [Array.getD_eq_getD_getElem?] at h7 h47
            go_simp
            exact hK _ W (Below.refl _ W) rfl
          · as_aux_lemma =>
            refine Seq.UpOb.guarded (d := 47) (by decide) (fun _ _ _ h _ => h) (fun _ _ h => h) rfl rfl (fun a W hl => hl 47 (by decide)) fun a W m hR _ hl K hK => ?_
            have h52 : a.tmps.getD 52 undef = (.bool (lt32 la lb)) := hl 52 (by decide)
            have h53 : a.tmps.getD 53 undef = (.bool false) := hl 53 (by decide)
            have h47 : a.tmps.getD 47 undef = (.bool true) := hl 47 (by decide)
            replace hK : ∀ v W2, Below W.heap.size W W2 → v = (.bool true) → K (a.put (some 54) v) W2 := fun v W2 h1 h2 => hK v W2 h1 (fun d hd => by cases hd; exact h2)
            clear hl
            exact wp_eqB (.tmp 52) (.tmp 53) 4 rfl _ _ HQ.out h52 h53 (hK _ W (Below.refl _ W) rfl)
          · as_aux_lemma =>
            refine Seq.UpOb.plain (by decide) (fun _ _ _ h _ => h) (fun _ _ h => h) rfl fun a W m hR _ hl K hK => ?_
            have h47 : a.tmps.getD 47 undef = (.bool true) := hl 47 (by decide)
            have h54 : a.tmps.getD 54 undef = (.bool true) := hl 54 (by decide)
            replace hK : ∀ v W2, Below W.heap.size W W2 → v = (.bool true) → K (a.put (some 55) v) W2 := fun v W2 h1 h2 => hK v W2 h1 (fun d hd => by cases hd; exact h2)
            clear hl
            simp only [Array.getD_eq_getD_getElem?] at h47 h54
            go_simp
            exact hK _ W (Below.refl _ W) rfl
          · as_aux_lemma =>
            refine Seq.UpOb.plain (by decide) (fun _ _ _ h _ => h) (fun _ _ h => h) rfl fun a W m hR _ hl K hK => ?_
            have h55 : a.tmps.getD 55 undef = (.bool true) := hl 55 (by decide)
            replace hK : ∀ v W2, Below W.heap.size W W2 → v = (.bool true) → K (a.put (some 56) v) W2 := fun v W2 h1 h2 => hK v W2 h1 (fun d hd => by cases hd; exact h2)
            clear hl
            simp only [Array.getD_eq_getD_getElem?] at h55
            go_simp
            exact hK _ W (Below.refl _ W) rfl
          · as_aux_lemma =>
            refine Seq.UpOb.guarded (d := 56) (by decide) (fun _ _ _ h _ => h) (fun _ _ h => h) rfl rfl (fun a W hl => hl 56 (by decide)) fun a W m hR _ hl K hK => ?_
            have h5 : a.tmps.getD 5 undef = (.string (bstr (nmT 111 la))) := hl 5 (by decide)
            have h56 : a.tmps.getD 56 undef = (.bool true) := hl 56 (by decide)
            replace hK : ∀ v W2, Below W.heap.size W W2 → v = (.string (bstr (nmT 111 la))) → K (a.put (some 57) v) W2 := fun v W2 h1 h2 => hK v W2 h1 (fun d hd => by cases hd; exact h2)
            clear hl
            simp only [Array.getD_eq_getD_getElem?] at h5 h56
            go_simp
            exact hK _ W (Below.refl _ W) rfl
          · as_aux_lemma =>
            refine Seq.UpOb.guarded (d := 56) (by decide) (fun _ _ _ h _ => h) (fun _ _ h => h) rfl rfl (fun a W hl => hl 56 (by decide)) fun a W m hR _ hl K hK => ?_
            have h3 : a.tmps.getD 3 undef = (.pointer (some ⟨gb, 0, none⟩)) := hl 3 (by decide)
            have h56 : a.tmps.getD 56 undef = (.bool true) := hl 56 (by decide)
            replace hK : ∀ v W2, Below W.heap.size W W2 → v = (.agg (lb.map U).toArray) → K (a.put (some 58) v) W2 := fun v W2 h1 h2 => hK v W2 h1 (fun d hd => by cases hd; exact h2)
            clear hl
            exact wp_load_row 25 (.tmp 3) rfl gb h3 25 _ (0, 0) _ (BB.out W ⟨hR.os, hR.tape, hR.output, hR.size, fun k hk => hR.block k hk⟩) Try.underlying25 rfl HIB.out (hK _ W (Below.refl _ W) rfl)
          · as_aux_lemma =>
            refine Seq.UpOb.guarded (d := 56) (by decide) (fun _ _ _ h _ => h) (fun _ _ h => h) rfl rfl (fun a W hl => hl 56 (by decide)) fun a W m hR _ hl K hK => ?_
            have h58 : a.tmps.getD 58 undef = (.agg (lb.map U).toArray) := hl 58 (by decide)
            have h56 : a.tmps.getD 56 undef = (.bool true) := hl 56 (by decide)
            replace hK : ∀ v W2, Below W.heap.size W W2 → v = (.string (bstr (nmT 112 lb))) → K (a.put (some 59) v) W2 := fun v W2 h1 h2 => hK v W2 h1 (fun d hd => by cases hd; exact h2)
            clear hl
            simp only [Array.getD_eq_getD_getElem?] at h58 h56
            go_simp
            refine (pack_walk W lb HLB.out).mono ?_
            rintro e w4 ⟨rfl, hb4⟩
            exact hK _ w4 hb4 rfl
          · as_aux_lemma =>
            refine Seq.UpOb.guarded (d := 56) (by decide) (fun _ _ _ h _ => h) (fun _ _ h => h) rfl rfl (fun a W hl => hl 56 (by decide)) fun a W m hR _ hl K hK => ?_
            have h57 : a.tmps.getD 57 undef = (.string (bstr (nmT 111 la))) := hl 57 (by decide)
            have h59 : a.tmps.getD 59 undef = (.string (bstr (nmT 112 lb))) := hl 59 (by decide)
            have h56 : a.tmps.getD 56 undef = (.bool true) := hl 56 (by decide)
            replace hK : ∀ v W2, Below W.heap.size W W2 → v = (.bool true) → K (a.put (some 60) v) W2 := fun v W2 h1 h2 => hK v W2 h1 (fun d hd => by cases hd; exact h2)
            clear hl
            exact wp_lsS (.tmp 57) (.tmp 59) 9 rfl _ _ _ (nm_op la lb) h57 h59 (hK _ W (Below.refl _ W) rfl)
          · as_aux_lemma =>
            refine Seq.UpOb.plain (by decide) (fun _ _ _ h _ => h) (fun _ _ h => h) rfl fun a W m hR _ hl K hK => ?_
            have h56 : a.tmps.getD 56 undef = (.bool true) := hl 56 (by decide)
            have h60 : a.tmps.getD 60 undef = (.bool true) := hl 60 (by decide)
            replace hK : ∀ v W2, Below W.heap.size W W2 → v = (.bool true) → K (a.put (some 61) v) W2 := fun v W2 h1 h2 => hK v W2 h1 (fun d hd => by cases hd; exact h2)
            clear hl
            simp only [Array.getD_eq_getD_getElem?] at h56 h60
            go_simp
            exact hK _ W (Below.refl _ W) rfl
          · as_aux_lemma =>
            refine Seq.UpOb.plain (by decide) (fun _ _ _ h _ => h) (fun _ _ h => h) rfl fun a W m hR _ hl K hK => ?_
            have h61 : a.tmps.getD 61 undef = (.bool true) := hl 61 (by decide)
            replace hK : ∀ v W2, Below W.heap.size W W2 → v = (.bool true) → K (a.put (some 62) v) W2 := fun v W2 h1 h2 => hK v W2 h1 (fun d hd => by cases hd; exact h2)
            clear hl
            simp only [Array.getD_eq_getD_getElem?] at h61
            go_simp
            exact hK _ W (Below.refl _ W) rfl
          · as_aux_lemma =>
            refine Seq.UpOb.guarded (d := 62) (by decide) (fun _ _ _ h _ => h) (fun _ _ h => h) rfl rfl (fun a W hl => hl 62 (by decide)) fun a W m hR _ hl K hK => ?_
            have h5 : a.tmps.getD 5 undef = (.string (bstr (nmT 111 la))) := hl 5 (by decide)
            have h62 : a.tmps.getD 62 undef = (.bool true) := hl 62 (by decide)
            replace hK : ∀ v W2, Below W.heap.size W W2 → v = (.string (bstr (nmT 111 la))) → K (a.put (some 63) v) W2 := fun v W2 h1 h2 => hK v W2 h1 (fun d hd => by cases hd; exact h2)
            clear hl
            simp only [Array.getD_eq_getD_getElem?] at h5 h62
            go_simp
            exact hK _ W (Below.refl _ W) rfl
          · as_aux_lemma =>
            refine Seq.UpOb.guarded (d := 62) (by decide) (fun _ _ _ h _ => h) (fun _ _ h => h) rfl rfl (fun a W hl => hl 62 (by decide)) fun a W m hR _ hl K hK => ?_
            have h63 : a.tmps.getD 63 undef = (.string (bstr (nmT 111 la))) := hl 63 (by decide)
            have h62 : a.tmps.getD 62 undef = (.bool true) := hl 62 (by decide)
            replace hK : ∀ v W2, Below W.heap.size W W2 → v = (.bool false) → K (a.put (some 64) v) W2 := fun v W2 h1 h2 => hK v W2 h1 (fun d hd => by cases hd; exact h2)
            clear hl
            simp only [Array.getD_eq_getD_getElem?] at h63 h62
            go_simp
            refine (HNO.out W).mono ?_
            rintro e w4 ⟨rfl, hb4⟩
            exact hK _ w4 hb4 rfl
          · as_aux_lemma =>
            refine Seq.UpOb.guarded (d := 62) (by decide) (fun _ _ _ h _ => h) (fun _ _ h => h) rfl rfl (fun a W hl => hl 62 (by decide)) fun a W m hR _ hl K hK => ?_
            have h64 : a.tmps.getD 64 undef = (.bool false) := hl 64 (by decide)
            have h62 : a.tmps.getD 62 undef = (.bool true) := hl 62 (by decide)
            replace hK : ∀ v W2, Below W.heap.size W W2 → v = (.bool true) → K (a.put (some 65) v) W2 := fun v W2 h1 h2 => hK v W2 h1 (fun d hd => by cases hd; exact h2)
            clear hl
            simp only [Array.getD_eq_getD_getElem?] at h64 h62
            go_simp
            exact hK _ W (Below.refl _ W) rfl
          · as_aux_lemma =>
            refine Seq.UpOb.plain (by decide) (fun _ _ _ h _ => h) (fun _ _ h => h) rfl fun a W m hR _ hl K hK => ?_
            have h62 : a.tmps.getD 62 undef = (.bool true) := hl 62 (by decide)
            have h65 : a.tmps.getD 65 undef = (.bool true) := hl 65 (by decide)
            replace hK : ∀ v W2, Below W.heap.size W W2 → v = (.bool true) → K (a.put (some 66) v) W2 := fun v W2 h1 h2 => hK v W2 h1 (fun d hd => by cases hd; exact h2)
            clear hl
            simp only [Array.getD_eq_getD_getElem?] at h62 h65
            go_simp
            exact hK _ W (Below.refl _ W) rfl
          · as_aux_lemma =>
            refine Seq.UpOb.plain (by decide) (fun _ _ _ h _ => h) (fun _ _ h => h) rfl fun a W m hR _ hl K hK => ?_
            have h66 : a.tmps.getD 66 undef = (.bool true) := hl 66 (by decide)
            replace hK : ∀ v W2, Below W.heap.size W W2 → v = (.bool true) → K (a.put (some 4) v) W2 := fun v W2 h1 h2 => hK v W2 h1 (fun d hd => by cases hd; exact h2)
            clear hl
            simp only [Array.getD_eq_getD_getElem?] at h66
            go_simp
            exact hK _ W (Below.refl _ W) rfl
        · intro a Wz hd hsz hR hl _
          have h4 : a.tmps.getD 4 undef = .bool true := hl 4
          go_wp2
          refine bodyPost_ret (v := .bool true) ?_ hd ⟨rfl, HGA.out ▸ HB3.out.trans (Below.mono (show Below W.heap.size W Wz from ⟨hR.os, hR.tape, hR.output, hR.size, fun k hk => hR.block k hk⟩) HGW.out)⟩
          rw [results_tmp rfl, h4]
end Go.Proofs.Ytekhnacgejfmjaa
