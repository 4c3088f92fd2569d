/- Turns told from another beginning: the law's walk. -/
import Derived.Test.YtekhnacgejfmjaaE9
namespace Go.Proofs.Ytekhnacgejfmjaa
open Go.RowKit

def spI (x : Value) : Seq.Sp (fun _ _ => True) := ⟨fun v _ => v = x, fun _ _ _ h _ => h⟩
/-- The worlds of the two appends. -/
def Wd (w1 w46 w50 : World) : Nat → World
  | 0 => w1.drew
  | 1 => w1.drew.alloc (.cells #[] 37)
  | 2 => w46
  | _ => w50
theorem dsame_true (w : World) (v u : Value) (l m : List UInt32) (h : RV w v l) (h2 : RV w u m) (e : norm l = norm m) : Calls Try.prog 35 #[v, u] w fun e w' => e = .returned (.bool true) ∧ Below w.heap.size w w' := by
  have := dsame_rv w v u l m h h2
  unfold sam at this
  rw [decide_eq_true e] at this
  exact this
/-- What is asked of a turn and the same one told from elsewhere. -/
structure Facts (l m : List UInt32) (d x : UInt32) : Prop where
  nm : norm m = norm l
  nx : nxt l d = nxt m d
  pv : prv l d = prv m d
  im : ins m d [x] = ins l d [x]
  mm : mir m = mir l
  wm : wo (ins l d [x]) [x] = norm l
  ln : m.length = l.length
theorem Facts.nil (d x : UInt32) : Facts [] [] d x := ⟨rfl, rfl, rfl, rfl, rfl, wo_ins [] x List.nodup_nil (by simp) d, rfl⟩
theorem Facts.rot (l : List UInt32) (x : UInt32) (hn : l.Nodup) (hx : x ∉ l) (k j : Nat) (hk : k ≤ l.length) (hj : j < l.length) : Facts l (rot l k) (l.getD j 0) x := by
  have h1 := nxt_rot l hn k j hk hj
  have h2 := nxt_rot l hn 0 j (by omega) hj
  have h3 := prv_rot l hn k j hk hj
  have h4 := prv_rot l hn 0 j (by omega) hj
  rw [rot_zero] at h2 h4
  exact ⟨norm_rot l hn k hk, by rw [h1, h2], by rw [h3, h4], ins_rot l x hn hx k j hk hj, mir_rot l hn k hk, wo_ins l x hn hx _, rot_length l k hk⟩
theorem RV.fresh1 (w : World) (x : UInt32) : RV (w.alloc (.cells #[V x] 37)) (.slice (some ⟨w.heap.size, 0, none⟩) 1 1) [x] := RV.fresh w [x] 1 rfl (by simp)
theorem undef_no (b : Bool) : ¬ undef = Value.bool b := fun h => by cases h
theorem undef_some {C : Prop} {b : Bool} (h : some undef = some (Value.bool b)) : C := absurd (Option.some.inj h) (undef_no b)
theorem RV.parts {w : World} {v : Value} {l : List UInt32} (h : RV w v l) : ∃ A c, v = .slice A l.length c ∧ l.length ≤ c ∧ Rd w A l := h
attribute [local irreducible] V
attribute [local irreducible] RV
set_option maxRecDepth 100000 in
set_option maxHeartbeats 8000000 in
theorem begins_walk (w : World) (v : Value) (l : List UInt32) (b : UInt8) (d x : UInt32) (h : RV w v l) (hl : l.length ≤ 60) :
    Calls Try.prog 9 #[v, .int .u8 (b.toNat : Int), V d, V x] w fun e w' => e = .returned (.bool true) ∧ Below w.heap.size w w' := by
  have hmm := @run_makeMap Try.prog
  have HRV := Lib.hid h
  obtain ⟨A, c, rfl, hc, hr⟩ := h.parts
  have HR := Lib.hid hr
  have HC := Lib.hid hc
  clear hr hc
  go_enter Try.func9, Try.ntmps9
  go_wp2_with (first
    | (go_at_call 20; refine (awake_walk w).mono ?_; rintro e w0 ⟨rfl, hb⟩; have HB0 := Lib.hid hb; clear hb)
    | (refine wpList_insM rfl _ _ _ 51 4 rfl Try.underlying51 w0.heap.size 0 _ x (.bool true) rfl rfl rfl (Mu.empty w0) (by decide) ?_; intro wa hma hxa hsa; have HMA := Lib.hid hma; have HXA := Lib.hid hxa; have HSA := Lib.hid hsa; clear hma hxa hsa))
  have HMS : Hid (Mu wa w0.heap.size 1 (seen ([x] ++ l.take 0))) := by
    have e := seen_put [] ([x] ++ l.take 0) x (by simp)
    rw [seen_nil] at e
    rw [← e]
    exact HMA.out
  have HBA : Hid (Below w.heap.size w wa) := Ex.below (HB0.out.alloc HB0.out.size _) HXA.out HB0.out.size (by have := HB0.out.size; simp; omega)
  generalize hmb : w0.heap.size = mb at *
  have HMB : Hid (w.heap.size ≤ mb) := by show _ ≤ _; rw [← hmb]; exact HB0.out.size
  clear hmb HMA HXA HSA HB0
  go_loopw [24] (fun i wr => ∃ k : Nat, k ≤ l.length ∧ i = .int .i64 k ∧ Mu wr mb (k + 1) (seen ([x] ++ l.take k)) ∧ ([x] ++ l.take k).Nodup ∧ Below w.heap.size w wr) (fun i _ => l.length - (intOf i).toNat)
  case atStart => exact ⟨0, Nat.zero_le _, rfl, HMS.out, by simp, HBA.out⟩
  case round =>
    obtain ⟨k, hk, rfl, hmu, hnd, hb⟩ := hrel
    have HM := Lib.hid hmu
    have HN := Lib.hid hnd
    have HB := Lib.hid hb
    clear hmu hnd hb
    by_cases hlt : k < l.length
    · obtain ⟨b1, o1, rfl, hcell⟩ := (HR.out.kept HB.out (Nat.le_refl _)).spot (by omega)
      have hc1 := hcell k hlt
      rw [getD_at hlt] at hc1
      have HS : Hid (l.take (k + 1) = l.take k ++ [l.getD k 0]) := by show _ = _; rw [← getD_at hlt]; exact List.take_succ_eq_append_getElem hlt
      clear hcell
      generalize l.getD k 0 = y at *
      by_cases hy : y ∈ [x] ++ l.take k
      · have hq2 := look51 (w := wr) (mb := mb) (n := k + 1) HM.out y true (decide_eq_true hy)
        clear hy
        go_wp2
        go_ret
        exact ⟨rfl, HB.out⟩
      · have hq2 := look51 (w := wr) (mb := mb) (n := k + 1) HM.out y false (decide_eq_false hy)
        have HN2 : Hid (([x] ++ l.take (k + 1)).Nodup) := by
          show List.Nodup _
          rw [HS.out, ← List.append_assoc, List.nodup_append]
          refine ⟨HN.out, by simp, fun a ha b hb e => hy ?_⟩
          rw [List.mem_singleton.1 hb] at e
          exact e ▸ ha
        clear hy
        go_wp2_with (refine wpList_mapM rfl _ _ _ 51 4 rfl Try.underlying51 mb (k + 1) _ y (.bool true) rfl rfl rfl HM.out (by unfold maxLen; omega) ?_; intro w2 hm2 hx2 hs2; have HM2 := Lib.hid hm2; have HX2 := Lib.hid hx2; have HS2 := Lib.hid hs2; clear hm2 hx2 hs2)
        go_roundw
        case rel =>
          refine ⟨k + 1, by omega, by go_num, ?_, HN2.out, Ex.below HB.out HX2.out HMB.out HB.out.size⟩
          have := HM2.out
          rw [seen_put ([x] ++ l.take k) ([x] ++ l.take (k + 1)) y (by intro z; rw [HS.out]; simp only [List.mem_append, List.mem_singleton]; constructor <;> (intro hh; rcases hh with hh | hh | hh <;> simp [hh]))] at this
          exact this
        case measure => simp [intOf]; omega
    · obtain rfl : k = l.length := by omega
      have hnd := HN.out
      rw [List.take_length, List.singleton_append, List.nodup_cons] at hnd
      have HND := Lib.hid hnd
      clear hnd HN HM
      by_cases h0 : l.length = 0
      · obtain rfl : l = [] := List.length_eq_zero_iff.1 h0
        go_wp2
        obtain ⟨v45, v46, v49, v50, w46, w50, hs45, hs49, hr46, hr50, hrv, hbw⟩ := two_appends wr A c [] 0 (by simp) HC.out (by simp) (HR.out.kept HB.out (Nat.le_refl _))
        have HS45 := Lib.hid hs45
        have HS49 := Lib.hid hs49
        have HR46 := Lib.hid hr46
        have HR50 := Lib.hid hr50
        have HMV := Lib.hid hrv
        have HBW := Lib.hid (HB.out.trans (Below.mono hbw HB.out.size))
        clear hs45 hs49 hr46 hr50 hrv hbw
        refine Seq.wp_region_seq (by kernel_rfl) (R := fun _ _ => True) (fun _ => trivial) (fun _ _ _ _ _ => trivial) (fun m W => W = Wd wr w46 w50 m) [0, 4, 8] [[], [0], [12], [43, 44], [42, 45], [0], [12], [47, 48], [46, 49], [50]] [(42, spI (.slice (some ⟨wr.heap.size, 0, none⟩) 0 0)), (43, spI (.slice A 0 c)), (44, spI (.int .i64 0)), (45, spI (v45)), (46, spI (v46)), (47, spI (.slice A 0 c)), (48, spI (.int .i64 0)), (49, spI (v49)), (50, spI (v50)), (13, spI (v50))] 149 rfl (by kernel_rfl) (by kernel_rfl) (by kernel_rfl) (by kernel_rfl) rfl ?_ ?_
        · refine ⟨?_, ?_, ?_, ?_, ?_, ?_, ?_, ?_, ?_, ?_, trivial⟩
          · as_aux_lemma =>
            refine Seq.UpOb.turns 0 rfl rfl fun a W hl _ hS K hK => ?_
            have hS : W = Wd wr w46 w50 0 := hS
            replace hK : ∀ v W2, v = (.slice (some ⟨wr.heap.size, 0, none⟩) 0 0) → W2 = Wd wr w46 w50 1 → K (a.put (some 42) v) W2 := fun v W2 h1 h2 => hK v W2 trivial (fun d hd => by cases hd; exact h1) h2
            clear hl
            subst hS
            show Oper.wp Try.prog _ a wr.drew K _
            go_simp
            exact hK _ _ rfl rfl
          · as_aux_lemma =>
            refine Seq.UpOb.still (fun _ => trivial) (by decide) rfl fun a W hl K hK => ?_
            replace hK : ∀ v, v = (.slice A 0 c) → K (a.put (some 43) v) W := fun v h1 => hK v (fun d hd => by cases hd; exact h1)
            have h0 : a.tmps.getD 0 undef = (.slice A 0 c) := hl 0 (by decide)
            clear hl
            simp only [Array.getD_eq_getD_getElem?] at h0
            go_simp
            exact hK _ rfl
          · as_aux_lemma =>
            refine Seq.UpOb.still (fun _ => trivial) (by decide) rfl fun a W hl K hK => ?_
            replace hK : ∀ v, v = (.int .i64 0) → K (a.put (some 44) v) W := fun v h1 => hK v (fun d hd => by cases hd; exact h1)
            have h12 : a.tmps.getD 12 undef = (.int .i64 0) := hl 12 (by decide)
            clear hl
            simp only [Array.getD_eq_getD_getElem?] at h12
            go_simp
            exact hK _ rfl
          · as_aux_lemma =>
            refine Seq.UpOb.still (fun _ => trivial) (by decide) rfl fun a W hl K hK => ?_
            replace hK : ∀ v, v = (v45) → K (a.put (some 45) v) W := fun v h1 => hK v (fun d hd => by cases hd; exact h1)
            have h43 : a.tmps.getD 43 undef = (.slice A 0 c) := hl 43 (by decide)
            have h44 : a.tmps.getD 44 undef = (.int .i64 0) := hl 44 (by decide)
            clear hl
            exact wp_slice_is 41 (.tmp 43) (some (.tmp 44)) none rfl _ v45 (some (.int .i64 0)) none h43 (congrArg some h44) rfl HS45.out (hK _ rfl)
          · as_aux_lemma =>
            refine Seq.UpOb.turns 1 rfl rfl fun a W hl _ hS K hK => ?_
            have hS : W = Wd wr w46 w50 1 := hS
            replace hK : ∀ v W2, v = (v46) → W2 = Wd wr w46 w50 2 → K (a.put (some 46) v) W2 := fun v W2 h1 h2 => hK v W2 trivial (fun d hd => by cases hd; exact h1) h2
            have h42 : a.tmps.getD 42 undef = (.slice (some ⟨wr.heap.size, 0, none⟩) 0 0) := hl 42 (by decide)
            have h45 : a.tmps.getD 45 undef = (v45) := hl 45 (by decide)
            clear hl
            subst hS
            exact wp_append_is (.tmp 42) (.tmp 45) rfl rfl _ _ h42 h45 HR46.out (hK _ _ rfl rfl)
          · as_aux_lemma =>
            refine Seq.UpOb.still (fun _ => trivial) (by decide) rfl fun a W hl K hK => ?_
            replace hK : ∀ v, v = (.slice A 0 c) → K (a.put (some 47) v) W := fun v h1 => hK v (fun d hd => by cases hd; exact h1)
            have h0 : a.tmps.getD 0 undef = (.slice A 0 c) := hl 0 (by decide)
            clear hl
            simp only [Array.getD_eq_getD_getElem?] at h0
            go_simp
            exact hK _ rfl
          · as_aux_lemma =>
            refine Seq.UpOb.still (fun _ => trivial) (by decide) rfl fun a W hl K hK => ?_
            replace hK : ∀ v, v = (.int .i64 0) → K (a.put (some 48) v) W := fun v h1 => hK v (fun d hd => by cases hd; exact h1)
            have h12 : a.tmps.getD 12 undef = (.int .i64 0) := hl 12 (by decide)
            clear hl
            simp only [Array.getD_eq_getD_getElem?] at h12
            go_simp
            exact hK _ rfl
          · as_aux_lemma =>
            refine Seq.UpOb.still (fun _ => trivial) (by decide) rfl fun a W hl K hK => ?_
            replace hK : ∀ v, v = (v49) → K (a.put (some 49) v) W := fun v h1 => hK v (fun d hd => by cases hd; exact h1)
            have h47 : a.tmps.getD 47 undef = (.slice A 0 c) := hl 47 (by decide)
            have h48 : a.tmps.getD 48 undef = (.int .i64 0) := hl 48 (by decide)
            clear hl
            exact wp_slice_is 41 (.tmp 47) none (some (.tmp 48)) rfl _ v49 none (some (.int .i64 0)) h47 rfl (congrArg some h48) HS49.out (hK _ rfl)
          · as_aux_lemma =>
            refine Seq.UpOb.turns 2 rfl rfl fun a W hl _ hS K hK => ?_
            have hS : W = Wd wr w46 w50 2 := hS
            replace hK : ∀ v W2, v = (v50) → W2 = Wd wr w46 w50 3 → K (a.put (some 50) v) W2 := fun v W2 h1 h2 => hK v W2 trivial (fun d hd => by cases hd; exact h1) h2
            have h46 : a.tmps.getD 46 undef = (v46) := hl 46 (by decide)
            have h49 : a.tmps.getD 49 undef = (v49) := hl 49 (by decide)
            clear hl
            subst hS
            exact wp_append_is (.tmp 46) (.tmp 49) rfl rfl _ _ h46 h49 HR50.out (hK _ _ rfl rfl)
          · as_aux_lemma =>
            refine Seq.UpOb.still (fun _ => trivial) (by decide) rfl fun a W hl K hK => ?_
            replace hK : ∀ v, v = (v50) → K (a.put (some 13) v) W := fun v h1 => hK v (fun d hd => by cases hd; exact h1)
            have h50 : a.tmps.getD 50 undef = (v50) := hl 50 (by decide)
            clear hl
            simp only [Array.getD_eq_getD_getElem?] at h50
            go_simp
            exact hK _ rfl
        · intro a W hd hsz _ hl hS0
          have hl' : ∀ t, Seq.SpOf _ _ t (a.tmps.getD t undef) W := hl
          have htm := Seq.tmps_eq (hsz.trans rfl) [42, 43, 44, 45, 46, 47, 48, 49, 50, 13] [(42, .slice (some ⟨wr.heap.size, 0, none⟩) 0 0), (43, .slice A 0 c), (44, .int .i64 0), (45, v45), (46, v46), (47, .slice A 0 c), (48, .int .i64 0), (49, v49), (50, v50), (13, v50)] rfl rfl (by decide) 149 rfl (by decide) hl' (by
            intro p hp
            simp only [List.mem_cons, List.not_mem_nil, or_false] at hp
            rcases hp with rfl | rfl | rfl | rfl | rfl | rfl | rfl | rfl | rfl | rfl
            · exact hl 42
            · exact hl 43
            · exact hl 44
            · exact hl 45
            · exact hl 46
            · exact hl 47
            · exact hl 48
            · exact hl 49
            · exact hl 50
            · exact hl 13
            )
          clear hl hl' hsz
          have hact : a = ⟨_, []⟩ := Seq.act_eq hd htm
          clear htm hd
          rw [hact]
          clear hact
          have hS : W = w50 := hS0
          clear hS0
          subst hS
          simp only [List.foldl, List.setIfInBounds_toArray, List.set]
          have hex : ∃ l m, Facts l m d x ∧ RV W (.slice A 0 c) l ∧ RV W v50 m ∧ l.length ≤ 60 := ⟨[], [], Facts.nil d x, HRV.out.kept HBW.out, HMV.out, by simp⟩
          obtain ⟨l, m, hfa, hl1, hm1, hl2⟩ := hex
          have HF := Lib.hid hfa
          have HL := Lib.hid hl1
          have HM := Lib.hid hm1
          have NM := Lib.hid HF.out.nm
          have IM := Lib.hid HF.out.im
          have MM := Lib.hid HF.out.mm
          have WM := Lib.hid HF.out.wm
          have HLX : Hid (l.length + [x].length ≤ 1000000) := by show _ ≤ _; simp only [List.length_singleton]; omega
          have HMX : Hid (m.length + [x].length ≤ 1000000) := by show _ ≤ _; rw [HF.out.ln]; exact HLX.out
          have e1 := eqT (x := nxt l d) (y := nxt m d) (by rw [HF.out.nx]; simp)
          have e2 := eqT (x := prv l d) (y := prv m d) (by rw [HF.out.pv]; simp)
          have g := run_guard
          have r6 := V_cells
          unfold Value.cells at r6
          have HC0 : Hid (Below W.heap.size W W) := Below.refl _ _
          clear hfa hl1 hm1 HS45 HS49 HR46 HR50 HMV HND HMS
          go_wp2_with (first
          | (go_at_call 24; refine (same_self _ _ _ _ (H16.out.kept S17.out) H17.out).mono ?_; rintro e w18 ⟨rfl, hb18⟩; have HC18 := Lib.hid (HC17.out.trans (Below.mono hb18 HC17.out.size)); clear hb18 HL HM)
          | (go_at_call 25; refine (normal_rv _ _ _ (HL.out.kept HC16.out)).mono ?_; rintro e w17 ⟨v17, rfl, h17, hb17⟩; have H17 := Lib.hid h17; clear h17; have HC17 := Lib.hid (HC16.out.trans (Below.mono hb17 HC16.out.size)); have S17 := Lib.hid hb17; clear hb17)
          | (go_at_call 33; refine (without_rv _ _ _ _ [x] (H15.out.kept ((Below.refl _ _).alloc (Nat.le_refl _) _)) (RV.fresh1 w15 x)).mono ?_; rintro e w16 ⟨v16, rfl, h16, hb16⟩; rw [WM.out] at h16; have H16 := Lib.hid h16; clear h16; have HC16 := Lib.hid ((HC15.out.alloc HC15.out.size _).trans (Below.mono hb16 (HC15.out.alloc HC15.out.size _).size)); have S16 := Lib.hid (Below.trans ((Below.refl w15.heap.size w15).alloc (Nat.le_refl _) (.cells #[V x] 37)) (Below.mono hb16 (by simp))); clear hb16)
          | (go_at_call 31; refine (insert_rv _ _ _ l [x] d (HL.out.kept (HC14.out.alloc HC14.out.size _)) (RV.fresh1 w14 x) HLX.out).mono ?_; rintro e w15 ⟨v15, rfl, h15, hb15⟩; have H15 := Lib.hid h15; clear h15; have HC15 := Lib.hid ((HC14.out.alloc HC14.out.size _).trans (Below.mono hb15 (HC14.out.alloc HC14.out.size _).size)); have S15 := Lib.hid (Below.trans ((Below.refl w14.heap.size w14).alloc (Nat.le_refl _) (.cells #[V x] 37)) (Below.mono hb15 (by simp))); clear hb15)
          | (go_at_call 24; refine (same_self _ _ _ _ (H12.out.kept S13.out) H13.out).mono ?_; rintro e w14 ⟨rfl, hb14⟩; have HC14 := Lib.hid (HC13.out.trans (Below.mono hb14 HC13.out.size)); have S14 := Lib.hid hb14; clear hb14)
          | (go_at_call 36; refine (mirror_rv _ _ m (HM.out.kept HC12.out)).mono ?_; rintro e w13 ⟨v13, rfl, h13, hb13⟩; rw [MM.out] at h13; have H13 := Lib.hid h13; clear h13; have HC13 := Lib.hid (HC12.out.trans (Below.mono hb13 HC12.out.size)); have S13 := Lib.hid hb13; clear hb13)
          | (go_at_call 36; refine (mirror_rv _ _ l (HL.out.kept HC11.out)).mono ?_; rintro e w12 ⟨v12, rfl, h12, hb12⟩; have H12 := Lib.hid h12; clear h12; have HC12 := Lib.hid (HC11.out.trans (Below.mono hb12 HC11.out.size)); have S12 := Lib.hid hb12; clear hb12)
          | (go_at_call 24; refine (same_self _ _ _ _ (H9.out.kept S10.out) H10.out).mono ?_; rintro e w11 ⟨rfl, hb11⟩; have HC11 := Lib.hid (HC10.out.trans (Below.mono hb11 HC10.out.size)); have S11 := Lib.hid hb11; clear hb11)
          | (go_at_call 31; refine (insert_rv _ _ _ m [x] d (HM.out.kept (HC9.out.alloc HC9.out.size _)) (RV.fresh1 w9 x) HMX.out).mono ?_; rintro e w10 ⟨v10, rfl, h10, hb10⟩; rw [IM.out] at h10; have H10 := Lib.hid h10; clear h10; have HC10 := Lib.hid ((HC9.out.alloc HC9.out.size _).trans (Below.mono hb10 (HC9.out.alloc HC9.out.size _).size)); have S10 := Lib.hid (Below.trans ((Below.refl w9.heap.size w9).alloc (Nat.le_refl _) (.cells #[V x] 37)) (Below.mono hb10 (by simp))); clear hb10)
          | (go_at_call 31; refine (insert_rv _ _ _ l [x] d (HL.out.kept (HC4.out.alloc HC4.out.size _)) (RV.fresh1 w4 x) HLX.out).mono ?_; rintro e w9 ⟨v9, rfl, h9, hb9⟩; have H9 := Lib.hid h9; clear h9; have HC9 := Lib.hid ((HC4.out.alloc HC4.out.size _).trans (Below.mono hb9 (HC4.out.alloc HC4.out.size _).size)); have S9 := Lib.hid (Below.trans ((Below.refl w4.heap.size w4).alloc (Nat.le_refl _) (.cells #[V x] 37)) (Below.mono hb9 (by simp))); clear hb9)
          | (have T := T7; go_at_call 29; refine (prev_rv _ _ m d (HM.out.kept HC4.out)).mono ?_; rintro e w' ⟨rfl, rfl⟩)
          | (go_at_call 29; refine (prev_rv _ _ l d (HL.out.kept HC4.out)).mono ?_; rintro e w' ⟨rfl, rfl⟩; have T7 := trivial)
          | (have T := T5; go_at_call 27; refine (next_rv _ _ m d (HM.out.kept HC4.out)).mono ?_; rintro e w' ⟨rfl, rfl⟩)
          | (go_at_call 27; refine (next_rv _ _ l d (HL.out.kept HC4.out)).mono ?_; rintro e w' ⟨rfl, rfl⟩; have T5 := trivial)
          | (go_at_call 35; refine (dsame_true _ _ _ l m (HL.out.kept HC3.out) (HM.out.kept HC3.out) NM.out.symm).mono ?_; rintro e w4 ⟨rfl, hb4⟩; have HC4 := Lib.hid (HC3.out.trans (Below.mono hb4 HC3.out.size)); have S4 := Lib.hid hb4; clear hb4)
          | (go_at_call 24; refine (same_self _ _ _ _ (H1.out.kept S2.out) H2.out).mono ?_; rintro e w3 ⟨rfl, hb3⟩; have HC3 := Lib.hid (HC2.out.trans (Below.mono hb3 HC2.out.size)); have S3 := Lib.hid hb3; clear hb3)
          | (go_at_call 25; refine (normal_rv _ _ _ (HM.out.kept HC1.out)).mono ?_; rintro e w2 ⟨v2, rfl, h2, hb2⟩; rw [NM.out] at h2; have H2 := Lib.hid h2; clear h2; have HC2 := Lib.hid (HC1.out.trans (Below.mono hb2 HC1.out.size)); have S2 := Lib.hid hb2; clear hb2)
          | (go_at_call 25; refine (normal_rv _ _ _ HL.out).mono ?_; rintro e w1 ⟨v1, rfl, h1, hb1⟩; have H1 := Lib.hid h1; clear h1; have HC1 := Lib.hid (HC0.out.trans (Below.mono hb1 HC0.out.size)); have S1 := Lib.hid hb1; clear hb1))
          all_goals first
            | (go_ret
               exact ⟨rfl, HBW.out.trans (Below.mono HC18.out HBW.out.size)⟩)
            | (apply undef_some
               assumption)
      · have hkk : b.toNat % l.length < l.length := Nat.mod_lt _ (by omega)
        have hby := conv_by b
        have hrm := rem_nat b.toNat l.length
        have hl0 : ¬ ((l.length : Int) = 0) := by omega
        generalize hkd : b.toNat % l.length = kk at *
        clear hkd
        have hgt : (0 : Int) < (l.length : Int) := by omega
        go_wp2
        obtain ⟨v45, v46, v49, v50, w46, w50, hs45, hs49, hr46, hr50, hrv, hbw⟩ := two_appends wr A c l kk (by omega) HC.out (by omega) (HR.out.kept HB.out (Nat.le_refl _))
        have HS45 := Lib.hid hs45
        have HS49 := Lib.hid hs49
        have HR46 := Lib.hid hr46
        have HR50 := Lib.hid hr50
        have HMV := Lib.hid hrv
        have HBW := Lib.hid (HB.out.trans (Below.mono hbw HB.out.size))
        clear hs45 hs49 hr46 hr50 hrv hbw hrm hby
        refine Seq.wp_region_seq (by kernel_rfl) (R := fun _ _ => True) (fun _ => trivial) (fun _ _ _ _ _ => trivial) (fun m W => W = Wd wr w46 w50 m) [0, 4, 8] [[], [0], [12], [43, 44], [42, 45], [0], [12], [47, 48], [46, 49], [50]] [(42, spI (.slice (some ⟨wr.heap.size, 0, none⟩) 0 0)), (43, spI (.slice A l.length c)), (44, spI (.int .i64 (kk : Nat))), (45, spI (v45)), (46, spI (v46)), (47, spI (.slice A l.length c)), (48, spI (.int .i64 (kk : Nat))), (49, spI (v49)), (50, spI (v50)), (13, spI (v50))] 149 rfl (by kernel_rfl) (by kernel_rfl) (by kernel_rfl) (by kernel_rfl) rfl ?_ ?_
        · refine ⟨?_, ?_, ?_, ?_, ?_, ?_, ?_, ?_, ?_, ?_, trivial⟩
          · as_aux_lemma =>
            refine Seq.UpOb.turns 0 rfl rfl fun a W hl _ hS K hK => ?_
            have hS : W = Wd wr w46 w50 0 := hS
            replace hK : ∀ v W2, v = (.slice (some ⟨wr.heap.size, 0, none⟩) 0 0) → W2 = Wd wr w46 w50 1 → K (a.put (some 42) v) W2 := fun v W2 h1 h2 => hK v W2 trivial (fun d hd => by cases hd; exact h1) h2
            clear hl
            subst hS
            show Oper.wp Try.prog _ a wr.drew K _
            go_simp
            exact hK _ _ rfl rfl
          · as_aux_lemma =>
            refine Seq.UpOb.still (fun _ => trivial) (by decide) rfl fun a W hl K hK => ?_
            replace hK : ∀ v, v = (.slice A l.length c) → K (a.put (some 43) v) W := fun v h1 => hK v (fun d hd => by cases hd; exact h1)
            have h0 : a.tmps.getD 0 undef = (.slice A l.length c) := hl 0 (by decide)
            clear hl
            simp only [Array.getD_eq_getD_getElem?] at h0
            go_simp
            exact hK _ rfl
          · as_aux_lemma =>
            refine Seq.UpOb.still (fun _ => trivial) (by decide) rfl fun a W hl K hK => ?_
            replace hK : ∀ v, v = (.int .i64 (kk : Nat)) → K (a.put (some 44) v) W := fun v h1 => hK v (fun d hd => by cases hd; exact h1)
            have h12 : a.tmps.getD 12 undef = (.int .i64 (kk : Nat)) := hl 12 (by decide)
            clear hl
            simp only [Array.getD_eq_getD_getElem?] at h12
            go_simp
            exact hK _ rfl
          · as_aux_lemma =>
            refine Seq.UpOb.still (fun _ => trivial) (by decide) rfl fun a W hl K hK => ?_
            replace hK : ∀ v, v = (v45) → K (a.put (some 45) v) W := fun v h1 => hK v (fun d hd => by cases hd; exact h1)
            have h43 : a.tmps.getD 43 undef = (.slice A l.length c) := hl 43 (by decide)
            have h44 : a.tmps.getD 44 undef = (.int .i64 (kk : Nat)) := hl 44 (by decide)
            clear hl
            exact wp_slice_is 41 (.tmp 43) (some (.tmp 44)) none rfl _ v45 (some (.int .i64 (kk : Nat))) none h43 (congrArg some h44) rfl HS45.out (hK _ rfl)
          · as_aux_lemma =>
            refine Seq.UpOb.turns 1 rfl rfl fun a W hl _ hS K hK => ?_
            have hS : W = Wd wr w46 w50 1 := hS
            replace hK : ∀ v W2, v = (v46) → W2 = Wd wr w46 w50 2 → K (a.put (some 46) v) W2 := fun v W2 h1 h2 => hK v W2 trivial (fun d hd => by cases hd; exact h1) h2
            have h42 : a.tmps.getD 42 undef = (.slice (some ⟨wr.heap.size, 0, none⟩) 0 0) := hl 42 (by decide)
            have h45 : a.tmps.getD 45 undef = (v45) := hl 45 (by decide)
            clear hl
            subst hS
            exact wp_append_is (.tmp 42) (.tmp 45) rfl rfl _ _ h42 h45 HR46.out (hK _ _ rfl rfl)
          · as_aux_lemma =>
            refine Seq.UpOb.still (fun _ => trivial) (by decide) rfl fun a W hl K hK => ?_
            replace hK : ∀ v, v = (.slice A l.length c) → K (a.put (some 47) v) W := fun v h1 => hK v (fun d hd => by cases hd; exact h1)
            have h0 : a.tmps.getD 0 undef = (.slice A l.length c) := hl 0 (by decide)
            clear hl
            simp only [Array.getD_eq_getD_getElem?] at h0
            go_simp
            exact hK _ rfl
          · as_aux_lemma =>
            refine Seq.UpOb.still (fun _ => trivial) (by decide) rfl fun a W hl K hK => ?_
            replace hK : ∀ v, v = (.int .i64 (kk : Nat)) → K (a.put (some 48) v) W := fun v h1 => hK v (fun d hd => by cases hd; exact h1)
            have h12 : a.tmps.getD 12 undef = (.int .i64 (kk : Nat)) := hl 12 (by decide)
            clear hl
            simp only [Array.getD_eq_getD_getElem?] at h12
            go_simp
            exact hK _ rfl
          · as_aux_lemma =>
            refine Seq.UpOb.still (fun _ => trivial) (by decide) rfl fun a W hl K hK => ?_
            replace hK : ∀ v, v = (v49) → K (a.put (some 49) v) W := fun v h1 => hK v (fun d hd => by cases hd; exact h1)
            have h47 : a.tmps.getD 47 undef = (.slice A l.length c) := hl 47 (by decide)
            have h48 : a.tmps.getD 48 undef = (.int .i64 (kk : Nat)) := hl 48 (by decide)
            clear hl
            exact wp_slice_is 41 (.tmp 47) none (some (.tmp 48)) rfl _ v49 none (some (.int .i64 (kk : Nat))) h47 rfl (congrArg some h48) HS49.out (hK _ rfl)
          · as_aux_lemma =>
            refine Seq.UpOb.turns 2 rfl rfl fun a W hl _ hS K hK => ?_
            have hS : W = Wd wr w46 w50 2 := hS
            replace hK : ∀ v W2, v = (v50) → W2 = Wd wr w46 w50 3 → K (a.put (some 50) v) W2 := fun v W2 h1 h2 => hK v W2 trivial (fun d hd => by cases hd; exact h1) h2
            have h46 : a.tmps.getD 46 undef = (v46) := hl 46 (by decide)
            have h49 : a.tmps.getD 49 undef = (v49) := hl 49 (by decide)
            clear hl
            subst hS
            exact wp_append_is (.tmp 46) (.tmp 49) rfl rfl _ _ h46 h49 HR50.out (hK _ _ rfl rfl)
          · as_aux_lemma =>
            refine Seq.UpOb.still (fun _ => trivial) (by decide) rfl fun a W hl K hK => ?_
            replace hK : ∀ v, v = (v50) → K (a.put (some 13) v) W := fun v h1 => hK v (fun d hd => by cases hd; exact h1)
            have h50 : a.tmps.getD 50 undef = (v50) := hl 50 (by decide)
            clear hl
            simp only [Array.getD_eq_getD_getElem?] at h50
            go_simp
            exact hK _ rfl
        · intro a W hd hsz _ hl hS0
          have hl' : ∀ t, Seq.SpOf _ _ t (a.tmps.getD t undef) W := hl
          have htm := Seq.tmps_eq (hsz.trans rfl) [42, 43, 44, 45, 46, 47, 48, 49, 50, 13] [(42, .slice (some ⟨wr.heap.size, 0, none⟩) 0 0), (43, .slice A l.length c), (44, .int .i64 (kk : Nat)), (45, v45), (46, v46), (47, .slice A l.length c), (48, .int .i64 (kk : Nat)), (49, v49), (50, v50), (13, v50)] rfl rfl (by decide) 149 rfl (by decide) hl' (by
            intro p hp
            simp only [List.mem_cons, List.not_mem_nil, or_false] at hp
            rcases hp with rfl | rfl | rfl | rfl | rfl | rfl | rfl | rfl | rfl | rfl
            · exact hl 42
            · exact hl 43
            · exact hl 44
            · exact hl 45
            · exact hl 46
            · exact hl 47
            · exact hl 48
            · exact hl 49
            · exact hl 50
            · exact hl 13
            )
          clear hl hl' hsz
          have hact : a = ⟨_, []⟩ := Seq.act_eq hd htm
          clear htm hd
          rw [hact]
          clear hact
          have hS : W = w50 := hS0
          clear hS0
          subst hS
          simp only [List.foldl, List.setIfInBounds_toArray, List.set]
          have hd1 := conv37 (l.length : Int) (UInt32.ofNat l.length) (by rw [of_len _ hl])
          have hd2 := run_remV d (UInt32.ofNat l.length) (by rw [of_len _ hl]; omega)
          have hd3 := conv_back (d % UInt32.ofNat l.length)
          have hj : (d % UInt32.ofNat l.length).toNat < l.length := by rw [UInt32.toNat_mod, of_len _ hl]; exact Nat.mod_lt _ (by omega)
          generalize hje : (d % UInt32.ofNat l.length).toNat = j at *
          have HL := Lib.hid (HRV.out.kept HBW.out)
          obtain ⟨b2, o2, hA, hcell⟩ := (HR.out.kept HBW.out (Nat.le_refl _)).spot (by omega)
          have HF := Lib.hid (Facts.rot l x HND.out.2 HND.out.1 kk j (by omega) hj)
          have hpn := prv_nxt l HND.out.2 j hj
          have hni := nxt_ins l x HND.out.2 HND.out.1 j hj
          have hc1 := hcell j hj
          rw [getD_at hj] at hc1
          clear hje
          generalize l.getD j 0 = d1 at *
          generalize rot l kk = m at *
          have NM := Lib.hid HF.out.nm
          have IM := Lib.hid HF.out.im
          have MM := Lib.hid HF.out.mm
          have WM := Lib.hid HF.out.wm
          have HM : Hid (RV W v50 m) := HMV
          have HLX : Hid (l.length + [x].length ≤ 1000000) := by show _ ≤ _; simp only [List.length_singleton]; omega
          have HMX : Hid (m.length + [x].length ≤ 1000000) := by show _ ≤ _; rw [HF.out.ln]; exact HLX.out
          have e1 := eqT (x := nxt l d1) (y := nxt m d1) (by rw [HF.out.nx]; simp)
          have e2 := eqT (x := prv l d1) (y := prv m d1) (by rw [HF.out.pv]; simp)
          have e3 := eqT (x := prv l (nxt l d1)) (y := d1) (by rw [hpn]; simp)
          have e4 := eqT (x := nxt (ins l d1 [x]) d1) (y := x) (by rw [hni]; simp)
          have g := run_guard
          have r6 := V_cells
          unfold Value.cells at r6
          have ht : ((l.length : Int) == 0) = false := beq_false_of_ne (by omega)
          have HC0 : Hid (Below W.heap.size W W) := Below.refl _ _
          subst hA
          clear hcell hpn hni HS45 HS49 HR46 HR50 HMV HND HMS
          go_wp2_with (first
          | (go_at_call 27; refine (next_rv _ _ _ d1 H21.out).mono ?_; rintro e w' ⟨rfl, rfl⟩)
          | (go_at_call 31; refine (insert_rv _ _ _ l [x] d1 (HL.out.kept (HC18.out.alloc HC18.out.size _)) (RV.fresh1 w18 x) HLX.out).mono ?_; rintro e w21 ⟨v21, rfl, h21, hb21⟩; have H21 := Lib.hid h21; clear h21; have HC21 := Lib.hid ((HC18.out.alloc HC18.out.size _).trans (Below.mono hb21 (HC18.out.alloc HC18.out.size _).size)); have S21 := Lib.hid (Below.trans ((Below.refl w18.heap.size w18).alloc (Nat.le_refl _) (.cells #[V x] 37)) (Below.mono hb21 (by simp))); clear hb21)
          | (go_at_call 29; refine (prev_rv _ _ l (nxt l d1) (HL.out.kept HC18.out)).mono ?_; rintro e w' ⟨rfl, rfl⟩)
          | (go_at_call 27; refine (next_rv _ _ l d1 (HL.out.kept HC18.out)).mono ?_; rintro e w' ⟨rfl, rfl⟩)
          | (go_at_call 24; refine (same_self _ _ _ _ (H16.out.kept S17.out) H17.out).mono ?_; rintro e w18 ⟨rfl, hb18⟩; have HC18 := Lib.hid (HC17.out.trans (Below.mono hb18 HC17.out.size)); have S18 := Lib.hid hb18; clear hb18)
          | (go_at_call 25; refine (normal_rv _ _ _ (HL.out.kept HC16.out)).mono ?_; rintro e w17 ⟨v17, rfl, h17, hb17⟩; have H17 := Lib.hid h17; clear h17; have HC17 := Lib.hid (HC16.out.trans (Below.mono hb17 HC16.out.size)); have S17 := Lib.hid hb17; clear hb17)
          | (go_at_call 33; refine (without_rv _ _ _ _ [x] (H15.out.kept ((Below.refl _ _).alloc (Nat.le_refl _) _)) (RV.fresh1 w15 x)).mono ?_; rintro e w16 ⟨v16, rfl, h16, hb16⟩; rw [WM.out] at h16; have H16 := Lib.hid h16; clear h16; have HC16 := Lib.hid ((HC15.out.alloc HC15.out.size _).trans (Below.mono hb16 (HC15.out.alloc HC15.out.size _).size)); have S16 := Lib.hid (Below.trans ((Below.refl w15.heap.size w15).alloc (Nat.le_refl _) (.cells #[V x] 37)) (Below.mono hb16 (by simp))); clear hb16)
          | (go_at_call 31; refine (insert_rv _ _ _ l [x] d1 (HL.out.kept (HC14.out.alloc HC14.out.size _)) (RV.fresh1 w14 x) HLX.out).mono ?_; rintro e w15 ⟨v15, rfl, h15, hb15⟩; have H15 := Lib.hid h15; clear h15; have HC15 := Lib.hid ((HC14.out.alloc HC14.out.size _).trans (Below.mono hb15 (HC14.out.alloc HC14.out.size _).size)); have S15 := Lib.hid (Below.trans ((Below.refl w14.heap.size w14).alloc (Nat.le_refl _) (.cells #[V x] 37)) (Below.mono hb15 (by simp))); clear hb15)
          | (go_at_call 24; refine (same_self _ _ _ _ (H12.out.kept S13.out) H13.out).mono ?_; rintro e w14 ⟨rfl, hb14⟩; have HC14 := Lib.hid (HC13.out.trans (Below.mono hb14 HC13.out.size)); have S14 := Lib.hid hb14; clear hb14)
          | (go_at_call 36; refine (mirror_rv _ _ m (HM.out.kept HC12.out)).mono ?_; rintro e w13 ⟨v13, rfl, h13, hb13⟩; rw [MM.out] at h13; have H13 := Lib.hid h13; clear h13; have HC13 := Lib.hid (HC12.out.trans (Below.mono hb13 HC12.out.size)); have S13 := Lib.hid hb13; clear hb13)
          | (go_at_call 36; refine (mirror_rv _ _ l (HL.out.kept HC11.out)).mono ?_; rintro e w12 ⟨v12, rfl, h12, hb12⟩; have H12 := Lib.hid h12; clear h12; have HC12 := Lib.hid (HC11.out.trans (Below.mono hb12 HC11.out.size)); have S12 := Lib.hid hb12; clear hb12)
          | (go_at_call 24; refine (same_self _ _ _ _ (H9.out.kept S10.out) H10.out).mono ?_; rintro e w11 ⟨rfl, hb11⟩; have HC11 := Lib.hid (HC10.out.trans (Below.mono hb11 HC10.out.size)); have S11 := Lib.hid hb11; clear hb11)
          | (go_at_call 31; refine (insert_rv _ _ _ m [x] d1 (HM.out.kept (HC9.out.alloc HC9.out.size _)) (RV.fresh1 w9 x) HMX.out).mono ?_; rintro e w10 ⟨v10, rfl, h10, hb10⟩; rw [IM.out] at h10; have H10 := Lib.hid h10; clear h10; have HC10 := Lib.hid ((HC9.out.alloc HC9.out.size _).trans (Below.mono hb10 (HC9.out.alloc HC9.out.size _).size)); have S10 := Lib.hid (Below.trans ((Below.refl w9.heap.size w9).alloc (Nat.le_refl _) (.cells #[V x] 37)) (Below.mono hb10 (by simp))); clear hb10)
          | (go_at_call 31; refine (insert_rv _ _ _ l [x] d1 (HL.out.kept (HC4.out.alloc HC4.out.size _)) (RV.fresh1 w4 x) HLX.out).mono ?_; rintro e w9 ⟨v9, rfl, h9, hb9⟩; have H9 := Lib.hid h9; clear h9; have HC9 := Lib.hid ((HC4.out.alloc HC4.out.size _).trans (Below.mono hb9 (HC4.out.alloc HC4.out.size _).size)); have S9 := Lib.hid (Below.trans ((Below.refl w4.heap.size w4).alloc (Nat.le_refl _) (.cells #[V x] 37)) (Below.mono hb9 (by simp))); clear hb9)
          | (have T := T7; go_at_call 29; refine (prev_rv _ _ m d1 (HM.out.kept HC4.out)).mono ?_; rintro e w' ⟨rfl, rfl⟩)
          | (go_at_call 29; refine (prev_rv _ _ l d1 (HL.out.kept HC4.out)).mono ?_; rintro e w' ⟨rfl, rfl⟩; have T7 := trivial)
          | (have T := T5; go_at_call 27; refine (next_rv _ _ m d1 (HM.out.kept HC4.out)).mono ?_; rintro e w' ⟨rfl, rfl⟩)
          | (go_at_call 27; refine (next_rv _ _ l d1 (HL.out.kept HC4.out)).mono ?_; rintro e w' ⟨rfl, rfl⟩; have T5 := trivial)
          | (go_at_call 35; refine (dsame_true _ _ _ l m (HL.out.kept HC3.out) (HM.out.kept HC3.out) NM.out.symm).mono ?_; rintro e w4 ⟨rfl, hb4⟩; have HC4 := Lib.hid (HC3.out.trans (Below.mono hb4 HC3.out.size)); have S4 := Lib.hid hb4; clear hb4)
          | (go_at_call 24; refine (same_self _ _ _ _ (H1.out.kept S2.out) H2.out).mono ?_; rintro e w3 ⟨rfl, hb3⟩; have HC3 := Lib.hid (HC2.out.trans (Below.mono hb3 HC2.out.size)); have S3 := Lib.hid hb3; clear hb3)
          | (go_at_call 25; refine (normal_rv _ _ _ (HM.out.kept HC1.out)).mono ?_; rintro e w2 ⟨v2, rfl, h2, hb2⟩; rw [NM.out] at h2; have H2 := Lib.hid h2; clear h2; have HC2 := Lib.hid (HC1.out.trans (Below.mono hb2 HC1.out.size)); have S2 := Lib.hid hb2; clear hb2)
          | (go_at_call 25; refine (normal_rv _ _ _ HL.out).mono ?_; rintro e w1 ⟨v1, rfl, h1, hb1⟩; have H1 := Lib.hid h1; clear h1; have HC1 := Lib.hid (HC0.out.trans (Below.mono hb1 HC0.out.size)); have S1 := Lib.hid hb1; clear hb1))
          go_ret
          exact ⟨rfl, HBW.out.trans (Below.mono HC21.out HBW.out.size)⟩
end Go.Proofs.Ytekhnacgejfmjaa
