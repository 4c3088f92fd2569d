/- The document's Check. -/
import Derived.Test.YtcinbmekjlmdpaaGreatY07

/-! The document's Check. -/
namespace Go.Proofs.YtcinbmekjlmdpaaGreat
open Go.RowKit

theorem cn_low {x a : UInt32} (h : x < 1) : cn x a = 2 := by unfold cn; rw [if_pos (.inl h)]
theorem cn_high {x a : UInt32} (h : (1048576 : UInt32) < x) : cn x a = 2 := by unfold cn; rw [if_pos (.inr h)]
theorem cn_ord {x a : UInt32} (h : ¬ x < 1) (h2 : ¬ (1048576 : UInt32) < x) (h3 : x ≤ a) : cn x a = 19 := by unfold cn; rw [if_neg (fun q => q.elim h h2), if_pos h3]
theorem cn_ok {x a : UInt32} (h : ¬ x < 1) (h2 : ¬ (1048576 : UInt32) < x) (h3 : ¬ x ≤ a) : cn x a = 0 := by unfold cn; rw [if_neg (fun q => q.elim h h2), if_neg h3]
theorem not_le_zero {x : UInt32} (h : ¬ x < 1) : ¬ x ≤ 0 := by
  rw [UInt32.le_iff_toNat_le]; rw [UInt32.lt_iff_toNat_lt] at h
  show ¬ x.toNat ≤ 0
  have : ¬ x.toNat < 1 := h
  omega
theorem pre_pos {vs : List UInt32} {k : Nat} (h : 0 < k) : pre vs k = vs.getD (k - 1) 0 := by unfold pre; rw [if_neg (by omega)]
theorem preE_pos {es : List Eg} {k : Nat} (h : 0 < k) : preE es k = (es.getD (k - 1) e0).id := by unfold preE; rw [if_neg (by omega)]
attribute [local irreducible] V
attribute [local irreducible] wpList in
set_option maxRecDepth 100000 in
set_option maxHeartbeats 4000000 in
/-- The document's Check. -/
theorem rcheck_walk (w : World) (v : Value) (g : Gr) (h : RG w v g) :
    Calls Tryz.prog 42 #[v] w fun e w' => e = .returned (.int .i64 (chk g)) ∧ Below w.heap.size w w' := by
  have HRG := Lib.hid h
  obtain ⟨A, c, B, d, rfl, _, _, hr, hre⟩ := h
  have hnv := hr.len
  have hne := hre.len
  have HB : Hid (Below w.heap.size w (w.alloc (.cells #[.slice A g.vs.length c, .slice B g.es.length d] 25))) := (Below.refl _ w).alloc (Nat.le_refl _) _
  have HBK : Hid (Blk (w.alloc (.cells #[.slice A g.vs.length c, .slice B g.es.length d] 25)) w.heap.size 25 #[.slice A g.vs.length c, .slice B g.es.length d]) := Blk.fresh _ _ _
  have HR := Lib.hid (hr.kept HB.out (Nat.le_refl _))
  have HRE := Lib.hid (hre.kept HB.out (Nat.le_refl _))
  clear hr hre
  by_cases hv64 : 64 < g.vs.length
  · have q1 : (64 : Int) < (g.vs.length : Int) := by omega
    rw [chk_many (.inl hv64)]
    clear hv64
    go_enter Tryz.func42, Tryz.ntmps42
    go_wp2
    go_ret
    exact ⟨rfl, HB.out⟩
  · have q1 : ¬ (64 : Int) < (g.vs.length : Int) := by omega
    by_cases he160 : 160 < g.es.length
    · have q2 : (160 : Int) < (g.es.length : Int) := by omega
      rw [chk_many (.inr he160)]
      clear hv64 he160
      go_enter Tryz.func42, Tryz.ntmps42
      go_wp2
      go_ret
      exact ⟨rfl, HB.out⟩
    · have q2 : ¬ (160 : Int) < (g.es.length : Int) := by omega
      have HN : Hid (¬ (64 < g.vs.length ∨ 160 < g.es.length)) := by rintro (h | h) <;> omega
      have hgd := run_guard
      clear hv64 he160
      go_enter Tryz.func42, Tryz.ntmps42
      go_wp2
      clear q1 q2
      generalize World.alloc _ _ = w1 at *
      have hg0 : w1.cell? ⟨w.heap.size, 0, none⟩ = some (.slice A g.vs.length c) := HBK.out.cell 0
      have hg1 : w1.cell? ⟨w.heap.size, 1, none⟩ = some (.slice B g.es.length d) := HBK.out.cell 1
      go_loop [20] (fun i => ∃ k : Nat, k ≤ g.vs.length ∧ i = .int .i64 k ∧ cv g.vs 0 = cv (g.vs.drop k) (pre g.vs k)) (fun i => g.vs.length - (intOf i).toNat)
      case atStart => exact ⟨0, Nat.zero_le _, rfl, by simp [pre_zero]⟩
      case round =>
        obtain ⟨k, hk, rfl, hcv⟩ := hrel
        have HCV := Lib.hid hcv
        clear hcv
        by_cases hlt : k < g.vs.length
        · obtain ⟨b, o, rfl, hc⟩ := HR.out.spot (by omega)
          have hcell := hc k hlt
          rw [getD_at hlt] at hcell
          have HS := Lib.hid (fun q => cv_stop hlt q)
          have HG := Lib.hid (fun q => cv_go hlt q)
          by_cases c1 : g.vs.getD k 0 < 1
          · have r1 := lss1T c1
            have hcn := cn_low (a := pre g.vs k) c1
            have HF := Lib.hid (chk_v HN.out (HCV.out.trans ((HS.out (by rw [hcn]; decide)).trans hcn)) (by decide))
            clear c1 hcn HS HG HCV hc
            generalize g.vs.getD k 0 = x at *
            go_wp2
            go_ret
            exact ⟨by rw [HF.out]; rfl, HB.out⟩
          · have r1 := lss1F c1
            by_cases c2 : (1048576 : UInt32) < g.vs.getD k 0
            · have r2 := gtrT c2
              have hcn := cn_high (a := pre g.vs k) c2
              have HF := Lib.hid (chk_v HN.out (HCV.out.trans ((HS.out (by rw [hcn]; decide)).trans hcn)) (by decide))
              clear c1 c2 hcn HS HG HCV hc
              generalize g.vs.getD k 0 = x at *
              go_wp2
              go_ret
              exact ⟨by rw [HF.out]; rfl, HB.out⟩
            · have r2 := gtrF c2
              by_cases hk0 : 0 < k
              · have q0 : (0 : Int) < (k : Int) := by omega
                have q1 : (1 : Int) ≤ (k : Int) := by omega
                have hq : (k : Int) - 1 = ((k - 1 : Nat) : Int) := by omega
                have hjn : k - 1 < g.vs.length := by omega
                have hcj := hc (k - 1) hjn
                rw [getD_at hjn] at hcj
                have hp := pre_pos (vs := g.vs) hk0
                by_cases c3 : g.vs.getD k 0 ≤ g.vs.getD (k - 1) 0
                · have r3 := leqT c3
                  have hcn := cn_ord c1 c2 (a := pre g.vs k) (by rw [hp]; exact c3)
                  have HF := Lib.hid (chk_v HN.out (HCV.out.trans ((HS.out (by rw [hcn]; decide)).trans hcn)) (by decide))
                  clear c1 c2 c3 hcn HS HG HCV hc hp
                  generalize g.vs.getD k 0 = x at *
                  generalize k - 1 = j at *
                  generalize g.vs.getD j 0 = y at *
                  go_wp2
                  go_ret
                  exact ⟨by rw [HF.out]; rfl, HB.out⟩
                · have r3 := leqF c3
                  have hcn := cn_ok c1 c2 (a := pre g.vs k) (by rw [hp]; exact c3)
                  have HG2 := Lib.hid (HCV.out.trans (HG.out hcn))
                  clear c1 c2 c3 hcn HS HG HCV hc hp
                  generalize g.vs.getD k 0 = x at *
                  generalize k - 1 = j at *
                  generalize g.vs.getD j 0 = y at *
                  go_wp2
                  clear hq
                  go_round
                  case rel => exact ⟨k + 1, by omega, by go_num, HG2.out⟩
                  case measure => simp [intOf]; omega
              · have q0 : ¬ (0 : Int) < (k : Int) := by omega
                have hp : pre g.vs k = 0 := by unfold pre; rw [if_pos (by omega)]
                have hcn := cn_ok c1 c2 (a := pre g.vs k) (by rw [hp]; exact not_le_zero c1)
                have HG2 := Lib.hid (HCV.out.trans (HG.out hcn))
                clear c1 c2 hcn HS HG HCV hc hp hk0
                generalize g.vs.getD k 0 = x at *
                go_wp2
                go_round
                case rel => exact ⟨k + 1, by omega, by go_num, HG2.out⟩
                case measure => simp [intOf]; omega
        · obtain rfl : k = g.vs.length := by omega
          have HV0 : Hid (cv g.vs 0 = 0) := by show _ = _; rw [HCV.out, List.drop_length]; rfl
          clear HCV
          go_wp2
          clear hg0 hg1
          go_loopw [47] (fun i wr => ∃ k : Nat, k ≤ g.es.length ∧ i = .int .i64 k ∧ ce g.vs g.es 0 = ce g.vs (g.es.drop k) (preE g.es k) ∧ Below w1.heap.size w1 wr) (fun i _ => g.es.length - (intOf i).toNat)
          case atStart => exact ⟨0, Nat.zero_le _, rfl, by simp [preE_zero], Below.refl _ _⟩
          case round =>
            obtain ⟨k, hk, rfl, hce, hb⟩ := hrel
            have HCE := Lib.hid hce
            have HBR := Lib.hid hb
            have HBW := Lib.hid (HB.out.trans (Below.mono hb HB.out.size))
            clear hce hb
            by_cases hlt : k < g.es.length
            · have hRE := HRE.out.kept HBR.out (Nat.le_refl _)
              have HREr := Lib.hid hRE
              obtain ⟨b, o, rfl, hc⟩ := hRE.spot (by omega)
              obtain ⟨hc1, hc2, hc3⟩ := hc k hlt
              have HC := Lib.hid hc
              have hbk := HBK.out.kept HBR.out HBK.out.lt
              have HBKr := Lib.hid hbk
              have hg0 : wr.cell? ⟨w.heap.size, 0, none⟩ = some (.slice A g.vs.length c) := hbk.cell 0
              have hg1 : wr.cell? ⟨w.heap.size, 1, none⟩ = some (.slice (some ⟨b, o, none⟩) g.es.length d) := hbk.cell 1
              have HS := Lib.hid (fun q => ce_stop (vs := g.vs) hlt q)
              have HS2 := Lib.hid (fun q q2 => ce_stop2 (vs := g.vs) hlt q q2)
              have HG := Lib.hid (fun q q2 => ce_go (vs := g.vs) hlt q q2)
              have hh := fun W (y : UInt32) hW => has_walk W (.agg #[.slice A g.vs.length c, .slice (some ⟨b, o, none⟩) g.es.length d]) g y hW
              have hz := zero39
              clear hc hbk
              by_cases c1 : (g.es.getD k e0).id < 1
              · have r1 := lss1T c1
                have hcn := cn_low (a := preE g.es k) c1
                have HF := Lib.hid (chk_e HN.out HV0.out (HCE.out.trans ((HS.out (by rw [hcn]; decide)).trans hcn)))
                clear c1 hcn hh HS HS2 HG HCE
                generalize g.es.getD k e0 = x at *
                go_wp2_with (refine wpList_store_fresh rfl 67 (.tmp 6) (.tmp 51) rfl #[V x.id, V x.a, V x.b] rfl rfl (by kernel_rfl) rfl (all3 _ _ _) ?_; intro w2 hb2 hs2 hk2; have HB2 := Lib.hid hb2; have HK2 := Lib.hid hk2; have HS2W := Lib.hid hs2; have c0 : w2.cell? ⟨wr.heap.size, 0, none⟩ = some (V x.id) := hk2.cell 0; have k0 : w2.cell? ⟨w.heap.size, 0, none⟩ = some (.slice A g.vs.length c) := (HBKr.out.kept hb2 HBKr.out.lt).cell 0; have k1 : w2.cell? ⟨w.heap.size, 1, none⟩ = some (.slice (some ⟨b, o, none⟩) g.es.length d) := (HBKr.out.kept hb2 HBKr.out.lt).cell 1; have c1 : w2.cell? ⟨wr.heap.size, 1, none⟩ = some (V x.a) := hk2.cell 1; have c2 : w2.cell? ⟨wr.heap.size, 2, none⟩ = some (V x.b) := hk2.cell 2; clear hb2 hs2 hk2)
                go_ret
                exact ⟨by rw [HF.out]; rfl, HBW.out.trans (Below.mono HB2.out HBW.out.size)⟩
              · have r1 := lss1F c1
                by_cases c2 : (1048576 : UInt32) < (g.es.getD k e0).id
                · have r2 := gtrT c2
                  have hcn := cn_high (a := preE g.es k) c2
                  have HF := Lib.hid (chk_e HN.out HV0.out (HCE.out.trans ((HS.out (by rw [hcn]; decide)).trans hcn)))
                  clear c1 c2 hcn hh HS HS2 HG HCE
                  generalize g.es.getD k e0 = x at *
                  go_wp2_with (refine wpList_store_fresh rfl 67 (.tmp 6) (.tmp 51) rfl #[V x.id, V x.a, V x.b] rfl rfl (by kernel_rfl) rfl (all3 _ _ _) ?_; intro w2 hb2 hs2 hk2; have HB2 := Lib.hid hb2; have HK2 := Lib.hid hk2; have HS2W := Lib.hid hs2; have c0 : w2.cell? ⟨wr.heap.size, 0, none⟩ = some (V x.id) := hk2.cell 0; have k0 : w2.cell? ⟨w.heap.size, 0, none⟩ = some (.slice A g.vs.length c) := (HBKr.out.kept hb2 HBKr.out.lt).cell 0; have k1 : w2.cell? ⟨w.heap.size, 1, none⟩ = some (.slice (some ⟨b, o, none⟩) g.es.length d) := (HBKr.out.kept hb2 HBKr.out.lt).cell 1; have c1 : w2.cell? ⟨wr.heap.size, 1, none⟩ = some (V x.a) := hk2.cell 1; have c2 : w2.cell? ⟨wr.heap.size, 2, none⟩ = some (V x.b) := hk2.cell 2; clear hb2 hs2 hk2)
                  go_ret
                  exact ⟨by rw [HF.out]; rfl, HBW.out.trans (Below.mono HB2.out HBW.out.size)⟩
                · have r2 := gtrF c2
                  by_cases hk0 : 0 < k
                  · have q0 : (0 : Int) < (k : Int) := by omega
                    have q1 : (1 : Int) ≤ (k : Int) := by omega
                    have hq : (k : Int) - 1 = ((k - 1 : Nat) : Int) := by omega
                    have hjn : k - 1 < g.es.length := by omega
                    have HCJ := Lib.hid (HC.out (k - 1) hjn).1
                    have HBLT : Hid (b < wr.heap.size) := World.block_lt_of_cell? _ _ HCJ.out
                    have hp := preE_pos (es := g.es) hk0
                    by_cases c3 : (g.es.getD k e0).id ≤ (g.es.getD (k - 1) e0).id
                    · have r3 := leqT c3
                      have hcn := cn_ord c1 c2 (a := preE g.es k) (by rw [hp]; exact c3)
                      have HF := Lib.hid (chk_e HN.out HV0.out (HCE.out.trans ((HS.out (by rw [hcn]; decide)).trans hcn)))
                      clear c1 c2 c3 hcn hh hp HS HS2 HG HCE HC
                      generalize g.es.getD k e0 = x at *
                      generalize k - 1 = j at *
                      generalize (g.es.getD j e0).id = y at *
                      go_wp2_with (refine wpList_store_fresh rfl 67 (.tmp 6) (.tmp 51) rfl #[V x.id, V x.a, V x.b] rfl rfl (by kernel_rfl) rfl (all3 _ _ _) ?_; intro w2 hb2 hs2 hk2; have HB2 := Lib.hid hb2; have HK2 := Lib.hid hk2; have HS2W := Lib.hid hs2; have c0 : w2.cell? ⟨wr.heap.size, 0, none⟩ = some (V x.id) := hk2.cell 0; have k0 : w2.cell? ⟨w.heap.size, 0, none⟩ = some (.slice A g.vs.length c) := (HBKr.out.kept hb2 HBKr.out.lt).cell 0; have k1 : w2.cell? ⟨w.heap.size, 1, none⟩ = some (.slice (some ⟨b, o, none⟩) g.es.length d) := (HBKr.out.kept hb2 HBKr.out.lt).cell 1; have c1 : w2.cell? ⟨wr.heap.size, 1, none⟩ = some (V x.a) := hk2.cell 1; have c2 : w2.cell? ⟨wr.heap.size, 2, none⟩ = some (V x.b) := hk2.cell 2; have cj : w2.cell? ⟨b, o + j * 3, none⟩ = some (V y) := (HB2.out.cell HBLT.out).trans HCJ.out; clear hb2 hs2 hk2)
                      go_quiet (fail)
                      have HBQ : Hid (Below wr.heap.size wr (w2.drewN nq)) := HB2.out.trans ⟨rfl, rfl, rfl, Nat.le_refl _, fun _ _ => rfl⟩
                      have HBKq : Hid (Blk (w2.drewN nq) w.heap.size 25 #[.slice A g.vs.length c, .slice (some ⟨b, o, none⟩) g.es.length d]) := (HBKr.out.kept HBQ.out HBKr.out.lt)
                      have HK2q : Hid (Blk (w2.drewN nq) wr.heap.size 67 #[V x.id, V x.a, V x.b]) := HK2.out
                      go_wp2
                      go_ret
                      exact ⟨by rw [HF.out]; rfl, HBW.out.trans (Below.mono HBQ.out HBW.out.size)⟩
                    · have r3 := leqF c3
                      have hcn := cn_ok c1 c2 (a := preE g.es k) (by rw [hp]; exact c3)
                      clear c1 c2 c3 hp
                      by_cases hab : (g.es.getD k e0).a = (g.es.getD k e0).b
                      · have e := eqT (x := (g.es.getD k e0).a) (y := (g.es.getD k e0).b) (by rw [hab]; simp)
                        have HF := Lib.hid (chk_e HN.out HV0.out (HCE.out.trans ((HS2.out hcn (by rw [en_same hab]; decide)).trans (en_same hab))))
                        clear hab hcn hh HC HS HS2 HG HCE
                        generalize g.es.getD k e0 = x at *
                        generalize k - 1 = j at *
                        generalize (g.es.getD j e0).id = y at *
                        go_wp2_with (refine wpList_store_fresh rfl 67 (.tmp 6) (.tmp 51) rfl #[V x.id, V x.a, V x.b] rfl rfl (by kernel_rfl) rfl (all3 _ _ _) ?_; intro w2 hb2 hs2 hk2; have HB2 := Lib.hid hb2; have HK2 := Lib.hid hk2; have HS2W := Lib.hid hs2; have c0 : w2.cell? ⟨wr.heap.size, 0, none⟩ = some (V x.id) := hk2.cell 0; have k0 : w2.cell? ⟨w.heap.size, 0, none⟩ = some (.slice A g.vs.length c) := (HBKr.out.kept hb2 HBKr.out.lt).cell 0; have k1 : w2.cell? ⟨w.heap.size, 1, none⟩ = some (.slice (some ⟨b, o, none⟩) g.es.length d) := (HBKr.out.kept hb2 HBKr.out.lt).cell 1; have c1 : w2.cell? ⟨wr.heap.size, 1, none⟩ = some (V x.a) := hk2.cell 1; have c2 : w2.cell? ⟨wr.heap.size, 2, none⟩ = some (V x.b) := hk2.cell 2; have cj : w2.cell? ⟨b, o + j * 3, none⟩ = some (V y) := (HB2.out.cell HBLT.out).trans HCJ.out; clear hb2 hs2 hk2)
                        go_quiet (fail)
                        have HBQ : Hid (Below wr.heap.size wr (w2.drewN nq)) := HB2.out.trans ⟨rfl, rfl, rfl, Nat.le_refl _, fun _ _ => rfl⟩
                        have HBKq : Hid (Blk (w2.drewN nq) w.heap.size 25 #[.slice A g.vs.length c, .slice (some ⟨b, o, none⟩) g.es.length d]) := (HBKr.out.kept HBQ.out HBKr.out.lt)
                        have HK2q : Hid (Blk (w2.drewN nq) wr.heap.size 67 #[V x.id, V x.a, V x.b]) := HK2.out
                        go_wp2
                        go_ret
                        exact ⟨by rw [HF.out]; rfl, HBW.out.trans (Below.mono HBQ.out HBW.out.size)⟩
                      · have e := eqF (x := (g.es.getD k e0).a) (y := (g.es.getD k e0).b) (by simpa using hab)
                        by_cases ha : (g.es.getD k e0).a ∈ g.vs
                        · have h1 := fun W hW => hh W (g.es.getD k e0).a hW
                          rw [decide_eq_true ha] at h1
                          by_cases hbm : (g.es.getD k e0).b ∈ g.vs
                          · have h2 := fun W hW => hh W (g.es.getD k e0).b hW
                            rw [decide_eq_true hbm] at h2
                            have HG2 := Lib.hid (HCE.out.trans (HG.out hcn (en_ok hab ha hbm)))
                            have HE1 := Lib.hid h1
                            have HE2 := Lib.hid h2
                            clear hab ha hbm hcn hh h1 h2 HC HS HS2 HG HCE
                            generalize g.es.getD k e0 = x at *
                            generalize k - 1 = j at *
                            generalize (g.es.getD j e0).id = y at *
                            go_wp2_with (refine wpList_store_fresh rfl 67 (.tmp 6) (.tmp 51) rfl #[V x.id, V x.a, V x.b] rfl rfl (by kernel_rfl) rfl (all3 _ _ _) ?_; intro w2 hb2 hs2 hk2; have HB2 := Lib.hid hb2; have HK2 := Lib.hid hk2; have HS2W := Lib.hid hs2; have c0 : w2.cell? ⟨wr.heap.size, 0, none⟩ = some (V x.id) := hk2.cell 0; have k0 : w2.cell? ⟨w.heap.size, 0, none⟩ = some (.slice A g.vs.length c) := (HBKr.out.kept hb2 HBKr.out.lt).cell 0; have k1 : w2.cell? ⟨w.heap.size, 1, none⟩ = some (.slice (some ⟨b, o, none⟩) g.es.length d) := (HBKr.out.kept hb2 HBKr.out.lt).cell 1; have c1 : w2.cell? ⟨wr.heap.size, 1, none⟩ = some (V x.a) := hk2.cell 1; have c2 : w2.cell? ⟨wr.heap.size, 2, none⟩ = some (V x.b) := hk2.cell 2; have cj : w2.cell? ⟨b, o + j * 3, none⟩ = some (V y) := (HB2.out.cell HBLT.out).trans HCJ.out; clear hb2 hs2 hk2)
                            go_quiet (fail)
                            have HBQ : Hid (Below wr.heap.size wr (w2.drewN nq)) := HB2.out.trans ⟨rfl, rfl, rfl, Nat.le_refl _, fun _ _ => rfl⟩
                            have HBKq : Hid (Blk (w2.drewN nq) w.heap.size 25 #[.slice A g.vs.length c, .slice (some ⟨b, o, none⟩) g.es.length d]) := (HBKr.out.kept HBQ.out HBKr.out.lt)
                            have HK2q : Hid (Blk (w2.drewN nq) wr.heap.size 67 #[V x.id, V x.a, V x.b]) := HK2.out
                            go_wp2_with (first
                              | (have T := HB3; go_at_call 92; refine (HE2.out _ (HRG.out.kept ((HBW.out.trans (Below.mono HBQ.out HBW.out.size)).trans (Below.mono HB3.out (HBW.out.trans (Below.mono HBQ.out HBW.out.size)).size)))).mono ?_; rintro e w4 ⟨rfl, hb4⟩; have HB4 := Lib.hid hb4; clear hb4)
                              | (go_at_call 92; refine (HE1.out _ (HRG.out.kept (HBW.out.trans (Below.mono HBQ.out HBW.out.size)))).mono ?_; rintro e w3 ⟨rfl, hb3⟩; have HB3 := Lib.hid hb3; have k3 : w3.cell? ⟨w.heap.size, 0, none⟩ = some (.slice A g.vs.length c) := (HBKq.out.kept hb3 HBKq.out.lt).cell 0; have k4 : w3.cell? ⟨w.heap.size, 1, none⟩ = some (.slice (some ⟨b, o, none⟩) g.es.length d) := (HBKq.out.kept hb3 HBKq.out.lt).cell 1; have d2 : w3.cell? ⟨wr.heap.size, 2, none⟩ = some (V x.b) := (HK2q.out.kept hb3 HK2q.out.lt).cell 2; clear hb3))
                            go_roundw
                            case rel => exact ⟨k + 1, by omega, by go_num, HG2.out, ((HBR.out.trans (Below.mono HBQ.out HBR.out.size)).trans (Below.mono HB3.out (HBR.out.trans (Below.mono HBQ.out HBR.out.size)).size)).trans (Below.mono HB4.out ((HBR.out.trans (Below.mono HBQ.out HBR.out.size)).trans (Below.mono HB3.out (HBR.out.trans (Below.mono HBQ.out HBR.out.size)).size)).size)⟩
                            case measure => simp [intOf]; omega
                          · have h2 := fun W hW => hh W (g.es.getD k e0).b hW
                            rw [decide_eq_false hbm] at h2
                            have HF := Lib.hid (chk_e HN.out HV0.out (HCE.out.trans ((HS2.out hcn (by rw [en_b hab hbm]; decide)).trans (en_b hab hbm))))
                            have HE1 := Lib.hid h1
                            have HE2 := Lib.hid h2
                            clear hab ha hbm hcn hh h1 h2 HC HS HS2 HG HCE
                            generalize g.es.getD k e0 = x at *
                            generalize k - 1 = j at *
                            generalize (g.es.getD j e0).id = y at *
                            go_wp2_with (refine wpList_store_fresh rfl 67 (.tmp 6) (.tmp 51) rfl #[V x.id, V x.a, V x.b] rfl rfl (by kernel_rfl) rfl (all3 _ _ _) ?_; intro w2 hb2 hs2 hk2; have HB2 := Lib.hid hb2; have HK2 := Lib.hid hk2; have HS2W := Lib.hid hs2; have c0 : w2.cell? ⟨wr.heap.size, 0, none⟩ = some (V x.id) := hk2.cell 0; have k0 : w2.cell? ⟨w.heap.size, 0, none⟩ = some (.slice A g.vs.length c) := (HBKr.out.kept hb2 HBKr.out.lt).cell 0; have k1 : w2.cell? ⟨w.heap.size, 1, none⟩ = some (.slice (some ⟨b, o, none⟩) g.es.length d) := (HBKr.out.kept hb2 HBKr.out.lt).cell 1; have c1 : w2.cell? ⟨wr.heap.size, 1, none⟩ = some (V x.a) := hk2.cell 1; have c2 : w2.cell? ⟨wr.heap.size, 2, none⟩ = some (V x.b) := hk2.cell 2; have cj : w2.cell? ⟨b, o + j * 3, none⟩ = some (V y) := (HB2.out.cell HBLT.out).trans HCJ.out; clear hb2 hs2 hk2)
                            go_quiet (fail)
                            have HBQ : Hid (Below wr.heap.size wr (w2.drewN nq)) := HB2.out.trans ⟨rfl, rfl, rfl, Nat.le_refl _, fun _ _ => rfl⟩
                            have HBKq : Hid (Blk (w2.drewN nq) w.heap.size 25 #[.slice A g.vs.length c, .slice (some ⟨b, o, none⟩) g.es.length d]) := (HBKr.out.kept HBQ.out HBKr.out.lt)
                            have HK2q : Hid (Blk (w2.drewN nq) wr.heap.size 67 #[V x.id, V x.a, V x.b]) := HK2.out
                            go_wp2_with (first
                              | (have T := HB3; go_at_call 92; refine (HE2.out _ (HRG.out.kept ((HBW.out.trans (Below.mono HBQ.out HBW.out.size)).trans (Below.mono HB3.out (HBW.out.trans (Below.mono HBQ.out HBW.out.size)).size)))).mono ?_; rintro e w4 ⟨rfl, hb4⟩; have HB4 := Lib.hid hb4; clear hb4)
                              | (go_at_call 92; refine (HE1.out _ (HRG.out.kept (HBW.out.trans (Below.mono HBQ.out HBW.out.size)))).mono ?_; rintro e w3 ⟨rfl, hb3⟩; have HB3 := Lib.hid hb3; have k3 : w3.cell? ⟨w.heap.size, 0, none⟩ = some (.slice A g.vs.length c) := (HBKq.out.kept hb3 HBKq.out.lt).cell 0; have k4 : w3.cell? ⟨w.heap.size, 1, none⟩ = some (.slice (some ⟨b, o, none⟩) g.es.length d) := (HBKq.out.kept hb3 HBKq.out.lt).cell 1; have d2 : w3.cell? ⟨wr.heap.size, 2, none⟩ = some (V x.b) := (HK2q.out.kept hb3 HK2q.out.lt).cell 2; clear hb3))
                            go_ret
                            exact ⟨by rw [HF.out]; rfl, ((HBW.out.trans (Below.mono HBQ.out HBW.out.size)).trans (Below.mono HB3.out (HBW.out.trans (Below.mono HBQ.out HBW.out.size)).size)).trans (Below.mono HB4.out ((HBW.out.trans (Below.mono HBQ.out HBW.out.size)).trans (Below.mono HB3.out (HBW.out.trans (Below.mono HBQ.out HBW.out.size)).size)).size)⟩
                        · have h1 := fun W hW => hh W (g.es.getD k e0).a hW
                          rw [decide_eq_false ha] at h1
                          have HF := Lib.hid (chk_e HN.out HV0.out (HCE.out.trans ((HS2.out hcn (by rw [en_a hab ha]; decide)).trans (en_a hab ha))))
                          have HE1 := Lib.hid h1
                          clear hab ha hcn hh h1 HC HS HS2 HG HCE
                          generalize g.es.getD k e0 = x at *
                          generalize k - 1 = j at *
                          generalize (g.es.getD j e0).id = y at *
                          go_wp2_with (refine wpList_store_fresh rfl 67 (.tmp 6) (.tmp 51) rfl #[V x.id, V x.a, V x.b] rfl rfl (by kernel_rfl) rfl (all3 _ _ _) ?_; intro w2 hb2 hs2 hk2; have HB2 := Lib.hid hb2; have HK2 := Lib.hid hk2; have HS2W := Lib.hid hs2; have c0 : w2.cell? ⟨wr.heap.size, 0, none⟩ = some (V x.id) := hk2.cell 0; have k0 : w2.cell? ⟨w.heap.size, 0, none⟩ = some (.slice A g.vs.length c) := (HBKr.out.kept hb2 HBKr.out.lt).cell 0; have k1 : w2.cell? ⟨w.heap.size, 1, none⟩ = some (.slice (some ⟨b, o, none⟩) g.es.length d) := (HBKr.out.kept hb2 HBKr.out.lt).cell 1; have c1 : w2.cell? ⟨wr.heap.size, 1, none⟩ = some (V x.a) := hk2.cell 1; have c2 : w2.cell? ⟨wr.heap.size, 2, none⟩ = some (V x.b) := hk2.cell 2; have cj : w2.cell? ⟨b, o + j * 3, none⟩ = some (V y) := (HB2.out.cell HBLT.out).trans HCJ.out; clear hb2 hs2 hk2)
                          go_quiet (fail)
                          have HBQ : Hid (Below wr.heap.size wr (w2.drewN nq)) := HB2.out.trans ⟨rfl, rfl, rfl, Nat.le_refl _, fun _ _ => rfl⟩
                          have HBKq : Hid (Blk (w2.drewN nq) w.heap.size 25 #[.slice A g.vs.length c, .slice (some ⟨b, o, none⟩) g.es.length d]) := (HBKr.out.kept HBQ.out HBKr.out.lt)
                          have HK2q : Hid (Blk (w2.drewN nq) wr.heap.size 67 #[V x.id, V x.a, V x.b]) := HK2.out
                          go_wp2_with (go_at_call 92; refine (HE1.out _ (HRG.out.kept (HBW.out.trans (Below.mono HBQ.out HBW.out.size)))).mono ?_; rintro e w3 ⟨rfl, hb3⟩; have HB3 := Lib.hid hb3; have k3 : w3.cell? ⟨w.heap.size, 0, none⟩ = some (.slice A g.vs.length c) := (HBKq.out.kept hb3 HBKq.out.lt).cell 0; have k4 : w3.cell? ⟨w.heap.size, 1, none⟩ = some (.slice (some ⟨b, o, none⟩) g.es.length d) := (HBKq.out.kept hb3 HBKq.out.lt).cell 1; have d2 : w3.cell? ⟨wr.heap.size, 2, none⟩ = some (V x.b) := (HK2q.out.kept hb3 HK2q.out.lt).cell 2; clear hb3)
                          go_ret
                          exact ⟨by rw [HF.out]; rfl, (HBW.out.trans (Below.mono HBQ.out HBW.out.size)).trans (Below.mono HB3.out (HBW.out.trans (Below.mono HBQ.out HBW.out.size)).size)⟩

                  · have q0 : ¬ (0 : Int) < (k : Int) := by omega
                    have hd0 : decide (0 < k) = false := decide_eq_false hk0
                    have hp : preE g.es k = 0 := by unfold preE; rw [if_pos (by omega)]
                    have hcn := cn_ok c1 c2 (a := preE g.es k) (by rw [hp]; exact not_le_zero c1)
                    clear c1 c2 hp
                    by_cases hab : (g.es.getD k e0).a = (g.es.getD k e0).b
                    · have e := eqT (x := (g.es.getD k e0).a) (y := (g.es.getD k e0).b) (by rw [hab]; simp)
                      have HF := Lib.hid (chk_e HN.out HV0.out (HCE.out.trans ((HS2.out hcn (by rw [en_same hab]; decide)).trans (en_same hab))))
                      clear hab hcn hh HC HS HS2 HG HCE
                      generalize g.es.getD k e0 = x at *
                      go_wp2_with (refine wpList_store_fresh rfl 67 (.tmp 6) (.tmp 51) rfl #[V x.id, V x.a, V x.b] rfl rfl (by kernel_rfl) rfl (all3 _ _ _) ?_; intro w2 hb2 hs2 hk2; have HB2 := Lib.hid hb2; have HK2 := Lib.hid hk2; have HS2W := Lib.hid hs2; have c0 : w2.cell? ⟨wr.heap.size, 0, none⟩ = some (V x.id) := hk2.cell 0; have k0 : w2.cell? ⟨w.heap.size, 0, none⟩ = some (.slice A g.vs.length c) := (HBKr.out.kept hb2 HBKr.out.lt).cell 0; have k1 : w2.cell? ⟨w.heap.size, 1, none⟩ = some (.slice (some ⟨b, o, none⟩) g.es.length d) := (HBKr.out.kept hb2 HBKr.out.lt).cell 1; have c1 : w2.cell? ⟨wr.heap.size, 1, none⟩ = some (V x.a) := hk2.cell 1; have c2 : w2.cell? ⟨wr.heap.size, 2, none⟩ = some (V x.b) := hk2.cell 2; clear hb2 hs2 hk2)
                      go_quiet (fail)
                      have HBQ : Hid (Below wr.heap.size wr (w2.drewN nq)) := HB2.out.trans ⟨rfl, rfl, rfl, Nat.le_refl _, fun _ _ => rfl⟩
                      have HBKq : Hid (Blk (w2.drewN nq) w.heap.size 25 #[.slice A g.vs.length c, .slice (some ⟨b, o, none⟩) g.es.length d]) := (HBKr.out.kept HBQ.out HBKr.out.lt)
                      have HK2q : Hid (Blk (w2.drewN nq) wr.heap.size 67 #[V x.id, V x.a, V x.b]) := HK2.out
                      go_wp2
                      go_ret
                      exact ⟨by rw [HF.out]; rfl, HBW.out.trans (Below.mono HBQ.out HBW.out.size)⟩
                    · have e := eqF (x := (g.es.getD k e0).a) (y := (g.es.getD k e0).b) (by simpa using hab)
                      by_cases ha : (g.es.getD k e0).a ∈ g.vs
                      · have h1 := fun W hW => hh W (g.es.getD k e0).a hW
                        rw [decide_eq_true ha] at h1
                        by_cases hbm : (g.es.getD k e0).b ∈ g.vs
                        · have h2 := fun W hW => hh W (g.es.getD k e0).b hW
                          rw [decide_eq_true hbm] at h2
                          have HG2 := Lib.hid (HCE.out.trans (HG.out hcn (en_ok hab ha hbm)))
                          have HE1 := Lib.hid h1
                          have HE2 := Lib.hid h2
                          clear hab ha hbm hcn hh h1 h2 HC HS HS2 HG HCE
                          generalize g.es.getD k e0 = x at *
                          go_wp2_with (refine wpList_store_fresh rfl 67 (.tmp 6) (.tmp 51) rfl #[V x.id, V x.a, V x.b] rfl rfl (by kernel_rfl) rfl (all3 _ _ _) ?_; intro w2 hb2 hs2 hk2; have HB2 := Lib.hid hb2; have HK2 := Lib.hid hk2; have HS2W := Lib.hid hs2; have c0 : w2.cell? ⟨wr.heap.size, 0, none⟩ = some (V x.id) := hk2.cell 0; have k0 : w2.cell? ⟨w.heap.size, 0, none⟩ = some (.slice A g.vs.length c) := (HBKr.out.kept hb2 HBKr.out.lt).cell 0; have k1 : w2.cell? ⟨w.heap.size, 1, none⟩ = some (.slice (some ⟨b, o, none⟩) g.es.length d) := (HBKr.out.kept hb2 HBKr.out.lt).cell 1; have c1 : w2.cell? ⟨wr.heap.size, 1, none⟩ = some (V x.a) := hk2.cell 1; have c2 : w2.cell? ⟨wr.heap.size, 2, none⟩ = some (V x.b) := hk2.cell 2; clear hb2 hs2 hk2)
                          go_quiet (fail)
                          have HBQ : Hid (Below wr.heap.size wr (w2.drewN nq)) := HB2.out.trans ⟨rfl, rfl, rfl, Nat.le_refl _, fun _ _ => rfl⟩
                          have HBKq : Hid (Blk (w2.drewN nq) w.heap.size 25 #[.slice A g.vs.length c, .slice (some ⟨b, o, none⟩) g.es.length d]) := (HBKr.out.kept HBQ.out HBKr.out.lt)
                          have HK2q : Hid (Blk (w2.drewN nq) wr.heap.size 67 #[V x.id, V x.a, V x.b]) := HK2.out
                          go_wp2_with (first
                            | (have T := HB3; go_at_call 92; refine (HE2.out _ (HRG.out.kept ((HBW.out.trans (Below.mono HBQ.out HBW.out.size)).trans (Below.mono HB3.out (HBW.out.trans (Below.mono HBQ.out HBW.out.size)).size)))).mono ?_; rintro e w4 ⟨rfl, hb4⟩; have HB4 := Lib.hid hb4; clear hb4)
                            | (go_at_call 92; refine (HE1.out _ (HRG.out.kept (HBW.out.trans (Below.mono HBQ.out HBW.out.size)))).mono ?_; rintro e w3 ⟨rfl, hb3⟩; have HB3 := Lib.hid hb3; have k3 : w3.cell? ⟨w.heap.size, 0, none⟩ = some (.slice A g.vs.length c) := (HBKq.out.kept hb3 HBKq.out.lt).cell 0; have k4 : w3.cell? ⟨w.heap.size, 1, none⟩ = some (.slice (some ⟨b, o, none⟩) g.es.length d) := (HBKq.out.kept hb3 HBKq.out.lt).cell 1; have d2 : w3.cell? ⟨wr.heap.size, 2, none⟩ = some (V x.b) := (HK2q.out.kept hb3 HK2q.out.lt).cell 2; clear hb3))
                          go_roundw
                          case rel => exact ⟨k + 1, by omega, by go_num, HG2.out, ((HBR.out.trans (Below.mono HBQ.out HBR.out.size)).trans (Below.mono HB3.out (HBR.out.trans (Below.mono HBQ.out HBR.out.size)).size)).trans (Below.mono HB4.out ((HBR.out.trans (Below.mono HBQ.out HBR.out.size)).trans (Below.mono HB3.out (HBR.out.trans (Below.mono HBQ.out HBR.out.size)).size)).size)⟩
                          case measure => simp [intOf]; omega
                        · have h2 := fun W hW => hh W (g.es.getD k e0).b hW
                          rw [decide_eq_false hbm] at h2
                          have HF := Lib.hid (chk_e HN.out HV0.out (HCE.out.trans ((HS2.out hcn (by rw [en_b hab hbm]; decide)).trans (en_b hab hbm))))
                          have HE1 := Lib.hid h1
                          have HE2 := Lib.hid h2
                          clear hab ha hbm hcn hh h1 h2 HC HS HS2 HG HCE
                          generalize g.es.getD k e0 = x at *
                          go_wp2_with (refine wpList_store_fresh rfl 67 (.tmp 6) (.tmp 51) rfl #[V x.id, V x.a, V x.b] rfl rfl (by kernel_rfl) rfl (all3 _ _ _) ?_; intro w2 hb2 hs2 hk2; have HB2 := Lib.hid hb2; have HK2 := Lib.hid hk2; have HS2W := Lib.hid hs2; have c0 : w2.cell? ⟨wr.heap.size, 0, none⟩ = some (V x.id) := hk2.cell 0; have k0 : w2.cell? ⟨w.heap.size, 0, none⟩ = some (.slice A g.vs.length c) := (HBKr.out.kept hb2 HBKr.out.lt).cell 0; have k1 : w2.cell? ⟨w.heap.size, 1, none⟩ = some (.slice (some ⟨b, o, none⟩) g.es.length d) := (HBKr.out.kept hb2 HBKr.out.lt).cell 1; have c1 : w2.cell? ⟨wr.heap.size, 1, none⟩ = some (V x.a) := hk2.cell 1; have c2 : w2.cell? ⟨wr.heap.size, 2, none⟩ = some (V x.b) := hk2.cell 2; clear hb2 hs2 hk2)
                          go_quiet (fail)
                          have HBQ : Hid (Below wr.heap.size wr (w2.drewN nq)) := HB2.out.trans ⟨rfl, rfl, rfl, Nat.le_refl _, fun _ _ => rfl⟩
                          have HBKq : Hid (Blk (w2.drewN nq) w.heap.size 25 #[.slice A g.vs.length c, .slice (some ⟨b, o, none⟩) g.es.length d]) := (HBKr.out.kept HBQ.out HBKr.out.lt)
                          have HK2q : Hid (Blk (w2.drewN nq) wr.heap.size 67 #[V x.id, V x.a, V x.b]) := HK2.out
                          go_wp2_with (first
                            | (have T := HB3; go_at_call 92; refine (HE2.out _ (HRG.out.kept ((HBW.out.trans (Below.mono HBQ.out HBW.out.size)).trans (Below.mono HB3.out (HBW.out.trans (Below.mono HBQ.out HBW.out.size)).size)))).mono ?_; rintro e w4 ⟨rfl, hb4⟩; have HB4 := Lib.hid hb4; clear hb4)
                            | (go_at_call 92; refine (HE1.out _ (HRG.out.kept (HBW.out.trans (Below.mono HBQ.out HBW.out.size)))).mono ?_; rintro e w3 ⟨rfl, hb3⟩; have HB3 := Lib.hid hb3; have k3 : w3.cell? ⟨w.heap.size, 0, none⟩ = some (.slice A g.vs.length c) := (HBKq.out.kept hb3 HBKq.out.lt).cell 0; have k4 : w3.cell? ⟨w.heap.size, 1, none⟩ = some (.slice (some ⟨b, o, none⟩) g.es.length d) := (HBKq.out.kept hb3 HBKq.out.lt).cell 1; have d2 : w3.cell? ⟨wr.heap.size, 2, none⟩ = some (V x.b) := (HK2q.out.kept hb3 HK2q.out.lt).cell 2; clear hb3))
                          go_ret
                          exact ⟨by rw [HF.out]; rfl, ((HBW.out.trans (Below.mono HBQ.out HBW.out.size)).trans (Below.mono HB3.out (HBW.out.trans (Below.mono HBQ.out HBW.out.size)).size)).trans (Below.mono HB4.out ((HBW.out.trans (Below.mono HBQ.out HBW.out.size)).trans (Below.mono HB3.out (HBW.out.trans (Below.mono HBQ.out HBW.out.size)).size)).size)⟩
                      · have h1 := fun W hW => hh W (g.es.getD k e0).a hW
                        rw [decide_eq_false ha] at h1
                        have HF := Lib.hid (chk_e HN.out HV0.out (HCE.out.trans ((HS2.out hcn (by rw [en_a hab ha]; decide)).trans (en_a hab ha))))
                        have HE1 := Lib.hid h1
                        clear hab ha hcn hh h1 HC HS HS2 HG HCE
                        generalize g.es.getD k e0 = x at *
                        go_wp2_with (refine wpList_store_fresh rfl 67 (.tmp 6) (.tmp 51) rfl #[V x.id, V x.a, V x.b] rfl rfl (by kernel_rfl) rfl (all3 _ _ _) ?_; intro w2 hb2 hs2 hk2; have HB2 := Lib.hid hb2; have HK2 := Lib.hid hk2; have HS2W := Lib.hid hs2; have c0 : w2.cell? ⟨wr.heap.size, 0, none⟩ = some (V x.id) := hk2.cell 0; have k0 : w2.cell? ⟨w.heap.size, 0, none⟩ = some (.slice A g.vs.length c) := (HBKr.out.kept hb2 HBKr.out.lt).cell 0; have k1 : w2.cell? ⟨w.heap.size, 1, none⟩ = some (.slice (some ⟨b, o, none⟩) g.es.length d) := (HBKr.out.kept hb2 HBKr.out.lt).cell 1; have c1 : w2.cell? ⟨wr.heap.size, 1, none⟩ = some (V x.a) := hk2.cell 1; have c2 : w2.cell? ⟨wr.heap.size, 2, none⟩ = some (V x.b) := hk2.cell 2; clear hb2 hs2 hk2)
                        go_quiet (fail)
                        have HBQ : Hid (Below wr.heap.size wr (w2.drewN nq)) := HB2.out.trans ⟨rfl, rfl, rfl, Nat.le_refl _, fun _ _ => rfl⟩
                        have HBKq : Hid (Blk (w2.drewN nq) w.heap.size 25 #[.slice A g.vs.length c, .slice (some ⟨b, o, none⟩) g.es.length d]) := (HBKr.out.kept HBQ.out HBKr.out.lt)
                        have HK2q : Hid (Blk (w2.drewN nq) wr.heap.size 67 #[V x.id, V x.a, V x.b]) := HK2.out
                        go_wp2_with (go_at_call 92; refine (HE1.out _ (HRG.out.kept (HBW.out.trans (Below.mono HBQ.out HBW.out.size)))).mono ?_; rintro e w3 ⟨rfl, hb3⟩; have HB3 := Lib.hid hb3; have k3 : w3.cell? ⟨w.heap.size, 0, none⟩ = some (.slice A g.vs.length c) := (HBKq.out.kept hb3 HBKq.out.lt).cell 0; have k4 : w3.cell? ⟨w.heap.size, 1, none⟩ = some (.slice (some ⟨b, o, none⟩) g.es.length d) := (HBKq.out.kept hb3 HBKq.out.lt).cell 1; have d2 : w3.cell? ⟨wr.heap.size, 2, none⟩ = some (V x.b) := (HK2q.out.kept hb3 HK2q.out.lt).cell 2; clear hb3)
                        go_ret
                        exact ⟨by rw [HF.out]; rfl, (HBW.out.trans (Below.mono HBQ.out HBW.out.size)).trans (Below.mono HB3.out (HBW.out.trans (Below.mono HBQ.out HBW.out.size)).size)⟩


            · obtain rfl : k = g.es.length := by omega
              have HF : Hid (chk g = 0) := by
                show _ = _
                refine chk_e HN.out HV0.out ?_
                rw [HCE.out, List.drop_length]; rfl
              clear HCE
              go_wp2
              go_ret
              exact ⟨by rw [HF.out]; rfl, HBW.out⟩
end Go.Proofs.YtcinbmekjlmdpaaGreat
