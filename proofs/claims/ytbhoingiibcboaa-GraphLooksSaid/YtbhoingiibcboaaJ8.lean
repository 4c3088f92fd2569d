/- GraphLooks: the law's walk. -/
import Derived.Test.YtbhoingiibcboaaJ7
namespace Go.Proofs.Ytbhoingiibcboaa
open Go.RowKit

/-- The law's two boxes. -/
def LG (s : Nat) (gc : Array Value) (odd : Bool) (W : World) : Prop := Blk W s 25 gc ∧ Blk W (s + 1) 4 #[.bool odd]
theorem LG.kept {s : Nat} {gc : Array Value} {odd : Bool} {W W' : World} {B : Nat} (h : LG s gc odd W) (hb : Below B W W') (hB : W.heap.size ≤ B) : LG s gc odd W' :=
  ⟨h.1.kept hb (Nat.lt_of_lt_of_le h.1.lt hB), h.2.kept hb (Nat.lt_of_lt_of_le h.2.lt hB)⟩
attribute [local irreducible] V
attribute [local irreducible] wpList in
set_option maxRecDepth 100000 in
set_option maxHeartbeats 2000000 in
theorem rcheck_many (w : World) (A B : Option Addr) (n c m d : Nat) (hm : 64 < n ∨ 160 < m) :
    Calls Try.prog 8 #[.agg #[.slice A n c, .slice B m d]] w fun e w' => e = .returned (.int .i64 6) ∧ Below w.heap.size w w' := by
  have HB : Hid (Below w.heap.size w (w.alloc (.cells #[.slice A n c, .slice B m d] 25))) := (Below.refl _ w).alloc (Nat.le_refl _) _
  have HBK : Hid (Blk (w.alloc (.cells #[.slice A n c, .slice B m d] 25)) w.heap.size 25 #[.slice A n c, .slice B m d]) := Blk.fresh _ _ _
  by_cases hv64 : 64 < n
  · have q1 : (64 : Int) < (n : Int) := by omega
    clear hv64 hm
    go_enter Try.func8, Try.ntmps8
    go_wp2
    go_ret
    exact ⟨rfl, HB.out⟩
  · have q1 : ¬ (64 : Int) < (n : Int) := by omega
    have q2 : (160 : Int) < (m : Int) := by omega
    clear hv64 hm
    go_enter Try.func8, Try.ntmps8
    go_wp2
    go_ret
    exact ⟨rfl, HB.out⟩
attribute [local irreducible] wpList in
set_option maxRecDepth 100000 in
set_option maxHeartbeats 2000000 in
/-- A graph that may not be: the law says true at once. -/
theorem looks_not (w : World) (A B : Option Addr) (n c m d : Nat) (x y : UInt32) (odd : Bool) (z : Int) (hz : z ≠ 0)
    (hC : ∀ W, Below w.heap.size w W → Calls Try.prog 8 #[.agg #[.slice A n c, .slice B m d]] W fun e w' => e = .returned (.int .i64 z) ∧ Below W.heap.size W w') :
    Calls Try.prog 4 #[.agg #[.slice A n c, .slice B m d], V x, V y, .bool odd] w fun e w' => e = .returned (.bool true) ∧ Below w.heap.size w w' := by
  have HB : Hid (Below w.heap.size w ((w.alloc (.cells #[.slice A n c, .slice B m d] 25)).alloc (.cells #[.bool odd] 4))) := ((Below.refl _ w).alloc (Nat.le_refl _) _).alloc (by simp) _
  have HBK : Hid (Blk ((w.alloc (.cells #[.slice A n c, .slice B m d] 25)).alloc (.cells #[.bool odd] 4)) w.heap.size 25 #[.slice A n c, .slice B m d]) := (Blk.fresh _ _ _).more _
  have HC := Lib.hid hC
  have z1 : (z != 0) = true := by simpa using hz
  have z2 : (z == 0) = false := by simpa using hz
  clear hC
  go_enter Try.func4, Try.ntmps4
  go_wp2_with (first
    | (go_at_call 6; refine (awake9_walk _).mono ?_; rintro e w1 ⟨rfl, hb1⟩; have HB1 := Lib.hid hb1; have k0 : w1.cell? ⟨w.heap.size, 0, none⟩ = some (.slice A n c) := (HBK.out.kept hb1 HBK.out.lt).cell 0; have k1 : w1.cell? ⟨w.heap.size, 1, none⟩ = some (.slice B m d) := (HBK.out.kept hb1 HBK.out.lt).cell 1; have HB1W : Hid (Below w.heap.size w w1) := HB.out.trans (Below.mono hb1 HB.out.size); clear hb1)
    | (go_at_call 8; refine (HC.out _ HB1W.out).mono ?_; rintro e w2 ⟨rfl, hb2⟩; have HB2 := Lib.hid hb2; clear hb2))
  go_ret
  exact ⟨rfl, HB1W.out.trans (Below.mono HB2.out HB1W.out.size)⟩
theorem rsame_same (w : World) (v u : Value) (l : List UInt32) (h : RV w v l) (h2 : RV w u l) : Calls Try.prog 15 #[v, u] w fun e w' => e = .returned (.bool true) ∧ Below w.heap.size w w' := by
  have := rsame_rv w v u l l h h2
  rwa [decide_eq_true rfl] at this
attribute [local irreducible] wpList in
set_option maxRecDepth 100000 in
set_option maxHeartbeats 4000000 in
theorem looks_walk (w : World) (v : Value) (g : Gr) (x y : UInt32) (odd : Bool) (h : RG w v g) (hc : chk g = 0) :
    Calls Try.prog 4 #[v, V x, V y, .bool odd] w fun e w' => e = .returned (.bool true) ∧ Below w.heap.size w w' := by
  have HRG := Lib.hid h
  have HM := Lib.hid (May.of hc)
  have hC := fun W (hW : RG W v g) => rcheck_walk W v g hW
  rw [hc] at hC
  have HC := Lib.hid hC
  clear hC hc
  obtain ⟨A, c, B, d, rfl, _, _, hr, hre⟩ := h
  have hn64 := HM.out.nv
  have hn160 := HM.out.ne
  have hgd := run_guard
  have HR := Lib.hid hr
  have HRE := Lib.hid hre
  clear hr hre
  have HB : Hid (Below w.heap.size w ((w.alloc (.cells #[.slice A g.vs.length c, .slice B g.es.length d] 25)).alloc (.cells #[.bool odd] 4))) := ((Below.refl _ w).alloc (Nat.le_refl _) _).alloc (by simp) _
  have HL : Hid (LG w.heap.size #[.slice A g.vs.length c, .slice B g.es.length d] odd ((w.alloc (.cells #[.slice A g.vs.length c, .slice B g.es.length d] 25)).alloc (.cells #[.bool odd] 4))) := by
    refine ⟨(Blk.fresh _ _ _).more _, ?_⟩
    have := Blk.fresh (w.alloc (.cells #[.slice A g.vs.length c, .slice B g.es.length d] 25)) 4 #[.bool odd]
    simpa using this
  go_enter Try.func4, Try.ntmps4
  go_wp2_with (first
    | (go_at_call 6; refine (awake9_walk _).mono ?_; rintro e w1 ⟨rfl, hb1⟩; have HB1 : Hid (Below w.heap.size w w1) := HB.out.trans (Below.mono hb1 HB.out.size); have HL1 := Lib.hid (HL.out.kept hb1 (Nat.le_refl _)); have k0 : w1.cell? ⟨w.heap.size, 0, none⟩ = some (.slice A g.vs.length c) := HL1.out.1.cell 0; have k1 : w1.cell? ⟨w.heap.size, 1, none⟩ = some (.slice B g.es.length d) := HL1.out.1.cell 1; clear hb1)
    | (go_at_call 8; refine (HC.out _ (HRG.out.kept HB1.out)).mono ?_; rintro e w2 ⟨rfl, hb2⟩; have HB2 : Hid (Below w.heap.size w w2) := HB1.out.trans (Below.mono hb2 HB1.out.size); have HL2 := Lib.hid (HL1.out.kept hb2 (Nat.le_refl _)); have k2 : w2.cell? ⟨w.heap.size, 0, none⟩ = some (.slice A g.vs.length c) := HL2.out.1.cell 0; clear hb2))
  clear k0 k1 k2
  go_loopw [9, 10, 29] (fun p a i wr => ∃ k : Nat, k ≤ g.vs.length ∧ i = .int .i64 k ∧ p = .int .i64 (plc g x k) ∧ a = .int .i64 (aln g k : Nat) ∧ Below w2.heap.size w2 wr) (fun _ _ i _ => g.vs.length - (intOf i).toNat)
  case atStart => exact ⟨0, Nat.zero_le _, rfl, by rw [plc_zero], rfl, Below.refl _ _⟩
  case round =>
    obtain ⟨k, hk, rfl, rfl, rfl, hb⟩ := hrel
    have HBr := Lib.hid hb
    have HBW : Hid (Below w.heap.size w wr) := HB2.out.trans (Below.mono hb HB2.out.size)
    have HLr := Lib.hid (HL2.out.kept hb (Nat.le_refl _))
    clear hb
    have hal := aln_le g k
    by_cases hlt : k < g.vs.length
    · obtain ⟨b, o, rfl, hc⟩ := (HR.out.kept HBW.out (Nat.le_refl _)).spot (by omega)
      have hcell := hc k hlt
      rw [getD_at hlt] at hcell
      clear hc
      have k0 : wr.cell? ⟨w.heap.size, 0, none⟩ = some (.slice (some ⟨b, o, none⟩) g.vs.length c) := HLr.out.1.cell 0
      have k1 : wr.cell? ⟨w.heap.size, 1, none⟩ = some (.slice B g.es.length d) := HLr.out.1.cell 1
      have HE := Lib.hid (fun W hW => rends9_walk W (.agg #[.slice (some ⟨b, o, none⟩) g.vs.length c, .slice B g.es.length d]) g (g.vs.getD k 0) hW (by omega))
      have HPY : Hid (g.vs.getD k 0 = x → plc g x (k + 1) = k) := fun q => plc_yes HM.out.vup hlt q
      have HPN : Hid (¬ g.vs.getD k 0 = x → plc g x (k + 1) = plc g x k) := fun q => plc_no hlt q
      have HAY : Hid ((nbr g.es (g.vs.getD k 0)).length = 0 → aln g (k + 1) = aln g k + 1) := fun q => aln_yes hlt q
      have HAN : Hid (¬ (nbr g.es (g.vs.getD k 0)).length = 0 → aln g (k + 1) = aln g k) := fun q => aln_no hlt q
      have HEL := Lib.hid (eds_len g.es (g.vs.getD k 0))
      have hnl := nbr_len g.es (g.vs.getD k 0)
      by_cases hp : g.vs.getD k 0 = x <;> by_cases h0 : (nbr g.es (g.vs.getD k 0)).length = 0
      · have HP := Lib.hid (HPY.out hp)
        have HA := Lib.hid (HAY.out h0)
        have hl0 : (eds g.es (g.vs.getD k 0)).length = 0 := by rw [HEL.out, h0]
        have e1 := eqT (x := g.vs.getD k 0) (y := x) (by rw [hp]; simp)
        clear hp h0 HPY HPN HAY HAN HEL hnl
        generalize g.vs.getD k 0 = z at *
        generalize eds g.es z = q at *
        generalize aln g k = n at *
        generalize plc g x k = pk at *
        go_wp2_with (go_at_call 9; refine (HE.out _ (HRG.out.kept HBW.out)).mono ?_; rintro e w3 ⟨u, rfl, hu, hb3⟩; have HB3 := Lib.hid hb3; obtain ⟨A2, c2, hu2, _, _⟩ := hu; subst hu2; rw [hl0]; clear hb3)
        go_roundw
        case rel => exact ⟨k + 1, by omega, by go_num, by rw [HP.out], by rw [HA.out]; go_num, HBr.out.trans (Below.mono HB3.out HBr.out.size)⟩
        case measure => simp [intOf]; omega
      · have HP := Lib.hid (HPY.out hp)
        have HA := Lib.hid (HAN.out h0)
        have hl0 : (((eds g.es (g.vs.getD k 0)).length : Int) == 0) = false := beq_false_of_ne (by rw [HEL.out]; omega)
        have hl1 : ((eds g.es (g.vs.getD k 0)).length == 0) = false := beq_false_of_ne (by rw [HEL.out]; omega)
        have e1 := eqT (x := g.vs.getD k 0) (y := x) (by rw [hp]; simp)
        clear hp h0 HPY HPN HAY HAN HEL hnl
        generalize g.vs.getD k 0 = z at *
        generalize eds g.es z = q at *
        generalize aln g k = n at *
        generalize plc g x k = pk at *
        go_wp2_with (go_at_call 9; refine (HE.out _ (HRG.out.kept HBW.out)).mono ?_; rintro e w3 ⟨u, rfl, hu, hb3⟩; have HB3 := Lib.hid hb3; obtain ⟨A2, c2, hu2, _, _⟩ := hu; subst hu2; clear hb3)
        go_roundw
        case rel => exact ⟨k + 1, by omega, by go_num, by rw [HP.out], by rw [HA.out], HBr.out.trans (Below.mono HB3.out HBr.out.size)⟩
        case measure => simp [intOf]; omega
      · have HP := Lib.hid (HPN.out hp)
        have HA := Lib.hid (HAY.out h0)
        have hl0 : (eds g.es (g.vs.getD k 0)).length = 0 := by rw [HEL.out, h0]
        have e1 := eqF (x := g.vs.getD k 0) (y := x) (by simpa using hp)
        clear hp h0 HPY HPN HAY HAN HEL hnl
        generalize g.vs.getD k 0 = z at *
        generalize eds g.es z = q at *
        generalize aln g k = n at *
        generalize plc g x k = pk at *
        go_wp2_with (go_at_call 9; refine (HE.out _ (HRG.out.kept HBW.out)).mono ?_; rintro e w3 ⟨u, rfl, hu, hb3⟩; have HB3 := Lib.hid hb3; obtain ⟨A2, c2, hu2, _, _⟩ := hu; subst hu2; rw [hl0]; clear hb3)
        go_roundw
        case rel => exact ⟨k + 1, by omega, by go_num, by rw [HP.out], by rw [HA.out]; go_num, HBr.out.trans (Below.mono HB3.out HBr.out.size)⟩
        case measure => simp [intOf]; omega
      · have HP := Lib.hid (HPN.out hp)
        have HA := Lib.hid (HAN.out h0)
        have hl0 : (((eds g.es (g.vs.getD k 0)).length : Int) == 0) = false := beq_false_of_ne (by rw [HEL.out]; omega)
        have hl1 : ((eds g.es (g.vs.getD k 0)).length == 0) = false := beq_false_of_ne (by rw [HEL.out]; omega)
        have e1 := eqF (x := g.vs.getD k 0) (y := x) (by simpa using hp)
        clear hp h0 HPY HPN HAY HAN HEL hnl
        generalize g.vs.getD k 0 = z at *
        generalize eds g.es z = q at *
        generalize aln g k = n at *
        generalize plc g x k = pk at *
        go_wp2_with (go_at_call 9; refine (HE.out _ (HRG.out.kept HBW.out)).mono ?_; rintro e w3 ⟨u, rfl, hu, hb3⟩; have HB3 := Lib.hid hb3; obtain ⟨A2, c2, hu2, _, _⟩ := hu; subst hu2; clear hb3)
        go_roundw
        case rel => exact ⟨k + 1, by omega, by go_num, by rw [HP.out], by rw [HA.out], HBr.out.trans (Below.mono HB3.out HBr.out.size)⟩
        case measure => simp [intOf]; omega
    · obtain rfl : k = g.vs.length := by omega
      have hpl := plc_all g x
      have han := aln_all g
      generalize plc g x g.vs.length = pk at *
      generalize aln g g.vs.length = ak at *
      subst hpl han
      clear hlt hk
      go_wp2
      have S0 : Hid (wr.drew.cell? ⟨w.heap.size, 0, none⟩ = some (.slice A g.vs.length c) ∧ wr.drew.cell? ⟨w.heap.size, 1, none⟩ = some (.slice B g.es.length d)) := ⟨HLr.out.1.cell 0, HLr.out.1.cell 1⟩
      have HB3 : Hid (Below w.heap.size w wr.drew) := HBW.out.trans (Below.dr _ _)
      have HL3 : Hid (LG w.heap.size #[.slice A g.vs.length c, .slice B g.es.length d] odd wr.drew) := HLr.out.kept (Below.dr wr.heap.size wr) (Nat.le_refl _)
      go_region_held3 (fun W => W.cell? ⟨w.heap.size, 0, none⟩ = some (.slice A g.vs.length c) ∧ W.cell? ⟨w.heap.size, 1, none⟩ = some (.slice B g.es.length d)) (first | exact S2.out | exact S1.out | exact S0.out) (first
        | (go_at_call 10; refine (parts_walk _ _ g (HRG.out.kept HB3.out) HM.out).mono ?_; rintro e w4 ⟨u1, rfl, hu1, hb4⟩; have HU1 := Lib.hid hu1; obtain ⟨A3, c3, hv3, _, _⟩ := hu1; subst hv3; have HB4 : Hid (Below w.heap.size w w4) := HB3.out.trans (Below.mono hb4 HB3.out.size); have HL4 := Lib.hid (HL3.out.kept hb4 (Nat.le_refl _)); have S1 : Hid (w4.cell? ⟨w.heap.size, 0, none⟩ = some (.slice A g.vs.length c) ∧ w4.cell? ⟨w.heap.size, 1, none⟩ = some (.slice B g.es.length d)) := ⟨HL4.out.1.cell 0, HL4.out.1.cell 1⟩; clear hb4)
        | (go_at_call 11; refine (rparts_walk _ _ g (HRG.out.kept HB4.out) HM.out).mono ?_; rintro e w5 ⟨u2, rfl, hu2, hb5⟩; have HU2 := Lib.hid hu2; obtain ⟨A4, c4, hv4, _, _⟩ := hu2; subst hv4; have HU15 := Lib.hid (HU1.out.kept hb5); have HB5 : Hid (Below w.heap.size w w5) := HB4.out.trans (Below.mono hb5 HB4.out.size); have HL5 := Lib.hid (HL4.out.kept hb5 (Nat.le_refl _)); have S2 : Hid (w5.cell? ⟨w.heap.size, 0, none⟩ = some (.slice A g.vs.length c) ∧ w5.cell? ⟨w.heap.size, 1, none⟩ = some (.slice B g.es.length d)) := ⟨HL5.out.1.cell 0, HL5.out.1.cell 1⟩; clear hb5))
      go_wp2
      have S6 : Hid (w5.drew.cell? ⟨w.heap.size, 0, none⟩ = some (.slice A g.vs.length c) ∧ w5.drew.cell? ⟨w.heap.size, 1, none⟩ = some (.slice B g.es.length d)) := ⟨HL5.out.1.cell 0, HL5.out.1.cell 1⟩
      have HB6 : Hid (Below w.heap.size w w5.drew) := HB5.out.trans (Below.dr _ _)
      have HL6 : Hid (LG w.heap.size #[.slice A g.vs.length c, .slice B g.es.length d] odd w5.drew) := HL5.out.kept (Below.dr w5.heap.size w5) (Nat.le_refl _)
      have HPP6 : Hid (RRv w5.drew (.slice A3 (parts g).length c3) (parts g) ∧ RRv w5.drew (.slice A4 (parts g).length c4) (parts g)) := ⟨HU15.out.kept (Below.dr _ _), HU2.out.kept (Below.dr _ _)⟩
      have hpl : (parts g).length ≤ 64 := by rw [← prows_all, prows_len]; exact Nat.le_trans (reps_le g _ (Nat.le_refl _)) HM.out.nv
      go_region_held3 (fun W => W.cell? ⟨w.heap.size, 0, none⟩ = some (.slice A g.vs.length c) ∧ W.cell? ⟨w.heap.size, 1, none⟩ = some (.slice B g.es.length d)) (first | exact S13.out | exact S12.out | exact S11.out | exact S10.out | exact S9.out | exact S8.out | exact S7.out | exact S6.out) (first
        | (go_at_call 12; refine (vert_walk _ _ g x (HRG.out.kept HB6.out) HM.out.vup).mono ?_; rintro e w7 ⟨rfl, hb⟩; have HPP7 : Hid (RRv w7 (.slice A3 (parts g).length c3) (parts g) ∧ RRv w7 (.slice A4 (parts g).length c4) (parts g)) := ⟨HPP6.out.1.kept hb, HPP6.out.2.kept hb⟩; have HB7 : Hid (Below w.heap.size w w7) := HB6.out.trans (Below.mono hb HB6.out.size); have HL7 := Lib.hid (HL6.out.kept hb (Nat.le_refl _)); have S7 : Hid (w7.cell? ⟨w.heap.size, 0, none⟩ = some (.slice A g.vs.length c) ∧ w7.cell? ⟨w.heap.size, 1, none⟩ = some (.slice B g.es.length d)) := ⟨HL7.out.1.cell 0, HL7.out.1.cell 1⟩; clear hb)
        | (go_at_call 13; refine (edge_walk _ _ g y (HRG.out.kept HB7.out) HM.out.eup).mono ?_; rintro e w8 ⟨rfl, hb⟩; have HPP8 : Hid (RRv w8 (.slice A3 (parts g).length c3) (parts g) ∧ RRv w8 (.slice A4 (parts g).length c4) (parts g)) := ⟨HPP7.out.1.kept hb, HPP7.out.2.kept hb⟩; have HB8 : Hid (Below w.heap.size w w8) := HB7.out.trans (Below.mono hb HB7.out.size); have HL8 := Lib.hid (HL7.out.kept hb (Nat.le_refl _)); have S8 : Hid (w8.cell? ⟨w.heap.size, 0, none⟩ = some (.slice A g.vs.length c) ∧ w8.cell? ⟨w.heap.size, 1, none⟩ = some (.slice B g.es.length d)) := ⟨HL8.out.1.cell 0, HL8.out.1.cell 1⟩; clear hb)
        | (go_at_call 14; refine (rfind_walk _ _ g y (HRG.out.kept HB8.out)).mono ?_; rintro e w9 ⟨rfl, hb⟩; have HPP9 : Hid (RRv w9 (.slice A3 (parts g).length c3) (parts g) ∧ RRv w9 (.slice A4 (parts g).length c4) (parts g)) := ⟨HPP8.out.1.kept hb, HPP8.out.2.kept hb⟩; have HB9 : Hid (Below w.heap.size w w9) := HB8.out.trans (Below.mono hb HB8.out.size); have HL9 := Lib.hid (HL8.out.kept hb (Nat.le_refl _)); have S9 : Hid (w9.cell? ⟨w.heap.size, 0, none⟩ = some (.slice A g.vs.length c) ∧ w9.cell? ⟨w.heap.size, 1, none⟩ = some (.slice B g.es.length d)) := ⟨HL9.out.1.cell 0, HL9.out.1.cell 1⟩; clear hb)
        | (go_at_call 16; refine (ends9_walk _ _ g x (HRG.out.kept HB9.out) (by omega)).mono ?_; rintro e w10 ⟨u3, rfl, hu3, hb⟩; have HPP10 : Hid (RRv w10 (.slice A3 (parts g).length c3) (parts g) ∧ RRv w10 (.slice A4 (parts g).length c4) (parts g)) := ⟨HPP9.out.1.kept hb, HPP9.out.2.kept hb⟩; have HB10 : Hid (Below w.heap.size w w10) := HB9.out.trans (Below.mono hb HB9.out.size); have HL10 := Lib.hid (HL9.out.kept hb (Nat.le_refl _)); have S10 : Hid (w10.cell? ⟨w.heap.size, 0, none⟩ = some (.slice A g.vs.length c) ∧ w10.cell? ⟨w.heap.size, 1, none⟩ = some (.slice B g.es.length d)) := ⟨HL10.out.1.cell 0, HL10.out.1.cell 1⟩; have HU3 := Lib.hid hu3; obtain ⟨A5, c5, hv5, _, _⟩ := hu3; subst hv5; clear hb)
        | (go_at_call 9; refine (rends9_walk _ _ g x (HRG.out.kept HB10.out) (by omega)).mono ?_; rintro e w11 ⟨u4, rfl, hu4, hb⟩; have HPP11 : Hid (RRv w11 (.slice A3 (parts g).length c3) (parts g) ∧ RRv w11 (.slice A4 (parts g).length c4) (parts g)) := ⟨HPP10.out.1.kept hb, HPP10.out.2.kept hb⟩; have HB11 : Hid (Below w.heap.size w w11) := HB10.out.trans (Below.mono hb HB10.out.size); have HL11 := Lib.hid (HL10.out.kept hb (Nat.le_refl _)); have S11 : Hid (w11.cell? ⟨w.heap.size, 0, none⟩ = some (.slice A g.vs.length c) ∧ w11.cell? ⟨w.heap.size, 1, none⟩ = some (.slice B g.es.length d)) := ⟨HL11.out.1.cell 0, HL11.out.1.cell 1⟩; have HU4 := Lib.hid hu4; obtain ⟨A6, c6, hv6, _, _⟩ := hu4; subst hv6; have HU34 := Lib.hid (HU3.out.kept hb); clear hb)
        | (go_at_call 15; refine (rsame_same _ _ _ _ HU34.out HU4.out).mono ?_; rintro e w12 ⟨rfl, hb⟩; have HPP12 : Hid (RRv w12 (.slice A3 (parts g).length c3) (parts g) ∧ RRv w12 (.slice A4 (parts g).length c4) (parts g)) := ⟨HPP11.out.1.kept hb, HPP11.out.2.kept hb⟩; have HB12 : Hid (Below w.heap.size w w12) := HB11.out.trans (Below.mono hb HB11.out.size); have HL12 := Lib.hid (HL11.out.kept hb (Nat.le_refl _)); have S12 : Hid (w12.cell? ⟨w.heap.size, 0, none⟩ = some (.slice A g.vs.length c) ∧ w12.cell? ⟨w.heap.size, 1, none⟩ = some (.slice B g.es.length d)) := ⟨HL12.out.1.cell 0, HL12.out.1.cell 1⟩; clear hb)
        | (go_at_call 17; refine (alone_walk _ _ g (HRG.out.kept HB12.out) (by omega) (by omega)).mono ?_; rintro e w13 ⟨rfl, hb⟩; have HPP13 : Hid (RRv w13 (.slice A3 (parts g).length c3) (parts g) ∧ RRv w13 (.slice A4 (parts g).length c4) (parts g)) := ⟨HPP12.out.1.kept hb, HPP12.out.2.kept hb⟩; have HB13 : Hid (Below w.heap.size w w13) := HB12.out.trans (Below.mono hb HB12.out.size); have HL13 := Lib.hid (HL12.out.kept hb (Nat.le_refl _)); have S13 : Hid (w13.cell? ⟨w.heap.size, 0, none⟩ = some (.slice A g.vs.length c) ∧ w13.cell? ⟨w.heap.size, 1, none⟩ = some (.slice B g.es.length d)) := ⟨HL13.out.1.cell 0, HL13.out.1.cell 1⟩; clear hb))
      clear S6 S7 S8 S9 S10 S11 S12 S13
      go_wp2
      go_loopw [15, 89] (fun s i wr => ∃ k : Nat, k ≤ (parts g).length ∧ i = .int .i64 k ∧ s = .int .i64 (psum g k : Nat) ∧ Below w13.heap.size w13 wr) (fun _ i _ => (parts g).length - (intOf i).toNat)
      case atStart => exact ⟨0, Nat.zero_le _, rfl, rfl, Below.refl _ _⟩
      case round =>
        obtain ⟨k, hk, rfl, rfl, hb⟩ := hrel
        have HBs := Lib.hid hb
        have HBW2 : Hid (Below w.heap.size w wr) := HB13.out.trans (Below.mono hb HB13.out.size)
        have HLs := Lib.hid (HL13.out.kept hb (Nat.le_refl _))
        have HPPs : Hid (RRv wr (.slice A3 (parts g).length c3) (parts g) ∧ RRv wr (.slice A4 (parts g).length c4) (parts g)) := ⟨HPP13.out.1.kept hb, HPP13.out.2.kept hb⟩
        clear hb
        by_cases hlt2 : k < (parts g).length
        · obtain ⟨_, _, q3, _, z3⟩ := HPPs.out.1
          obtain ⟨_, _, q4, _, z4⟩ := HPPs.out.2
          injection q3 with q3 q3a q3b
          injection q4 with q4 q4a q4b
          subst q3 q4 q3b q4b
          obtain ⟨b3, o3, rfl, _, h3⟩ := z3 (by omega)
          obtain ⟨b4, o4, rfl, _, h4⟩ := z4 (by omega)
          obtain ⟨u5, hc5, hr5⟩ := h3 k hlt2
          obtain ⟨u6, hc6, hr6⟩ := h4 k hlt2
          have HR5 := Lib.hid (hr5.kept (Below.dr wr.heap.size wr))
          have HR6 := Lib.hid (hr6.kept (Below.dr wr.heap.size wr))
          obtain ⟨A5, c5, rfl, _, _⟩ := hr5
          obtain ⟨A6, c6, rfl, _, _⟩ := hr6
          have HS := Lib.hid (psum_succ hlt2)
          have HSL := psum_le g HM.out (k + 1)
          rw [HS.out] at HSL
          clear z3 z4 h3 h4
          generalize (parts g).getD k [] = row at *
          generalize psum g k = ps at *
          go_wp2
          have S0 : Hid (wr.drew.cell? ⟨b3, o3 + k, none⟩ = some (.slice A5 row.length c5) ∧ wr.drew.cell? ⟨b4, o4 + k, none⟩ = some (.slice A6 row.length c6)) := ⟨hc5, hc6⟩
          go_region_held3 (fun W => W.cell? ⟨b3, o3 + k, none⟩ = some (.slice A5 row.length c5) ∧ W.cell? ⟨b4, o4 + k, none⟩ = some (.slice A6 row.length c6)) (first | exact S1.out | exact S0.out)
            (first | (go_at_call 15; refine (rsame_same _ _ _ _ HR5.out HR6.out).mono ?_; rintro e w14 ⟨rfl, hb⟩; have HB14 := Lib.hid hb; have S1 : Hid (w14.cell? ⟨b3, o3 + k, none⟩ = some (.slice A5 row.length c5) ∧ w14.cell? ⟨b4, o4 + k, none⟩ = some (.slice A6 row.length c6)) := ⟨(hb.cell (World.block_lt_of_cell? _ _ hc5)).trans hc5, (hb.cell (World.block_lt_of_cell? _ _ hc6)).trans hc6⟩; have k14 := S1.out.1; clear hb))
          go_wp2
          go_roundw
          case rel => exact ⟨k + 1, by omega, by go_num, by rw [HS.out]; go_num, HBs.out.trans ((Below.dr _ _).trans (Below.mono HB14.out HBs.out.size))⟩
          case measure => simp [intOf]; omega
        · obtain rfl : k = (parts g).length := by omega
          have hps := psum_all HM.out
          generalize psum g (parts g).length = ps at *
          subst hps
          have hz := zero25
          have hz39 := zero39
          have hmf : ∀ (fn : Fn) (first cap : Array Value) (w : World), (Instr.makeFunc fn first cap).run Try.prog w = .ok (.func fn first cap) w := fun _ _ _ _ => rfl
          have k0 : wr.cell? ⟨w.heap.size, 0, none⟩ = some (.slice A g.vs.length c) := HLs.out.1.cell 0
          have k1 : wr.cell? ⟨w.heap.size, 1, none⟩ = some (.slice B g.es.length d) := HLs.out.1.cell 1
          have HK := Lib.hid (fun W hW ho => keep_walk W (.agg #[.slice A g.vs.length c, .slice B g.es.length d]) g (w.heap.size + 1) odd hW ho)
          go_wp2_with (go_at_call 18; refine (HK.out _ (HRG.out.kept HBW2.out) (HLs.out.2.cell 0)).mono ?_; rintro e w14 ⟨u7, rfl, hu7, hb⟩; obtain ⟨A7, c7, B7, d7, hv7, _, _, _, hrk⟩ := hu7; replace hv7 : u7 = .agg #[.slice A7 g.vs.length c7, .slice B7 (kept g odd).es.length d7] := hv7; subst hv7; have HRK14 := Lib.hid hrk; have HB14 : Hid (Below w.heap.size w w14) := HBW2.out.trans (Below.mono hb HBW2.out.size); have HL14 := Lib.hid (HLs.out.kept hb (Nat.le_refl _)); have k14 : w14.cell? ⟨w.heap.size, 1, none⟩ = some (.slice B g.es.length d) := HL14.out.1.cell 1; have k15 : (w14.alloc (.cells #[.slice A7 g.vs.length c7, .slice B7 (kept g odd).es.length d7] 25)).cell? ⟨w.heap.size, 1, none⟩ = some (.slice B g.es.length d) := (HL14.out.1.more _).cell 1; have kne : w.heap.size ≠ w14.heap.size := Nat.ne_of_lt HL14.out.1.lt; clear hb hrk)
          have HB15 : Hid (Below w.heap.size w (w14.alloc (.cells #[.slice A7 g.vs.length c7, .slice B7 (kept g odd).es.length d7] 25))) := HB14.out.alloc HB14.out.size _
          have hbf : Below w14.heap.size w14 (w14.alloc (.cells #[.slice A7 g.vs.length c7, .slice B7 (kept g odd).es.length d7] 25)) := (Below.refl _ w14).alloc (Nat.le_refl _) _
          have HL15 := Lib.hid (HL14.out.kept hbf (Nat.le_refl _))
          have HK15 : Hid (Blk (w14.alloc (.cells #[.slice A7 g.vs.length c7, .slice B7 (kept g odd).es.length d7] 25)) w14.heap.size 25 #[.slice A7 g.vs.length c7, .slice B7 (kept g odd).es.length d7]) := Blk.fresh _ _ _
          have HRK := Lib.hid (HRK14.out.kept hbf (Nat.le_refl _))
          clear k0 k1 k14 k15 kne hmf hz hbf
          generalize (w14.alloc (.cells #[.slice A7 g.vs.length c7, .slice B7 (kept g odd).es.length d7] 25)) = w15 at *
          go_loopw [18, 116] (fun s i wr => ∃ k : Nat, k ≤ g.es.length ∧ i = .int .i64 k ∧ s = .int .i64 (kn g odd k : Nat) ∧ Below w15.heap.size w15 wr) (fun _ i _ => g.es.length - (intOf i).toNat)
          case atStart => exact ⟨0, Nat.zero_le _, rfl, rfl, Below.refl _ _⟩
          case round =>
            obtain ⟨k, hk, rfl, rfl, hb⟩ := hrel
            have HBt := Lib.hid hb
            have HBW3 : Hid (Below w.heap.size w wr) := HB15.out.trans (Below.mono hb HB15.out.size)
            have HLt := Lib.hid (HL15.out.kept hb (Nat.le_refl _))
            have HKt := Lib.hid (HK15.out.kept hb HK15.out.lt)
            clear hb
            by_cases hlt3 : k < g.es.length
            · obtain ⟨b, o, rfl, hc⟩ := (HRE.out.kept HBW3.out (Nat.le_refl _)).spot (by omega)
              obtain ⟨hc1, hc2, hc3⟩ := hc k hlt3
              clear hc
              cases hso : so odd (g.es.getD k e0)
              · have HS := Lib.hid (kn_no hlt3 hso)
                have hso2 : ((g.es.getD k e0).id % 2 == 1) = !odd := by unfold so at hso; revert hso; cases ((g.es.getD k e0).id % 2 == 1) <;> cases odd <;> decide
                clear hso
                generalize g.es.getD k e0 = z at *
                have hkq := kn_le g odd k
                generalize kn g odd k = q at *
                have r1 := run_rem2 31 z.id
                have he : ∀ w, (binOp .eql 31 (V (z.id % 2)) (.int .u32 1)).run Try.prog w = .ok (.bool (!odd)) w := fun w => by rw [V1, ← hso2]; exact run_eql _ _ _ w
                have hg : ∀ w, (eqGuard .eql 31 (.tmp 122) (.const (.int .u32 1)) (V (z.id % 2)) (.int .u32 1)).run Try.prog w = .ok () w := fun w => by rw [V1]; exact run_guard _ _ _ _ _ _ w
                clear hso2
                go_wp2_with (refine wpList_store_fresh rfl 39 (.tmp 20) (.tmp 119) rfl #[V z.id, V z.a, V z.b] rfl rfl (by kernel_rfl) rfl (all3 _ _ _) ?_; intro w16 hb16 hs16 hk16; have HB16 := Lib.hid hb16; have f0 : w16.cell? ⟨wr.heap.size, 0, none⟩ = some (V z.id) := hk16.cell 0; have f1 : w16.cell? ⟨wr.heap.size, 1, none⟩ = some (V z.a) := hk16.cell 1; have f2 : w16.cell? ⟨wr.heap.size, 2, none⟩ = some (V z.b) := hk16.cell 2; have ko : w16.cell? ⟨w.heap.size + 1, 0, none⟩ = some (.bool odd) := (HLt.out.kept hb16 (Nat.le_refl _)).2.cell 0; clear hb16 hk16)
                go_roundw
                case rel => exact ⟨k + 1, by omega, by go_num, by rw [HS.out], HBt.out.trans (Below.mono HB16.out HBt.out.size)⟩
                case measure => simp [intOf]; omega
              · have HS := Lib.hid (kn_yes hlt3 hso)
                obtain ⟨hq1, hq2⟩ := kn_at hlt3 hso
                obtain ⟨b7, o7, hB7, h7⟩ := (HRK.out.kept HBt.out (Nat.le_refl _)).spot (by omega)
                have h7q := h7 _ hq1
                rw [hq2] at h7q
                obtain ⟨e1, e2, e3⟩ := h7q
                have t1 : decide (((kept g odd).es.length : Int) ≤ (kn g odd k : Int)) = false := decide_eq_false (by omega)
                have t2 : decide ((kept g odd).es.length ≤ kn g odd k) = false := decide_eq_false (by omega)
                have hq3 : (kn g odd k : Int) < ((kept g odd).es.length : Int) := by omega
                subst hB7
                clear h7 hq2
                have hso2 : ((g.es.getD k e0).id % 2 == 1) = odd := by unfold so at hso; revert hso; cases ((g.es.getD k e0).id % 2 == 1) <;> cases odd <;> decide
                clear hso
                have HNE := Lib.hid (neq_eg (g.es.getD k e0))
                generalize g.es.getD k e0 = z at *
                have hkq := kn_le g odd k
                generalize kn g odd k = q at *
                have r1 := run_rem2 31 z.id
                have he : ∀ w, (binOp .eql 31 (V (z.id % 2)) (.int .u32 1)).run Try.prog w = .ok (.bool (odd)) w := fun w => by rw [V1, ← hso2]; exact run_eql _ _ _ w
                have hg : ∀ w, (eqGuard .eql 31 (.tmp 122) (.const (.int .u32 1)) (V (z.id % 2)) (.int .u32 1)).run Try.prog w = .ok () w := fun w => by rw [V1]; exact run_guard _ _ _ _ _ _ w
                clear hso2
                have hn := HNE.out
                have hgn := fun o1 o2 w => guard_eg o1 o2 z z w
                go_wp2_with (refine wpList_store_fresh rfl 39 (.tmp 20) (.tmp 119) rfl #[V z.id, V z.a, V z.b] rfl rfl (by kernel_rfl) rfl (all3 _ _ _) ?_; intro w16 hb16 hs16 hk16; have HB16 := Lib.hid hb16; have f0 : w16.cell? ⟨wr.heap.size, 0, none⟩ = some (V z.id) := hk16.cell 0; have f1 : w16.cell? ⟨wr.heap.size, 1, none⟩ = some (V z.a) := hk16.cell 1; have f2 : w16.cell? ⟨wr.heap.size, 2, none⟩ = some (V z.b) := hk16.cell 2; have ko : w16.cell? ⟨w.heap.size + 1, 0, none⟩ = some (.bool odd) := (HLt.out.kept hb16 (Nat.le_refl _)).2.cell 0; have g1 : w16.cell? ⟨w14.heap.size, 1, none⟩ = some (.slice (some ⟨b7, o7, none⟩) (kept g odd).es.length d7) := (HKt.out.kept hb16 HKt.out.lt).cell 1; have j0 : w16.cell? ⟨b7, o7 + q * 3, none⟩ = some (V z.id) := (hb16.cell (World.block_lt_of_cell? _ _ e1)).trans e1; have j1 : w16.cell? ⟨b7, o7 + q * 3 + 1, none⟩ = some (V z.a) := (hb16.cell (World.block_lt_of_cell? _ _ e2)).trans e2; have j2 : w16.cell? ⟨b7, o7 + q * 3 + 2, none⟩ = some (V z.b) := (hb16.cell (World.block_lt_of_cell? _ _ e3)).trans e3; clear hb16 hk16)
                go_quiet (fail)
                go_wp2
                go_roundw
                case rel => exact ⟨k + 1, by omega, by go_num, by rw [HS.out]; go_num, HBt.out.trans ((Below.mono HB16.out HBt.out.size).trans ⟨rfl, rfl, rfl, Nat.le_refl _, fun _ _ => rfl⟩)⟩
                case measure => simp [intOf]; omega
            · obtain rfl : k = g.es.length := by omega
              have hka := kn_all g odd
              generalize kn g odd g.es.length = ka at *
              subst hka
              have k0 : wr.cell? ⟨w.heap.size, 0, none⟩ = some (.slice A g.vs.length c) := HLt.out.1.cell 0
              have k1 : wr.cell? ⟨w.heap.size, 1, none⟩ = some (.slice B g.es.length d) := HLt.out.1.cell 1
              have g0 : wr.cell? ⟨w14.heap.size, 0, none⟩ = some (.slice A7 g.vs.length c7) := HKt.out.cell 0
              have g1 : wr.cell? ⟨w14.heap.size, 1, none⟩ = some (.slice B7 (kept g odd).es.length d7) := HKt.out.cell 1
              go_wp2
              go_ret
              exact ⟨rfl, HBW3.out⟩
end Go.Proofs.Ytbhoingiibcboaa
