/- The document's Normal once more: what it answers is a row of its own kind. -/
import Derived.Test.YtcinbmekjlmdpaaGreatY0a
import Derived.Test.YtcinbmekjlmdpaaGreatY0q
import Derived.Test.YtcinbmekjlmdpaaGreatY0k
import Derived.Test.YtcinbmekjlmdpaaGreatY0s

/-! The document's Normal once more: what it answers is a row of its own kind. -/
namespace Go.Proofs.YtcinbmekjlmdpaaGreat
open Go.RowKit

attribute [local irreducible] V
set_option maxRecDepth 100000 in
set_option maxHeartbeats 1000000 in
/-- The document's Normal. -/
theorem rnormq_walk (w : World) (A : Option Addr) (c : Nat) (l : List UInt32) (h : Rd w A l) :
    Calls Tryz.prog 44 #[.slice A l.length c] w fun e w' => ∃ v, e = .returned v ∧ Oq w' w.heap.size v (norm l) ∧ Below w.heap.size w w' := by
  have hlen := h.len
  have H := Lib.hid h
  have hg := run_guard
  clear h
  go_enter Tryz.func44, Tryz.ntmps44
  go_wp2
  go_loop [3, 10] (fun a i => ∃ k : Nat, k ≤ l.length ∧ i = .int .i64 k ∧ a = .int .i64 (am l k : Nat)) (fun _ i => l.length - (intOf i).toNat)
  case atStart => exact ⟨0, by omega, rfl, rfl⟩
  case round =>
    obtain ⟨k, hk, rfl, rfl⟩ := hrel
    by_cases hlt : k < l.length
    · obtain ⟨b, o, rfl, hcell⟩ := H.out.spot (by omega)
      have ha := am_lt l (by omega) k hk
      have c1 := hcell k hlt
      have c2 := hcell _ ha
      rw [getD_at hlt] at c1
      rw [getD_at ha] at c2
      clear hcell
      by_cases hx : l.getD k 0 < l.getD (am l k) 0
      · have HS : Hid (am l (k + 1) = k) := by show am l (k + 1) = k; unfold am; rw [if_pos hx]
        have hq := ltT hx
        clear hx
        generalize l.getD k 0 = x at *
        generalize l.getD (am l k) 0 = y at *
        generalize am l k = a at *
        go_wp2
        go_round
        case rel => exact ⟨k + 1, by omega, by go_num, by rw [HS.out]⟩
        case measure => simp [intOf]; omega
      · have HS : Hid (am l (k + 1) = am l k) := by show am l (k + 1) = am l k; conv => lhs; unfold am
                                                    rw [if_neg hx]
        have hq := ltF hx
        clear hx
        generalize l.getD k 0 = x at *
        generalize l.getD (am l k) 0 = y at *
        generalize am l k = a at *
        go_wp2
        go_round
        case rel => exact ⟨k + 1, by omega, by go_num, by rw [HS.out]⟩
        case measure => simp [intOf]; omega
    · obtain rfl : k = l.length := by omega
      have hal : 0 < l.length → am l l.length < l.length := fun h0 => am_lt l h0 _ (Nat.le_refl _)
      have HA : Hid (0 < l.length → norm l = rot l (am l l.length)) := fun h0 => by rw [am_all l h0]; rfl
      have HAL := Lib.hid hal
      have HN : Hid (l.length = 0 → norm l = []) := fun h0 => by
        obtain rfl : l = [] := List.length_eq_zero_iff.1 h0
        rfl
      clear hal
      generalize am l l.length = a at *
      go_wp2
      go_loopw [6, 25] (fun v i wr => ∃ k : Nat, k ≤ l.length ∧ i = .int .i64 k ∧ Ow wr w.heap.size v ((rot l a).take k) ∧ Below w.heap.size w wr) (fun _ i _ => l.length - (intOf i).toNat)
      case atStart => exact ⟨0, by omega, rfl, Ow.nil _ _, Below.refl _ _⟩
      case round =>
        obtain ⟨k, hk, rfl, ho, hb⟩ := hrel
        have HO := Lib.hid ho
        have HB := Lib.hid hb
        clear ho hb hlt
        by_cases hlt : k < l.length
        · have hap := HAL.out (by omega)
          obtain ⟨b, o, rfl, hcell⟩ := (H.out.kept HB.out (Nat.le_refl _)).spot (by omega)
          have hml : (a + k) % l.length < l.length := Nat.mod_lt _ (by omega)
          have hc1 := hcell _ hml
          rw [getD_at hml] at hc1
          clear hcell
          have hr : ((a : Int) + k).tmod (l.length : Int) = (((a + k) % l.length : Nat) : Int) := rem_nat (a + k) l.length
          have HS := Lib.hid (rot_at l a k hap hlt)
          have hl0 : ¬ ((l.length : Int) = 0) := by omega
          have HL : Hid (((rot l a).take k).length = k) := by show _ = _; rw [List.length_take, rot_length l a (by omega)]; omega
          generalize (a + k) % l.length = q at *
          generalize l.getD q 0 = x at *
          have r6 := V_cells x
          unfold Value.cells at r6
          go_wp2_with (refine wpList_append_rd rfl (.tmp 28) (.tmp 38) rfl w.heap.size _ _ [x] (some ⟨wr.heap.size, 0, none⟩) 1 rfl rfl (HO.out.alloc _) (Rd.fresh wr [x] (by simp)) (by rw [HL.out]; simp; omega) (by have := HB.out.size; simp; omega) ?_; intro v2 w2 ho2 hb2; have HO2 := Lib.hid ho2; have HB2 := Lib.hid hb2; clear ho2 hb2)
          go_roundw
          case rel => exact ⟨k + 1, by omega, by go_num, by rw [HS.out]; exact HO2.out, (HB.out.alloc HB.out.size _).trans HB2.out⟩
          case measure => simp [intOf]; omega
        · obtain rfl : k = l.length := by omega
          have HF : Hid (Oq wr w.heap.size u6 (norm l)) := by
            by_cases h0 : 0 < l.length
            · have hr := HA.out h0
              have hal := HAL.out h0
              have ho := HO.out
              rw [List.take_of_length_le (by rw [rot_length l a (by omega)]; exact Nat.le_refl _), ← hr] at ho
              exact Oq.owned ho
            · have hn := HN.out (by omega)
              have ho := HO.out
              obtain rfl : l = [] := List.length_eq_zero_iff.1 (by omega)
              exact Oq.owned ho
          go_wp2
          go_ret
          exact ⟨_, rfl, HF.out, HB.out⟩
theorem rnormq_rv (w : World) (v : Value) (l : List UInt32) (h : RV w v l) : Calls Tryz.prog 44 #[v] w fun e w' => ∃ v, e = .returned v ∧ Oq w' w.heap.size v (norm l) ∧ Below w.heap.size w w' := by
  obtain ⟨A, c, rfl, _, hr⟩ := h
  exact rnormq_walk w A c l hr
end Go.Proofs.YtcinbmekjlmdpaaGreat

/-! The document's Face. -/
namespace Go.Proofs.YtcinbmekjlmdpaaGreat
open Go.RowKit

attribute [local irreducible] V
attribute [local irreducible] wpList in
set_option maxRecDepth 100000 in
set_option maxHeartbeats 4000000 in
/-- The document's Face. -/
theorem rfaceq_walk (w : World) (v : Value) (g : Gr) (rots : List (List UInt32)) (d : UInt32) (h : RM w v g rots) (hM : MapOk g rots) (hd : d ∈ dts g.es) :
    Calls Tryz.prog 21 #[v, V d] w fun e w' => ∃ u, e = .returned u ∧ Oq w' w.heap.size u (norm (fc g rots d)) ∧ Below w.heap.size w w' := by
  have HRM := Lib.hid h
  have HOK := Lib.hid hM
  have HD := Lib.hid hd
  obtain ⟨A, c, B, dd, C, ce, rfl, hg, hr⟩ := h
  have HR := Lib.hid hr
  have hn64 : g.vs.length ≤ 64 := hM.may.nv
  have hn160 : g.es.length ≤ 160 := hM.may.ne
  have hrl : rots.length ≤ 1000 := by rw [hM.len]; omega
  have hfl := fc_len g rots d
  have HF := Lib.hid hfl
  have HB : Hid (Below w.heap.size w (w.alloc (.cells #[.slice A g.vs.length c, .slice B g.es.length dd, .slice C rots.length ce] 28))) := (Below.refl _ w).alloc (Nat.le_refl _) _
  have HBK : Hid (Blk (w.alloc (.cells #[.slice A g.vs.length c, .slice B g.es.length dd, .slice C rots.length ce] 28)) w.heap.size 28 #[.slice A g.vs.length c, .slice B g.es.length dd, .slice C rots.length ce]) := Blk.fresh _ _ _
  have hfl0 : d ∈ rots.flatten := hM.flat.mem_iff.2 hd
  obtain ⟨i1, _, _⟩ := nx_tix hfl0
  have HT0 : Hid (tix rots d = (rots.findIdx (fun l => l.contains d) : Nat)) := if_pos i1
  have HT := Lib.hid (fun W hW y => rturn_walk W (.agg #[.slice A g.vs.length c, .slice B g.es.length dd, .slice C rots.length ce]) g rots y hW hrl)
  have h00 : 0 < (fc g rots d).length ∧ (fc g rots d).getD 0 0 = d := by
    obtain ⟨u, e, _⟩ := hM.face hd
    rw [e]
    exact ⟨by simp, rfl⟩
  have H00 := Lib.hid h00
  clear hM hd hg hr hfl hfl0 h00
  have hq0 : decide (((rots.findIdx (fun l => l.contains d) : Nat) : Int) < 0) = false := decide_eq_false (by omega)
  have hq1 : decide (rots.findIdx (fun l => l.contains d) < 0) = false := decide_eq_false (by omega)
  generalize rots.findIdx (fun l => l.contains d) = i0 at *
  go_enter Tryz.func21, Tryz.ntmps21
  go_wp2_with (go_at_call 18; refine (HT.out _ (HRM.out.kept HB.out) d).mono ?_; rintro e w2 ⟨rfl, hb⟩; rw [HT0.out]; have HB2 : Hid (Below w.heap.size w w2) := HB.out.trans (Below.mono hb HB.out.size); have HK2 := Lib.hid (HBK.out.kept hb HBK.out.lt); clear hb)
  clear hq0 hq1
  go_loopw [5, 6] (fun pv xv wr => ∃ k : Nat, k < (fc g rots d).length ∧ xv = V ((fc g rots d).getD k 0) ∧ Oq wr w2.heap.size pv ((fc g rots d).take k) ∧ Below w2.heap.size w2 wr) (fun pv _ _ => (fc g rots d).length - lenV pv)
  case atStart => exact ⟨0, H00.out.1, by rw [H00.out.2], Oq.nil _ _, Below.refl _ _⟩
  case round =>
    obtain ⟨k, hk, rfl, hq, hb⟩ := hrel
    have HQ := Lib.hid hq
    have HBr := Lib.hid hb
    have HBW : Hid (Below w.heap.size w wr) := HB2.out.trans (Below.mono hb HB2.out.size)
    have HKr := Lib.hid (HK2.out.kept hb HK2.out.lt)
    have HSB : Hid (w2.heap.size ≤ wr.heap.size) := hb.size
    have hlk : ((fc g rots d).take k).length = k := by rw [List.length_take]; omega
    obtain ⟨PA, pc, hpv, _⟩ := hq.is
    rw [hlk] at hpv
    have HLK := Lib.hid hlk
    have HTK := Lib.hid (take_next hk)
    have HLK1 : Hid (((fc g rots d).take (k + 1)).length = k + 1) := by show _ = _; rw [List.length_take]; omega
    have HST := Lib.hid (HOK.out.step HD.out hk)
    have HLE : Hid (((fc g rots d).take k).length < 1000000) := by have := HF.out; have := HOK.out.may.ne; show _ < _; rw [hlk]; omega
    subst hpv
    clear hq hb hlk
    have hx := HST.out.1
    have ht := tw2_mem HOK.out.may hx
    obtain ⟨j1, j2, j3⟩ := nx_tix (HOK.out.flat.mem_iff.2 ht)
    have HTX : Hid (tix rots (tw2 ((fc g rots d).getD k 0)) = (rots.findIdx (fun l => l.contains (tw2 ((fc g rots d).getD k 0))) : Nat)) := if_pos j1
    have HNX : Hid (nxt (rots.getD (rots.findIdx (fun l => l.contains (tw2 ((fc g rots d).getD k 0)))) []) (tw2 ((fc g rots d).getD k 0)) = fx rots ((fc g rots d).getD k 0)) := j3.symm
    obtain ⟨_, _, q3, _, z3⟩ := HR.out
    injection q3 with q3 q3a q3b
    subst q3 q3b
    obtain ⟨b3, o3, rfl, hb3, h3⟩ := z3 (by omega)
    obtain ⟨u5, hc5, hr5⟩ := h3 _ j1
    obtain ⟨A5, c5, rfl, _, hr5⟩ := hr5
    have HR5 := Lib.hid hr5
    have HC5 := Lib.hid hc5
    have HB3L := Lib.hid hb3
    clear hx ht j2 j3 z3 h3 hr5 hc5
    generalize rots.findIdx (fun l => l.contains (tw2 ((fc g rots d).getD k 0))) = j at *
    generalize rots.getD j [] = row at *
    have HE : Hid (k + 1 < (fc g rots d).length → ((fx rots ((fc g rots d).getD k 0) == d) = false ∧ fx rots ((fc g rots d).getD k 0) = (fc g rots d).getD (k + 1) 0)) := fun q => ⟨by rw [(HST.out.2.1 q).1]; simpa using (HST.out.2.1 q).2, (HST.out.2.1 q).1⟩
    have HE2 : Hid (¬ k + 1 < (fc g rots d).length → (fx rots ((fc g rots d).getD k 0) == d) = true) := fun q => by rw [HST.out.2.2 q]; simp
    clear HST
    have HTW := Lib.hid (fun W => rtwin_walk W ((fc g rots d).getD k 0))
    generalize fx rots ((fc g rots d).getD k 0) = y at *
    generalize (fc g rots d).getD k 0 = x at *
    generalize tw2 x = tx at *
    have r6 := V_cells x
    unfold Value.cells at r6
    go_wp2_with (first
      | (refine wpList_pushq rfl (.tmp 13) (.tmp 15) rfl w2.heap.size _ ((fc g rots d).take k) x wr.heap.size rfl rfl (HQ.out.still (Still.below ((Below.refl _ wr).alloc (Nat.le_refl _) (.cells #[V x] 34)))) HLE.out (by have := HSB.out; simp; omega) (Blk.fresh _ _ _) ?_; intro v3 w3 ho3 hg3 hb3'; rw [← HTK.out] at ho3; have HQ3 := Lib.hid ho3; obtain ⟨A8, c8, hv3, _⟩ := ho3.is; rw [HLK1.out] at hv3; subst hv3; have HG3 := Lib.hid (Oq.below (HQ.out.still (Still.below ((Below.refl _ wr).alloc (Nat.le_refl _) (.cells #[V x] 34)))) hg3 (by have := HSB.out; simp; omega)); have HK3 := Lib.hid (Blk.grown (HKr.out.more _) (HQ.out.still (Still.below ((Below.refl _ wr).alloc (Nat.le_refl _) (.cells #[V x] 34)))) (by decide) hg3); clear ho3 hg3 hb3')
      | (go_at_call 55; refine (HTW.out _).mono ?_; rintro e w' ⟨rfl, rfl⟩))
    have HW3 : Hid (Below w.heap.size w w3) := (HBW.out.alloc HBW.out.size _).trans (Below.mono HG3.out HB2.out.size)
    have HW3d : Hid (Below w.heap.size w w3.drew) := HW3.out.trans (Below.dr _ _)
    have S0 : Hid (w3.drew.cell? ⟨w.heap.size, 0, none⟩ = some (.slice A g.vs.length c) ∧ w3.drew.cell? ⟨w.heap.size, 1, none⟩ = some (.slice B g.es.length dd) ∧ w3.drew.cell? ⟨w.heap.size, 2, none⟩ = some (.slice (some ⟨b3, o3, none⟩) rots.length ce) ∧ w3.drew.cell? ⟨b3, o3 + j, none⟩ = some (.slice A5 row.length c5)) := ⟨HK3.out.cell 0, HK3.out.cell 1, HK3.out.cell 2, (HW3d.out.cell (p := ⟨b3, o3 + j, none⟩) HB3L.out).trans HC5.out⟩
    go_region_held3 (fun W => (W.cell? ⟨w.heap.size, 0, none⟩ = some (.slice A g.vs.length c) ∧ W.cell? ⟨w.heap.size, 1, none⟩ = some (.slice B g.es.length dd) ∧ W.cell? ⟨w.heap.size, 2, none⟩ = some (.slice (some ⟨b3, o3, none⟩) rots.length ce) ∧ W.cell? ⟨b3, o3 + j, none⟩ = some (.slice A5 row.length c5))) (first | exact S1.out | exact S0.out) (first
      | (go_at_call 18; refine (HT.out _ (HRM.out.kept HW3d.out) tx).mono ?_; rintro e w4 ⟨rfl, hb⟩; rw [HTX.out]; have HW4 : Hid (Below w.heap.size w w4) := HW3d.out.trans (Below.mono hb HW3d.out.size); have HB4 := Lib.hid hb; have HK4 : Hid (Blk w4 w.heap.size 28 #[.slice A g.vs.length c, .slice B g.es.length dd, .slice (some ⟨b3, o3, none⟩) rots.length ce]) := Blk.kept (w := w3.drew) HK3.out hb HK3.out.lt; have S1 : Hid (w4.cell? ⟨w.heap.size, 0, none⟩ = some (.slice A g.vs.length c) ∧ w4.cell? ⟨w.heap.size, 1, none⟩ = some (.slice B g.es.length dd) ∧ w4.cell? ⟨w.heap.size, 2, none⟩ = some (.slice (some ⟨b3, o3, none⟩) rots.length ce) ∧ w4.cell? ⟨b3, o3 + j, none⟩ = some (.slice A5 row.length c5)) := ⟨HK4.out.cell 0, HK4.out.cell 1, HK4.out.cell 2, (HW4.out.cell (p := ⟨b3, o3 + j, none⟩) HB3L.out).trans HC5.out⟩; clear hb)
      | (go_at_call 56; refine (rnext_walk _ A5 c5 row tx (HR5.out.kept HW4.out (Nat.le_refl _))).mono ?_; rintro e w' ⟨rfl, rfl⟩; rw [HNX.out]))
    have HQ4 : Hid (Oq w4 w2.heap.size (.slice A8 (k + 1) c8) ((fc g rots d).take (k + 1))) := (HQ3.out.still (Still.below (Below.dr w3.heap.size w3))).still (Still.below HB4.out)
    have HB5 : Hid (Below w2.heap.size w2 w4) := (((HBr.out.alloc HSB.out _).trans HG3.out).trans (Below.dr _ _)).trans (Below.mono HB4.out (by have := HG3.out.size; have := HSB.out; simp at *; omega))
    have hgd := run_guard
    by_cases hl : k + 1 < (fc g rots d).length
    · have HY := Lib.hid (HE.out hl).2
      have e2 := eqF (HE.out hl).1
      have HLT := Lib.hid hl
      clear hl
      go_wp2
      go_roundw
      case rel => exact ⟨k + 1, HLT.out, by rw [HY.out], HQ4.out, HB5.out⟩
      case measure => have := HLT.out; simp [lenV]; omega
    · have e2 := eqT (HE2.out hl)
      have HRV : Hid (RV w4 (.slice A8 (k + 1) c8) (fc g rots d)) := by
        have h1 := HQ4.out.rv (by rw [HLK1.out]; have := HF.out; have := HOK.out.may.ne; omega)
        rwa [List.take_of_length_le (by omega)] at h1
      clear hl
      go_wp2_with (go_at_call 44; refine (rnormq_rv _ _ _ HRV.out).mono ?_; rintro e w5 ⟨u, rfl, hu, hb⟩; have HU := Lib.hid (hu.base HW4.out.size); have HB6 := Lib.hid hb; clear hu hb)
      go_ret
      exact ⟨_, rfl, HU.out, HW4.out.trans (Below.mono HB6.out HW4.out.size)⟩
end Go.Proofs.YtcinbmekjlmdpaaGreat

/-! The document's Face of any dart. -/
namespace Go.Proofs.YtcinbmekjlmdpaaGreat
open Go.RowKit

theorem tix_out {rots : List (List UInt32)} {d : UInt32} (h : ¬ d ∈ rots.flatten) : tix rots d = -1 := by
  unfold tix
  rw [if_neg]
  intro q
  apply h
  have := List.findIdx_getElem (w := q)
  exact List.mem_flatten.2 ⟨_, List.getElem_mem q, List.contains_iff_mem.1 this⟩
attribute [local irreducible] V
attribute [local irreducible] wpList in
set_option maxRecDepth 100000 in
set_option maxHeartbeats 2000000 in
theorem rface_walk (w : World) (v : Value) (g : Gr) (rots : List (List UInt32)) (d : UInt32) (h : RM w v g rots) (hM : MapOk g rots) :
    Calls Tryz.prog 21 #[v, V d] w fun e w' => ∃ u, e = .returned u ∧ RV w' u (fcd g rots d) ∧ Below w.heap.size w w' := by
  by_cases hd : d ∈ dts g.es
  · have hfl := fc_len g rots d
    have hne := hM.may.ne
    have e : fcd g rots d = norm (fc g rots d) := if_pos hd
    rw [e]
    exact (rfaceq_walk w v g rots d h hM hd).mono fun _ _ ⟨u, h1, h2, h3⟩ => ⟨u, h1, h2.rv (by rw [norm_length]; omega), h3⟩
  · have HRM := Lib.hid h
    obtain ⟨A, c, B, dd, C, ce, rfl, _, _⟩ := h
    have hrl : rots.length ≤ 1000 := by rw [hM.len]; have := hM.may.nv; omega
    have HB : Hid (Below w.heap.size w (w.alloc (.cells #[.slice A g.vs.length c, .slice B g.es.length dd, .slice C rots.length ce] 28))) := (Below.refl _ w).alloc (Nat.le_refl _) _
    have HF : Hid (fcd g rots d = []) := if_neg hd
    have HT0 : Hid (tix rots d = -1) := tix_out fun q => hd (hM.flat.mem_iff.1 q)
    have HT := Lib.hid (fun W hW => rturn_walk W (.agg #[.slice A g.vs.length c, .slice B g.es.length dd, .slice C rots.length ce]) g rots d hW hrl)
    clear hd hM
    go_enter Tryz.func21, Tryz.ntmps21
    go_wp2_with (go_at_call 18; refine (HT.out _ (HRM.out.kept HB.out)).mono ?_; rintro e w2 ⟨rfl, hb⟩; rw [HT0.out]; have HB2 : Hid (Below w.heap.size w w2) := HB.out.trans (Below.mono hb HB.out.size); clear hb)
    go_ret
    exact ⟨_, rfl, by rw [HF.out]; exact RV.nil _, HB2.out⟩
end Go.Proofs.YtcinbmekjlmdpaaGreat
