/- The document's Faces. -/
import Derived.Test.YtcinbmekjlmdpaaGreatY0t
import Derived.Test.YtcinbmekjlmdpaaGreatY0o
import Derived.Test.YtcinbmekjlmdpaaGreatY0n

/-! The document's Faces. -/
namespace Go.Proofs.YtcinbmekjlmdpaaGreat
open Go.RowKit

theorem run_add2 (x : UInt32) (w : World) : (binOp .add 34 (V x) (.int .u32 2)).run Tryz.prog w = .ok (V (x + 2)) w := run_addV x 2 w
/-- The darts that are asked for at an edge, and the one behind them. -/
def dk (id : UInt32) : Nat → UInt32
  | 0 => 2 * id
  | 1 => 2 * id + 1
  | _ => 2 * id + 1 + 1
theorem dk_lt {id : UInt32} (h : ¬ (1048576 : UInt32) < id) {e : Nat} (he : e < 2) : decide (dk id e < 2 * id + 2) = true := by
  obtain ⟨t1, t2⟩ := two_id h
  have h3 : (2 * id + 2).toNat = 2 * id.toNat + 2 := by
    rw [UInt32.toNat_add, t1]
    have hb := h
    rw [UInt32.lt_iff_toNat_lt] at hb
    have e1 : (1048576 : UInt32).toNat = 1048576 := rfl
    have e2 : (2 : UInt32).toNat = 2 := rfl
    rw [e1] at hb
    rw [e2]
    omega
  refine decide_eq_true ?_
  rw [UInt32.lt_iff_toNat_lt, h3]
  have : e = 0 ∨ e = 1 := by omega
  rcases this with rfl | rfl
  · show (2 * id).toNat < _; omega
  · show (2 * id + 1).toNat < _; omega
theorem dk_two {id : UInt32} : decide (dk id 2 < 2 * id + 2) = false := by
  refine decide_eq_false ?_
  have : dk id 2 = 2 * id + 2 := by show 2 * id + 1 + 1 = _; rw [UInt32.add_assoc]; rfl
  rw [this, UInt32.lt_iff_toNat_lt]
  omega
theorem dk_at {es : List Eg} {k e : Nat} (hk : k < es.length) (he : e < 2) : dk (es.getD k e0).id e = (dts es).getD (2 * k + e) 0 := by
  have : e = 0 ∨ e = 1 := by omega
  rcases this with rfl | rfl
  · exact (dts_at hk).1.symm
  · exact (dts_at hk).2.symm
theorem dk_succ (id : UInt32) {e : Nat} (he : e < 2) : dk id e + 1 = dk id (e + 1) := by
  have : e = 0 ∨ e = 1 := by omega
  rcases this with rfl | rfl <;> rfl
theorem dk_less {id : UInt32} (h : ¬ (1048576 : UInt32) < id) {e : Nat} (he : e < 2) : (2 * id + 2).toNat - (dk id (e + 1)).toNat < (2 * id + 2).toNat - (dk id e).toNat := by
  have h1 := of_decide_eq_true (dk_lt h he)
  rw [UInt32.lt_iff_toNat_lt] at h1
  rw [← dk_succ id he]
  have e1 : (dk id e + 1).toNat = ((dk id e).toNat + 1) % 2 ^ 32 := UInt32.toNat_add _ _
  have h2 := (2 * id + 2).toNat_lt
  rw [e1]
  omega
def dV : Value → Nat
  | .int _ n => n.toNat
  | _ => 0
theorem dV_V (x : UInt32) : dV (V x) = x.toNat := by unfold V dV; simp
attribute [local irreducible] V
attribute [local irreducible] wpList in
set_option maxRecDepth 100000 in
set_option maxHeartbeats 4000000 in
/-- The document's Faces. -/
theorem rfaces_walk (w : World) (v : Value) (g : Gr) (rots : List (List UInt32)) (h : RM w v g rots) (hM : MapOk g rots) :
    Calls Tryz.prog 14 #[v] w fun e w' => ∃ u, e = .returned u ∧ PL w' w.heap.size u (allf g rots) ∧ Below w.heap.size w w' := by
  have HRM := Lib.hid h
  have HOK := Lib.hid hM
  obtain ⟨A, c, B, d, C, ce, rfl, hg, hr⟩ := h
  have hre : RdE w B g.es := by
    obtain ⟨_, _, _, _, q, _, _, _, h2⟩ := hg
    simp only [Value.agg.injEq, Array.mk.injEq, List.cons.injEq, Value.slice.injEq] at q
    rw [q.2.1.1]; exact h2
  have HRE := Lib.hid hre
  have hne := hM.may.ne
  have hdl := dts_len g.es
  have hz2 := zero39
  have HB1 : Hid (Below w.heap.size w (w.alloc (.cells #[.slice A g.vs.length c, .slice B g.es.length d, .slice C rots.length ce] 28))) := (Below.refl _ w).alloc (Nat.le_refl _) _
  have HK1 : Hid (Blk (w.alloc (.cells #[.slice A g.vs.length c, .slice B g.es.length d, .slice C rots.length ce] 28)) w.heap.size 28 #[.slice A g.vs.length c, .slice B g.es.length d, .slice C rots.length ce]) := Blk.fresh _ _ _
  have HSZ1 : Hid (w.heap.size ≤ (w.alloc (.cells #[.slice A g.vs.length c, .slice B g.es.length d, .slice C rots.length ce] 28)).heap.size) := HB1.out.size
  clear hg hr hM hre
  go_enter Tryz.func14, Tryz.ntmps14
  go_wp2
  generalize hw1 : w.alloc (.cells #[.slice A g.vs.length c, .slice B g.es.length d, .slice C rots.length ce] 28) = w1 at *
  clear hw1
  go_loopw [3, 12] (fun pv i wr => ∃ (k : Nat), k ≤ g.es.length ∧ i = .int .i64 k ∧ PL wr w1.heap.size pv (fcs g rots ((dts g.es).take (2 * k))) ∧ Below w1.heap.size w1 wr) (fun _ i _ => g.es.length - (intOf i).toNat)
  case atStart => exact ⟨0, Nat.zero_le _, rfl, PL.nil _ _, Below.refl _ _⟩
  case round =>
    obtain ⟨k, hk, rfl, hpl, hb⟩ := hrel
    have HPL := Lib.hid hpl
    have HBr := Lib.hid hb
    have HBW : Hid (Below w.heap.size w wr) := HB1.out.trans (Below.mono hb HSZ1.out)
    clear hpl hb
    by_cases hlt : k < g.es.length
    · obtain ⟨b, o, rfl, hc⟩ := (HRE.out.kept HBW.out (Nat.le_refl _)).spot (by omega)
      obtain ⟨hc1, hc2, hc3⟩ := hc k hlt
      have HOF := Lib.hid (fun e (he : e < 2) => dk_at (es := g.es) hlt he)
      have hbx : ¬ (1048576 : UInt32) < (g.es.getD k e0).id := (HOK.out.may.er _ (getE_mem hlt)).2.1
      have HLT := Lib.hid (fun e (he : e < 2) => dk_lt hbx he)
      have HLS := Lib.hid (fun e (he : e < 2) => dk_less hbx he)
      have HTW : Hid (decide (dk (g.es.getD k e0).id 2 < 2 * (g.es.getD k e0).id + 2) = false) := dk_two
      have HSU := Lib.hid (fun e (he : e < 2) => dk_succ (g.es.getD k e0).id he)
      have HD0 : Hid (2 * (g.es.getD k e0).id = dk (g.es.getD k e0).id 0) := rfl
      clear hc hbx
      generalize g.es.getD k e0 = x at *
      have m1 := run_mul2 x.id
      go_wp2_with (refine wpList_store_fresh rfl 67 (.tmp 5) (.tmp 15) rfl #[V x.id, V x.a, V x.b] rfl rfl (by kernel_rfl) rfl (all3 _ _ _) ?_; intro w5 hb5 hs5 hk5; have HB5 := Lib.hid hb5; have HK5 := Lib.hid hk5; have k50 := hk5.cell 0; clear hb5 hs5 hk5)
      have HBe : Hid (Below w1.heap.size w1 w5) := HBr.out.trans (Below.mono HB5.out HBr.out.size)
      have HP5 : Hid (PL w5 w1.heap.size u3 (fcs g rots ((dts g.es).take (2 * k + 0)))) := HPL.out.kept HB5.out
      have HWE : Hid (w1.heap.size ≤ wr.heap.size) := HBr.out.size
      rw [HD0.out]
      generalize wr.heap.size = eb at *
      clear hc1 hc2 hc3 k50
      obtain ⟨wo, hwo⟩ : ∃ wo : World, wo = wr := ⟨_, rfl⟩
      subst hwo
      go_loopw [3, 6] (fun pv dv wr => ∃ (e : Nat), e ≤ 2 ∧ dv = V (dk x.id e) ∧ PL wr w1.heap.size pv (fcs g rots ((dts g.es).take (2 * k + e))) ∧ Below w1.heap.size w1 wr ∧ Blk wr eb 67 #[V x.id, V x.a, V x.b]) (fun _ dv _ => (2 * x.id + 2).toNat - dV dv)
      case atStart => exact ⟨0, by omega, rfl, HP5.out, HBe.out, HK5.out⟩
      case round =>
        obtain ⟨e, he, rfl, hpl, hb, hkb⟩ := hrel
        have HPL2 := Lib.hid hpl
        have HBr2 := Lib.hid hb
        have HBW2 : Hid (Below w.heap.size w wr) := HB1.out.trans (Below.mono hb HSZ1.out)
        have HKB2 := Lib.hid hkb
        have HKm := Lib.hid (HK1.out.kept hb HK1.out.lt)
        have ke := hkb.cell 0
        have m2 := run_add2 (2 * x.id)
        have m3 := run_lss 34 (dk x.id e) (2 * x.id + 2)
        clear hpl hb hkb
        by_cases het : e < 2
        · have hq : 2 * k + e < (dts g.es).length := by omega
          rw [HLT.out e het] at m3
          have HDI : Hid ((dts g.es).getD (2 * k + e) 0 ∈ dts g.es) := by show _ ∈ _; rw [← getD_at hq]; exact List.getElem_mem hq
          have HDK := Lib.hid (HOF.out e het)
          have HSU2 := Lib.hid (HSU.out e het)
          have HLS2 := Lib.hid (HLS.out e het)
          have k0 : wr.cell? ⟨w.heap.size, 0, none⟩ = some (.slice A g.vs.length c) := HKm.out.cell 0
          have k1 : wr.cell? ⟨w.heap.size, 1, none⟩ = some (.slice (some ⟨b, o, none⟩) g.es.length d) := HKm.out.cell 1
          have k2 : wr.cell? ⟨w.heap.size, 2, none⟩ = some (.slice C rots.length ce) := HKm.out.cell 2
          have m4 := run_add1 (dk x.id e)
          have hgd := run_guard
          have HFC := Lib.hid (rfaceq_walk wr (.agg #[.slice A g.vs.length c, .slice (some ⟨b, o, none⟩) g.es.length d, .slice C rots.length ce]) g rots ((dts g.es).getD (2 * k + e) 0) (HRM.out.kept HBW2.out) HOK.out HDI.out)
          rw [HSU2.out] at m4
          have hfl := fc_len g rots ((dts g.es).getD (2 * k + e) 0)
          have hfl0 : 0 < (fc g rots ((dts g.es).getD (2 * k + e) 0)).length := List.length_pos_of_mem (HOK.out.self HDI.out)
          have hnl : (norm (fc g rots ((dts g.es).getD (2 * k + e) 0))).length = (fc g rots ((dts g.es).getD (2 * k + e) 0)).length := norm_length _
          have HFN : Hid ((fcs g rots ((dts g.es).take (2 * k + e))).length < 1000000) := by
            have h1 := fcs_len g rots ((dts g.es).take (2 * k + e))
            have h2 : ((dts g.es).take (2 * k + e)).length ≤ (dts g.es).length := List.length_take_le' _ _
            show _ < _; omega
          rw [← HDK.out] at HFC
          have HWS2 : Hid (w1.heap.size ≤ wr.heap.size) := HBr2.out.size
          cases hl : ls g rots ((dts g.es).getD (2 * k + e) 0) with
          | true =>
            have HFCS := Lib.hid (fcs_yes g rots hq hl)
            obtain ⟨hn1, hn2⟩ := HOK.out.norm_ls HDI.out hl
            rw [← HDK.out] at hn1 hn2 HFCS hfl0
            rw [hn1] at hn2 HFC
            have HN2 := Lib.hid hn2
            have hn3 : ((fc g rots (dk x.id e)).getD 0 0 == dk x.id e) = true := by rw [hn2]; simp
            have e2 := eqT hn3
            clear hl hn1 hn2 hnl hfl hn3
            generalize fc g rots (dk x.id e) = fl at *
            generalize dk x.id e = dd at *
            generalize hfh : fl.getD 0 0 = fh at *
            have HFH := Lib.hid hfh
            clear hfh
            go_wp2_with (first
              | (refine wpList_rowL rfl (.tmp 35) (.tmp 37) rfl w1.heap.size _ _ fl _ w6.heap.size rfl rfl HP6.out HFN.out HS6.out (Blk.fresh _ _ _) rfl HO6'.out ?_; intro v7 w7 hp7 hg7; rw [← HFCS.out] at hp7; have HP7 := Lib.hid hp7; have HE7 := Lib.hid (PL.grown (HB6.out.alloc HW6.out (.cells #[.slice (some ⟨b6, o6, none⟩) fl.length c6] 22)) HP6.out hg7 HS6.out); have HK7 := Lib.hid (Blk.grownP (HK6.out.more (.cells #[.slice (some ⟨b6, o6, none⟩) fl.length c6] 22)) HP6.out (by decide) hg7); clear hp7 hg7)
              | (go_at_call 21; refine HFC.out.mono ?_; rintro e6 w6 ⟨v6, rfl, ho6, hb6⟩; obtain ⟨A6, c6, hv6, hc6⟩ := ho6.is; obtain ⟨b6, o6, hA6, hcc6⟩ := hc6 hfl0; subst hA6; subst hv6; have hcf := hcc6 0 hfl0; rw [Nat.add_zero, HFH.out] at hcf; have HB6 := Lib.hid (HBr2.out.trans (Below.mono hb6 HWS2.out)); have HK6 := Lib.hid (HKB2.out.kept hb6 HKB2.out.lt); have HW6 : Hid (w1.heap.size ≤ w6.heap.size) := Nat.le_trans HWS2.out hb6.size; have HP6 : Hid (PL (w6.alloc (.cells #[.slice (some ⟨b6, o6, none⟩) fl.length c6] 22)) w1.heap.size u3 (fcs g rots ((dts g.es).take (2 * k + e)))) := (HPL2.out.kept hb6).kept ((Below.refl _ w6).alloc (Nat.le_refl _) _); have HO6' : Hid (Oq (w6.alloc (.cells #[.slice (some ⟨b6, o6, none⟩) fl.length c6] 22)) 0 (.slice (some ⟨b6, o6, none⟩) fl.length c6) fl) := (ho6.base (Nat.zero_le _)).still (Still.below ((Below.refl _ w6).alloc (Nat.le_refl _) _)); have HS6 : Hid (w1.heap.size ≤ (w6.alloc (.cells #[.slice (some ⟨b6, o6, none⟩) fl.length c6] 22)).heap.size) := (by have := HW6.out; show _ ≤ _; simp; omega); clear ho6 hb6 hcc6 hc6))
            go_roundw
            case rel => exact ⟨e + 1, by omega, rfl, HP7.out, HE7.out, HK7.out⟩
            case measure => have := HLS2.out; simp only [Array.getD_eq_getD_getElem?, List.getElem?_toArray, List.getElem?_cons_succ, List.getElem?_cons_zero, Option.getD_some, dV_V]; exact this
          | false =>
            have HFCS := Lib.hid (fcs_no g rots hq hl)
            have hn2 := HOK.out.norm_nls HDI.out hl
            rw [← HDK.out] at hn2 hfl0 hnl
            have hn3 : ((norm (fc g rots (dk x.id e))).getD 0 0 == dk x.id e) = false := by simpa using hn2
            have e2 := eqF hn3
            have hfn0 : 0 < (norm (fc g rots (dk x.id e))).length := by omega
            clear hl hn2 hnl hfl hn3 hfl0
            generalize norm (fc g rots (dk x.id e)) = fl at *
            generalize dk x.id e = dd at *
            generalize hfh : fl.getD 0 0 = fh at *
            have HFH := Lib.hid hfh
            clear hfh
            go_wp2_with (go_at_call 21; refine HFC.out.mono ?_; rintro e6 w6 ⟨v6, rfl, ho6, hb6⟩; obtain ⟨A6, c6, hv6, hc6⟩ := ho6.is; obtain ⟨b6, o6, hA6, hcc6⟩ := hc6 hfn0; subst hA6; subst hv6; have hcf := hcc6 0 hfn0; rw [Nat.add_zero, HFH.out] at hcf; have HB6 := Lib.hid (HBr2.out.trans (Below.mono hb6 HWS2.out)); have HK6 := Lib.hid (HKB2.out.kept hb6 HKB2.out.lt); have HP6 := Lib.hid (HPL2.out.kept hb6); clear ho6 hb6 hcc6 hc6)
            go_roundw
            case rel => exact ⟨e + 1, by omega, rfl, by rw [show 2 * k + (e + 1) = 2 * k + e + 1 by omega, HFCS.out]; exact HP6.out, HB6.out, HK6.out⟩
            case measure => have := HLS2.out; simp only [Array.getD_eq_getD_getElem?, List.getElem?_toArray, List.getElem?_cons_succ, List.getElem?_cons_zero, Option.getD_some, dV_V]; exact this
        · obtain rfl : e = 2 := by omega
          have e2 : 2 * k + 2 = 2 * (k + 1) := by omega
          rw [e2] at HPL2
          rw [HTW.out] at m3
          go_wp2
          go_roundw
          case rel => exact ⟨k + 1, by omega, by go_num, HPL2.out, HBr2.out⟩
          case measure => simp [intOf]; omega
    · obtain rfl : k = g.es.length := by omega
      rw [← hdl, List.take_length] at HPL
      go_wp2
      go_ret
      exact ⟨_, rfl, HPL.out.base HSZ1.out, HBW.out⟩
end Go.Proofs.YtcinbmekjlmdpaaGreat

/-! The document's Twice. -/
namespace Go.Proofs.YtcinbmekjlmdpaaGreat
open Go.RowKit

/-- How many of the first so many vertices are alone. -/
def alo (g : Gr) (k : Nat) : Nat := (g.vs.take k).countP fun v => (eds g.es v).isEmpty
theorem alo_yes {g : Gr} {k : Nat} (hk : k < g.vs.length) (h : (eds g.es (g.vs.getD k 0)).length = 0) : alo g (k + 1) = alo g k + 1 := by
  unfold alo
  rw [take_at hk, List.countP_append, List.countP_cons_of_pos (by rw [List.length_eq_zero_iff.1 h]; rfl)]
  rfl
theorem alo_no {g : Gr} {k : Nat} (hk : k < g.vs.length) (h : ¬ (eds g.es (g.vs.getD k 0)).length = 0) : alo g (k + 1) = alo g k := by
  unfold alo
  rw [take_at hk, List.countP_append, List.countP_cons_of_neg (by
    cases q : eds g.es (g.vs.getD k 0) with
    | nil => rw [q] at h; exact absurd rfl h
    | cons => simp)]
  rfl
theorem alo_all (g : Gr) : alo g g.vs.length = alone g := by
  unfold alo alone
  rw [List.take_length]
  congr 1
  funext v
  rw [← eds_len]
  cases eds g.es v <;> rfl
theorem alo_le (g : Gr) (k : Nat) : alo g k ≤ g.vs.length := Nat.le_trans List.countP_le_length (List.length_take_le' _ _)
attribute [local irreducible] V
attribute [local irreducible] wpList in
set_option maxRecDepth 100000 in
set_option maxHeartbeats 4000000 in
theorem rtwice_walk (w : World) (v : Value) (g : Gr) (rots : List (List UInt32)) (t : Nat) (h : RM w v g rots) (hM : MapOk g rots) (ht : 2 * (parts g).length + g.es.length = alone g + g.vs.length + nfaces g rots + 2 * t) :
    Calls Tryz.prog 16 #[v] w fun e w' => e = .returned (.int .i64 (2 * (t : Int))) ∧ Below w.heap.size w w' := by
  have HRM := Lib.hid h
  have HOK := Lib.hid hM
  obtain ⟨A, c, B, d, C, ce, rfl, hg, hr⟩ := h
  have hrv : Rd w A g.vs := by
    obtain ⟨_, _, _, _, q, _, _, h1, _⟩ := hg
    simp only [Value.agg.injEq, Array.mk.injEq, List.cons.injEq, Value.slice.injEq] at q
    rw [q.1.1]; exact h1
  have HV := Lib.hid hrv
  have HG := Lib.hid hg
  have hne := hM.may.ne
  have hnv := hM.may.nv
  have hal := alone_le g
  have hpl := parts_le g
  have hfl := hM.faces_len
  have HB1 : Hid (Below w.heap.size w (w.alloc (.cells #[.slice A g.vs.length c, .slice B g.es.length d, .slice C rots.length ce] 28))) := (Below.refl _ w).alloc (Nat.le_refl _) _
  have HK1 : Hid (Blk (w.alloc (.cells #[.slice A g.vs.length c, .slice B g.es.length d, .slice C rots.length ce] 28)) w.heap.size 28 #[.slice A g.vs.length c, .slice B g.es.length d, .slice C rots.length ce]) := Blk.fresh _ _ _
  have HP := Lib.hid (fun W hW => rparts_walk W (.agg #[.slice A g.vs.length c, .slice B g.es.length d]) g hW hM.may)
  have HF := Lib.hid (fun W hW => rfaces_walk W (.agg #[.slice A g.vs.length c, .slice B g.es.length d, .slice C rots.length ce]) g rots hW hM)
  have HE1 : Hid (IntKind.i64.wrap (2 * ((parts g).length : Int)) = 2 * ((parts g).length : Int)) := IntWalk.i64_in _ (by omega)
  have HE2 : Hid (IntKind.i64.wrap (2 * ((parts g).length : Int) - (alone g : Int)) = 2 * ((parts g).length : Int) - (alone g : Int)) := IntWalk.i64_in _ (by omega)
  have HE3 : Hid (IntKind.i64.wrap (2 * ((parts g).length : Int) - (alone g : Int) - (g.vs.length : Int)) = 2 * ((parts g).length : Int) - (alone g : Int) - (g.vs.length : Int)) := IntWalk.i64_in _ (by omega)
  have HE4 : Hid (IntKind.i64.wrap (2 * ((parts g).length : Int) - (alone g : Int) - (g.vs.length : Int) + (g.es.length : Int)) = 2 * ((parts g).length : Int) - (alone g : Int) - (g.vs.length : Int) + (g.es.length : Int)) := IntWalk.i64_in _ (by omega)
  have HE5 : Hid (IntKind.i64.wrap (2 * ((parts g).length : Int) - (alone g : Int) - (g.vs.length : Int) + (g.es.length : Int) - ((allf g rots).length : Int)) = 2 * (t : Int)) := by
    show _ = _
    rw [IntWalk.i64_in _ (by omega), hfl]; omega
  clear hg hr hM ht hfl hal hpl hrv
  go_enter Tryz.func16, Tryz.ntmps16
  go_wp2
  have HSZ1 : Hid (w.heap.size ≤ (w.alloc (.cells #[.slice A g.vs.length c, .slice B g.es.length d, .slice C rots.length ce] 28)).heap.size) := HB1.out.size
  generalize hw1 : w.alloc (.cells #[.slice A g.vs.length c, .slice B g.es.length d, .slice C rots.length ce] 28) = w1 at *
  clear hw1
  go_loopw [3, 10] (fun a i wr => ∃ (k : Nat), k ≤ g.vs.length ∧ i = .int .i64 k ∧ a = .int .i64 (alo g k : Nat) ∧ Below w1.heap.size w1 wr) (fun _ i _ => g.vs.length - (intOf i).toNat)
  case atStart => exact ⟨0, Nat.zero_le _, rfl, rfl, Below.refl _ _⟩
  case round =>
    obtain ⟨k, hk, rfl, rfl, hb⟩ := hrel
    have HBr := Lib.hid hb
    have HBW : Hid (Below w.heap.size w wr) := HB1.out.trans (Below.mono hb HSZ1.out)
    have HKr := Lib.hid (HK1.out.kept hb HK1.out.lt)
    have hak := alo_le g k
    clear hb
    by_cases hlt : k < g.vs.length
    · obtain ⟨b, o, rfl, hcc⟩ := (HV.out.kept HBW.out (Nat.le_refl _)).spot (by omega)
      have hcell := hcc k hlt
      rw [getD_at hlt] at hcell
      have k0 := HKr.out.cell 0
      have k1 := HKr.out.cell 1
      have HE := Lib.hid (rends9_walk wr (.agg #[.slice (some ⟨b, o, none⟩) g.vs.length c, .slice B g.es.length d]) g (g.vs.getD k 0) (HG.out.kept HBW.out) (by omega))
      have HY := Lib.hid (fun q => alo_yes (g := g) hlt q)
      have HN := Lib.hid (fun q => alo_no (g := g) hlt q)
      clear hcc
      generalize g.vs.getD k 0 = x at *
      generalize alo g k = ak at *
      generalize eds g.es x = es at *
      by_cases h0 : es.length = 0
      · have t0 : ((es.length : Int) == 0) = true := by simp [h0]
        have HY2 := Lib.hid (HY.out h0)
        clear h0
        go_wp2_with (go_at_call 43; refine HE.out.mono ?_; rintro e w2 ⟨u, rfl, hu, hb2⟩; obtain ⟨A2, c2, hu2, _⟩ := hu; subst hu2; have HB2 := Lib.hid hb2; clear hb2)
        go_roundw
        case rel => exact ⟨k + 1, by omega, by go_num, by rw [HY2.out]; go_num, HBr.out.trans (Below.mono HB2.out HBr.out.size)⟩
        case measure => simp [intOf]; omega
      · have t0 : ((es.length : Int) == 0) = false := beq_false_of_ne (by omega)
        have HN2 := Lib.hid (HN.out h0)
        clear h0
        go_wp2_with (go_at_call 43; refine HE.out.mono ?_; rintro e w2 ⟨u, rfl, hu, hb2⟩; obtain ⟨A2, c2, hu2, _⟩ := hu; subst hu2; have HB2 := Lib.hid hb2; clear hb2)
        go_roundw
        case rel => exact ⟨k + 1, by omega, by go_num, by rw [HN2.out], HBr.out.trans (Below.mono HB2.out HBr.out.size)⟩
        case measure => simp [intOf]; omega
    · obtain rfl : k = g.vs.length := by omega
      have hall := alo_all g
      rw [hall]
      clear hak hall hlt hk
      go_wp2
      have e1 := HE1.out
      have e2 := HE2.out
      have e3 := HE3.out
      have e4 := HE4.out
      have e5 := HE5.out
      have HM1 : Hid (RM wr.drew (.agg #[.slice A g.vs.length c, .slice B g.es.length d, .slice C rots.length ce]) g rots) := HRM.out.kept (HBW.out.trans (Below.dr _ _))
      have HB1d : Hid (Below w.heap.size w wr.drew) := HBW.out.trans (Below.dr _ _)
      have S0 : Hid (wr.drew.cell? ⟨w.heap.size, 0, none⟩ = some (.slice A g.vs.length c) ∧ wr.drew.cell? ⟨w.heap.size, 1, none⟩ = some (.slice B g.es.length d) ∧ wr.drew.cell? ⟨w.heap.size, 2, none⟩ = some (.slice C rots.length ce)) := ⟨HKr.out.cell 0, HKr.out.cell 1, HKr.out.cell 2⟩
      go_region_held3 (fun W => W.cell? ⟨w.heap.size, 0, none⟩ = some (.slice A g.vs.length c) ∧ W.cell? ⟨w.heap.size, 1, none⟩ = some (.slice B g.es.length d) ∧ W.cell? ⟨w.heap.size, 2, none⟩ = some (.slice C rots.length ce)) (first | exact S3.out | exact S1.out | exact S0.out) (first
        | (go_at_call 51; refine (HP.out _ HM1.out.rg).mono ?_; rintro e w2 ⟨u, rfl, hu, hb2⟩; obtain ⟨A2, c2, hu2, _⟩ := hu; subst hu2; have HM2 := Lib.hid (HM1.out.kept hb2); have HB2 := Lib.hid (HB1d.out.trans (Below.mono hb2 HB1d.out.size)); have HK2 : Hid (Blk w2 w.heap.size 28 #[.slice A g.vs.length c, .slice B g.es.length d, .slice C rots.length ce]) := Blk.kept (w := wr.drew) HKr.out hb2 HKr.out.lt; have S1 : Hid (w2.cell? ⟨w.heap.size, 0, none⟩ = some (.slice A g.vs.length c) ∧ w2.cell? ⟨w.heap.size, 1, none⟩ = some (.slice B g.es.length d) ∧ w2.cell? ⟨w.heap.size, 2, none⟩ = some (.slice C rots.length ce)) := ⟨HK2.out.cell 0, HK2.out.cell 1, HK2.out.cell 2⟩; clear hb2)
        | (go_at_call 14; refine (HF.out _ HM2.out).mono ?_; rintro e w4 ⟨u4, rfl, hu4, hb4⟩; obtain ⟨A4, c4, hv4⟩ := hu4.slice; subst hv4; have HB4 := Lib.hid (HB2.out.trans (Below.mono hb4 HB2.out.size)); have HK4 := Lib.hid (HK2.out.kept hb4 HK2.out.lt); have S3 : Hid (w4.cell? ⟨w.heap.size, 0, none⟩ = some (.slice A g.vs.length c) ∧ w4.cell? ⟨w.heap.size, 1, none⟩ = some (.slice B g.es.length d) ∧ w4.cell? ⟨w.heap.size, 2, none⟩ = some (.slice C rots.length ce)) := ⟨HK4.out.cell 0, HK4.out.cell 1, HK4.out.cell 2⟩; clear hu4 hb4))
      go_wp2
      go_ret
      exact ⟨by simp, HB4.out⟩
end Go.Proofs.YtcinbmekjlmdpaaGreat
