/- rot.Genus. -/
import Derived.Test.YtcinbmekjlmdpaaGreatY0m
import Derived.Test.YtcinbmekjlmdpaaGreatY0g
import Derived.Test.YtcinbmekjlmdpaaGreatY0k

/-! rot.Genus. -/
namespace Go.Proofs.YtcinbmekjlmdpaaGreat
open Go.RowKit

theorem RM.rg {w : World} {A B C : Option Addr} {n c m d k e : Nat} {g : Gr} {rots : List (List UInt32)} (h : RM w (.agg #[.slice A n c, .slice B m d, .slice C k e]) g rots) : RG w (.agg #[.slice A n c, .slice B m d]) g := by
  obtain ⟨A2, c2, B2, d2, C2, e2, h1, h2, h3⟩ := h
  simp only [Value.agg.injEq, Array.mk.injEq, List.cons.injEq, Value.slice.injEq] at h1
  obtain ⟨⟨rfl, rfl, rfl⟩, ⟨rfl, rfl, rfl⟩, _⟩ := h1
  exact h2
theorem alone_le (g : Gr) : alone g ≤ g.vs.length := List.countP_le_length
theorem parts_le (g : Gr) : (parts g).length ≤ g.vs.length := by unfold parts; rw [List.length_map]; exact List.length_filter_le _ _
attribute [local irreducible] V
attribute [local irreducible] wpList in
set_option maxRecDepth 100000 in
set_option maxHeartbeats 4000000 in
/-- rot.Genus: half of what the parts, the lone ones, vertices, edges and faces come to. -/
theorem genus_walk (w : World) (v : Value) (g : Gr) (rots : List (List UInt32)) (t : Nat) (h : RM w v g rots) (hM : MapOk g rots) (ht : 2 * (parts g).length + g.es.length = alone g + g.vs.length + nfaces g rots + 2 * t) :
    Calls Tryz.prog 15 #[v] w fun e w' => e = .returned (.int .i64 (t : Int)) ∧ Below w.heap.size w w' := by
  have HRM := Lib.hid h
  have HOK := Lib.hid hM
  obtain ⟨A, c, B, d, C, ce, rfl, hg, hr⟩ := h
  have hne := hM.may.ne
  have hnv := hM.may.nv
  have hal := alone_le g
  have hpl := parts_le g
  have hfl := hM.faces_len
  have HB1 : Hid (Below w.heap.size w (w.alloc (.cells #[.slice A g.vs.length c, .slice B g.es.length d, .slice C rots.length ce] 28))) := (Below.refl _ w).alloc (Nat.le_refl _) _
  have HK1 : Hid (Blk (w.alloc (.cells #[.slice A g.vs.length c, .slice B g.es.length d, .slice C rots.length ce] 28)) w.heap.size 28 #[.slice A g.vs.length c, .slice B g.es.length d, .slice C rots.length ce]) := Blk.fresh _ _ _
  have HP := Lib.hid (fun W hW => parts_walk W (.agg #[.slice A g.vs.length c, .slice B g.es.length d]) g hW hM.may)
  have HA := Lib.hid (fun W hW => alone_walk W (.agg #[.slice A g.vs.length c, .slice B g.es.length d]) g hW (by omega) (by omega))
  have HF := Lib.hid (fun W hW => faces_walk W (.agg #[.slice A g.vs.length c, .slice B g.es.length d, .slice C rots.length ce]) g rots hW hM)
  have e1 : IntKind.i64.wrap (2 * ((parts g).length : Int)) = 2 * ((parts g).length : Int) := IntWalk.i64_in _ (by omega)
  have e2 : IntKind.i64.wrap (2 * ((parts g).length : Int) - (alone g : Int)) = 2 * ((parts g).length : Int) - (alone g : Int) := IntWalk.i64_in _ (by omega)
  have e3 : IntKind.i64.wrap (2 * ((parts g).length : Int) - (alone g : Int) - (g.vs.length : Int)) = 2 * ((parts g).length : Int) - (alone g : Int) - (g.vs.length : Int) := IntWalk.i64_in _ (by omega)
  have e4 : IntKind.i64.wrap (2 * ((parts g).length : Int) - (alone g : Int) - (g.vs.length : Int) + (g.es.length : Int)) = 2 * ((parts g).length : Int) - (alone g : Int) - (g.vs.length : Int) + (g.es.length : Int) := IntWalk.i64_in _ (by omega)
  have e5 : IntKind.i64.wrap (2 * ((parts g).length : Int) - (alone g : Int) - (g.vs.length : Int) + (g.es.length : Int) - ((allf g rots).length : Int)) = 2 * (t : Int) := by
    rw [IntWalk.i64_in _ (by omega), hfl]; omega
  have e6 : (2 * (t : Int)).tdiv 2 = (t : Int) := Int.mul_tdiv_cancel_left _ (by decide)
  have e7 : IntKind.i64.wrap (t : Int) = (t : Int) := IntWalk.i64_in _ (by omega)
  clear hg hr hM ht hfl hal hpl hne hnv
  go_enter Tryz.func15, Tryz.ntmps15
  go_wp2
  generalize hw1 : w.alloc (.cells #[.slice A g.vs.length c, .slice B g.es.length d, .slice C rots.length ce] 28) = w1 at *
  clear hw1
  have HM1 : Hid (RM w1.drew (.agg #[.slice A g.vs.length c, .slice B g.es.length d, .slice C rots.length ce]) g rots) := HRM.out.kept (HB1.out.trans (Below.dr _ _))
  have HB1d : Hid (Below w.heap.size w w1.drew) := HB1.out.trans (Below.dr _ _)
  have S0 : Hid (w1.drew.cell? ⟨w.heap.size, 0, none⟩ = some (.slice A g.vs.length c) ∧ w1.drew.cell? ⟨w.heap.size, 1, none⟩ = some (.slice B g.es.length d) ∧ w1.drew.cell? ⟨w.heap.size, 2, none⟩ = some (.slice C rots.length ce)) := ⟨HK1.out.cell 0, HK1.out.cell 1, HK1.out.cell 2⟩
  go_region_held3 (fun W => W.cell? ⟨w.heap.size, 0, none⟩ = some (.slice A g.vs.length c) ∧ W.cell? ⟨w.heap.size, 1, none⟩ = some (.slice B g.es.length d) ∧ W.cell? ⟨w.heap.size, 2, none⟩ = some (.slice C rots.length ce)) (first | exact S3.out | exact S2.out | exact S1.out | exact S0.out) (first
    | (go_at_call 49; refine (HP.out _ HM1.out.rg).mono ?_; rintro e w2 ⟨u, rfl, hu, hb2⟩; obtain ⟨A2, c2, hu2, _⟩ := hu; subst hu2; have HM2 := Lib.hid (HM1.out.kept hb2); have HB2 := Lib.hid (HB1d.out.trans (Below.mono hb2 HB1d.out.size)); have HK2 : Hid (Blk w2 w.heap.size 28 #[.slice A g.vs.length c, .slice B g.es.length d, .slice C rots.length ce]) := Blk.kept (w := w1.drew) HK1.out hb2 HK1.out.lt; have S1 : Hid (w2.cell? ⟨w.heap.size, 0, none⟩ = some (.slice A g.vs.length c) ∧ w2.cell? ⟨w.heap.size, 1, none⟩ = some (.slice B g.es.length d) ∧ w2.cell? ⟨w.heap.size, 2, none⟩ = some (.slice C rots.length ce)) := ⟨HK2.out.cell 0, HK2.out.cell 1, HK2.out.cell 2⟩; clear hb2)
    | (go_at_call 50; refine (HA.out _ HM2.out.rg).mono ?_; rintro e w3 ⟨rfl, hb3⟩; have HM3 := Lib.hid (HM2.out.kept hb3); have HB3 := Lib.hid (HB2.out.trans (Below.mono hb3 HB2.out.size)); have HK3 := Lib.hid (HK2.out.kept hb3 HK2.out.lt); have S2 : Hid (w3.cell? ⟨w.heap.size, 0, none⟩ = some (.slice A g.vs.length c) ∧ w3.cell? ⟨w.heap.size, 1, none⟩ = some (.slice B g.es.length d) ∧ w3.cell? ⟨w.heap.size, 2, none⟩ = some (.slice C rots.length ce)) := ⟨HK3.out.cell 0, HK3.out.cell 1, HK3.out.cell 2⟩; clear hb3)
    | (go_at_call 13; refine (HF.out _ HM3.out).mono ?_; rintro e w4 ⟨u4, rfl, hu4, hb4⟩; obtain ⟨A4, c4, hv4⟩ := hu4.slice; subst hv4; have HB4 := Lib.hid (HB3.out.trans (Below.mono hb4 HB3.out.size)); have HK4 := Lib.hid (HK3.out.kept hb4 HK3.out.lt); have S3 : Hid (w4.cell? ⟨w.heap.size, 0, none⟩ = some (.slice A g.vs.length c) ∧ w4.cell? ⟨w.heap.size, 1, none⟩ = some (.slice B g.es.length d) ∧ w4.cell? ⟨w.heap.size, 2, none⟩ = some (.slice C rots.length ce)) := ⟨HK4.out.cell 0, HK4.out.cell 1, HK4.out.cell 2⟩; clear hu4 hb4))
  go_wp2
  go_ret
  exact ⟨by simp, HB4.out⟩
end Go.Proofs.YtcinbmekjlmdpaaGreat

/-! rot.Check, rot.Right, over what slices.Sorted answers. -/
namespace Go.Proofs.YtcinbmekjlmdpaaGreat
open Go.RowKit

/-- Is the turn at place i right, as the program asks? -/
def okP (g : Gr) (rots : List (List UInt32)) (srt : List UInt32 → List UInt32) (i : Nat) : Bool :=
  decide (srt (rots.getD i []) = eds g.es (g.vs.getD i 0)) && decide (rots.getD i [] = norm (rots.getD i []))
def pck (g : Gr) (rots : List (List UInt32)) (srt : List UInt32 → List UInt32) : Int := if chk g = 0 then (if rots.length = g.vs.length ∧ ∀ i, i < g.vs.length → okP g rots srt i = true then 0 else 22) else chk g
theorem pck_bad {g : Gr} {rots : List (List UInt32)} {srt : List UInt32 → List UInt32} (h : ¬ chk g = 0) : pck g rots srt = chk g := if_neg h
theorem pck_len {g : Gr} {rots : List (List UInt32)} {srt : List UInt32 → List UInt32} (h : chk g = 0) (hl : ¬ rots.length = g.vs.length) : pck g rots srt = 22 := by
  unfold pck; rw [if_pos h, if_neg (fun q => hl q.1)]
theorem pck_turn {g : Gr} {rots : List (List UInt32)} {srt : List UInt32 → List UInt32} (h : chk g = 0) {i : Nat} (hi : i < g.vs.length) (ht : okP g rots srt i = false) : pck g rots srt = 22 := by
  unfold pck; rw [if_pos h, if_neg (fun q => by have := q.2 i hi; rw [ht] at this; cases this)]
theorem pck_ok {g : Gr} {rots : List (List UInt32)} {srt : List UInt32 → List UInt32} (h : chk g = 0) (hl : rots.length = g.vs.length) (ht : ∀ i, i < g.vs.length → okP g rots srt i = true) : pck g rots srt = 0 := by
  unfold pck; rw [if_pos h, if_pos ⟨hl, ht⟩]
attribute [local irreducible] V
attribute [local irreducible] wpList in
set_option maxRecDepth 100000 in
set_option maxHeartbeats 4000000 in
/-- rot.Check. -/
theorem check10_walk (w : World) (v : Value) (g : Gr) (rots : List (List UInt32)) (srt : List UInt32 → List UInt32) (h : RM w v g rots) (hl1000 : rots.length ≤ 1000) (hS : ∀ i, i < rots.length → Srt (rots.getD i []) (srt (rots.getD i []))) :
    Calls Tryz.prog 9 #[v] w fun e w' => e = .returned (.int .i64 (pck g rots srt)) ∧ Below w.heap.size w w' := by
  have HRM := Lib.hid h
  have HS := Lib.hid hS
  obtain ⟨A, c, B, dd, C, ce, rfl, hg, hr⟩ := h
  have HG := Lib.hid hg
  have HR := Lib.hid hr
  have hrv : Rd w A g.vs := by
    obtain ⟨_, _, _, _, q, _, _, h1, _⟩ := hg
    simp only [Value.agg.injEq, Array.mk.injEq, List.cons.injEq, Value.slice.injEq] at q
    rw [q.1.1]; exact h1
  have HV := Lib.hid hrv
  have hnv := hrv.len
  have HB : Hid (Below w.heap.size w (w.alloc (.cells #[.slice A g.vs.length c, .slice B g.es.length dd, .slice C rots.length ce] 28))) := (Below.refl _ w).alloc (Nat.le_refl _) _
  have HBK : Hid (Blk (w.alloc (.cells #[.slice A g.vs.length c, .slice B g.es.length dd, .slice C rots.length ce] 28)) w.heap.size 28 #[.slice A g.vs.length c, .slice B g.es.length dd, .slice C rots.length ce]) := Blk.fresh _ _ _
  have HC := Lib.hid (fun W hW => check_walk W (.agg #[.slice A g.vs.length c, .slice B g.es.length dd]) g hW)
  clear hg hr hrv hS
  by_cases hc : chk g = 0
  · have HM := Lib.hid (May.of hc)
    have hne : g.es.length ≤ 160 := HM.out.ne
    rw [hc] at HC
    have HCK := Lib.hid hc
    by_cases hll : rots.length = g.vs.length
    · have HLL := Lib.hid hll
      have t0 : ((rots.length : Int) != (g.vs.length : Int)) = false := by rw [hll]; simp
      clear hll hc
      go_enter Tryz.func9, Tryz.ntmps9
      go_wp2_with (go_at_call 39; refine (HC.out _ (HG.out.kept HB.out)).mono ?_; rintro e w1 ⟨rfl, hb⟩; have HB1 : Hid (Below w.heap.size w w1) := HB.out.trans (Below.mono hb HB.out.size); have HK1 := Lib.hid (HBK.out.kept hb HBK.out.lt); have k0 : w1.cell? ⟨w.heap.size, 0, none⟩ = some (.slice A g.vs.length c) := HK1.out.cell 0; have k2 : w1.cell? ⟨w.heap.size, 2, none⟩ = some (.slice C rots.length ce) := HK1.out.cell 2; clear hb)
      clear k0 k2
      go_loopw [23] (fun i wr => ∃ k : Nat, k ≤ rots.length ∧ i = .int .i64 k ∧ (∀ j, j < k → okP g rots srt j = true) ∧ Below w1.heap.size w1 wr) (fun i _ => rots.length - (intOf i).toNat)
      case atStart => exact ⟨0, Nat.zero_le _, rfl, fun j hj => absurd hj (Nat.not_lt_zero _), Below.refl _ _⟩
      case round =>
        obtain ⟨k, hk, rfl, hok, hb⟩ := hrel
        have HOK := Lib.hid hok
        have HBr := Lib.hid hb
        have HBW : Hid (Below w.heap.size w wr) := HB1.out.trans (Below.mono hb HB1.out.size)
        have HKr := Lib.hid (HK1.out.kept hb HK1.out.lt)
        have HRr := Lib.hid (HR.out.kept HBW.out)
        clear hok hb
        by_cases hlt : k < rots.length
        · have hkv : k < g.vs.length := by rw [← HLL.out]; exact hlt
          obtain ⟨b, o, rfl, hb0, hcc⟩ := HV.out.place (by omega)
          have hcell0 := hcc k hkv
          rw [getD_at hkv] at hcell0
          have HB0 := Lib.hid hb0
          have HC0 := Lib.hid hcell0
          obtain ⟨_, _, q3, _, z3⟩ := HRr.out
          injection q3 with q3 q3a q3b
          subst q3 q3b
          obtain ⟨b3, o3, rfl, hb3, h3⟩ := z3 (by omega)
          obtain ⟨u5, hc5, hr5⟩ := h3 k hlt
          have HR5 := Lib.hid hr5
          obtain ⟨A5, c5, rfl, _, hr5b⟩ := hr5
          have hl5 := hr5b.len
          have HE := Lib.hid (fun W hW => ends9_walk W (.agg #[.slice (some ⟨b, o, none⟩) g.vs.length c, .slice B g.es.length dd]) g (g.vs.getD k 0) hW (by omega))
          have HSK := Lib.hid (HS.out k hlt)
          have HO1 : Hid (okP g rots srt k = (decide (srt (rots.getD k []) = eds g.es (g.vs.getD k 0)) && decide (rots.getD k [] = norm (rots.getD k [])))) := rfl
          have HO2 := Lib.hid (fun q => pck_turn (rots := rots) (srt := srt) HCK.out hkv q)
          have HRB := Lib.hid hb3
          have S0 : Hid (wr.drew.cell? ⟨w.heap.size, 0, none⟩ = some (.slice (some ⟨b, o, none⟩) g.vs.length c) ∧ wr.drew.cell? ⟨w.heap.size, 1, none⟩ = some (.slice B g.es.length dd) ∧ wr.drew.cell? ⟨b, o + k, none⟩ = some (V (g.vs.getD k 0))) := ⟨HKr.out.cell 0, HKr.out.cell 1, (HBW.out.cell (p := ⟨b, o + k, none⟩) hb0).trans hcell0⟩
          have HGd : Hid (RG wr.drew (.agg #[.slice (some ⟨b, o, none⟩) g.vs.length c, .slice B g.es.length dd]) g) := HG.out.kept (HBW.out.trans (Below.dr _ _))
          have HBd : Hid (Below w.heap.size w wr.drew) := HBW.out.trans (Below.dr _ _)
          have HR5d : Hid (RV wr.drew (.slice A5 (rots.getD k []).length c5) (rots.getD k [])) := HR5.out.kept (Below.dr _ _)
          have HBLd : Hid (Below w1.heap.size w1 wr.drew) := HBr.out.trans (Below.dr _ _)
          have HW1 : Hid (w1.heap.size ≤ wr.drew.heap.size) := HBr.out.size
          clear hcc z3 h3 hr5b hcell0 hb0 hb3
          generalize rots.getD k [] = row at *
          generalize g.vs.getD k 0 = x at *
          have hk0 : (0 : Int) ≤ (k : Int) := by omega
          have hk1 : (k : Int) < (g.vs.length : Int) := by omega
          cases hq : okP g rots srt k with
          | true =>
            rw [hq] at HO1
            have HT := Lib.hid (fun W u' (h1 : RV W (.slice A5 row.length c5) row) (h2 : RV W u' (eds g.es x)) => isturn_walk W (.slice A5 row.length c5) u' row (eds g.es x) (srt row) h1 h2 HSK.out)
            rw [← HO1.out] at HT
            have HQ := Lib.hid hq
            clear hq
            go_wp2
            go_region_held3 (fun W => W.cell? ⟨w.heap.size, 0, none⟩ = some (.slice (some ⟨b, o, none⟩) g.vs.length c) ∧ W.cell? ⟨w.heap.size, 1, none⟩ = some (.slice B g.es.length dd) ∧ W.cell? ⟨b, o + k, none⟩ = some (V x)) (first | exact S2.out | exact S1.out | exact S0.out) (first
              | (go_at_call 41; refine (HE.out _ HGd.out).mono ?_; rintro e w4 ⟨u, rfl, hu, hb4⟩; have HU4 := Lib.hid hu; have HB4 := Lib.hid hb4; have HR4 := Lib.hid (HR5d.out.kept hb4); have HK4 : Hid (Blk w4 w.heap.size 28 #[.slice (some ⟨b, o, none⟩) g.vs.length c, .slice B g.es.length dd, .slice (some ⟨b3, o3, none⟩) rots.length ce]) := Blk.kept (w := wr.drew) HKr.out hb4 HKr.out.lt; have HBd4 := Lib.hid (HBd.out.trans (Below.mono hb4 HBd.out.size)); have S1 : Hid (w4.cell? ⟨w.heap.size, 0, none⟩ = some (.slice (some ⟨b, o, none⟩) g.vs.length c) ∧ w4.cell? ⟨w.heap.size, 1, none⟩ = some (.slice B g.es.length dd) ∧ w4.cell? ⟨b, o + k, none⟩ = some (V x)) := ⟨HK4.out.cell 0, HK4.out.cell 1, (HBd4.out.cell (p := ⟨b, o + k, none⟩) HB0.out).trans HC0.out⟩; clear hu hb4)
              | (go_at_call 40; refine (HT.out _ _ HR4.out HU4.out).mono ?_; rintro e w6 ⟨rfl, hb6⟩; have HB6 := Lib.hid hb6; have HBd6 := Lib.hid (HBd4.out.trans (Below.mono hb6 HBd4.out.size)); have HK6 := Lib.hid (HK4.out.kept hb6 HK4.out.lt); have S2 : Hid (w6.cell? ⟨w.heap.size, 0, none⟩ = some (.slice (some ⟨b, o, none⟩) g.vs.length c) ∧ w6.cell? ⟨w.heap.size, 1, none⟩ = some (.slice B g.es.length dd) ∧ w6.cell? ⟨b, o + k, none⟩ = some (V x)) := ⟨HK6.out.cell 0, HK6.out.cell 1, (HBd6.out.cell (p := ⟨b, o + k, none⟩) HB0.out).trans HC0.out⟩; clear hb6))
            all_goals
              clear S0 S1 S2
              go_wp2
              go_roundw
              case rel =>
                refine ⟨k + 1, by omega, by go_num, fun j hj => ?_, ?_⟩
                · by_cases e : j = k
                  · rw [e]; exact HQ.out
                  · exact HOK.out j (by omega)
                · have h1 := HBLd.out.trans (Below.mono HB4.out HW1.out)
                  exact h1.trans (Below.mono HB6.out h1.size)
              case measure => simp [intOf]; omega
          | false =>
            have HP := Lib.hid (HO2.out hq)
            rw [hq] at HO1
            have HT := Lib.hid (fun W u' (h1 : RV W (.slice A5 row.length c5) row) (h2 : RV W u' (eds g.es x)) => isturn_walk W (.slice A5 row.length c5) u' row (eds g.es x) (srt row) h1 h2 HSK.out)
            rw [← HO1.out] at HT
            clear hq
            go_wp2
            go_region_held3 (fun W => W.cell? ⟨w.heap.size, 0, none⟩ = some (.slice (some ⟨b, o, none⟩) g.vs.length c) ∧ W.cell? ⟨w.heap.size, 1, none⟩ = some (.slice B g.es.length dd) ∧ W.cell? ⟨b, o + k, none⟩ = some (V x)) (first | exact S2.out | exact S1.out | exact S0.out) (first
              | (go_at_call 41; refine (HE.out _ HGd.out).mono ?_; rintro e w4 ⟨u, rfl, hu, hb4⟩; have HU4 := Lib.hid hu; have HB4 := Lib.hid hb4; have HR4 := Lib.hid (HR5d.out.kept hb4); have HK4 : Hid (Blk w4 w.heap.size 28 #[.slice (some ⟨b, o, none⟩) g.vs.length c, .slice B g.es.length dd, .slice (some ⟨b3, o3, none⟩) rots.length ce]) := Blk.kept (w := wr.drew) HKr.out hb4 HKr.out.lt; have HBd4 := Lib.hid (HBd.out.trans (Below.mono hb4 HBd.out.size)); have S1 : Hid (w4.cell? ⟨w.heap.size, 0, none⟩ = some (.slice (some ⟨b, o, none⟩) g.vs.length c) ∧ w4.cell? ⟨w.heap.size, 1, none⟩ = some (.slice B g.es.length dd) ∧ w4.cell? ⟨b, o + k, none⟩ = some (V x)) := ⟨HK4.out.cell 0, HK4.out.cell 1, (HBd4.out.cell (p := ⟨b, o + k, none⟩) HB0.out).trans HC0.out⟩; clear hu hb4)
              | (go_at_call 40; refine (HT.out _ _ HR4.out HU4.out).mono ?_; rintro e w6 ⟨rfl, hb6⟩; have HB6 := Lib.hid hb6; have HBd6 := Lib.hid (HBd4.out.trans (Below.mono hb6 HBd4.out.size)); have HK6 := Lib.hid (HK4.out.kept hb6 HK4.out.lt); have S2 : Hid (w6.cell? ⟨w.heap.size, 0, none⟩ = some (.slice (some ⟨b, o, none⟩) g.vs.length c) ∧ w6.cell? ⟨w.heap.size, 1, none⟩ = some (.slice B g.es.length dd) ∧ w6.cell? ⟨b, o + k, none⟩ = some (V x)) := ⟨HK6.out.cell 0, HK6.out.cell 1, (HBd6.out.cell (p := ⟨b, o + k, none⟩) HB0.out).trans HC0.out⟩; clear hb6))
            all_goals
              clear S0 S1 S2
              go_wp2
              go_ret
              exact ⟨by rw [HP.out]; rfl, HBd6.out⟩
        · obtain rfl : k = rots.length := by omega
          have HP : Hid (pck g rots srt = 0) := pck_ok HCK.out HLL.out fun i hi => HOK.out i (by rw [HLL.out]; exact hi)
          go_wp2
          go_ret
          exact ⟨by rw [HP.out]; rfl, HBW.out⟩
    · have HP := Lib.hid (pck_len (srt := srt) hc hll)
      have t0 : ((rots.length : Int) != (g.vs.length : Int)) = true := by simp; omega
      clear hll hc
      go_enter Tryz.func9, Tryz.ntmps9
      go_wp2_with (go_at_call 39; refine (HC.out _ (HG.out.kept HB.out)).mono ?_; rintro e w1 ⟨rfl, hb⟩; have HB1 : Hid (Below w.heap.size w w1) := HB.out.trans (Below.mono hb HB.out.size); have HK1 := Lib.hid (HBK.out.kept hb HBK.out.lt); have k0 : w1.cell? ⟨w.heap.size, 0, none⟩ = some (.slice A g.vs.length c) := HK1.out.cell 0; have k2 : w1.cell? ⟨w.heap.size, 2, none⟩ = some (.slice C rots.length ce) := HK1.out.cell 2; clear hb)
      go_ret
      exact ⟨by rw [HP.out]; rfl, HB1.out⟩
  · have HP := Lib.hid (pck_bad (rots := rots) (srt := srt) hc)
    have t0 : (chk g != 0) = true := by simpa using hc
    have t1 : ¬ chk g = 0 := hc
    clear hc
    generalize chk g = q at *
    go_enter Tryz.func9, Tryz.ntmps9
    go_wp2_with (go_at_call 39; refine (HC.out _ (HG.out.kept HB.out)).mono ?_; rintro e w1 ⟨rfl, hb⟩; have HB1 : Hid (Below w.heap.size w w1) := HB.out.trans (Below.mono hb HB.out.size); clear hb)
    go_ret
    exact ⟨by rw [HP.out]; rfl, HB1.out⟩
end Go.Proofs.YtcinbmekjlmdpaaGreat

/-! Pure: whether a map may be. -/
namespace Go.Proofs.YtcinbmekjlmdpaaGreat

/-- Is the turn at place i right? -/
def okT (g : Gr) (rots : List (List UInt32)) (i : Nat) : Bool :=
  decide ((rots.getD i []).length = (eds g.es (g.vs.getD i 0)).length) && decide (rots.getD i [] = norm (rots.getD i [])) && (eds g.es (g.vs.getD i 0)).all fun d => (rots.getD i []).contains d
/-- What the document's Check answers. -/
def rck (g : Gr) (rots : List (List UInt32)) : Int := if chk g = 0 then (if rots.length = g.vs.length ∧ ∀ i, i < g.vs.length → okT g rots i = true then 0 else 22) else chk g
theorem rck_bad {g : Gr} {rots : List (List UInt32)} (h : ¬ chk g = 0) : rck g rots = chk g := if_neg h
theorem rck_len {g : Gr} {rots : List (List UInt32)} (h : chk g = 0) (hl : ¬ rots.length = g.vs.length) : rck g rots = 22 := by
  unfold rck; rw [if_pos h, if_neg (fun q => hl q.1)]
theorem rck_turn {g : Gr} {rots : List (List UInt32)} (h : chk g = 0) {i : Nat} (hi : i < g.vs.length) (ht : okT g rots i = false) : rck g rots = 22 := by
  unfold rck; rw [if_pos h, if_neg (fun q => by have := q.2 i hi; rw [ht] at this; cases this)]
theorem rck_ok {g : Gr} {rots : List (List UInt32)} (h : chk g = 0) (hl : rots.length = g.vs.length) (ht : ∀ i, i < g.vs.length → okT g rots i = true) : rck g rots = 0 := by
  unfold rck; rw [if_pos h, if_pos ⟨hl, ht⟩]
theorem okT_true {g : Gr} {rots : List (List UInt32)} {i : Nat} (h1 : (rots.getD i []).length = (eds g.es (g.vs.getD i 0)).length) (h2 : rots.getD i [] = norm (rots.getD i [])) (h3 : ∀ j, j < (eds g.es (g.vs.getD i 0)).length → (eds g.es (g.vs.getD i 0)).getD j 0 ∈ rots.getD i []) : okT g rots i = true := by
  unfold okT
  rw [decide_eq_true h1, decide_eq_true h2, Bool.true_and, Bool.true_and, List.all_eq_true]
  intro d hd
  obtain ⟨j, hj, rfl⟩ := List.getElem_of_mem hd
  rw [List.contains_iff_mem, getD_at hj]
  exact h3 j hj
theorem okT_len {g : Gr} {rots : List (List UInt32)} {i : Nat} (h1 : ¬ (rots.getD i []).length = (eds g.es (g.vs.getD i 0)).length) : okT g rots i = false := by
  unfold okT; rw [decide_eq_false h1]; rfl
theorem okT_norm {g : Gr} {rots : List (List UInt32)} {i : Nat} (h1 : ¬ rots.getD i [] = norm (rots.getD i [])) : okT g rots i = false := by
  unfold okT; rw [decide_eq_false h1]; simp
theorem okT_mem {g : Gr} {rots : List (List UInt32)} {i j : Nat} (hj : j < (eds g.es (g.vs.getD i 0)).length) (h1 : ¬ (eds g.es (g.vs.getD i 0)).getD j 0 ∈ rots.getD i []) : okT g rots i = false := by
  rw [Bool.eq_false_iff]
  intro h
  unfold okT at h
  rw [Bool.and_eq_true, List.all_eq_true] at h
  have := h.2 _ (List.getElem_mem hj)
  rw [List.contains_iff_mem, getD_at hj] at this
  exact h1 this
theorem okT_of {g : Gr} {rots : List (List UInt32)} {i : Nat} (h : okT g rots i = true) : (rots.getD i []).length = (eds g.es (g.vs.getD i 0)).length ∧ norm (rots.getD i []) = rots.getD i [] ∧ ∀ d ∈ eds g.es (g.vs.getD i 0), d ∈ rots.getD i [] := by
  unfold okT at h
  rw [Bool.and_eq_true, Bool.and_eq_true, List.all_eq_true] at h
  exact ⟨of_decide_eq_true h.1.1, (of_decide_eq_true h.1.2).symm, fun d hd => List.contains_iff_mem.1 (h.2 d hd)⟩
theorem MapOk.of {g : Gr} {rots : List (List UInt32)} (h : rck g rots = 0) : MapOk g rots := by
  unfold rck at h
  by_cases hc : chk g = 0
  · rw [if_pos hc] at h
    by_cases q : rots.length = g.vs.length ∧ ∀ i, i < g.vs.length → okT g rots i = true
    · exact ⟨May.of hc, q.1, fun i hi => okT_of (q.2 i hi)⟩
    · rw [if_neg q] at h; exact absurd h (by decide)
  · rw [if_neg hc] at h; exact absurd h hc
theorem ix_ge0 {l : List UInt32} {d : UInt32} (h : d ∈ l) : ix l d = (fst l d : Int) := ix_lt (fst_lt h)
theorem ix_out {l : List UInt32} {d : UInt32} (h : ¬ d ∈ l) : ix l d = -1 := ix_ge fun hl => by
  have := fst_yes _ d hl
  rw [beq_iff_eq] at this
  exact h (this ▸ List.getElem_mem hl)
end Go.Proofs.YtcinbmekjlmdpaaGreat

/-! Pure: the program's check of maps is the document's. -/
namespace Go.Proofs.YtcinbmekjlmdpaaGreat

theorem eds_up {g : Gr} (hM : May g) (x : UInt32) : (eds g.es x).Pairwise (· < ·) := hM.darts.sublist (eds_sub x g.es)
theorem u32_le_of_lt {a b : UInt32} (h : a < b) : a ≤ b := by rw [UInt32.lt_iff_toNat_lt] at h; rw [UInt32.le_iff_toNat_le]; omega
theorem okP_okT {g : Gr} (hM : May g) {rots : List (List UInt32)} {srt : List UInt32 → List UInt32} {i : Nat} (hp : (srt (rots.getD i [])).Perm (rots.getD i [])) (hs : (srt (rots.getD i [])).Pairwise (· ≤ ·)) : okP g rots srt i = okT g rots i := by
  rw [Bool.eq_iff_iff]
  constructor
  · intro h
    unfold okP at h
    rw [Bool.and_eq_true] at h
    have h1 := of_decide_eq_true h.1
    rw [h1] at hp
    exact okT_true hp.length_eq.symm (of_decide_eq_true h.2) fun j hj => hp.mem_iff.1 (by rw [← getD_at hj]; exact List.getElem_mem hj)
  · intro h
    obtain ⟨h1, h2, h3⟩ := okT_of h
    unfold okP
    rw [Bool.and_eq_true]
    refine ⟨decide_eq_true ?_, decide_eq_true h2.symm⟩
    have h4 : (eds g.es (g.vs.getD i 0)).Perm (rots.getD i []) := perm_of (eds_nodup hM _) h3 h1.symm
    exact List.Perm.eq_of_pairwise (fun a b _ _ q1 q2 => UInt32.le_antisymm q1 q2) hs ((eds_up hM _).imp u32_le_of_lt) (hp.trans h4.symm)
theorem pck_rck {g : Gr} {rots : List (List UInt32)} {srt : List UInt32 → List UInt32} (hp : ∀ i, (srt (rots.getD i [])).Perm (rots.getD i [])) (hs : ∀ i, (srt (rots.getD i [])).Pairwise (· ≤ ·)) : pck g rots srt = rck g rots := by
  unfold pck rck
  by_cases hc : chk g = 0
  · have hM := May.of hc
    rw [if_pos hc, if_pos hc]
    have e : (∀ i, i < g.vs.length → okP g rots srt i = true) ↔ (∀ i, i < g.vs.length → okT g rots i = true) :=
      ⟨fun h i hi => by rw [← okP_okT hM (hp i) (hs i)]; exact h i hi, fun h i hi => by rw [okP_okT hM (hp i) (hs i)]; exact h i hi⟩
    simp only [e]
  · rw [if_neg hc, if_neg hc]
end Go.Proofs.YtcinbmekjlmdpaaGreat

/-! rot.Right. -/
namespace Go.Proofs.YtcinbmekjlmdpaaGreat
open Go.RowKit

attribute [local irreducible] V
attribute [local irreducible] wpList in
set_option maxRecDepth 100000 in
set_option maxHeartbeats 2000000 in
theorem right_bad (w : World) (v : Value) (g : Gr) (rots : List (List UInt32)) (srt : List UInt32 → List UInt32) (h : RM w v g rots) (hl1000 : rots.length ≤ 1000) (hS : ∀ i, i < rots.length → Srt (rots.getD i []) (srt (rots.getD i []))) (hb : ¬ pck g rots srt = 0) :
    Calls Tryz.prog 11 #[v] w fun e w' => e = .returned (.int .i64 (pck g rots srt)) ∧ Below w.heap.size w w' := by
  have HRM := Lib.hid h
  obtain ⟨A, c, B, dd, C, ce, rfl, _, _⟩ := h
  have HB : Hid (Below w.heap.size w (w.alloc (.cells #[.slice A g.vs.length c, .slice B g.es.length dd, .slice C rots.length ce] 28))) := (Below.refl _ w).alloc (Nat.le_refl _) _
  have HC := Lib.hid (fun W hW => check10_walk W (.agg #[.slice A g.vs.length c, .slice B g.es.length dd, .slice C rots.length ce]) g rots srt hW hl1000 hS)
  have t0 : (pck g rots srt != 0) = true := by simpa using hb
  have t1 : ¬ pck g rots srt = 0 := hb
  clear hb hS
  generalize pck g rots srt = q at *
  go_enter Tryz.func11, Tryz.ntmps11
  go_wp2_with (go_at_call 9; refine (HC.out _ (HRM.out.kept HB.out)).mono ?_; rintro e w1 ⟨rfl, hb⟩; have HB1 : Hid (Below w.heap.size w w1) := HB.out.trans (Below.mono hb HB.out.size); clear hb)
  go_ret
  exact ⟨rfl, HB1.out⟩
attribute [local irreducible] wpList in
set_option maxRecDepth 100000 in
set_option maxHeartbeats 2000000 in
theorem right_good (w : World) (v : Value) (g : Gr) (rots : List (List UInt32)) (srt : List UInt32 → List UInt32) (t : Nat) (h : RM w v g rots) (hl1000 : rots.length ≤ 1000) (hS : ∀ i, i < rots.length → Srt (rots.getD i []) (srt (rots.getD i []))) (hb : pck g rots srt = 0) (hM : MapOk g rots)
    (ht : 2 * (parts g).length + g.es.length = alone g + g.vs.length + nfaces g rots + 2 * t) :
    Calls Tryz.prog 11 #[v] w fun e w' => e = .returned (.int .i64 (if t = 0 then 0 else 23)) ∧ Below w.heap.size w w' := by
  have HRM := Lib.hid h
  obtain ⟨A, c, B, dd, C, ce, rfl, _, _⟩ := h
  have HB : Hid (Below w.heap.size w (w.alloc (.cells #[.slice A g.vs.length c, .slice B g.es.length dd, .slice C rots.length ce] 28))) := (Below.refl _ w).alloc (Nat.le_refl _) _
  have HK : Hid (Blk (w.alloc (.cells #[.slice A g.vs.length c, .slice B g.es.length dd, .slice C rots.length ce] 28)) w.heap.size 28 #[.slice A g.vs.length c, .slice B g.es.length dd, .slice C rots.length ce]) := Blk.fresh _ _ _
  have hc := fun W hW => check10_walk W (.agg #[.slice A g.vs.length c, .slice B g.es.length dd, .slice C rots.length ce]) g rots srt hW hl1000 hS
  rw [hb] at hc
  have HC := Lib.hid hc
  have HGE := Lib.hid (fun W hW => genus_walk W (.agg #[.slice A g.vs.length c, .slice B g.es.length dd, .slice C rots.length ce]) g rots t hW hM ht)
  clear hb hS hM ht hc
  by_cases h0 : t = 0
  · subst h0
    go_enter Tryz.func11, Tryz.ntmps11
    go_wp2_with (first
      | (go_at_call 15; refine (HGE.out _ (HRM.out.kept HB1.out)).mono ?_; rintro e w2 ⟨rfl, hb⟩; have HB2 : Hid (Below w.heap.size w w2) := HB1.out.trans (Below.mono hb HB1.out.size); clear hb)
      | (go_at_call 9; refine (HC.out _ (HRM.out.kept HB.out)).mono ?_; rintro e w1 ⟨rfl, hb⟩; have HB1 : Hid (Below w.heap.size w w1) := HB.out.trans (Below.mono hb HB.out.size); have HK1 := Lib.hid (HK.out.kept hb HK.out.lt); have k0 : w1.cell? ⟨w.heap.size, 0, none⟩ = some (.slice A g.vs.length c) := HK1.out.cell 0; have k1 : w1.cell? ⟨w.heap.size, 1, none⟩ = some (.slice B g.es.length dd) := HK1.out.cell 1; have k2 : w1.cell? ⟨w.heap.size, 2, none⟩ = some (.slice C rots.length ce) := HK1.out.cell 2; clear hb))
    go_ret
    exact ⟨rfl, HB2.out⟩
  · have t0 : ((t : Int) != 0) = true := by simpa using h0
    have t1 : ¬ (t : Int) = 0 := by omega
    go_enter Tryz.func11, Tryz.ntmps11
    go_wp2_with (first
      | (go_at_call 15; refine (HGE.out _ (HRM.out.kept HB1.out)).mono ?_; rintro e w2 ⟨rfl, hb⟩; have HB2 : Hid (Below w.heap.size w w2) := HB1.out.trans (Below.mono hb HB1.out.size); clear hb)
      | (go_at_call 9; refine (HC.out _ (HRM.out.kept HB.out)).mono ?_; rintro e w1 ⟨rfl, hb⟩; have HB1 : Hid (Below w.heap.size w w1) := HB.out.trans (Below.mono hb HB.out.size); have HK1 := Lib.hid (HK.out.kept hb HK.out.lt); have k0 : w1.cell? ⟨w.heap.size, 0, none⟩ = some (.slice A g.vs.length c) := HK1.out.cell 0; have k1 : w1.cell? ⟨w.heap.size, 1, none⟩ = some (.slice B g.es.length dd) := HK1.out.cell 1; have k2 : w1.cell? ⟨w.heap.size, 2, none⟩ = some (.slice C rots.length ce) := HK1.out.cell 2; clear hb))
    go_ret
    exact ⟨rfl, HB2.out⟩
end Go.Proofs.YtcinbmekjlmdpaaGreat
