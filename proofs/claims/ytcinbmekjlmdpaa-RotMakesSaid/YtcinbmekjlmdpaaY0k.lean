/- How a map lies. -/
import Derived.Test.YtcinbmekjlmdpaaY0c
import Derived.Test.YtcinbmekjlmdpaaY0j
import Derived.Test.YtcinbmekjlmdpaaY0h
import Derived.Deep.RegionLaw
import Derived.Outline

/-! How a map lies. -/
namespace Go.Proofs.Ytcinbmekjlmdpaa
open Go.RowKit

/-- A value that reads so as a map. -/
def RM (w : World) (v : Value) (g : Gr) (rots : List (List UInt32)) : Prop :=
  ∃ A c B d C e, v = .agg #[.slice A g.vs.length c, .slice B g.es.length d, .slice C rots.length e] ∧ RG w (.agg #[.slice A g.vs.length c, .slice B g.es.length d]) g ∧ RRv w (.slice C rots.length e) rots
theorem RM.kept {w w' : World} {v : Value} {g : Gr} {rots : List (List UInt32)} (h : RM w v g rots) (hb : Below w.heap.size w w') : RM w' v g rots := by
  obtain ⟨A, c, B, d, C, e, h1, h2, h3⟩ := h
  exact ⟨A, c, B, d, C, e, h1, h2.kept hb, h3.kept hb⟩
theorem V0t : Value.int .u32 0 = V 0 := by kernel_rfl
def lenV : Value → Nat
  | .slice _ n _ => n
  | _ => 0
theorem take_next {l : List UInt32} {k : Nat} (h : k < l.length) : l.take (k + 1) = l.take k ++ [l.getD k 0] := take_at h
end Go.Proofs.Ytcinbmekjlmdpaa

/-! rot.Of. -/
namespace Go.Proofs.Ytcinbmekjlmdpaa
open Go.RowKit

/-- A map whose rows lie in blocks of their own kinds. -/
def OM (w : World) (v : Value) (g : Gr) (rots : List (List UInt32)) : Prop :=
  ∃ A c B d C e, v = .agg #[.slice A g.vs.length c, .slice B g.es.length d, .slice C rots.length e] ∧ OG w (.agg #[.slice A g.vs.length c, .slice B g.es.length d]) g ∧ PL w 0 (.slice C rots.length e) rots
theorem OM.rm {w : World} {v : Value} {g : Gr} {rots : List (List UInt32)} (h : OM w v g rots) (hl : ∀ l ∈ rots, l.length ≤ 1000000) : RM w v g rots := by
  obtain ⟨A, c, B, d, C, e, h1, h2, h3⟩ := h
  exact ⟨A, c, B, d, C, e, h1, h2.rg, h3.rr hl⟩
theorem OM.keep {w w' : World} {v : Value} {g : Gr} {rots : List (List UInt32)} (h : OM w v g rots) (hk : ∀ t, t = 30 ∨ t = 39 ∨ t = 22 → ∀ g cur, Blk w g t cur → Blk w' g t cur) : OM w' v g rots := by
  obtain ⟨A, c, B, d, C, e, h1, h2, h3⟩ := h
  exact ⟨A, c, B, d, C, e, h1, h2.keep (hk _ (.inl rfl)) (hk _ (.inr (.inl rfl))), h3.keep (hk _ (.inr (.inr rfl))) (hk _ (.inl rfl))⟩
theorem OM.kept {w w' : World} {v : Value} {g : Gr} {rots : List (List UInt32)} (h : OM w v g rots) (hb : Below w.heap.size w w') : OM w' v g rots := h.keep fun _ _ _ _ hk => hk.kept hb hk.lt
theorem PL.base {w : World} {b b' : Nat} {v : Value} {rows : List (List UInt32)} (h : PL w b v rows) (hb : b' ≤ b) : PL w b' v rows := by
  obtain ⟨vals, h1, ⟨h2, h3⟩, h4⟩ := h
  refine ⟨vals, h1, ⟨h2, ?_⟩, h4⟩
  rcases h3 with h3 | ⟨g, cap, cur, q1, q2, q3⟩
  · exact .inl h3
  · exact .inr ⟨g, cap, cur, q1, Nat.le_trans hb q2, q3⟩
theorem zero28 (w : World) : (zeroValue 32).run Try.prog w = .ok (.agg #[.slice none 0 0, .slice none 0 0, .slice none 0 0]) w := by kernel_rfl
attribute [local irreducible] V
attribute [local irreducible] wpList in
set_option maxRecDepth 100000 in
set_option maxHeartbeats 4000000 in
/-- rot.Of. -/
theorem of10_walk (w : World) (v : Value) (g : Gr) (mb n : Nat) (f : UInt32 → Option Value) (L : UInt32 → List UInt32) (h : RG w v g) (hm : Mu w mb n f) (hL : ∀ x, RV w ((f x).getD (.slice none 0 0)) (L x)) :
    Calls Try.prog 6 #[v, .map (some mb)] w fun e w' => ∃ u, e = .returned u ∧ OM w' u g (g.vs.map fun x => norm (L x)) ∧ Below w.heap.size w w' := by
  have HRG := Lib.hid h
  obtain ⟨A, c, B, d, rfl, hcA, hcB, hr, hre⟩ := h
  have hz := zero28
  have hnv := hr.len
  have HM := Lib.hid hm
  have HL := Lib.hid hL
  have HB1 : Hid (Below w.heap.size w ((w.alloc (.cells #[.slice A g.vs.length c, .slice B g.es.length d] 25)).alloc (.cells #[.slice none 0 0, .slice none 0 0, .slice none 0 0] 32))) := ((Below.refl _ w).alloc (Nat.le_refl _) _).alloc (by simp) _
  have HK1 : Hid (Blk ((w.alloc (.cells #[.slice A g.vs.length c, .slice B g.es.length d] 25)).alloc (.cells #[.slice none 0 0, .slice none 0 0, .slice none 0 0] 32)) w.heap.size 25 #[.slice A g.vs.length c, .slice B g.es.length d]) := (Blk.fresh w _ _).more _
  have HO1 : Hid (Blk ((w.alloc (.cells #[.slice A g.vs.length c, .slice B g.es.length d] 25)).alloc (.cells #[.slice none 0 0, .slice none 0 0, .slice none 0 0] 32)) (w.heap.size + 1) 32 #[.slice none 0 0, .slice none 0 0, .slice none 0 0]) := by
    show Blk _ _ _ _
    have := Blk.fresh (w.alloc (.cells #[.slice A g.vs.length c, .slice B g.es.length d] 25)) 32 #[.slice none 0 0, .slice none 0 0, .slice none 0 0]
    simpa using this
  have HC := Lib.hid (fun W hW => clonegq_walk W (.agg #[.slice A g.vs.length c, .slice B g.es.length d]) g hW)
  have HR := Lib.hid hr
  clear hr hre hcA hcB hm hL
  go_enter Try.func6, Try.ntmps6
  go_wp2_with (go_at_call 15; refine (HC.out _ (HRG.out.kept HB1.out)).mono ?_; rintro e w2 ⟨u, rfl, hu, hb2⟩; have HU := Lib.hid hu; obtain ⟨A2, c2, B2, d2, hu2, _⟩ := hu; subst hu2; have HB2 := Lib.hid hb2; have HKG := Lib.hid (HK1.out.kept hb2 HK1.out.lt); have HKO := Lib.hid (HO1.out.kept hb2 HO1.out.lt); have k00 := HKG.out.cell 0; have k01 := HKG.out.cell 1; have k02 : (w2.alloc (.cells #[.slice A2 g.vs.length c2, .slice B2 g.es.length d2, .slice none 0 0] 32)).cell? ⟨w.heap.size, 0, none⟩ = some (.slice A g.vs.length c) := (HKG.out.more _).cell 0; clear hb2)
  have HB3 : Hid (Below w.heap.size w (w2.alloc (.cells #[.slice A2 g.vs.length c2, .slice B2 g.es.length d2, .slice none 0 0] 32))) := (HB1.out.trans (Below.mono HB2.out HB1.out.size)).alloc (HB1.out.trans (Below.mono HB2.out HB1.out.size)).size _
  have HGM : Hid (Blk (w2.alloc (.cells #[.slice A2 g.vs.length c2, .slice B2 g.es.length d2, .slice none 0 0] 32)) w2.heap.size 32 #[.slice A2 g.vs.length c2, .slice B2 g.es.length d2, .slice none 0 0]) := Blk.fresh _ _ _
  have HKO3 := Lib.hid (HKO.out.more (.cells #[.slice A2 g.vs.length c2, .slice B2 g.es.length d2, .slice none 0 0] 32))
  have HU3 : Hid (OG (w2.alloc (.cells #[.slice A2 g.vs.length c2, .slice B2 g.es.length d2, .slice none 0 0] 32)) (.agg #[.slice A2 g.vs.length c2, .slice B2 g.es.length d2]) g) := HU.out.kept ((Below.refl _ w2).alloc (Nat.le_refl _) _)
  have HBX : Hid (Below w2.heap.size w2 (w2.alloc (.cells #[.slice A2 g.vs.length c2, .slice B2 g.es.length d2, .slice none 0 0] 32))) := (Below.refl _ w2).alloc (Nat.le_refl _) _
  have HWM : Hid (w.heap.size ≤ w2.heap.size) := (HB1.out.trans (Below.mono HB2.out HB1.out.size)).size
  have HOM : Hid (w.heap.size + 1 < w2.heap.size) := HKO.out.lt
  have HS3 : Hid ((w2.alloc (.cells #[.slice A2 g.vs.length c2, .slice B2 g.es.length d2, .slice none 0 0] 32)).heap.size = w2.heap.size + 1) := by show _ = _; simp
  clear k00 k01 k02
  generalize hw3 : w2.alloc (.cells #[.slice A2 g.vs.length c2, .slice B2 g.es.length d2, .slice none 0 0] 32) = w3 at *
  clear hw3
  go_loopw [14] (fun i wr => ∃ (k : Nat) (pv : Value), k ≤ g.vs.length ∧ i = .int .i64 k ∧ Blk wr w2.heap.size 32 #[.slice A2 g.vs.length c2, .slice B2 g.es.length d2, pv] ∧ PL wr w2.heap.size pv ((g.vs.take k).map fun x => norm (L x)) ∧ Below w2.heap.size w3 wr) (fun i _ => g.vs.length - (intOf i).toNat)
  case atStart => exact ⟨0, _, Nat.zero_le _, rfl, HGM.out, PL.nil _ _, Below.refl _ _⟩
  case round =>
    obtain ⟨k, pv, hk, rfl, hgm, hpl, hb⟩ := hrel
    have HGR := Lib.hid hgm
    have HPL := Lib.hid hpl
    have HBR := Lib.hid hb
    have HBW : Hid (Below w.heap.size w wr) := HB3.out.trans (Below.mono hb HWM.out)
    have HSZ : Hid (w2.heap.size + 1 ≤ wr.heap.size) := by show _ ≤ _; have := hb.size; rw [HS3.out] at this; exact this
    have HPN : Hid (((g.vs.take k).map fun x => norm (L x)).length = k) := by show _ = _; rw [List.length_map, List.length_take]; omega
    obtain ⟨PA, pc, hpv⟩ := hpl.slice
    rw [HPN.out] at hpv
    clear hgm hpl hb
    by_cases hlt : k < g.vs.length
    · obtain ⟨b, o, rfl, hc⟩ := (HR.out.kept HBW.out (Nat.le_refl _)).spot (by omega)
      have hcell := hc k hlt
      rw [getD_at hlt] at hcell
      clear hc
      have HTK : Hid ((g.vs.take (k + 1)).map (fun x => norm (L x)) = (g.vs.take k).map (fun x => norm (L x)) ++ [norm (L (g.vs.getD k 0))]) := by show _ = _; rw [take_at hlt, List.map_append]; rfl
      have HMR : Hid (Mu wr mb n f) := HM.out.kept (HBW.out.block _ HM.out.lt)
      have hl1 : (Instr.lookup 29 (.map (some mb)) (V (g.vs.getD k 0)) false).run Try.prog wr.drew = .ok ((f (g.vs.getD k 0)).getD (.slice none 0 0)) wr.drew := (HMR.out.kept (w' := wr.drew) rfl).look 29 22 rfl _ (by kernel_rfl) _
      have HRX := Lib.hid ((HL.out (g.vs.getD k 0)).kept (HBW.out.trans (Below.dr _ _)))
      have HLN : Hid (((g.vs.take k).map fun x => norm (L x)).length < 1000000) := by show _ < _; rw [HPN.out]; omega
      subst hpv
      generalize g.vs.getD k 0 = x at *
      generalize (f x).getD (.slice none 0 0) = fv at *
      generalize (g.vs.take k).map (fun x => norm (L x)) = rows at *
      have kr : wr.drew.cell? ⟨w2.heap.size, 2, none⟩ = some (.slice PA k pc) := HGR.out.cell 2
      have HNQ := Lib.hid (fun W hW => normalq_rv W fv (L x) hW)
      have HRL : Hid ((L x).length ≤ 1000000) := HRX.out.len
      go_wp2
      go_region_law (first
        | (refine step_rowL rfl (.tmp 19) (.tmp 24) rfl w2.heap.size _ _ (norm (L x)) rows w4.heap.size rfl rfl HPL4.out HLN.out HSZ4.out (Blk.fresh _ _ _) rfl HOQ4.out ?_; intro v5 w5 hp5 hg5; obtain ⟨PA5, pc5, hv5⟩ := hp5.slice; rw [List.length_append, HPN.out, List.length_singleton] at hv5; subst hv5; have HP5 := Lib.hid hp5; have HG5 := Lib.hid (HGR4.out.grownP HPL4.out (by decide) hg5); have HB5 := Lib.hid (PL.grown HBR4.out HPL4.out hg5 HSZ4.out); have k5 := HG5.out.cell 2; have t5 := HG5.out.thaw 2; clear hp5 hg5)
        | (go_simp; go_at_call 16; refine (HNQ.out _ HRX.out).mono ?_; rintro e w4 ⟨u4, rfl, hu4, hb4⟩; have HB4 := Lib.hid hb4; obtain ⟨A4, c4, hv4, _⟩ := hu4.is; subst hv4; have HOQ4 : Hid (Oq (w4.alloc (.cells #[.slice A4 (norm (L x)).length c4] 22)) 0 (.slice A4 (norm (L x)).length c4) (norm (L x))) := (hu4.base (Nat.zero_le _)).still (Still.below ((Below.refl _ w4).alloc (Nat.le_refl _) _)); have HPL4 : Hid (PL (w4.alloc (.cells #[.slice A4 (norm (L x)).length c4] 22)) w2.heap.size (.slice PA k pc) rows) := (PL.kept (w := wr.drew) (HPL.out.kept (Below.dr _ _)) hb4).kept ((Below.refl _ w4).alloc (Nat.le_refl _) _); have HSZ4 : Hid (w2.heap.size ≤ (w4.alloc (.cells #[.slice A4 (norm (L x)).length c4] 22)).heap.size) := (by show _ ≤ _; have h1 := HSZ.out; have h2 : wr.heap.size ≤ w4.heap.size := hb4.size; simp; omega); have HGR4' : Hid (Blk w4 w2.heap.size 32 #[.slice A2 g.vs.length c2, .slice B2 g.es.length d2, .slice PA k pc]) := Blk.kept (w := wr.drew) HGR.out hb4 HGR.out.lt; have HGR4 := Lib.hid (HGR4'.out.more (.cells #[.slice A4 (norm (L x)).length c4] 22)); have k4 := HGR4'.out.cell 2; have k4a := HGR4.out.cell 2; have HBR4 : Hid (Below w2.heap.size w3 (w4.alloc (.cells #[.slice A4 (norm (L x)).length c4] 22))) := (by have h1 := HBR.out.trans (Below.dr w2.heap.size wr); have h2 := h1.trans (Below.mono hb4 (by have := HSZ.out; show _ ≤ wr.heap.size; omega)); exact h2.alloc (by have := HSZ4.out; have h3 := HSZ.out; have h4 : wr.heap.size ≤ w4.heap.size := hb4.size; omega) _); clear hu4 hb4))
      all_goals
        clear hl1 kr k4 k4a
        go_wp2
        go_roundw
        case rel =>
          refine ⟨k + 1, .slice PA5 (k + 1) pc5, by omega, by go_num, HG5.out.put 2 _, ?_, ?_⟩
          · rw [HTK.out]
            exact HP5.out.keep (fun g' cur hk => hk.off (fun e => by
              have e' : g' = w2.heap.size := e
              subst e'
              have := HG5.out
              unfold Blk at this hk
              rw [this] at hk
              injection hk with hk
              injection hk with _ h2
              exact absurd h2 (by decide)) _) (Still.put HG5.out (by decide) _)
          · exact RBelow.set HB5.out 2 (Nat.le_refl _) _
        case measure => simp [intOf]; omega
    · obtain rfl : k = g.vs.length := by omega
      have HKOr := Lib.hid (HKO3.out.kept HBR.out HOM.out)
      have HUr : Hid (OG wr (.agg #[.slice A2 g.vs.length c2, .slice B2 g.es.length d2]) g) := HU.out.kept ((((Below.refl w2.heap.size w2).trans (HBX.out)).trans HBR.out))
      have k0 := HGR.out.cell 0
      have k1 := HGR.out.cell 1
      have k2 := HGR.out.cell 2
      have z0 := HKOr.out.cell 0
      have z1 := HKOr.out.cell 1
      have z2 := HKOr.out.cell 2
      have t0 := HKOr.out.thaw 0
      have t1 := HKOr.out.thaw 1
      have t2 := HKOr.out.thaw 2
      rw [List.take_length] at HPL
      subst hpv
      have HW : Hid (Blk (((wr.setCell ⟨w.heap.size + 1, 0, none⟩ (.slice A2 g.vs.length c2)).setCell ⟨w.heap.size + 1, 1, none⟩ (.slice B2 g.es.length d2)).setCell ⟨w.heap.size + 1, 2, none⟩ (.slice PA g.vs.length pc)) (w.heap.size + 1) 32 #[.slice A2 g.vs.length c2, .slice B2 g.es.length d2, .slice PA g.vs.length pc]) := ((HKOr.out.put 0 _).put 1 _).put 2 _
      have g0 := HW.out.cell 0
      have g1 := HW.out.cell 1
      have g2 := HW.out.cell 2
      have HWB : Hid (Below w.heap.size w (((wr.setCell ⟨w.heap.size + 1, 0, none⟩ (.slice A2 g.vs.length c2)).setCell ⟨w.heap.size + 1, 1, none⟩ (.slice B2 g.es.length d2)).setCell ⟨w.heap.size + 1, 2, none⟩ (.slice PA g.vs.length pc))) := RBelow.set (RBelow.set (RBelow.set HBW.out 0 (by omega) _) 1 (by omega) _) 2 (by omega) _
      have HKP : Hid (∀ t, t ≠ 32 → ∀ g' cur, Blk wr g' t cur → Blk (((wr.setCell ⟨w.heap.size + 1, 0, none⟩ (.slice A2 g.vs.length c2)).setCell ⟨w.heap.size + 1, 1, none⟩ (.slice B2 g.es.length d2)).setCell ⟨w.heap.size + 1, 2, none⟩ (.slice PA g.vs.length pc)) g' t cur) := fun t ht g' cur hk => keep_put (i := 2) ((HKOr.out.put 0 (.slice A2 g.vs.length c2)).put 1 (.slice B2 g.es.length d2)) (Ne.symm ht) _ (keep_put (i := 1) (HKOr.out.put 0 (.slice A2 g.vs.length c2)) (Ne.symm ht) _ (keep_put (i := 0) HKOr.out (Ne.symm ht) _ hk))
      generalize hW : ((wr.setCell ⟨w.heap.size + 1, 0, none⟩ (.slice A2 g.vs.length c2)).setCell ⟨w.heap.size + 1, 1, none⟩ (.slice B2 g.es.length d2)).setCell ⟨w.heap.size + 1, 2, none⟩ (.slice PA g.vs.length pc) = W at *
      go_wp2
      have HRM : Hid (OM W (.agg #[.slice A2 g.vs.length c2, .slice B2 g.es.length d2, .slice PA g.vs.length pc]) g (g.vs.map fun x => norm (L x))) := ⟨A2, c2, B2, d2, PA, pc, by rw [List.length_map], HUr.out.keep (HKP.out _ (by decide)) (HKP.out _ (by decide)), by rw [List.length_map]; exact (HPL.out.base (Nat.zero_le _)).keep (HKP.out _ (by decide)) (HKP.out _ (by decide))⟩
      exact bodyPost_ret (v := .agg #[.slice A2 g.vs.length c2, .slice B2 g.es.length d2, .slice PA g.vs.length pc]) (by simp [results, Try.results6, go_sem, g0, g1, g2]) rfl ⟨_, rfl, HRM.out, HWB.out⟩
end Go.Proofs.Ytcinbmekjlmdpaa

/-! Pure: a face, from one of its darts on. -/
namespace Go.Proofs.Ytcinbmekjlmdpaa
open Cyc

/-- The one behind a dart round its face. -/
def fx (rots : List (List UInt32)) (x : UInt32) : UInt32 := nx rots (tw2 x)
/-- The face from a dart on. -/
def fc (g : Gr) (rots : List (List UInt32)) (d : UInt32) : List UInt32 := orb (fx rots) d (dts g.es).length d
theorem Cyc.Cs.congr {f f' : UInt32 → UInt32} {D : List UInt32} {cs : List (List UInt32)} (h : Cs f D cs) (hf : ∀ x ∈ D, f x = f' x) : Cs f' D cs := by
  refine ⟨fun c hc => ?_, h.2⟩
  obtain ⟨h1, h2⟩ := h.1 c hc
  refine ⟨h1, ?_⟩
  rw [← h2]
  exact (List.map_congr_left fun x hx => hf x (h.2.mem_iff.1 (List.mem_flatten.2 ⟨c, hc, hx⟩))).symm
theorem MapOk.faces {g : Gr} {rots : List (List UInt32)} (h : MapOk g rots) : ∃ cs, Cs (fx rots) (dts g.es) cs ∧ nfaces g rots = cs.length := by
  obtain ⟨cs, _, hcs, hn, _⟩ := h.cycles
  have h1 : Cs (phi (nx rots) g.es) (dts g.es) cs := ⟨hcs.1, hcs.2.trans h.flat⟩
  exact ⟨cs, h1.congr fun x hx => phi_tw (nx rots) h.may hx, hn⟩
theorem MapOk.face {g : Gr} {rots : List (List UInt32)} (h : MapOk g rots) {d : UInt32} (hd : d ∈ dts g.es) : ∃ u, fc g rots d = d :: u ∧ Cy (fx rots) (d :: u) ∧ (d :: u).Nodup ∧ ∀ x ∈ d :: u, x ∈ dts g.es := by
  obtain ⟨cs, hcs, _⟩ := h.faces
  obtain ⟨u, ds, h1, _⟩ := hcs.pick hd
  have hin : ∀ x ∈ d :: u, x ∈ dts g.es := fun x hx => h1.2.mem_iff.1 (by rw [List.flatten_cons]; exact List.mem_append_left _ hx)
  have hn : ((d :: u) :: ds).flatten.Nodup := h1.2.nodup_iff.2 (dts_nodup h.may)
  rw [List.flatten_cons] at hn
  have hl : (d :: u).length ≤ (dts g.es).length := by
    rw [← h1.2.length_eq, List.flatten_cons, List.length_append]
    omega
  exact ⟨u, orb_cy (h1.1 _ List.mem_cons_self) (List.nodup_append.1 hn).1 hl, h1.1 _ List.mem_cons_self, (List.nodup_append.1 hn).1, hin⟩
theorem dts_len (es : List Eg) : (dts es).length = 2 * es.length := by
  induction es with
  | nil => rfl
  | cons e r ih => show ([2 * e.id, 2 * e.id + 1] ++ dts r).length = _; rw [List.length_append, ih, List.length_cons]; simp; omega
theorem orb_le (f : UInt32 → UInt32) (d : UInt32) : ∀ n x, (orb f d n x).length ≤ n
  | 0, _ => Nat.le_refl _
  | n + 1, x => by
    show (x :: _).length ≤ _
    rw [List.length_cons]
    split
    · simp
    · have := orb_le f d n (f x); omega
theorem fc_len (g : Gr) (rots : List (List UInt32)) (d : UInt32) : (fc g rots d).length ≤ 2 * g.es.length := by rw [← dts_len]; exact orb_le _ _ _ _
/-- One step round the face. -/
theorem MapOk.step {g : Gr} {rots : List (List UInt32)} (h : MapOk g rots) {d : UInt32} (hd : d ∈ dts g.es) {k : Nat} (hk : k < (fc g rots d).length) :
    (fc g rots d).getD k 0 ∈ dts g.es ∧ (k + 1 < (fc g rots d).length → fx rots ((fc g rots d).getD k 0) = (fc g rots d).getD (k + 1) 0 ∧ ¬ (fc g rots d).getD (k + 1) 0 = d) ∧ (¬ k + 1 < (fc g rots d).length → fx rots ((fc g rots d).getD k 0) = d) := by
  obtain ⟨u, e, hc, hn, hin⟩ := h.face hd
  rw [e] at hk ⊢
  have hm := Cy.cons.1 hc
  have hmap : (d :: u).map (fx rots) = u ++ [d] := hm
  have hg : ∀ (hk' : k < (d :: u).length), fx rots ((d :: u)[k]) = (u ++ [d])[k]'(by simpa using hk') := fun hk' => by
    rw [← List.getElem_map (fx rots) (h := by simpa using hk')]
    simp only [hmap]
  rw [← getD_at hk]
  refine ⟨hin _ (List.getElem_mem hk), fun q => ?_, fun q => ?_⟩
  · rw [← getD_at q, hg hk]
    have hku : k < u.length := by simpa using q
    rw [List.getElem_append_left hku]
    exact ⟨rfl, fun e2 => (List.nodup_cons.1 hn).1 (by rw [← e2]; exact List.getElem_mem hku)⟩
  · rw [hg hk]
    have hku : k = u.length := by simp at q hk; omega
    subst hku
    simp
theorem nx_tix : ∀ {rots : List (List UInt32)} {t : UInt32}, t ∈ rots.flatten → rots.findIdx (fun l => l.contains t) < rots.length ∧ t ∈ rots.getD (rots.findIdx (fun l => l.contains t)) [] ∧ nx rots t = nxt (rots.getD (rots.findIdx (fun l => l.contains t)) []) t
  | [], _, h => by cases h
  | l :: r, t, h => by
    rw [List.findIdx_cons]
    by_cases q : t ∈ l
    · have : l.contains t = true := List.contains_iff_mem.2 q
      rw [this]
      exact ⟨by simp, q, if_pos q⟩
    · have hc : l.contains t = false := by
        rw [Bool.eq_false_iff]; exact fun e => q (List.contains_iff_mem.1 e)
      rw [hc]
      rw [List.flatten_cons] at h
      obtain ⟨h1, h2, h3⟩ := nx_tix (rots := r) ((List.mem_append.1 h).resolve_left q)
      refine ⟨by simpa using h1, h2, ?_⟩
      show (if t ∈ l then nxt l t else nx r t) = _
      rw [if_neg q, h3]
      rfl
end Go.Proofs.Ytcinbmekjlmdpaa
