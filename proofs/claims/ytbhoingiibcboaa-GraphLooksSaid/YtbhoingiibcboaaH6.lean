/- graph.Alone. -/
import Derived.Test.YtbhoingiibcboaaH5
namespace Go.Proofs.Ytbhoingiibcboaa
open Go.RowKit

def aln (g : Gr) (k : Nat) : Nat := (g.vs.take k).countP fun v => (nbr g.es v).length == 0
def alone (g : Gr) : Nat := g.vs.countP fun v => (nbr g.es v).length == 0
theorem aln_yes {g : Gr} {k : Nat} (h : k < g.vs.length) (h0 : (nbr g.es (g.vs.getD k 0)).length = 0) : aln g (k + 1) = aln g k + 1 := by
  unfold aln
  rw [take_at h, List.countP_append, List.countP_cons, List.countP_nil, if_pos (beq_iff_eq.2 h0)]
theorem aln_no {g : Gr} {k : Nat} (h : k < g.vs.length) (h0 : ¬ (nbr g.es (g.vs.getD k 0)).length = 0) : aln g (k + 1) = aln g k := by
  unfold aln
  rw [take_at h, List.countP_append, List.countP_cons, List.countP_nil, if_neg (fun q => h0 (beq_iff_eq.1 q))]
  rfl
theorem aln_le (g : Gr) (k : Nat) : aln g k ≤ g.vs.length := by
  unfold aln
  have h1 : (g.vs.take k).countP (fun v => (nbr g.es v).length == 0) ≤ (g.vs.take k).length := List.countP_le_length
  rw [List.length_take] at h1
  omega
theorem aln_all (g : Gr) : aln g g.vs.length = alone g := by unfold aln alone; rw [List.take_length]
attribute [local irreducible] V
attribute [local irreducible] wpList in
set_option maxRecDepth 100000 in
set_option maxHeartbeats 2000000 in
/-- graph.Alone. -/
theorem alone_walk (w : World) (v : Value) (g : Gr) (h : RG w v g) (hn64 : g.vs.length ≤ 1000) (hn160 : g.es.length ≤ 1000) :
    Calls Try.prog 17 #[v] w fun e w' => e = .returned (.int .i64 (alone g)) ∧ Below w.heap.size w w' := by
  have HRG := Lib.hid h
  obtain ⟨A, c, B, d, rfl, _, _, hr, hre⟩ := h
  have HB : Hid (Below w.heap.size w (w.alloc (.cells #[.slice A g.vs.length c, .slice B g.es.length d] 25))) := (Below.refl _ w).alloc (Nat.le_refl _) _
  have HBK : Hid (Blk (w.alloc (.cells #[.slice A g.vs.length c, .slice B g.es.length d] 25)) w.heap.size 25 #[.slice A g.vs.length c, .slice B g.es.length d]) := Blk.fresh _ _ _
  have HR := Lib.hid hr
  have HV := Lib.hid (fun W hW => near_walk W (.agg #[.slice A g.vs.length c, .slice B g.es.length d]) g hW (by omega))
  clear hr hre
  go_enter Try.func17, Try.ntmps17
  go_wp2_with (go_at_call 29; refine (HV.out _ (HRG.out.kept HB.out)).mono ?_; rintro e wn ⟨nm, f, rfl, hna, hbn⟩; have HNA := Lib.hid hna; have HBN := Lib.hid hbn; have k0 : wn.cell? ⟨w.heap.size, 0, none⟩ = some (.slice A g.vs.length c) := (HBK.out.kept hbn HBK.out.lt).cell 0; clear hna hbn)
  have HBWN : Hid (Below w.heap.size w wn) := HB.out.trans (Below.mono HBN.out HB.out.size)
  clear k0
  go_loop [4, 12] (fun s i => ∃ k : Nat, k ≤ g.vs.length ∧ i = .int .i64 k ∧ s = .int .i64 (aln g k : Nat)) (fun _ i => g.vs.length - (intOf i).toNat)
  case atStart => exact ⟨0, Nat.zero_le _, rfl, rfl⟩
  case round =>
    obtain ⟨k, hk, rfl, rfl⟩ := hrel
    have hal := aln_le g k
    by_cases hlt : k < g.vs.length
    · obtain ⟨b, o, rfl, hc⟩ := (HR.out.kept HBWN.out (Nat.le_refl _)).spot (by omega)
      have hcell := hc k hlt
      rw [getD_at hlt] at hcell
      have hl := HNA.out.look (g.vs.getD k 0)
      obtain ⟨A2, c2, hfv, _⟩ := (HNA.out.2.own (g.vs.getD k 0)).is
      have hfv2 : (f (g.vs.getD k 0)).getD (.slice none 0 0) = .slice A2 (nbr g.es (g.vs.getD k 0)).length c2 := hfv
      rw [hfv2] at hl
      clear hc hfv hfv2
      by_cases h0 : (nbr g.es (g.vs.getD k 0)).length = 0
      · have HS := Lib.hid (aln_yes hlt h0)
        rw [h0] at hl
        clear h0
        generalize g.vs.getD k 0 = x at *
        generalize aln g k = n at *
        go_wp2
        go_round
        case rel => exact ⟨k + 1, by omega, by go_num, by rw [HS.out]; go_num⟩
        case measure => simp [intOf]; omega
      · have HS := Lib.hid (aln_no hlt h0)
        have ht : ((nbr g.es (g.vs.getD k 0)).length == 0) = false := by simpa using h0
        have hnl := nbr_len g.es (g.vs.getD k 0)
        have ht2 : (((nbr g.es (g.vs.getD k 0)).length : Int) == 0) = false := beq_false_of_ne (by omega)
        generalize (nbr g.es (g.vs.getD k 0)).length = q at *
        generalize g.vs.getD k 0 = x at *
        generalize aln g k = n at *
        go_wp2
        go_round
        case rel => exact ⟨k + 1, by omega, by go_num, by rw [HS.out]⟩
        case measure => simp [intOf]; omega
    · obtain rfl : k = g.vs.length := by omega
      go_wp2
      go_ret
      exact ⟨by rw [← aln_all]; rfl, HBWN.out⟩
end Go.Proofs.Ytbhoingiibcboaa
