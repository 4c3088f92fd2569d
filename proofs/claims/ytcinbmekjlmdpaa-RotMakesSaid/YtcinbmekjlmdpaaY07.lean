/- graph.Check. -/
import Derived.Test.YtcinbmekjlmdpaaY06

/-! graph.Check. -/
namespace Go.Proofs.Ytcinbmekjlmdpaa
open Go.RowKit

theorem cn_two (x a : UInt32) : cn x a = 0 ∨ cn x a = 2 ∨ cn x a = 19 := by
  rcases cn_cases x a with ⟨_, e⟩ | ⟨_, _, e⟩ | ⟨_, _, _, e⟩ | ⟨_, _, _, e⟩
  · exact .inr (.inl e)
  · exact .inr (.inl e)
  · exact .inr (.inr e)
  · exact .inl e
theorem en_two (vs : List UInt32) (x : Eg) : en vs x = 0 ∨ en vs x = 20 ∨ en vs x = 21 := by
  unfold en
  split
  · exact .inr (.inl rfl)
  · split
    · exact .inl rfl
    · exact .inr (.inr rfl)
theorem chk_many {g : Gr} (h : 64 < g.vs.length ∨ 160 < g.es.length) : chk g = 6 := if_pos h
theorem chk_v {g : Gr} (h : ¬ (64 < g.vs.length ∨ 160 < g.es.length)) {n : Int} (hv : cv g.vs 0 = n) (hn : ¬ n = 0) : chk g = n := by
  unfold chk; rw [if_neg h, if_neg (by rw [hv]; exact hn), hv]
theorem chk_e {g : Gr} (h : ¬ (64 < g.vs.length ∨ 160 < g.es.length)) {n : Int} (hv : cv g.vs 0 = 0) (he : ce g.vs g.es 0 = n) : chk g = n := by
  unfold chk; rw [if_neg h, if_pos hv, he]
theorem up_of_cv {l : List UInt32} (h : cv l 0 = 0) : l.Pairwise (· < ·) := (cv_rises l 0 h).2
theorem V_zero : Value.int .u32 0 = V 0 := V0
theorem zero39 (w : World) : (zeroValue 39).run Try.prog w = .ok (.agg #[.int .u32 0, .int .u32 0, .int .u32 0]) w := by kernel_rfl
theorem all3 (x y z : UInt32) : (#[V x, V y, V z] : Array Value).all (·.oneCell') = true := by simp [V_all]
attribute [local irreducible] V
attribute [local irreducible] wpList in
set_option maxRecDepth 100000 in
set_option maxHeartbeats 2000000 in
/-- graph.Check. -/
theorem check_walk (w : World) (v : Value) (g : Gr) (h : RG w v g) :
    Calls Try.prog 29 #[v] w fun e w' => e = .returned (.int .i64 (chk g)) ∧ Below w.heap.size w w' := by
  have HRG := Lib.hid h
  obtain ⟨A, c, B, d, rfl, _, _, hr, hre⟩ := h
  have hnv := hr.len
  have hne := hre.len
  have HB : Hid (Below w.heap.size w (w.alloc (.cells #[.slice A g.vs.length c, .slice B g.es.length d] 25))) := (Below.refl _ w).alloc (Nat.le_refl _) _
  have HBK : Hid (Blk (w.alloc (.cells #[.slice A g.vs.length c, .slice B g.es.length d] 25)) w.heap.size 25 #[.slice A g.vs.length c, .slice B g.es.length d]) := Blk.fresh _ _ _
  have HR := Lib.hid (hr.kept HB.out (Nat.le_refl _))
  have HRE := Lib.hid (hre.kept HB.out (Nat.le_refl _))
  clear hr hre
  by_cases hv64 : 64 < g.vs.length
  · have q1 : (64 : Int) < (g.vs.length : Int) := by omega
    rw [chk_many (.inl hv64)]
    clear hv64
    go_enter Try.func29, Try.ntmps29
    go_wp2
    go_ret
    exact ⟨rfl, HB.out⟩
  · have q1 : ¬ (64 : Int) < (g.vs.length : Int) := by omega
    by_cases he160 : 160 < g.es.length
    · have q2 : (160 : Int) < (g.es.length : Int) := by omega
      rw [chk_many (.inr he160)]
      clear hv64 he160
      go_enter Try.func29, Try.ntmps29
      go_wp2
      go_ret
      exact ⟨rfl, HB.out⟩
    · have q2 : ¬ (160 : Int) < (g.es.length : Int) := by omega
      have HN : Hid (¬ (64 < g.vs.length ∨ 160 < g.es.length)) := by rintro (h | h) <;> omega
      clear hv64 he160
      go_enter Try.func29, Try.ntmps29
      go_wp2
      rw [V_zero]
      clear q1 q2
      generalize World.alloc _ _ = w1 at *
      go_loop [3, 24] (fun a i => ∃ k : Nat, k ≤ g.vs.length ∧ i = .int .i64 k ∧ a = V (pre g.vs k) ∧ cv g.vs 0 = cv (g.vs.drop k) (pre g.vs k)) (fun _ i => g.vs.length - (intOf i).toNat)
      case atStart => exact ⟨0, Nat.zero_le _, rfl, rfl, by simp [pre_zero]⟩
      case round =>
        obtain ⟨k, hk, rfl, rfl, hcv⟩ := hrel
        have HCV := Lib.hid hcv
        clear hcv
        by_cases hlt : k < g.vs.length
        · obtain ⟨b, o, rfl, hc⟩ := HR.out.spot (by omega)
          have hcell := hc k hlt
          rw [getD_at hlt] at hcell
          have HS := Lib.hid (fun q => cv_stop hlt q)
          have HG := Lib.hid (fun q => cv_go hlt q)
          have HP := Lib.hid (pre_succ g.vs k)
          have hw := cn_walk w1 (g.vs.getD k 0) (pre g.vs k)
          clear hc
          rcases cn_two (g.vs.getD k 0) (pre g.vs k) with hcn | hcn | hcn
          · have HCN := Lib.hid hcn
            rw [hcn] at hw
            have HW := Lib.hid hw
            have HG2 := Lib.hid (HCV.out.trans (HG.out HCN.out))
            clear hcn hw HS HG HCV HCN
            generalize g.vs.getD k 0 = x at *
            generalize pre g.vs k = a at *
            go_wp2_with (go_at_call 38; refine HW.out.mono ?_; rintro e w' ⟨rfl, rfl⟩)
            go_round
            case rel => exact ⟨k + 1, by omega, by go_num, by rw [HP.out], HG2.out⟩
            case measure => simp [intOf]; omega
          · have HCN := Lib.hid hcn
            rw [hcn] at hw
            have HW := Lib.hid hw
            have HF := Lib.hid (chk_v HN.out (HCV.out.trans ((HS.out (by rw [HCN.out]; decide)).trans HCN.out)) (by decide))
            clear hcn hw HS HG HCV HCN HP
            generalize g.vs.getD k 0 = x at *
            generalize pre g.vs k = a at *
            go_wp2_with (go_at_call 38; refine HW.out.mono ?_; rintro e w' ⟨rfl, rfl⟩)
            go_ret
            exact ⟨by rw [HF.out]; rfl, HB.out⟩
          · have HCN := Lib.hid hcn
            rw [hcn] at hw
            have HW := Lib.hid hw
            have HF := Lib.hid (chk_v HN.out (HCV.out.trans ((HS.out (by rw [HCN.out]; decide)).trans HCN.out)) (by decide))
            clear hcn hw HS HG HCV HCN HP
            generalize g.vs.getD k 0 = x at *
            generalize pre g.vs k = a at *
            go_wp2_with (go_at_call 38; refine HW.out.mono ?_; rintro e w' ⟨rfl, rfl⟩)
            go_ret
            exact ⟨by rw [HF.out]; rfl, HB.out⟩
        · obtain rfl : k = g.vs.length := by omega
          have HV0 : Hid (cv g.vs 0 = 0) := by show _ = _; rw [HCV.out, List.drop_length]; rfl
          have HUP := Lib.hid (up_of_cv HV0.out)
          clear HCV
          have hg0 : w1.cell? ⟨w.heap.size, 0, none⟩ = some (.slice A g.vs.length c) := HBK.out.cell 0
          have hg1 : w1.cell? ⟨w.heap.size, 1, none⟩ = some (.slice B g.es.length d) := HBK.out.cell 1
          go_wp2
          clear hg0 hg1
          rw [V_zero]
          go_loopw [3, 39] (fun a i wr => ∃ k : Nat, k ≤ g.es.length ∧ i = .int .i64 k ∧ a = V (preE g.es k) ∧ ce g.vs g.es 0 = ce g.vs (g.es.drop k) (preE g.es k) ∧ Below w1.heap.size w1 wr) (fun _ i _ => g.es.length - (intOf i).toNat)
          case atStart => exact ⟨0, Nat.zero_le _, rfl, rfl, by simp [preE_zero], Below.refl _ _⟩
          case round =>
            obtain ⟨k, hk, rfl, rfl, hce, hb⟩ := hrel
            have HCE := Lib.hid hce
            have HBR := Lib.hid hb
            have HBW := Lib.hid (HB.out.trans (Below.mono hb HB.out.size))
            clear hce hb
            by_cases hlt : k < g.es.length
            · obtain ⟨b, o, rfl, hc⟩ := (HRE.out.kept HBR.out (Nat.le_refl _)).spot (by omega)
              obtain ⟨hc1, hc2, hc3⟩ := hc k hlt
              have hbk := HBK.out.kept HBR.out HBK.out.lt
              have HBKr := Lib.hid hbk
              have hg0 : wr.cell? ⟨w.heap.size, 0, none⟩ = some (.slice A g.vs.length c) := hbk.cell 0
              have hg1 : wr.cell? ⟨w.heap.size, 1, none⟩ = some (.slice (some ⟨b, o, none⟩) g.es.length d) := hbk.cell 1
              have HS := Lib.hid (fun q => ce_stop (vs := g.vs) hlt q)
              have HS2 := Lib.hid (fun q q2 => ce_stop2 (vs := g.vs) hlt q q2)
              have HG := Lib.hid (fun q q2 => ce_go (vs := g.vs) hlt q q2)
              have HP := Lib.hid (preE_succ g.es k)
              have hen := en_two g.vs (g.es.getD k e0)
              have hen2 := fun W hW => ends_walk W (.agg #[.slice A g.vs.length c, .slice (some ⟨b, o, none⟩) g.es.length d]) g (g.es.getD k e0).id (g.es.getD k e0).a (g.es.getD k e0).b hW HUP.out
              have hw := fun W => cn_walk W (g.es.getD k e0).id (preE g.es k)
              have hcc := cn_two (g.es.getD k e0).id (preE g.es k)
              clear hc hbk
              have hz := zero39
              rcases hcc with hcn | hcn | hcn
              · rcases hen with he | he | he
                · have HG2 := Lib.hid (HCE.out.trans (HG.out hcn he))
                  rw [hcn] at hw
                  have hen3 := hen2
                  simp only [show (Eg.mk (g.es.getD k e0).id (g.es.getD k e0).a (g.es.getD k e0).b) = g.es.getD k e0 from rfl, he] at hen3
                  have HW := Lib.hid hw
                  have HE := Lib.hid hen3
                  clear hcn hw he hen2 hen3 HS HS2 HG HCE
                  generalize g.es.getD k e0 = x at *
                  generalize preE g.es k = a at *
                  go_wp2_with (first
                    | (refine wpList_store_fresh rfl 39 (.tmp 8) (.tmp 42) rfl #[V x.id, V x.a, V x.b] rfl rfl (by kernel_rfl) rfl (all3 _ _ _) ?_; intro w2 hb2 hs2 hk2; have HB2 := Lib.hid hb2; have HK2 := Lib.hid hk2; have HS2W := Lib.hid hs2; have c0 : w2.cell? ⟨wr.heap.size, 0, none⟩ = some (V x.id) := hk2.cell 0; have k0 : w2.cell? ⟨w.heap.size, 0, none⟩ = some (.slice A g.vs.length c) := (HBKr.out.kept hb2 HBKr.out.lt).cell 0; have k1 : w2.cell? ⟨w.heap.size, 1, none⟩ = some (.slice (some ⟨b, o, none⟩) g.es.length d) := (HBKr.out.kept hb2 HBKr.out.lt).cell 1; have c1 : w2.cell? ⟨wr.heap.size, 1, none⟩ = some (V x.a) := hk2.cell 1; have c2 : w2.cell? ⟨wr.heap.size, 2, none⟩ = some (V x.b) := hk2.cell 2; clear hb2 hs2 hk2)
                    | (go_at_call 38; refine (HW.out _).mono ?_; rintro e w' ⟨rfl, rfl⟩)
                    | (go_at_call 39; refine (HE.out _ (HRG.out.kept (HBW.out.trans (Below.mono HB2.out HBW.out.size)))).mono ?_; rintro e w3 ⟨rfl, hb3⟩; have HB3 := Lib.hid hb3; have d0 : w3.cell? ⟨wr.heap.size, 0, none⟩ = some (V x.id) := (HK2.out.kept hb3 HK2.out.lt).cell 0; clear hb3))
                  go_roundw
                  case rel => exact ⟨k + 1, by omega, by go_num, by rw [HP.out], HG2.out, (HBR.out.trans (Below.mono HB2.out HBR.out.size)).trans (Below.mono HB3.out (HBR.out.trans (Below.mono HB2.out HBR.out.size)).size)⟩
                  case measure => simp [intOf]; omega
                · have HF := Lib.hid (chk_e HN.out HV0.out (HCE.out.trans ((HS2.out hcn (by rw [he]; decide)).trans he)))
                  rw [hcn] at hw
                  have hen3 := hen2
                  simp only [show (Eg.mk (g.es.getD k e0).id (g.es.getD k e0).a (g.es.getD k e0).b) = g.es.getD k e0 from rfl, he] at hen3
                  have HW := Lib.hid hw
                  have HE := Lib.hid hen3
                  clear hcn hw he hen2 hen3 HS HS2 HG HP HCE
                  generalize g.es.getD k e0 = x at *
                  generalize preE g.es k = a at *
                  go_wp2_with (first
                    | (refine wpList_store_fresh rfl 39 (.tmp 8) (.tmp 42) rfl #[V x.id, V x.a, V x.b] rfl rfl (by kernel_rfl) rfl (all3 _ _ _) ?_; intro w2 hb2 hs2 hk2; have HB2 := Lib.hid hb2; have HK2 := Lib.hid hk2; have HS2W := Lib.hid hs2; have c0 : w2.cell? ⟨wr.heap.size, 0, none⟩ = some (V x.id) := hk2.cell 0; have k0 : w2.cell? ⟨w.heap.size, 0, none⟩ = some (.slice A g.vs.length c) := (HBKr.out.kept hb2 HBKr.out.lt).cell 0; have k1 : w2.cell? ⟨w.heap.size, 1, none⟩ = some (.slice (some ⟨b, o, none⟩) g.es.length d) := (HBKr.out.kept hb2 HBKr.out.lt).cell 1; have c1 : w2.cell? ⟨wr.heap.size, 1, none⟩ = some (V x.a) := hk2.cell 1; have c2 : w2.cell? ⟨wr.heap.size, 2, none⟩ = some (V x.b) := hk2.cell 2; clear hb2 hs2 hk2)
                    | (go_at_call 38; refine (HW.out _).mono ?_; rintro e w' ⟨rfl, rfl⟩)
                    | (go_at_call 39; refine (HE.out _ (HRG.out.kept (HBW.out.trans (Below.mono HB2.out HBW.out.size)))).mono ?_; rintro e w3 ⟨rfl, hb3⟩; have HB3 := Lib.hid hb3; have d0 : w3.cell? ⟨wr.heap.size, 0, none⟩ = some (V x.id) := (HK2.out.kept hb3 HK2.out.lt).cell 0; clear hb3))
                  go_ret
                  exact ⟨by rw [HF.out]; rfl, (HBW.out.trans (Below.mono HB2.out HBW.out.size)).trans (Below.mono HB3.out (HBW.out.trans (Below.mono HB2.out HBW.out.size)).size)⟩
                · have HF := Lib.hid (chk_e HN.out HV0.out (HCE.out.trans ((HS2.out hcn (by rw [he]; decide)).trans he)))
                  rw [hcn] at hw
                  have hen3 := hen2
                  simp only [show (Eg.mk (g.es.getD k e0).id (g.es.getD k e0).a (g.es.getD k e0).b) = g.es.getD k e0 from rfl, he] at hen3
                  have HW := Lib.hid hw
                  have HE := Lib.hid hen3
                  clear hcn hw he hen2 hen3 HS HS2 HG HP HCE
                  generalize g.es.getD k e0 = x at *
                  generalize preE g.es k = a at *
                  go_wp2_with (first
                    | (refine wpList_store_fresh rfl 39 (.tmp 8) (.tmp 42) rfl #[V x.id, V x.a, V x.b] rfl rfl (by kernel_rfl) rfl (all3 _ _ _) ?_; intro w2 hb2 hs2 hk2; have HB2 := Lib.hid hb2; have HK2 := Lib.hid hk2; have HS2W := Lib.hid hs2; have c0 : w2.cell? ⟨wr.heap.size, 0, none⟩ = some (V x.id) := hk2.cell 0; have k0 : w2.cell? ⟨w.heap.size, 0, none⟩ = some (.slice A g.vs.length c) := (HBKr.out.kept hb2 HBKr.out.lt).cell 0; have k1 : w2.cell? ⟨w.heap.size, 1, none⟩ = some (.slice (some ⟨b, o, none⟩) g.es.length d) := (HBKr.out.kept hb2 HBKr.out.lt).cell 1; have c1 : w2.cell? ⟨wr.heap.size, 1, none⟩ = some (V x.a) := hk2.cell 1; have c2 : w2.cell? ⟨wr.heap.size, 2, none⟩ = some (V x.b) := hk2.cell 2; clear hb2 hs2 hk2)
                    | (go_at_call 38; refine (HW.out _).mono ?_; rintro e w' ⟨rfl, rfl⟩)
                    | (go_at_call 39; refine (HE.out _ (HRG.out.kept (HBW.out.trans (Below.mono HB2.out HBW.out.size)))).mono ?_; rintro e w3 ⟨rfl, hb3⟩; have HB3 := Lib.hid hb3; have d0 : w3.cell? ⟨wr.heap.size, 0, none⟩ = some (V x.id) := (HK2.out.kept hb3 HK2.out.lt).cell 0; clear hb3))
                  go_ret
                  exact ⟨by rw [HF.out]; rfl, (HBW.out.trans (Below.mono HB2.out HBW.out.size)).trans (Below.mono HB3.out (HBW.out.trans (Below.mono HB2.out HBW.out.size)).size)⟩
              · rw [hcn] at hw
                have HW := Lib.hid hw
                have HF := Lib.hid (chk_e HN.out HV0.out (HCE.out.trans ((HS.out (by rw [hcn]; decide)).trans hcn)))
                clear hcn hw hen hen2 HS HS2 HG HP HCE
                generalize g.es.getD k e0 = x at *
                generalize preE g.es k = a at *
                go_wp2_with (first
                  | (refine wpList_store_fresh rfl 39 (.tmp 8) (.tmp 42) rfl #[V x.id, V x.a, V x.b] rfl rfl (by kernel_rfl) rfl (all3 _ _ _) ?_; intro w2 hb2 hs2 hk2; have HB2 := Lib.hid hb2; have HK2 := Lib.hid hk2; have HS2W := Lib.hid hs2; have c0 : w2.cell? ⟨wr.heap.size, 0, none⟩ = some (V x.id) := hk2.cell 0; have k0 : w2.cell? ⟨w.heap.size, 0, none⟩ = some (.slice A g.vs.length c) := (HBKr.out.kept hb2 HBKr.out.lt).cell 0; have k1 : w2.cell? ⟨w.heap.size, 1, none⟩ = some (.slice (some ⟨b, o, none⟩) g.es.length d) := (HBKr.out.kept hb2 HBKr.out.lt).cell 1; have c1 : w2.cell? ⟨wr.heap.size, 1, none⟩ = some (V x.a) := hk2.cell 1; have c2 : w2.cell? ⟨wr.heap.size, 2, none⟩ = some (V x.b) := hk2.cell 2; clear hb2 hs2 hk2)
                  | (go_at_call 38; refine (HW.out _).mono ?_; rintro e w' ⟨rfl, rfl⟩))
                go_ret
                exact ⟨by rw [HF.out]; rfl, HBW.out.trans (Below.mono HB2.out HBW.out.size)⟩
              · rw [hcn] at hw
                have HW := Lib.hid hw
                have HF := Lib.hid (chk_e HN.out HV0.out (HCE.out.trans ((HS.out (by rw [hcn]; decide)).trans hcn)))
                clear hcn hw hen hen2 HS HS2 HG HP HCE
                generalize g.es.getD k e0 = x at *
                generalize preE g.es k = a at *
                go_wp2_with (first
                  | (refine wpList_store_fresh rfl 39 (.tmp 8) (.tmp 42) rfl #[V x.id, V x.a, V x.b] rfl rfl (by kernel_rfl) rfl (all3 _ _ _) ?_; intro w2 hb2 hs2 hk2; have HB2 := Lib.hid hb2; have HK2 := Lib.hid hk2; have HS2W := Lib.hid hs2; have c0 : w2.cell? ⟨wr.heap.size, 0, none⟩ = some (V x.id) := hk2.cell 0; have k0 : w2.cell? ⟨w.heap.size, 0, none⟩ = some (.slice A g.vs.length c) := (HBKr.out.kept hb2 HBKr.out.lt).cell 0; have k1 : w2.cell? ⟨w.heap.size, 1, none⟩ = some (.slice (some ⟨b, o, none⟩) g.es.length d) := (HBKr.out.kept hb2 HBKr.out.lt).cell 1; have c1 : w2.cell? ⟨wr.heap.size, 1, none⟩ = some (V x.a) := hk2.cell 1; have c2 : w2.cell? ⟨wr.heap.size, 2, none⟩ = some (V x.b) := hk2.cell 2; clear hb2 hs2 hk2)
                  | (go_at_call 38; refine (HW.out _).mono ?_; rintro e w' ⟨rfl, rfl⟩))
                go_ret
                exact ⟨by rw [HF.out]; rfl, HBW.out.trans (Below.mono HB2.out HBW.out.size)⟩
            · obtain rfl : k = g.es.length := by omega
              have HF : Hid (chk g = 0) := by
                show _ = _
                refine chk_e HN.out HV0.out ?_
                rw [HCE.out, List.drop_length]; rfl
              clear HCE
              go_wp2
              go_ret
              exact ⟨by rw [HF.out]; rfl, HBW.out⟩
end Go.Proofs.Ytcinbmekjlmdpaa
