/- Behind a crash: the statement's walk. -/
import Derived.Test.YtcbfnbmkogeehaaK27
import Derived.Test.YtcbfnbmkogeehaaK28
namespace Go.Proofs.Ytcbfnbmkogeehaa
open Go.RowKit

set_option maxRecDepth 100000 in
set_option maxHeartbeats 4000000 in
theorem law_walk (w : World) (A1 A2 A3 : Option Addr) (n1 c1 n2 c2 n3 c3 : Nat) (l1 l2 : List (Int × UInt8)) (kb : List Bool) (h1 : Acts w A1 n1 l1) (h2 : Acts w A2 n2 l2) (hkb : n3 = kb.length)
    (h3 : 0 < n3 → ∃ b o, A3 = some ⟨b, o, none⟩ ∧ b < w.heap.size ∧ ∀ i (h : i < kb.length), w.cell? ⟨b, o + i, none⟩ = some (.bool kb[i])) (hn : n1 + n2 ≤ 60) (hn3 : n3 ≤ 100) :
    Calls Try.prog 4 #[.slice A1 n1 c1, .slice A2 n2 c2, .slice A3 n3 c3] w fun e w' => e = .returned (.bool true) ∧ Below w.heap.size w w' := by
  have q1 : IntKind.i64.wrap ((n1 : Int) + n2) = (n1 : Int) + n2 := by rw [IntWalk.i64_in]; omega
  have q2 : ¬ (60 : Int) < (n1 : Int) + n2 := by omega
  have q3 : ¬ (100 : Int) < (n3 : Int) := by omega
  have H1 := Lib.hid h1
  have H2 := Lib.hid h2
  have H3 := Lib.hid h3
  have HKB := Lib.hid hkb
  have HN := Lib.hid hn
  have HN3 := Lib.hid hn3
  clear h1 h2 h3 hkb hn hn3
  go_enter Try.func4, Try.ntmps4
  go_wp2_with (first
    | (go_at_call 6; refine (awake_walk _).mono ?_; rintro e w0 ⟨rfl, hb0⟩; have HB0 := Lib.hid hb0; clear hb0)
    | (go_at_call 7; refine (new_walk _ 64 (by decide) (by decide)).mono ?_; rintro e w1 ⟨g, lb, mb, rfl, hB1, hg, hlb, hmb, hr0⟩; have hs0 := HB0.out.size; have HB1 := Lib.hid (HB0.out.trans (hB1.mono hs0)); have HG : Hid (w.heap.size ≤ g) := Nat.le_trans hs0 hg; have HLB : Hid (w.heap.size ≤ lb) := Nat.le_trans hs0 hlb; have HMB : Hid (w.heap.size ≤ mb) := Nat.le_trans hs0 hmb; have HR0 : Hid (Rep w1 g lb mb d0 (.map [])) := hr0; clear hB1 hg hlb hmb hr0 hs0))
  clear q1 q2 q3
  go_loopw [39] (fun i wr => ∃ k : Nat, k ≤ n1 ∧ i = .int .i64 k ∧ Below w.heap.size w wr ∧ ∃ D, Rep wr g lb mb (wrt d0 (l1.take k)) D) (fun i _ => n1 - (intOf i).toNat)
  case atStart => exact ⟨0, Nat.zero_le _, rfl, HB1.out, .map [], HR0.out⟩
  case round =>
    obtain ⟨k, hk, rfl, hb, D, hr⟩ := hrel
    have HB := Lib.hid hb
    have HR := Lib.hid hr
    have hn60 := HN.out
    clear hb hr
    by_cases hlt : k < n1
    · obtain ⟨b, off, rfl, hbl, hcs⟩ := H1.out.place (by omega)
      have hkp : k < l1.length := by rw [← H1.out.len]; exact hlt
      obtain ⟨v0, v3, ho0, ho3, hc⟩ := hcs k hkp
      have hc2 : ∀ j v, [v0, .int .i64 l1[k].1, U l1[k].2, v3][j]? = some v → wr.cell? ⟨b, off + k * 4 + j, none⟩ = some v := fun j v hv => (HB.out.cell hbl).trans (hc j v hv)
      have hsn : wrt d0 (l1.take (k + 1)) = (wrt d0 (l1.take k)).write l1[k].1 (blkOf l1[k].2) := by rw [List.take_succ_eq_append_getElem hkp, wrt_snoc]
      have hdn : (wrt d0 (l1.take k)).done + 1 < 1000000000 := by
        have h := wrt_done d0 (l1.take k)
        have h0 : d0.done = 0 := by kernel_rfl
        have h4 : (l1.take k).length ≤ k := by rw [List.length_take]; omega
        omega
      clear hcs hc hbl
      generalize l1[k].1 = x at *
      generalize l1[k].2 = y at *
      have HC := Lib.hid hc2
      have HSN := Lib.hid hsn
      have HDN := Lib.hid hdn
      have HONE : Hid ((#[v0, .int .i64 x, U y, v3] : Array Value).all (·.oneCell') = true) := by
        show (#[v0, .int .i64 x, U y, v3] : Array Value).all (·.oneCell') = true
        simp [ho0, ho3]
        exact ⟨rfl, rfl⟩
      clear hc2 hsn hdn ho0 ho3 hkp
      go_wp2_with (first
        | (refine wpList_load_cells rfl 32 (.tmp 41) rfl b (off + k * 4) rfl [v0, .int .i64 x, U y, v3] _ HC.out Try.underlying32 rfl rfl ?_)
        | (refine wpList_store_fresh rfl 32 (.tmp 10) (.tmp 42) rfl #[v0, .int .i64 x, U y, v3] rfl rfl rfl rfl HONE.out ?_; intro w2 hb2 hs2 hB2; have HB2 := Lib.hid hb2; have HR2 := Lib.hid (HR.out.up hb2); have e1 : w2.cell? ⟨wr.heap.size, 1, none⟩ = some (.int .i64 x) := hB2.cell 1; have e2 : w2.cell? ⟨wr.heap.size, 2, none⟩ = some (U y) := hB2.cell 2; clear hb2 hs2 hB2)
        | (refine wpList_of rfl (.tmp 47) rfl y rfl ?_)
        | (go_at_call 14; refine (write_walk w2 g lb mb _ D x (blkOf y) HR2.out (blkOf_length y) HDN.out).mono ?_; rintro e w3 ⟨rfl, hx3, D3, hr3⟩; have HF3 : Hid (Fr g lb mb w2 w3) := Fr.of_ex2 hx3; rw [← HSN.out] at hr3; have HR3 := Lib.hid hr3; clear hx3 hr3))
      go_roundw
      case rel =>
        have e2 := HB.out.trans (HB2.out.mono HB.out.size)
        exact ⟨k + 1, by omega, by go_num, Fr.below e2 HF3.out HG.out HLB.out HMB.out e2.size, D3, HR3.out⟩
      case measure => simp [intOf]; omega
    · obtain rfl : n1 = k := by omega
      rw [List.take_of_length_le (by rw [H1.out.len]; omega)] at HR
      have hda : (wrt d0 l1).done + 1 < 1000000000 := by
        have h := wrt_done d0 l1
        have h0 : d0.done = 0 := by kernel_rfl
        have h4 := H1.out.len
        omega
      have HDA := Lib.hid hda
      clear hda hlt
      have hmm : ∀ W : World, (Instr.makeMap 45 none).run Try.prog W = .ok (.map (some W.heap.size)) (W.alloc (.map #[] 0)) := fun W => run_makeMap 45 W
      go_wp2_with (first
        | (go_at_call 15; refine (barrier_walk wr g lb mb _ D HR.out HDA.out).mono ?_; rintro e w2 ⟨rfl, hf2, D2, hr2⟩; have HF2 := Lib.hid hf2; have HR2 := Lib.hid hr2; clear hf2 hr2))
      have hf0 : Mu (w2.alloc (.map #[] 0)) w2.heap.size 0 (fun _ => none) := Mu.empty w2
      have hap := HR2.out.apart
      have hb2 : Below w.heap.size w w2 := Fr.below HB.out HF2.out HG.out HLB.out HMB.out HB.out.size
      have hsz : (w2.alloc (.map #[] 0)).heap.size = w2.heap.size + 1 := by simp
      have hf1 : Mu ((w2.alloc (.map #[] 0)).alloc (.map #[] 0)) (w2.heap.size + 1) 0 (fun _ => none) := by
        have h := Mu.empty (w2.alloc (.map #[] 0))
        rw [hsz] at h; exact h
      have hf2 : Mu ((w2.alloc (.map #[] 0)).alloc (.map #[] 0)) w2.heap.size 0 (fun _ => none) := by
        refine hf0.kept ?_
        exact ((Below.refl _ _).alloc (Nat.le_refl _) _ : Below (w2.alloc (.map #[] 0)).heap.size (w2.alloc (.map #[] 0)) _).block _ (by rw [hsz]; omega)
      have hr4 := (HR2.out.more (.map #[] 0)).more (.map #[] 0)
      have hb4 := (hb2.alloc hb2.size (.map #[] 0)).alloc (by rw [hsz]; have := hb2.size; omega) (.map #[] 0)
      have hs2 := hb2.size
      clear hf0 hsz hb2
      generalize (w2.alloc (.map #[] 0)).alloc (.map #[] 0) = w4 at *
      generalize w2.heap.size = mw at *
      have hcur0 : Cur (wrt d0 l1).barrier [] (wrt d0 l1).barrier (fst64 (wrt d0 l1).barrier 64) := Cur.start HR.out.ok (Live.wrt ⟨rfl, rfl⟩ l1) (by rw [wrt_last]; exact List.length_replicate)
      have h64 : (wrt d0 l1).barrier.last.length = 64 := by rw [barrier_last _ HR.out.ok, wrt_last]; exact List.length_replicate
      generalize hsB : (wrt d0 l1).barrier = sB at *
      rw [← fst64_zero sB] at hf1 hf2
      have HCUR0 := Lib.hid hcur0
      have H64 := Lib.hid h64
      have HSB := Lib.hid hsB
      have HAP := Lib.hid hap
      have HF1 := Lib.hid hf1
      have HF2' := Lib.hid hf2
      have HR4 := Lib.hid hr4
      have HB4 := Lib.hid hb4
      have HMW := Lib.hid hs2
      clear hcur0 h64 hsB hap hf1 hf2 hr4 hb4 hs2 HR2 HF2 HR HB hmm
      go_loopw [55] (fun i wr => ∃ k : Nat, k ≤ 64 ∧ i = .int .i64 k ∧ Below w.heap.size w wr ∧ Rep wr g lb mb sB D2 ∧ Mu wr mw k (fst64 sB k) ∧ Mu wr (mw + 1) k (fst64 sB k)) (fun i _ => 64 - (intOf i).toNat)
      case atStart => exact ⟨0, Nat.zero_le _, rfl, HB4.out, HR4.out, HF2'.out, HF1.out⟩
      case round =>
        obtain ⟨k, hk, rfl, hb, hr, hm1, hm2⟩ := hrel
        have HB := Lib.hid hb
        have HR := Lib.hid hr
        have HM1 := Lib.hid hm1
        have HM2 := Lib.hid hm2
        have HOK := Lib.hid hr.ok
        have HKW : Hid ((Lit.int .i64 (k : Int)).wf = true) := wf_nat k (by omega)
        clear hb hr hm1 hm2
        by_cases hlt : k < 64
        · have hsu := fst64_succ sB k
          have hix := head_at _ (Dk.lasts_length sB HOK.out k)
          generalize (sB.lasts k).headD 0 = y at *
          have HSU := Lib.hid hsu
          clear hsu
          go_wp2_with (first
            | (go_at_call 16; refine (lasts_walk _ g lb mb sB k HR.out.ok HR.out.blk HR.out.lst).mono ?_; rintro e w5 ⟨rfl, hb5⟩; have HB5 := Lib.hid hb5; clear hb5)
            | (refine wpList_mapU rfl (.tmp 58) (.tmp 59) (.tmp 63) rfl mw k _ k y rfl rfl rfl (HM1.out.kept (HB5.out.block _ HM1.out.lt)) (by unfold maxLen; omega) HKW.out ?_; intro w6 hm6 hx6 hs6; rw [HSU.out] at hm6; have HM6 := Lib.hid hm6; have HX6 := Lib.hid hx6; have HS6 := Lib.hid hs6; have hlk := hm6.look k HKW.out; rw [← HSU.out] at hlk; simp only [if_true, Option.getD_some] at hlk; clear hm6 hx6 hs6)
            | (refine wpList_mapU rfl (.tmp 64) (.tmp 65) (.tmp 68) rfl (mw + 1) k _ k y rfl rfl rfl ((HM2.out.kept (HB5.out.block _ HM2.out.lt)).kept (HX6.out.block _ (Nat.lt_of_lt_of_le HM2.out.lt HB5.out.size) (by omega))) (by unfold maxLen; omega) HKW.out ?_; intro w7 hm7 hx7 hs7; rw [HSU.out] at hm7; have HM7 := Lib.hid hm7; have HX7 := Lib.hid hx7; have HS7 := Lib.hid hs7; clear hm7 hx7 hs7 hlk))
          go_roundw
          case rel =>
            have a := HAP.out
            have b5 := HB.out.trans (HB5.out.mono HB.out.size)
            have z5 : mw + 1 < _ := HM2.out.lt
            have s5 := HB5.out.size
            have x6 : Below mw _ _ := Ex.below (Below.refl mw _) HX6.out (Nat.le_refl _) (by omega)
            have x7 : Below (mw + 1) _ _ := Ex.below (Below.refl (mw + 1) _) HX7.out (Nat.le_refl _) (by have := HS6.out; omega)
            have r7 := ((HR.out.up HB5.out).kept x6 a.1 a.2.1 a.2.2).kept x7 (by omega) (by omega) (by omega)
            have c6 := Ex.below b5 HX6.out HMW.out b5.size
            have c7 := Ex.below c6 HX7.out (Nat.le_succ_of_le HMW.out) c6.size
            exact ⟨k + 1, by omega, by go_num, c7, r7, HM6.out.kept (HX7.out.block _ HM6.out.lt (by omega)), HM7.out⟩
          case measure => simp [intOf]; omega
        · obtain rfl : k = 64 := by omega
          have hdb : ∀ k, (wrt sB (l2.take k)).done + 1 < 1000000000 := by
            intro k
            have h := wrt_done sB (l2.take k)
            have h1 := wrt_done d0 l1
            have h0 : d0.done = 0 := by kernel_rfl
            have h4 : (l2.take k).length ≤ n2 := by rw [List.length_take, H2.out.len]; omega
            have h5 := H1.out.len
            have h6 : sB.done ≤ (wrt d0 l1).done + 1 := by
              rw [← HSB.out]
              exact (barrier_done _).2
            omega
          have HDB := Lib.hid hdb
          clear hdb hlt
          go_wp2
          go_loopw [72] (fun i wr => ∃ k : Nat, k ≤ n2 ∧ i = .int .i64 k ∧ Below w.heap.size w wr ∧ (∃ D, Rep wr g lb mb (wrt sB (l2.take k)) D) ∧ (mw + 1 < wr.heap.size) ∧ Mu wr mw 64 (fst64 sB 64) ∧ ∃ n, n ≤ 64 + k ∧ Mu wr (mw + 1) n (lm sB (fst64 sB 64) (l2.take k))) (fun i _ => n2 - (intOf i).toNat)
          case atStart => exact ⟨0, Nat.zero_le _, rfl, HB.out, ⟨D2, HR.out⟩, HM2.out.lt, HM1.out, 64, Nat.le_refl _, HM2.out⟩
          case round =>
            obtain ⟨k, hk, rfl, hb, ⟨D3, hr⟩, hz, hm1, n, hn, hm2⟩ := hrel
            have HB := Lib.hid hb
            have HR := Lib.hid hr
            have HM1 := Lib.hid hm1
            have HM2 := Lib.hid hm2
            have HZ := Lib.hid hz
            have HNN := Lib.hid hn
            have hn60 := HN.out
            clear hb hr hm1 hm2 hz hn
            by_cases hlt : k < n2
            · obtain ⟨b, off, rfl, hbl, hcs⟩ := H2.out.place (by omega)
              have hkp : k < l2.length := by rw [← H2.out.len]; exact hlt
              obtain ⟨v0, v3, ho0, ho3, hc⟩ := hcs k hkp
              have hc2 : ∀ j v, [v0, .int .i64 l2[k].1, U l2[k].2, v3][j]? = some v → wr.cell? ⟨b, off + k * 4 + j, none⟩ = some v := fun j v hv => (HB.out.cell hbl).trans (hc j v hv)
              have hsn : wrt sB (l2.take (k + 1)) = (wrt sB (l2.take k)).write l2[k].1 (blkOf l2[k].2) := by rw [List.take_succ_eq_append_getElem hkp, wrt_snoc]
              have hln : lm sB (fst64 sB 64) (l2.take (k + 1)) = if (wrt sB (l2.take k)).writeE l2[k].1 = 0 then (fun j => if j = l2[k].1 then some l2[k].2 else lm sB (fst64 sB 64) (l2.take k) j) else lm sB (fst64 sB 64) (l2.take k) := by rw [List.take_succ_eq_append_getElem hkp, lm_snoc]
              clear hcs hc hbl
              generalize l2[k].1 = x at *
              generalize l2[k].2 = y at *
              have hxk : (wrt sB (l2.take k)).writeE x = 0 → (Lit.int .i64 x).wf = true := wf_writeE _ HR.out.ok x
              have HC := Lib.hid hc2
              have HSN := Lib.hid hsn
              have HDN := Lib.hid (HDB.out k)
              have HONE : Hid ((#[v0, .int .i64 x, U y, v3] : Array Value).all (·.oneCell') = true) := by
                show (#[v0, .int .i64 x, U y, v3] : Array Value).all (·.oneCell') = true
                simp [ho0, ho3]
                exact ⟨rfl, rfl⟩
              clear hc2 hsn ho0 ho3 hkp
              generalize hE : (wrt sB (l2.take k)).writeE x = E at *
              have HLN := Lib.hid hln
              have HXK := Lib.hid hxk
              have HE := Lib.hid hE
              clear hln hxk hE
              by_cases he : E = 0
              · obtain rfl : E = 0 := he
                go_wp2_with (first
                  | (refine wpList_load_cells rfl 32 (.tmp 74) rfl b (off + k * 4) rfl [v0, .int .i64 x, U y, v3] _ HC.out Try.underlying32 rfl rfl ?_)
                  | (refine wpList_store_fresh rfl 32 (.tmp 15) (.tmp 75) rfl #[v0, .int .i64 x, U y, v3] rfl rfl rfl rfl HONE.out ?_; intro w2 hb2 hs2 hB2; have HB2 := Lib.hid hb2; have HR2 := Lib.hid (HR.out.up hb2); have e1 : w2.cell? ⟨wr.heap.size, 1, none⟩ = some (.int .i64 x) := hB2.cell 1; have e2 : w2.cell? ⟨wr.heap.size, 2, none⟩ = some (U y) := hB2.cell 2; have HB2' := Lib.hid hB2; clear hb2 hs2 hB2)
                  | (refine wpList_of rfl (.tmp 80) rfl y rfl ?_)
                  | (go_at_call 14; refine (write_walk w2 g lb mb _ D3 x (blkOf y) HR2.out (blkOf_length y) HDN.out).mono ?_; rintro e w3 ⟨rfl, hx3, D4, hr3⟩; rw [HE.out]; have HF3 : Hid (Fr g lb mb w2 w3) := Fr.of_ex2 hx3; rw [← HSN.out] at hr3; have HR3 := Lib.hid hr3; have ap := HR.out.apart; have HB3 := HF3.out.blk HB2'.out (by omega) (by omega) (by omega); have e3 : w3.cell? ⟨wr.heap.size, 1, none⟩ = some (.int .i64 x) := HB3.cell 1; have e4 : w3.cell? ⟨wr.heap.size, 2, none⟩ = some (U y) := HB3.cell 2; have HK1 := Lib.hid ((HF3.out.block (mw + 1) (Nat.lt_of_lt_of_le HM2.out.lt HB2.out.size) (by have := HAP.out; omega) (by have := HAP.out; omega) (by have := HAP.out; omega)).trans (HB2.out.block _ HM2.out.lt)); have HK0 := Lib.hid ((HF3.out.block mw (Nat.lt_of_lt_of_le HM1.out.lt HB2.out.size) (by have := HAP.out; omega) (by have := HAP.out; omega) (by have := HAP.out; omega)).trans (HB2.out.block _ HM1.out.lt)); clear hx3 hr3 ap e1 e2)
                  | (refine wpList_mapU rfl (.tmp 84) (.tmp 86) (.tmp 88) rfl (mw + 1) n _ x y rfl rfl rfl (HM2.out.kept HK1.out) (by unfold maxLen; have := HNN.out; omega) (wf_writeE _ HR.out.ok x HE.out) ?_; intro w7 hm7 hx7 hs7; have HM7 := Lib.hid hm7; have HX7 := Lib.hid hx7; have HS7 := Lib.hid hs7; clear hm7 hx7 hs7))
                go_roundw
                case rel =>
                  have b2 := HB.out.trans (HB2.out.mono HB.out.size)
                  have b3 := Fr.below b2 HF3.out HG.out HLB.out HMB.out b2.size
                  have a := HAP.out
                  have z3 : mw + 1 < _ := HM2.out.lt
                  have s2 := HB2.out.size
                  have s3 := HF3.out.size
                  have x7 : Below (mw + 1) _ _ := Ex.below (Below.refl (mw + 1) _) HX7.out (Nat.le_refl _) (by omega)
                  have m0 := (HM1.out.kept HK0.out).kept (HX7.out.block _ (by omega) (by omega))
                  have hm := HM7.out
                  have hl := HLN.out
                  rw [if_pos trivial] at hl
                  rw [← hl] at hm
                  exact ⟨_, _, _, _, _, _, _, _, _, _, _, _, _, _, _, _, _, _, _, ⟨k + 1, by omega, by go_num, Ex.below b3 HX7.out (Nat.le_succ_of_le HMW.out) b3.size, ⟨D4, HR3.out.kept x7 (by omega) (by omega) (by omega)⟩, hm.lt, m0, n + 1, by have := HNN.out; omega, hm⟩, rfl⟩
                case measure => simp [intOf]; omega
              · have q5 : (E = 0) = False := by simp [he]
                go_wp2_with (first
                  | (refine wpList_load_cells rfl 32 (.tmp 74) rfl b (off + k * 4) rfl [v0, .int .i64 x, U y, v3] _ HC.out Try.underlying32 rfl rfl ?_)
                  | (refine wpList_store_fresh rfl 32 (.tmp 15) (.tmp 75) rfl #[v0, .int .i64 x, U y, v3] rfl rfl rfl rfl HONE.out ?_; intro w2 hb2 hs2 hB2; have HB2 := Lib.hid hb2; have HR2 := Lib.hid (HR.out.up hb2); have e1 : w2.cell? ⟨wr.heap.size, 1, none⟩ = some (.int .i64 x) := hB2.cell 1; have e2 : w2.cell? ⟨wr.heap.size, 2, none⟩ = some (U y) := hB2.cell 2; have HB2' := Lib.hid hB2; clear hb2 hs2 hB2)
                  | (refine wpList_of rfl (.tmp 80) rfl y rfl ?_)
                  | (go_at_call 14; refine (write_walk w2 g lb mb _ D3 x (blkOf y) HR2.out (blkOf_length y) HDN.out).mono ?_; rintro e w3 ⟨rfl, hx3, D4, hr3⟩; rw [HE.out]; have HF3 : Hid (Fr g lb mb w2 w3) := Fr.of_ex2 hx3; rw [← HSN.out] at hr3; have HR3 := Lib.hid hr3; have ap := HR.out.apart; have HB3 := HF3.out.blk HB2'.out (by omega) (by omega) (by omega); have e3 : w3.cell? ⟨wr.heap.size, 1, none⟩ = some (.int .i64 x) := HB3.cell 1; have e4 : w3.cell? ⟨wr.heap.size, 2, none⟩ = some (U y) := HB3.cell 2; have HK1 := Lib.hid ((HF3.out.block (mw + 1) (Nat.lt_of_lt_of_le HM2.out.lt HB2.out.size) (by have := HAP.out; omega) (by have := HAP.out; omega) (by have := HAP.out; omega)).trans (HB2.out.block _ HM2.out.lt)); have HK0 := Lib.hid ((HF3.out.block mw (Nat.lt_of_lt_of_le HM1.out.lt HB2.out.size) (by have := HAP.out; omega) (by have := HAP.out; omega) (by have := HAP.out; omega)).trans (HB2.out.block _ HM1.out.lt)); clear hx3 hr3 ap e1 e2))
                go_roundw
                case rel =>
                  have b2 := HB.out.trans (HB2.out.mono HB.out.size)
                  have b3 := Fr.below b2 HF3.out HG.out HLB.out HMB.out b2.size
                  have m1 := HM2.out.kept HK1.out
                  have m0 := HM1.out.kept HK0.out
                  have hl := HLN.out
                  rw [if_neg he] at hl
                  rw [← hl] at m1
                  exact ⟨_, _, _, _, _, _, _, _, _, _, _, _, _, _, _, _, _, _, _, ⟨k + 1, by omega, by go_num, b3, ⟨D4, HR3.out⟩, m1.lt, m0, n, by have := HNN.out; omega, m1⟩, rfl⟩
                case measure => simp [intOf]; omega
            · obtain rfl : n2 = k := by omega
              rw [List.take_of_length_le (by rw [H2.out.len]; omega)] at HR HM2
              have HMX := HM1
              have HMY := HM2
              have HRX := HR
              have HBX := HB
              clear HM1 HM2 HR HB HZ
              have hcur := HCUR0.out.wrt l2
              have hcount : ∀ r : List Nat, (∀ i, i ∈ r ↔ (wrt sB l2).waits[i]? = some true) → r.Pairwise (· < ·) → r.length ≤ n2 := fun r h1 h2 => by rw [H2.out.len]; exact hcur.count r h1 h2
              have hcr := fun (S : List Nat) (i : Nat) (hi : i < 64) => hcur.crash H64.out S i hi
              clear hcur
              generalize lm sB (fst64 sB 64) l2 = f2 at *
              generalize fst64 sB 64 = f1 at *
              generalize wrt sB l2 = sW at *
              have HCOUNT := Lib.hid hcount
              have HCR := Lib.hid hcr
              clear hcount hcr hlt
              go_wp2_with (first
                | (go_at_call 17; refine (Waits_walk wr g lb mb sW D3 HRX.out).mono ?_; rintro e w5 ⟨v, rfl, hws, hb5⟩; obtain ⟨A, c, r, rfl, hr0, hr1, hr2, hr3⟩ := hws; have HB5 := Lib.hid hb5; have HRL : Hid (r.length ≤ n2) := HCOUNT.out r hr1 hr2; clear hb5 hr0 hr1 hr2 hr3)
                | (go_at_call 18; refine (crash_any w5 g lb mb sW D3 (HRX.out.up HB5.out) A3 n3 c3 kb HKB.out (by
                    intro h0
                    obtain ⟨b, o, e, hb, hc⟩ := H3.out h0
                    have hbb := HBX.out.trans (HB5.out.mono HBX.out.size)
                    exact ⟨b, o, e, Nat.lt_of_lt_of_le hb hbb.size, fun i hi => (hbb.cell hb).trans (hc i hi)⟩)).mono ?_; rintro e w6 ⟨rfl, hf6, rr, _, _, hr6⟩; have HF6 := Lib.hid hf6; have HR6 := Lib.hid hr6; have hcn := crash_none sW (stay rr kb); have hcr := HCR.out (stay rr kb); clear hf6 hr6))
              generalize (sW.settled (stay rr kb)).restored = V at *
              have HCN := Lib.hid hcn
              have HCV := Lib.hid hcr
              clear hcn hcr HCR HCOUNT
              have hbB : Below w.heap.size w w6 := by
                have h5 := HBX.out.trans (HB5.out.mono HBX.out.size)
                exact Fr.below h5 HF6.out HG.out HLB.out HMB.out h5.size
              have hmA : Mu w6 mw 64 f1 := by
                have a := HAP.out
                have z := HMX.out.lt
                have s5 := HB5.out.size
                exact (HMX.out.kept (HB5.out.block _ z)).kept (HF6.out.block _ (by omega) (by omega) (by omega) (by omega))
              have hmB : Mu w6 (mw + 1) n f2 := by
                have a := HAP.out
                have z := HMY.out.lt
                have s5 := HB5.out.size
                exact (HMY.out.kept (HB5.out.block _ z)).kept (HF6.out.block _ (by omega) (by omega) (by omega) (by omega))
              have HBB := Lib.hid hbB
              have HMA := Lib.hid hmA
              have HMB2 := Lib.hid hmB
              clear hbB hmA hmB HMX HMY HBX HRX HF6 HB5
              go_loopw [96] (fun i wr => ∃ k : Nat, k ≤ 64 ∧ i = .int .i64 k ∧ Below w.heap.size w wr ∧ Rep wr g lb mb V (.map []) ∧ Mu wr mw 64 f1 ∧ Mu wr (mw + 1) n f2) (fun i _ => 64 - (intOf i).toNat)
              case atStart => exact ⟨0, Nat.zero_le _, rfl, HBB.out, HR6.out, HMA.out, HMB2.out⟩
              case round =>
                obtain ⟨k, hk, rfl, hb, hr, hm1, hm2⟩ := hrel
                have HB := Lib.hid hb
                have HR := Lib.hid hr
                have HM1 := Lib.hid hm1
                have HM2 := Lib.hid hm2
                have HKW : Hid ((Lit.int .i64 (k : Int)).wf = true) := wf_nat k (by omega)
                clear hb hr hm1 hm2
                by_cases hlt : k < 64
                · obtain ⟨hrd, hor⟩ := HCV.out k hlt
                  have hl := Dk.lasts_length V HR.out.ok k
                  have hlw : ∀ W, Below wr.heap.size wr W → Calls Try.prog 16 #[.pointer (some ⟨g, 0, none⟩), .int .i64 (k : Int)] W fun e w' => e = .returned (B (V.lasts k)) ∧ Below W.heap.size W w' := fun W h => lasts_walk W g lb mb V k HR.out.ok (HR.out.up h).blk (HR.out.up h).lst
                  have hrw := read_walk wr g lb mb V (.map []) k HR.out
                  rw [hrd] at hrw
                  generalize V.lasts k = l at *
                  have HL := Lib.hid hl
                  have HLW := Lib.hid hlw
                  have HRW := Lib.hid hrw
                  have HOR := Lib.hid hor
                  have HZ : Hid (Z.size = (l.map U).toArray.size) := by show Z.size = (l.map U).toArray.size; rw [Z_size, BSize _ hl]
                  clear hl hlw hrw hor hrd
                  go_wp2_with (first
                    | (go_at_call 19; have hs := HRW.out; unfold BE at hs; refine hs.mono ?_; rintro e w7 ⟨rfl, hb7⟩; have HB7 := Lib.hid hb7; clear hs hb7)
                    | (refine wpList_store_fresh rfl 43 (.tmp 18) (.tmp 103) rfl (l.map U).toArray rfl rfl (BRow _ HL.out) HZ.out (BAll _) ?_; intro w8 hb8 hs8 hB8; have HB8 := Lib.hid hb8; have HK8 := Lib.hid hB8; clear hb8 hs8 hB8))
                  have hb8 : Below w.heap.size w w8.drew := ((HB.out.trans (HB7.out.mono HB.out.size)).trans (HB8.out.mono (HB.out.trans (HB7.out.mono HB.out.size)).size)).drew
                  have hr8 : Below wr.heap.size wr w8.drew := (HB7.out.trans (HB8.out.mono HB7.out.size)).drew
                  have hkw8 : ∀ W, Below w8.drew.heap.size w8.drew W → Blk W w7.heap.size 43 (l.map U).toArray := fun W h => HK8.out.drew.kept h HK8.out.lt
                  have hcell : ∀ W, Below w8.drew.heap.size w8.drew W → W.cell? ⟨w7.heap.size, 0, none⟩ = some (U (l.headD 0)) := fun W h => by
                    rw [(hkw8 W h).cell]
                    exact cell_head l HL.out
                  have hu : ∀ W, Below w8.drew.heap.size w8.drew W → Below wr.heap.size wr W := fun W h => hr8.trans (h.mono hr8.size)
                  have HKW8 := Lib.hid hkw8
                  have HCELL := Lib.hid hcell
                  have HLW8 := Lib.hid fun W h => HLW.out W (hu W h)
                  have HMU1 : Hid (∀ W, Below w8.drew.heap.size w8.drew W → Mu W mw 64 f1) := fun W h => HM1.out.kept ((hu W h).block _ HM1.out.lt)
                  have HMU2 : Hid (∀ W, Below w8.drew.heap.size w8.drew W → Mu W (mw + 1) n f2) := fun W h => HM2.out.kept ((hu W h).block _ HM2.out.lt)
                  have HR8 := Lib.hid (HR.out.up hr8)
                  have HB8' := Lib.hid hb8
                  have hor := HOR.out
                  clear hb8 hr8 hkw8 hcell hu HK8 HB8 HB7 HLW HRW HOR HZ HM1 HM2 HR HB
                  generalize w7.heap.size = wb at *
                  generalize l.headD 0 = y at *
                  by_cases hq : y = (f1 k).getD 0
                  · have HNE : Hid (((y.toNat : Int) != (((f1 k).getD 0).toNat : Int)) = false) := by
                      show ((y.toNat : Int) != (((f1 k).getD 0).toNat : Int)) = false
                      rw [U_ne, ← hq]; simp
                    clear hq hor
                    refine Seq.wp_region_seq (by kernel_rfl) (R := (fun a b => Below a.heap.size a b)) (fun a => Below.refl _ a) (fun _ _ _ h k => h.trans (k.mono h.size)) (fun _ _ => True) [] [[19], [105], [106], [18, 107], [7, 107], [17, 107], [109, 110, 107], [108, 111, 107], [107, 112], [113], [18, 114], [115, 114], [11, 114], [17, 114], [117, 118, 114], [116, 119, 114], [120, 114], [18, 121], [122, 121], [12, 121], [17, 121], [124, 125, 121], [123, 126, 121], [121, 127, 114], [114, 128]] [(105, spIs (.int .i64 0)), (106, spIs (.bool false)), (107, spIs (.bool false)), (108, spIs (B l)), (109, spIs (.pointer (some ⟨g, 0, none⟩))), (110, spIs (.int .i64 (k : Int))), (111, spIs (B l)), (112, spIs (.bool false)), (113, spIs (.bool false)), (114, spIs (.bool false)), (115, spIs (.pointer (some ⟨wb, 0, none⟩))), (116, spIs (U y)), (117, spIs (.map (some mw))), (118, spIs (.int .i64 (k : Int))), (119, spIs (U ((f1 k).getD 0))), (120, spIs (.bool false)), (121, spIs (.bool false)), (122, spIs (undef)), (123, spIs (undef)), (124, spIs (undef)), (125, spIs (undef)), (126, spIs (undef)), (127, spIs (undef)), (128, spIs (.bool false)), (129, spIs (.bool false))] 141 rfl (by kernel_rfl) (by kernel_rfl) (by kernel_rfl) (by kernel_rfl) ?_ ?_ ?_
                    · trivial
                    · refine ⟨?_, ?_, ?_, ?_, ?_, ?_, ?_, ?_, ?_, ?_, ?_, ?_, ?_, ?_, ?_, ?_, ?_, ?_, ?_, ?_, ?_, ?_, ?_, ?_, ?_, trivial⟩
                      · as_aux_lemma =>
                        refine Seq.UpOb.plain (by decide) (fun _ _ _ _ _ => trivial) (fun _ _ h => h) rfl fun a W m hR hS hl K hK => ?_
                        have h19 : a.tmps.getD 19 undef = (.int .i64 0) := hl 19 (by decide)
                        replace hK : ∀ v W2, Below W.heap.size W W2 → v = (.int .i64 0) → K (a.put (some 105) v) W2 := fun v W2 h1 h2 => hK v W2 h1 (fun d hd => by cases hd; exact h2)
                        clear hl
                        simp only [Array.getD_eq_getD_getElem?] at h19
                        go_simp
                        exact hK _ W (Below.refl _ W) rfl
                      · as_aux_lemma =>
                        refine Seq.UpOb.plain (by decide) (fun _ _ _ _ _ => trivial) (fun _ _ h => h) rfl fun a W m hR hS hl K hK => ?_
                        have h105 : a.tmps.getD 105 undef = (.int .i64 0) := hl 105 (by decide)
                        replace hK : ∀ v W2, Below W.heap.size W W2 → v = (.bool false) → K (a.put (some 106) v) W2 := fun v W2 h1 h2 => hK v W2 h1 (fun d hd => by cases hd; exact h2)
                        clear hl
                        simp only [Array.getD_eq_getD_getElem?] at h105
                        go_simp
                        exact hK _ W (Below.refl _ W) rfl
                      · as_aux_lemma =>
                        refine Seq.UpOb.plain (by decide) (fun _ _ _ _ _ => trivial) (fun _ _ h => h) rfl fun a W m hR hS hl K hK => ?_
                        have h106 : a.tmps.getD 106 undef = (.bool false) := hl 106 (by decide)
                        replace hK : ∀ v W2, Below W.heap.size W W2 → v = (.bool false) → K (a.put (some 107) v) W2 := fun v W2 h1 h2 => hK v W2 h1 (fun d hd => by cases hd; exact h2)
                        clear hl
                        simp only [Array.getD_eq_getD_getElem?] at h106
                        go_simp
                        exact hK _ W (Below.refl _ W) rfl
                      · as_aux_lemma =>
                        refine Seq.UpOb.guarded (d := 107) (by decide) (fun _ _ _ _ _ => trivial) (fun _ _ h => h) rfl rfl (fun a W hl => hl 107 (by decide)) fun a W m hR hS hl K hK => ?_
                        have h18 : a.tmps.getD 18 undef = (.pointer (some ⟨wb, 0, none⟩)) := hl 18 (by decide)
                        have h107 : a.tmps.getD 107 undef = (.bool false) := hl 107 (by decide)
                        replace hK : ∀ v W2, Below W.heap.size W W2 → v = (B l) → K (a.put (some 108) v) W2 := fun v W2 h1 h2 => hK v W2 h1 (fun d hd => by cases hd; exact h2)
                        clear hl
                        exact wp_load_row 43 _ rfl wb h18 43 _ (0, 0) _ (HKW8.out W hR) Try.underlying43 rfl (BRow _ HL.out) (hK _ W (Below.refl _ W) rfl)
                      · as_aux_lemma =>
                        refine Seq.UpOb.guarded (d := 107) (by decide) (fun _ _ _ _ _ => trivial) (fun _ _ h => h) rfl rfl (fun a W hl => hl 107 (by decide)) fun a W m hR hS hl K hK => ?_
                        have h7 : a.tmps.getD 7 undef = (.pointer (some ⟨g, 0, none⟩)) := hl 7 (by decide)
                        have h107 : a.tmps.getD 107 undef = (.bool false) := hl 107 (by decide)
                        replace hK : ∀ v W2, Below W.heap.size W W2 → v = (.pointer (some ⟨g, 0, none⟩)) → K (a.put (some 109) v) W2 := fun v W2 h1 h2 => hK v W2 h1 (fun d hd => by cases hd; exact h2)
                        clear hl
                        simp only [Array.getD_eq_getD_getElem?] at h7 h107
                        go_simp
                        exact hK _ W (Below.refl _ W) rfl
                      · as_aux_lemma =>
                        refine Seq.UpOb.guarded (d := 107) (by decide) (fun _ _ _ _ _ => trivial) (fun _ _ h => h) rfl rfl (fun a W hl => hl 107 (by decide)) fun a W m hR hS hl K hK => ?_
                        have h17 : a.tmps.getD 17 undef = (.int .i64 (k : Int)) := hl 17 (by decide)
                        have h107 : a.tmps.getD 107 undef = (.bool false) := hl 107 (by decide)
                        replace hK : ∀ v W2, Below W.heap.size W W2 → v = (.int .i64 (k : Int)) → K (a.put (some 110) v) W2 := fun v W2 h1 h2 => hK v W2 h1 (fun d hd => by cases hd; exact h2)
                        clear hl
                        simp only [Array.getD_eq_getD_getElem?] at h17 h107
                        go_simp
                        exact hK _ W (Below.refl _ W) rfl
                      · as_aux_lemma =>
                        refine Seq.UpOb.guarded (d := 107) (by decide) (fun _ _ _ _ _ => trivial) (fun _ _ h => h) rfl rfl (fun a W hl => hl 107 (by decide)) fun a W m hR hS hl K hK => ?_
                        have h109 : a.tmps.getD 109 undef = (.pointer (some ⟨g, 0, none⟩)) := hl 109 (by decide)
                        have h110 : a.tmps.getD 110 undef = (.int .i64 (k : Int)) := hl 110 (by decide)
                        have h107 : a.tmps.getD 107 undef = (.bool false) := hl 107 (by decide)
                        replace hK : ∀ v W2, Below W.heap.size W W2 → v = (B l) → K (a.put (some 111) v) W2 := fun v W2 h1 h2 => hK v W2 h1 (fun d hd => by cases hd; exact h2)
                        clear hl
                        have hs := HLW8.out W hR
                        simp only [Array.getD_eq_getD_getElem?] at h109 h110 h107
                        go_simp
                        refine hs.mono ?_
                        rintro e w6 ⟨rfl, hb6⟩
                        exact hK _ w6 hb6 rfl
                      · as_aux_lemma =>
                        refine Seq.UpOb.guarded (d := 107) (by decide) (fun _ _ _ _ _ => trivial) (fun _ _ h => h) rfl rfl (fun a W hl => hl 107 (by decide)) fun a W m hR hS hl K hK => ?_
                        have h108 : a.tmps.getD 108 undef = (B l) := hl 108 (by decide)
                        have h111 : a.tmps.getD 111 undef = (B l) := hl 111 (by decide)
                        have h107 : a.tmps.getD 107 undef = (.bool false) := hl 107 (by decide)
                        replace hK : ∀ v W2, Below W.heap.size W W2 → v = (.bool false) → K (a.put (some 112) v) W2 := fun v W2 h1 h2 => hK v W2 h1 (fun d hd => by cases hd; exact h2)
                        clear hl
                        exact wp_ne43 _ _ _ rfl l HL.out h108 h111 (hK _ W (Below.refl _ W) rfl)
                      · as_aux_lemma =>
                        refine Seq.UpOb.plain (by decide) (fun _ _ _ _ _ => trivial) (fun _ _ h => h) rfl fun a W m hR hS hl K hK => ?_
                        have h107 : a.tmps.getD 107 undef = (.bool false) := hl 107 (by decide)
                        have h112 : a.tmps.getD 112 undef = (.bool false) := hl 112 (by decide)
                        replace hK : ∀ v W2, Below W.heap.size W W2 → v = (.bool false) → K (a.put (some 113) v) W2 := fun v W2 h1 h2 => hK v W2 h1 (fun d hd => by cases hd; exact h2)
                        clear hl
                        simp only [Array.getD_eq_getD_getElem?] at h107 h112
                        go_simp
                        exact hK _ W (Below.refl _ W) rfl
                      · as_aux_lemma =>
                        refine Seq.UpOb.plain (by decide) (fun _ _ _ _ _ => trivial) (fun _ _ h => h) rfl fun a W m hR hS hl K hK => ?_
                        have h113 : a.tmps.getD 113 undef = (.bool false) := hl 113 (by decide)
                        replace hK : ∀ v W2, Below W.heap.size W W2 → v = (.bool false) → K (a.put (some 114) v) W2 := fun v W2 h1 h2 => hK v W2 h1 (fun d hd => by cases hd; exact h2)
                        clear hl
                        simp only [Array.getD_eq_getD_getElem?] at h113
                        go_simp
                        exact hK _ W (Below.refl _ W) rfl
                      · as_aux_lemma =>
                        refine Seq.UpOb.guarded (d := 114) (by decide) (fun _ _ _ _ _ => trivial) (fun _ _ h => h) rfl rfl (fun a W hl => hl 114 (by decide)) fun a W m hR hS hl K hK => ?_
                        have h18 : a.tmps.getD 18 undef = (.pointer (some ⟨wb, 0, none⟩)) := hl 18 (by decide)
                        have h114 : a.tmps.getD 114 undef = (.bool false) := hl 114 (by decide)
                        replace hK : ∀ v W2, Below W.heap.size W W2 → v = (.pointer (some ⟨wb, 0, none⟩)) → K (a.put (some 115) v) W2 := fun v W2 h1 h2 => hK v W2 h1 (fun d hd => by cases hd; exact h2)
                        clear hl
                        simp only [Array.getD_eq_getD_getElem?] at h18 h114
                        go_simp
                        exact hK _ W (Below.refl _ W) rfl
                      · as_aux_lemma =>
                        refine Seq.UpOb.guarded (d := 114) (by decide) (fun _ _ _ _ _ => trivial) (fun _ _ h => h) rfl rfl (fun a W hl => hl 114 (by decide)) fun a W m hR hS hl K hK => ?_
                        have h115 : a.tmps.getD 115 undef = (.pointer (some ⟨wb, 0, none⟩)) := hl 115 (by decide)
                        have h114 : a.tmps.getD 114 undef = (.bool false) := hl 114 (by decide)
                        replace hK : ∀ v W2, Below W.heap.size W W2 → v = (U y) → K (a.put (some 116) v) W2 := fun v W2 h1 h2 => hK v W2 h1 (fun d hd => by cases hd; exact h2)
                        clear hl
                        have hc := HCELL.out W hR
                        simp only [Array.getD_eq_getD_getElem?] at h115 h114
                        go_simp
                        exact hK _ W (Below.refl _ W) rfl
                      · as_aux_lemma =>
                        refine Seq.UpOb.guarded (d := 114) (by decide) (fun _ _ _ _ _ => trivial) (fun _ _ h => h) rfl rfl (fun a W hl => hl 114 (by decide)) fun a W m hR hS hl K hK => ?_
                        have h11 : a.tmps.getD 11 undef = (.map (some mw)) := hl 11 (by decide)
                        have h114 : a.tmps.getD 114 undef = (.bool false) := hl 114 (by decide)
                        replace hK : ∀ v W2, Below W.heap.size W W2 → v = (.map (some mw)) → K (a.put (some 117) v) W2 := fun v W2 h1 h2 => hK v W2 h1 (fun d hd => by cases hd; exact h2)
                        clear hl
                        simp only [Array.getD_eq_getD_getElem?] at h11 h114
                        go_simp
                        exact hK _ W (Below.refl _ W) rfl
                      · as_aux_lemma =>
                        refine Seq.UpOb.guarded (d := 114) (by decide) (fun _ _ _ _ _ => trivial) (fun _ _ h => h) rfl rfl (fun a W hl => hl 114 (by decide)) fun a W m hR hS hl K hK => ?_
                        have h17 : a.tmps.getD 17 undef = (.int .i64 (k : Int)) := hl 17 (by decide)
                        have h114 : a.tmps.getD 114 undef = (.bool false) := hl 114 (by decide)
                        replace hK : ∀ v W2, Below W.heap.size W W2 → v = (.int .i64 (k : Int)) → K (a.put (some 118) v) W2 := fun v W2 h1 h2 => hK v W2 h1 (fun d hd => by cases hd; exact h2)
                        clear hl
                        simp only [Array.getD_eq_getD_getElem?] at h17 h114
                        go_simp
                        exact hK _ W (Below.refl _ W) rfl
                      · as_aux_lemma =>
                        refine Seq.UpOb.guarded (d := 114) (by decide) (fun _ _ _ _ _ => trivial) (fun _ _ h => h) rfl rfl (fun a W hl => hl 114 (by decide)) fun a W m hR hS hl K hK => ?_
                        have h117 : a.tmps.getD 117 undef = (.map (some mw)) := hl 117 (by decide)
                        have h118 : a.tmps.getD 118 undef = (.int .i64 (k : Int)) := hl 118 (by decide)
                        have h114 : a.tmps.getD 114 undef = (.bool false) := hl 114 (by decide)
                        replace hK : ∀ v W2, Below W.heap.size W W2 → v = (U ((f1 k).getD 0)) → K (a.put (some 119) v) W2 := fun v W2 h1 h2 => hK v W2 h1 (fun d hd => by cases hd; exact h2)
                        clear hl
                        exact wp_lookU _ _ rfl mw 64 f1 k h117 h118 (HMU1.out W hR) HKW.out (hK _ W (Below.refl _ W) rfl)
                      · as_aux_lemma =>
                        refine Seq.UpOb.guarded (d := 114) (by decide) (fun _ _ _ _ _ => trivial) (fun _ _ h => h) rfl rfl (fun a W hl => hl 114 (by decide)) fun a W m hR hS hl K hK => ?_
                        have h116 : a.tmps.getD 116 undef = (U y) := hl 116 (by decide)
                        have h119 : a.tmps.getD 119 undef = (U ((f1 k).getD 0)) := hl 119 (by decide)
                        have h114 : a.tmps.getD 114 undef = (.bool false) := hl 114 (by decide)
                        replace hK : ∀ v W2, Below W.heap.size W W2 → v = (.bool false) → K (a.put (some 120) v) W2 := fun v W2 h1 h2 => hK v W2 h1 (fun d hd => by cases hd; exact h2)
                        clear hl
                        simp only [Array.getD_eq_getD_getElem?] at h116 h119 h114
                        simp only [U_def] at h116 h119
                        go_simp
                        exact hK _ W (Below.refl _ W) (congrArg Value.bool HNE.out)
                      · as_aux_lemma =>
                        refine Seq.UpOb.guarded (d := 114) (by decide) (fun _ _ _ _ _ => trivial) (fun _ _ h => h) rfl rfl (fun a W hl => hl 114 (by decide)) fun a W m hR hS hl K hK => ?_
                        have h120 : a.tmps.getD 120 undef = (.bool false) := hl 120 (by decide)
                        have h114 : a.tmps.getD 114 undef = (.bool false) := hl 114 (by decide)
                        replace hK : ∀ v W2, Below W.heap.size W W2 → v = (.bool false) → K (a.put (some 121) v) W2 := fun v W2 h1 h2 => hK v W2 h1 (fun d hd => by cases hd; exact h2)
                        clear hl
                        simp only [Array.getD_eq_getD_getElem?] at h120 h114
                        go_simp
                        exact hK _ W (Below.refl _ W) rfl
                      · exact Seq.UpOb.skip (d := 121) (by decide) rfl rfl (.bool false) (fun a W hl => hl 121 (by decide)) (by simp) (fun d W hd => by cases hd; rfl)
                      · exact Seq.UpOb.skip (d := 121) (by decide) rfl rfl (.bool false) (fun a W hl => hl 121 (by decide)) (by simp) (fun d W hd => by cases hd; rfl)
                      · exact Seq.UpOb.skip (d := 121) (by decide) rfl rfl (.bool false) (fun a W hl => hl 121 (by decide)) (by simp) (fun d W hd => by cases hd; rfl)
                      · exact Seq.UpOb.skip (d := 121) (by decide) rfl rfl (.bool false) (fun a W hl => hl 121 (by decide)) (by simp) (fun d W hd => by cases hd; rfl)
                      · exact Seq.UpOb.skip (d := 121) (by decide) rfl rfl (.bool false) (fun a W hl => hl 121 (by decide)) (by simp) (fun d W hd => by cases hd; rfl)
                      · exact Seq.UpOb.skip (d := 121) (by decide) rfl rfl (.bool false) (fun a W hl => hl 121 (by decide)) (by simp) (fun d W hd => by cases hd; rfl)
                      · as_aux_lemma =>
                        refine Seq.UpOb.guarded (d := 114) (by decide) (fun _ _ _ _ _ => trivial) (fun _ _ h => h) rfl rfl (fun a W hl => hl 114 (by decide)) fun a W m hR hS hl K hK => ?_
                        have h121 : a.tmps.getD 121 undef = (.bool false) := hl 121 (by decide)
                        have h127 : a.tmps.getD 127 undef = (undef) := hl 127 (by decide)
                        have h114 : a.tmps.getD 114 undef = (.bool false) := hl 114 (by decide)
                        replace hK : ∀ v W2, Below W.heap.size W W2 → v = (.bool false) → K (a.put (some 128) v) W2 := fun v W2 h1 h2 => hK v W2 h1 (fun d hd => by cases hd; exact h2)
                        clear hl
                        simp only [Array.getD_eq_getD_getElem?] at h121 h127 h114
                        go_simp
                        exact hK _ W (Below.refl _ W) rfl
                      · as_aux_lemma =>
                        refine Seq.UpOb.plain (by decide) (fun _ _ _ _ _ => trivial) (fun _ _ h => h) rfl fun a W m hR hS hl K hK => ?_
                        have h114 : a.tmps.getD 114 undef = (.bool false) := hl 114 (by decide)
                        have h128 : a.tmps.getD 128 undef = (.bool false) := hl 128 (by decide)
                        replace hK : ∀ v W2, Below W.heap.size W W2 → v = (.bool false) → K (a.put (some 129) v) W2 := fun v W2 h1 h2 => hK v W2 h1 (fun d hd => by cases hd; exact h2)
                        clear hl
                        simp only [Array.getD_eq_getD_getElem?] at h114 h128
                        go_simp
                        exact hK _ W (Below.refl _ W) rfl
                    · intro a W3 hd hsz hR3 hl _
                      have hl' : ∀ t, Seq.SpOf _ _ t (a.tmps.getD t undef) W3 := hl
                      have htm := Seq.tmps_eq (hsz.trans rfl) [105, 106, 107, 108, 109, 110, 111, 112, 113, 114, 115, 116, 117, 118, 119, 120, 121, 122, 123, 124, 125, 126, 127, 128, 129] [(105, .int .i64 0), (106, .bool false), (107, .bool false), (108, B l), (109, .pointer (some ⟨g, 0, none⟩)), (110, .int .i64 (k : Int)), (111, B l), (112, .bool false), (113, .bool false), (114, .bool false), (115, .pointer (some ⟨wb, 0, none⟩)), (116, U y), (117, .map (some mw)), (118, .int .i64 (k : Int)), (119, U ((f1 k).getD 0)), (120, .bool false), (121, .bool false), (122, undef), (123, undef), (124, undef), (125, undef), (126, undef), (127, undef), (128, .bool false), (129, .bool false)] rfl rfl (by decide) 141 rfl (by decide) hl' (by
                        intro p hp
                        simp only [List.mem_cons, List.not_mem_nil, or_false] at hp
                        rcases hp with rfl | rfl | rfl | rfl | rfl | rfl | rfl | rfl | rfl | rfl | rfl | rfl | rfl | rfl | rfl | rfl | rfl | rfl | rfl | rfl | rfl | rfl | rfl | rfl | rfl
                        · exact hl 105
                        · exact hl 106
                        · exact hl 107
                        · exact hl 108
                        · exact hl 109
                        · exact hl 110
                        · exact hl 111
                        · exact hl 112
                        · exact hl 113
                        · exact hl 114
                        · exact hl 115
                        · exact hl 116
                        · exact hl 117
                        · exact hl 118
                        · exact hl 119
                        · exact hl 120
                        · exact hl 121
                        · exact hl 122
                        · exact hl 123
                        · exact hl 124
                        · exact hl 125
                        · exact hl 126
                        · exact hl 127
                        · exact hl 128
                        · exact hl 129
                        )
                      clear hl hl' hsz
                      have hact : a = ⟨_, []⟩ := Seq.act_eq hd htm
                      clear htm hd
                      rw [hact]
                      clear hact
                      simp only [List.foldl, List.setIfInBounds_toArray, List.set]
                      go_wp2
                      go_roundw
                      case rel => exact ⟨k + 1, by omega, by go_num, HB8'.out.trans (hR3.mono HB8'.out.size), HR8.out.up hR3, HMU1.out _ hR3, HMU2.out _ hR3⟩
                      case measure => simp [intOf]; omega
                  · have HNE : Hid (((y.toNat : Int) != (((f1 k).getD 0).toNat : Int)) = true) := by
                      show ((y.toNat : Int) != (((f1 k).getD 0).toNat : Int)) = true
                      rw [U_ne]; simpa using hq
                    have HNF : Hid (((y.toNat : Int) != (((f2 k).getD 0).toNat : Int)) = false) := by
                      show ((y.toNat : Int) != (((f2 k).getD 0).toNat : Int)) = false
                      rw [U_ne, ← hor.resolve_left hq]; simp
                    clear hq hor
                    refine Seq.wp_region_seq (by kernel_rfl) (R := (fun a b => Below a.heap.size a b)) (fun a => Below.refl _ a) (fun _ _ _ h k => h.trans (k.mono h.size)) (fun _ _ => True) [] [[19], [105], [106], [18, 107], [7, 107], [17, 107], [109, 110, 107], [108, 111, 107], [107, 112], [113], [18, 114], [115, 114], [11, 114], [17, 114], [117, 118, 114], [116, 119, 114], [120, 114], [18, 121], [122, 121], [12, 121], [17, 121], [124, 125, 121], [123, 126, 121], [121, 127, 114], [114, 128]] [(105, spIs (.int .i64 0)), (106, spIs (.bool false)), (107, spIs (.bool false)), (108, spIs (B l)), (109, spIs (.pointer (some ⟨g, 0, none⟩))), (110, spIs (.int .i64 (k : Int))), (111, spIs (B l)), (112, spIs (.bool false)), (113, spIs (.bool false)), (114, spIs (.bool false)), (115, spIs (.pointer (some ⟨wb, 0, none⟩))), (116, spIs (U y)), (117, spIs (.map (some mw))), (118, spIs (.int .i64 (k : Int))), (119, spIs (U ((f1 k).getD 0))), (120, spIs (.bool true)), (121, spIs (.bool true)), (122, spIs (.pointer (some ⟨wb, 0, none⟩))), (123, spIs (U y)), (124, spIs (.map (some (mw + 1)))), (125, spIs (.int .i64 (k : Int))), (126, spIs (U ((f2 k).getD 0))), (127, spIs (.bool false)), (128, spIs (.bool false)), (129, spIs (.bool false))] 141 rfl (by kernel_rfl) (by kernel_rfl) (by kernel_rfl) (by kernel_rfl) ?_ ?_ ?_
                    · trivial
                    · refine ⟨?_, ?_, ?_, ?_, ?_, ?_, ?_, ?_, ?_, ?_, ?_, ?_, ?_, ?_, ?_, ?_, ?_, ?_, ?_, ?_, ?_, ?_, ?_, ?_, ?_, trivial⟩
                      · as_aux_lemma =>
                        refine Seq.UpOb.plain (by decide) (fun _ _ _ _ _ => trivial) (fun _ _ h => h) rfl fun a W m hR hS hl K hK => ?_
                        have h19 : a.tmps.getD 19 undef = (.int .i64 0) := hl 19 (by decide)
                        replace hK : ∀ v W2, Below W.heap.size W W2 → v = (.int .i64 0) → K (a.put (some 105) v) W2 := fun v W2 h1 h2 => hK v W2 h1 (fun d hd => by cases hd; exact h2)
                        clear hl
                        simp only [Array.getD_eq_getD_getElem?] at h19
                        go_simp
                        exact hK _ W (Below.refl _ W) rfl
                      · as_aux_lemma =>
                        refine Seq.UpOb.plain (by decide) (fun _ _ _ _ _ => trivial) (fun _ _ h => h) rfl fun a W m hR hS hl K hK => ?_
                        have h105 : a.tmps.getD 105 undef = (.int .i64 0) := hl 105 (by decide)
                        replace hK : ∀ v W2, Below W.heap.size W W2 → v = (.bool false) → K (a.put (some 106) v) W2 := fun v W2 h1 h2 => hK v W2 h1 (fun d hd => by cases hd; exact h2)
                        clear hl
                        simp only [Array.getD_eq_getD_getElem?] at h105
                        go_simp
                        exact hK _ W (Below.refl _ W) rfl
                      · as_aux_lemma =>
                        refine Seq.UpOb.plain (by decide) (fun _ _ _ _ _ => trivial) (fun _ _ h => h) rfl fun a W m hR hS hl K hK => ?_
                        have h106 : a.tmps.getD 106 undef = (.bool false) := hl 106 (by decide)
                        replace hK : ∀ v W2, Below W.heap.size W W2 → v = (.bool false) → K (a.put (some 107) v) W2 := fun v W2 h1 h2 => hK v W2 h1 (fun d hd => by cases hd; exact h2)
                        clear hl
                        simp only [Array.getD_eq_getD_getElem?] at h106
                        go_simp
                        exact hK _ W (Below.refl _ W) rfl
                      · as_aux_lemma =>
                        refine Seq.UpOb.guarded (d := 107) (by decide) (fun _ _ _ _ _ => trivial) (fun _ _ h => h) rfl rfl (fun a W hl => hl 107 (by decide)) fun a W m hR hS hl K hK => ?_
                        have h18 : a.tmps.getD 18 undef = (.pointer (some ⟨wb, 0, none⟩)) := hl 18 (by decide)
                        have h107 : a.tmps.getD 107 undef = (.bool false) := hl 107 (by decide)
                        replace hK : ∀ v W2, Below W.heap.size W W2 → v = (B l) → K (a.put (some 108) v) W2 := fun v W2 h1 h2 => hK v W2 h1 (fun d hd => by cases hd; exact h2)
                        clear hl
                        exact wp_load_row 43 _ rfl wb h18 43 _ (0, 0) _ (HKW8.out W hR) Try.underlying43 rfl (BRow _ HL.out) (hK _ W (Below.refl _ W) rfl)
                      · as_aux_lemma =>
                        refine Seq.UpOb.guarded (d := 107) (by decide) (fun _ _ _ _ _ => trivial) (fun _ _ h => h) rfl rfl (fun a W hl => hl 107 (by decide)) fun a W m hR hS hl K hK => ?_
                        have h7 : a.tmps.getD 7 undef = (.pointer (some ⟨g, 0, none⟩)) := hl 7 (by decide)
                        have h107 : a.tmps.getD 107 undef = (.bool false) := hl 107 (by decide)
                        replace hK : ∀ v W2, Below W.heap.size W W2 → v = (.pointer (some ⟨g, 0, none⟩)) → K (a.put (some 109) v) W2 := fun v W2 h1 h2 => hK v W2 h1 (fun d hd => by cases hd; exact h2)
                        clear hl
                        simp only [Array.getD_eq_getD_getElem?] at h7 h107
                        go_simp
                        exact hK _ W (Below.refl _ W) rfl
                      · as_aux_lemma =>
                        refine Seq.UpOb.guarded (d := 107) (by decide) (fun _ _ _ _ _ => trivial) (fun _ _ h => h) rfl rfl (fun a W hl => hl 107 (by decide)) fun a W m hR hS hl K hK => ?_
                        have h17 : a.tmps.getD 17 undef = (.int .i64 (k : Int)) := hl 17 (by decide)
                        have h107 : a.tmps.getD 107 undef = (.bool false) := hl 107 (by decide)
                        replace hK : ∀ v W2, Below W.heap.size W W2 → v = (.int .i64 (k : Int)) → K (a.put (some 110) v) W2 := fun v W2 h1 h2 => hK v W2 h1 (fun d hd => by cases hd; exact h2)
                        clear hl
                        simp only [Array.getD_eq_getD_getElem?] at h17 h107
                        go_simp
                        exact hK _ W (Below.refl _ W) rfl
                      · as_aux_lemma =>
                        refine Seq.UpOb.guarded (d := 107) (by decide) (fun _ _ _ _ _ => trivial) (fun _ _ h => h) rfl rfl (fun a W hl => hl 107 (by decide)) fun a W m hR hS hl K hK => ?_
                        have h109 : a.tmps.getD 109 undef = (.pointer (some ⟨g, 0, none⟩)) := hl 109 (by decide)
                        have h110 : a.tmps.getD 110 undef = (.int .i64 (k : Int)) := hl 110 (by decide)
                        have h107 : a.tmps.getD 107 undef = (.bool false) := hl 107 (by decide)
                        replace hK : ∀ v W2, Below W.heap.size W W2 → v = (B l) → K (a.put (some 111) v) W2 := fun v W2 h1 h2 => hK v W2 h1 (fun d hd => by cases hd; exact h2)
                        clear hl
                        have hs := HLW8.out W hR
                        simp only [Array.getD_eq_getD_getElem?] at h109 h110 h107
                        go_simp
                        refine hs.mono ?_
                        rintro e w6 ⟨rfl, hb6⟩
                        exact hK _ w6 hb6 rfl
                      · as_aux_lemma =>
                        refine Seq.UpOb.guarded (d := 107) (by decide) (fun _ _ _ _ _ => trivial) (fun _ _ h => h) rfl rfl (fun a W hl => hl 107 (by decide)) fun a W m hR hS hl K hK => ?_
                        have h108 : a.tmps.getD 108 undef = (B l) := hl 108 (by decide)
                        have h111 : a.tmps.getD 111 undef = (B l) := hl 111 (by decide)
                        have h107 : a.tmps.getD 107 undef = (.bool false) := hl 107 (by decide)
                        replace hK : ∀ v W2, Below W.heap.size W W2 → v = (.bool false) → K (a.put (some 112) v) W2 := fun v W2 h1 h2 => hK v W2 h1 (fun d hd => by cases hd; exact h2)
                        clear hl
                        exact wp_ne43 _ _ _ rfl l HL.out h108 h111 (hK _ W (Below.refl _ W) rfl)
                      · as_aux_lemma =>
                        refine Seq.UpOb.plain (by decide) (fun _ _ _ _ _ => trivial) (fun _ _ h => h) rfl fun a W m hR hS hl K hK => ?_
                        have h107 : a.tmps.getD 107 undef = (.bool false) := hl 107 (by decide)
                        have h112 : a.tmps.getD 112 undef = (.bool false) := hl 112 (by decide)
                        replace hK : ∀ v W2, Below W.heap.size W W2 → v = (.bool false) → K (a.put (some 113) v) W2 := fun v W2 h1 h2 => hK v W2 h1 (fun d hd => by cases hd; exact h2)
                        clear hl
                        simp only [Array.getD_eq_getD_getElem?] at h107 h112
                        go_simp
                        exact hK _ W (Below.refl _ W) rfl
                      · as_aux_lemma =>
                        refine Seq.UpOb.plain (by decide) (fun _ _ _ _ _ => trivial) (fun _ _ h => h) rfl fun a W m hR hS hl K hK => ?_
                        have h113 : a.tmps.getD 113 undef = (.bool false) := hl 113 (by decide)
                        replace hK : ∀ v W2, Below W.heap.size W W2 → v = (.bool false) → K (a.put (some 114) v) W2 := fun v W2 h1 h2 => hK v W2 h1 (fun d hd => by cases hd; exact h2)
                        clear hl
                        simp only [Array.getD_eq_getD_getElem?] at h113
                        go_simp
                        exact hK _ W (Below.refl _ W) rfl
                      · as_aux_lemma =>
                        refine Seq.UpOb.guarded (d := 114) (by decide) (fun _ _ _ _ _ => trivial) (fun _ _ h => h) rfl rfl (fun a W hl => hl 114 (by decide)) fun a W m hR hS hl K hK => ?_
                        have h18 : a.tmps.getD 18 undef = (.pointer (some ⟨wb, 0, none⟩)) := hl 18 (by decide)
                        have h114 : a.tmps.getD 114 undef = (.bool false) := hl 114 (by decide)
                        replace hK : ∀ v W2, Below W.heap.size W W2 → v = (.pointer (some ⟨wb, 0, none⟩)) → K (a.put (some 115) v) W2 := fun v W2 h1 h2 => hK v W2 h1 (fun d hd => by cases hd; exact h2)
                        clear hl
                        simp only [Array.getD_eq_getD_getElem?] at h18 h114
                        go_simp
                        exact hK _ W (Below.refl _ W) rfl
                      · as_aux_lemma =>
                        refine Seq.UpOb.guarded (d := 114) (by decide) (fun _ _ _ _ _ => trivial) (fun _ _ h => h) rfl rfl (fun a W hl => hl 114 (by decide)) fun a W m hR hS hl K hK => ?_
                        have h115 : a.tmps.getD 115 undef = (.pointer (some ⟨wb, 0, none⟩)) := hl 115 (by decide)
                        have h114 : a.tmps.getD 114 undef = (.bool false) := hl 114 (by decide)
                        replace hK : ∀ v W2, Below W.heap.size W W2 → v = (U y) → K (a.put (some 116) v) W2 := fun v W2 h1 h2 => hK v W2 h1 (fun d hd => by cases hd; exact h2)
                        clear hl
                        have hc := HCELL.out W hR
                        simp only [Array.getD_eq_getD_getElem?] at h115 h114
                        go_simp
                        exact hK _ W (Below.refl _ W) rfl
                      · as_aux_lemma =>
                        refine Seq.UpOb.guarded (d := 114) (by decide) (fun _ _ _ _ _ => trivial) (fun _ _ h => h) rfl rfl (fun a W hl => hl 114 (by decide)) fun a W m hR hS hl K hK => ?_
                        have h11 : a.tmps.getD 11 undef = (.map (some mw)) := hl 11 (by decide)
                        have h114 : a.tmps.getD 114 undef = (.bool false) := hl 114 (by decide)
                        replace hK : ∀ v W2, Below W.heap.size W W2 → v = (.map (some mw)) → K (a.put (some 117) v) W2 := fun v W2 h1 h2 => hK v W2 h1 (fun d hd => by cases hd; exact h2)
                        clear hl
                        simp only [Array.getD_eq_getD_getElem?] at h11 h114
                        go_simp
                        exact hK _ W (Below.refl _ W) rfl
                      · as_aux_lemma =>
                        refine Seq.UpOb.guarded (d := 114) (by decide) (fun _ _ _ _ _ => trivial) (fun _ _ h => h) rfl rfl (fun a W hl => hl 114 (by decide)) fun a W m hR hS hl K hK => ?_
                        have h17 : a.tmps.getD 17 undef = (.int .i64 (k : Int)) := hl 17 (by decide)
                        have h114 : a.tmps.getD 114 undef = (.bool false) := hl 114 (by decide)
                        replace hK : ∀ v W2, Below W.heap.size W W2 → v = (.int .i64 (k : Int)) → K (a.put (some 118) v) W2 := fun v W2 h1 h2 => hK v W2 h1 (fun d hd => by cases hd; exact h2)
                        clear hl
                        simp only [Array.getD_eq_getD_getElem?] at h17 h114
                        go_simp
                        exact hK _ W (Below.refl _ W) rfl
                      · as_aux_lemma =>
                        refine Seq.UpOb.guarded (d := 114) (by decide) (fun _ _ _ _ _ => trivial) (fun _ _ h => h) rfl rfl (fun a W hl => hl 114 (by decide)) fun a W m hR hS hl K hK => ?_
                        have h117 : a.tmps.getD 117 undef = (.map (some mw)) := hl 117 (by decide)
                        have h118 : a.tmps.getD 118 undef = (.int .i64 (k : Int)) := hl 118 (by decide)
                        have h114 : a.tmps.getD 114 undef = (.bool false) := hl 114 (by decide)
                        replace hK : ∀ v W2, Below W.heap.size W W2 → v = (U ((f1 k).getD 0)) → K (a.put (some 119) v) W2 := fun v W2 h1 h2 => hK v W2 h1 (fun d hd => by cases hd; exact h2)
                        clear hl
                        exact wp_lookU _ _ rfl mw 64 f1 k h117 h118 (HMU1.out W hR) HKW.out (hK _ W (Below.refl _ W) rfl)
                      · as_aux_lemma =>
                        refine Seq.UpOb.guarded (d := 114) (by decide) (fun _ _ _ _ _ => trivial) (fun _ _ h => h) rfl rfl (fun a W hl => hl 114 (by decide)) fun a W m hR hS hl K hK => ?_
                        have h116 : a.tmps.getD 116 undef = (U y) := hl 116 (by decide)
                        have h119 : a.tmps.getD 119 undef = (U ((f1 k).getD 0)) := hl 119 (by decide)
                        have h114 : a.tmps.getD 114 undef = (.bool false) := hl 114 (by decide)
                        replace hK : ∀ v W2, Below W.heap.size W W2 → v = (.bool true) → K (a.put (some 120) v) W2 := fun v W2 h1 h2 => hK v W2 h1 (fun d hd => by cases hd; exact h2)
                        clear hl
                        simp only [Array.getD_eq_getD_getElem?] at h116 h119 h114
                        simp only [U_def] at h116 h119
                        go_simp
                        exact hK _ W (Below.refl _ W) (congrArg Value.bool HNE.out)
                      · as_aux_lemma =>
                        refine Seq.UpOb.guarded (d := 114) (by decide) (fun _ _ _ _ _ => trivial) (fun _ _ h => h) rfl rfl (fun a W hl => hl 114 (by decide)) fun a W m hR hS hl K hK => ?_
                        have h120 : a.tmps.getD 120 undef = (.bool true) := hl 120 (by decide)
                        have h114 : a.tmps.getD 114 undef = (.bool false) := hl 114 (by decide)
                        replace hK : ∀ v W2, Below W.heap.size W W2 → v = (.bool true) → K (a.put (some 121) v) W2 := fun v W2 h1 h2 => hK v W2 h1 (fun d hd => by cases hd; exact h2)
                        clear hl
                        simp only [Array.getD_eq_getD_getElem?] at h120 h114
                        go_simp
                        exact hK _ W (Below.refl _ W) rfl
                      · as_aux_lemma =>
                        refine Seq.UpOb.guarded (d := 121) (by decide) (fun _ _ _ _ _ => trivial) (fun _ _ h => h) rfl rfl (fun a W hl => hl 121 (by decide)) fun a W m hR hS hl K hK => ?_
                        have h18 : a.tmps.getD 18 undef = (.pointer (some ⟨wb, 0, none⟩)) := hl 18 (by decide)
                        have h121 : a.tmps.getD 121 undef = (.bool true) := hl 121 (by decide)
                        replace hK : ∀ v W2, Below W.heap.size W W2 → v = (.pointer (some ⟨wb, 0, none⟩)) → K (a.put (some 122) v) W2 := fun v W2 h1 h2 => hK v W2 h1 (fun d hd => by cases hd; exact h2)
                        clear hl
                        simp only [Array.getD_eq_getD_getElem?] at h18 h121
                        go_simp
                        exact hK _ W (Below.refl _ W) rfl
                      · as_aux_lemma =>
                        refine Seq.UpOb.guarded (d := 121) (by decide) (fun _ _ _ _ _ => trivial) (fun _ _ h => h) rfl rfl (fun a W hl => hl 121 (by decide)) fun a W m hR hS hl K hK => ?_
                        have h122 : a.tmps.getD 122 undef = (.pointer (some ⟨wb, 0, none⟩)) := hl 122 (by decide)
                        have h121 : a.tmps.getD 121 undef = (.bool true) := hl 121 (by decide)
                        replace hK : ∀ v W2, Below W.heap.size W W2 → v = (U y) → K (a.put (some 123) v) W2 := fun v W2 h1 h2 => hK v W2 h1 (fun d hd => by cases hd; exact h2)
                        clear hl
                        have hc := HCELL.out W hR
                        simp only [Array.getD_eq_getD_getElem?] at h122 h121
                        go_simp
                        exact hK _ W (Below.refl _ W) rfl
                      · as_aux_lemma =>
                        refine Seq.UpOb.guarded (d := 121) (by decide) (fun _ _ _ _ _ => trivial) (fun _ _ h => h) rfl rfl (fun a W hl => hl 121 (by decide)) fun a W m hR hS hl K hK => ?_
                        have h12 : a.tmps.getD 12 undef = (.map (some (mw + 1))) := hl 12 (by decide)
                        have h121 : a.tmps.getD 121 undef = (.bool true) := hl 121 (by decide)
                        replace hK : ∀ v W2, Below W.heap.size W W2 → v = (.map (some (mw + 1))) → K (a.put (some 124) v) W2 := fun v W2 h1 h2 => hK v W2 h1 (fun d hd => by cases hd; exact h2)
                        clear hl
                        simp only [Array.getD_eq_getD_getElem?] at h12 h121
                        go_simp
                        exact hK _ W (Below.refl _ W) rfl
                      · as_aux_lemma =>
                        refine Seq.UpOb.guarded (d := 121) (by decide) (fun _ _ _ _ _ => trivial) (fun _ _ h => h) rfl rfl (fun a W hl => hl 121 (by decide)) fun a W m hR hS hl K hK => ?_
                        have h17 : a.tmps.getD 17 undef = (.int .i64 (k : Int)) := hl 17 (by decide)
                        have h121 : a.tmps.getD 121 undef = (.bool true) := hl 121 (by decide)
                        replace hK : ∀ v W2, Below W.heap.size W W2 → v = (.int .i64 (k : Int)) → K (a.put (some 125) v) W2 := fun v W2 h1 h2 => hK v W2 h1 (fun d hd => by cases hd; exact h2)
                        clear hl
                        simp only [Array.getD_eq_getD_getElem?] at h17 h121
                        go_simp
                        exact hK _ W (Below.refl _ W) rfl
                      · as_aux_lemma =>
                        refine Seq.UpOb.guarded (d := 121) (by decide) (fun _ _ _ _ _ => trivial) (fun _ _ h => h) rfl rfl (fun a W hl => hl 121 (by decide)) fun a W m hR hS hl K hK => ?_
                        have h124 : a.tmps.getD 124 undef = (.map (some (mw + 1))) := hl 124 (by decide)
                        have h125 : a.tmps.getD 125 undef = (.int .i64 (k : Int)) := hl 125 (by decide)
                        have h121 : a.tmps.getD 121 undef = (.bool true) := hl 121 (by decide)
                        replace hK : ∀ v W2, Below W.heap.size W W2 → v = (U ((f2 k).getD 0)) → K (a.put (some 126) v) W2 := fun v W2 h1 h2 => hK v W2 h1 (fun d hd => by cases hd; exact h2)
                        clear hl
                        exact wp_lookU _ _ rfl (mw + 1) n f2 k h124 h125 (HMU2.out W hR) HKW.out (hK _ W (Below.refl _ W) rfl)
                      · as_aux_lemma =>
                        refine Seq.UpOb.guarded (d := 121) (by decide) (fun _ _ _ _ _ => trivial) (fun _ _ h => h) rfl rfl (fun a W hl => hl 121 (by decide)) fun a W m hR hS hl K hK => ?_
                        have h123 : a.tmps.getD 123 undef = (U y) := hl 123 (by decide)
                        have h126 : a.tmps.getD 126 undef = (U ((f2 k).getD 0)) := hl 126 (by decide)
                        have h121 : a.tmps.getD 121 undef = (.bool true) := hl 121 (by decide)
                        replace hK : ∀ v W2, Below W.heap.size W W2 → v = (.bool false) → K (a.put (some 127) v) W2 := fun v W2 h1 h2 => hK v W2 h1 (fun d hd => by cases hd; exact h2)
                        clear hl
                        simp only [Array.getD_eq_getD_getElem?] at h123 h126 h121
                        simp only [U_def] at h123 h126
                        go_simp
                        exact hK _ W (Below.refl _ W) (congrArg Value.bool HNF.out)
                      · as_aux_lemma =>
                        refine Seq.UpOb.guarded (d := 114) (by decide) (fun _ _ _ _ _ => trivial) (fun _ _ h => h) rfl rfl (fun a W hl => hl 114 (by decide)) fun a W m hR hS hl K hK => ?_
                        have h121 : a.tmps.getD 121 undef = (.bool true) := hl 121 (by decide)
                        have h127 : a.tmps.getD 127 undef = (.bool false) := hl 127 (by decide)
                        have h114 : a.tmps.getD 114 undef = (.bool false) := hl 114 (by decide)
                        replace hK : ∀ v W2, Below W.heap.size W W2 → v = (.bool false) → K (a.put (some 128) v) W2 := fun v W2 h1 h2 => hK v W2 h1 (fun d hd => by cases hd; exact h2)
                        clear hl
                        simp only [Array.getD_eq_getD_getElem?] at h121 h127 h114
                        go_simp
                        exact hK _ W (Below.refl _ W) rfl
                      · as_aux_lemma =>
                        refine Seq.UpOb.plain (by decide) (fun _ _ _ _ _ => trivial) (fun _ _ h => h) rfl fun a W m hR hS hl K hK => ?_
                        have h114 : a.tmps.getD 114 undef = (.bool false) := hl 114 (by decide)
                        have h128 : a.tmps.getD 128 undef = (.bool false) := hl 128 (by decide)
                        replace hK : ∀ v W2, Below W.heap.size W W2 → v = (.bool false) → K (a.put (some 129) v) W2 := fun v W2 h1 h2 => hK v W2 h1 (fun d hd => by cases hd; exact h2)
                        clear hl
                        simp only [Array.getD_eq_getD_getElem?] at h114 h128
                        go_simp
                        exact hK _ W (Below.refl _ W) rfl
                    · intro a W3 hd hsz hR3 hl _
                      have hl' : ∀ t, Seq.SpOf _ _ t (a.tmps.getD t undef) W3 := hl
                      have htm := Seq.tmps_eq (hsz.trans rfl) [105, 106, 107, 108, 109, 110, 111, 112, 113, 114, 115, 116, 117, 118, 119, 120, 121, 122, 123, 124, 125, 126, 127, 128, 129] [(105, .int .i64 0), (106, .bool false), (107, .bool false), (108, B l), (109, .pointer (some ⟨g, 0, none⟩)), (110, .int .i64 (k : Int)), (111, B l), (112, .bool false), (113, .bool false), (114, .bool false), (115, .pointer (some ⟨wb, 0, none⟩)), (116, U y), (117, .map (some mw)), (118, .int .i64 (k : Int)), (119, U ((f1 k).getD 0)), (120, .bool true), (121, .bool true), (122, .pointer (some ⟨wb, 0, none⟩)), (123, U y), (124, .map (some (mw + 1))), (125, .int .i64 (k : Int)), (126, U ((f2 k).getD 0)), (127, .bool false), (128, .bool false), (129, .bool false)] rfl rfl (by decide) 141 rfl (by decide) hl' (by
                        intro p hp
                        simp only [List.mem_cons, List.not_mem_nil, or_false] at hp
                        rcases hp with rfl | rfl | rfl | rfl | rfl | rfl | rfl | rfl | rfl | rfl | rfl | rfl | rfl | rfl | rfl | rfl | rfl | rfl | rfl | rfl | rfl | rfl | rfl | rfl | rfl
                        · exact hl 105
                        · exact hl 106
                        · exact hl 107
                        · exact hl 108
                        · exact hl 109
                        · exact hl 110
                        · exact hl 111
                        · exact hl 112
                        · exact hl 113
                        · exact hl 114
                        · exact hl 115
                        · exact hl 116
                        · exact hl 117
                        · exact hl 118
                        · exact hl 119
                        · exact hl 120
                        · exact hl 121
                        · exact hl 122
                        · exact hl 123
                        · exact hl 124
                        · exact hl 125
                        · exact hl 126
                        · exact hl 127
                        · exact hl 128
                        · exact hl 129
                        )
                      clear hl hl' hsz
                      have hact : a = ⟨_, []⟩ := Seq.act_eq hd htm
                      clear htm hd
                      rw [hact]
                      clear hact
                      simp only [List.foldl, List.setIfInBounds_toArray, List.set]
                      go_wp2
                      go_roundw
                      case rel => exact ⟨k + 1, by omega, by go_num, HB8'.out.trans (hR3.mono HB8'.out.size), HR8.out.up hR3, HMU1.out _ hR3, HMU2.out _ hR3⟩
                      case measure => simp [intOf]; omega
                · obtain rfl : k = 64 := by omega
                  go_wp2_with (first
                    | (go_at_call 17; refine (Waits_walk wr g lb mb V _ HR.out).mono ?_; rintro e w5 ⟨v, rfl, hws, hb5⟩; obtain ⟨A, c, r2, rfl, hr0, hr1, hr2, hr3⟩ := hws; have HB5 := Lib.hid hb5; have hrn := HCN.out r2 hr1; clear hb5 hr0 hr1 hr2 hr3))
                  go_ret
                  refine ⟨?_, HB.out.trans (HB5.out.mono HB.out.size)⟩
                  simp [HRL.out]
end Go.Proofs.Ytcbfnbmkogeehaa
