/- The law of what is taken and given back: the walk. -/
import Derived.Test.YtoeniealmcihmaaPk
namespace Go.Proofs.Ytoeniealmcihmaa
open Go.RowKit

attribute [local irreducible] wpList in
set_option maxRecDepth 100000 in
set_option maxHeartbeats 8000000 in
theorem back_walk (w : World) (n : UInt8) (A : Option Addr) (m c : Nat) (ks : List UInt8) (first : UInt8) (hl : BytesAt w A m ks) (hm : m ≤ 20) :
    Calls Try.prog 3 #[.int .u8 (n.toNat : Int), .slice A m c, .int .u8 (first.toNat : Int)] w fun e w' => e = .returned (.bool true) ∧ Below w.heap.size w w' := by
  obtain ⟨i0, hi, hz0, hz1, hz2⟩ := info_parts info33
  have hn8 := n.toNat_lt
  have hf8 := first.toNat_lt
  generalize n.toNat = n at *
  generalize first.toNat = fi at *
  have HL := Lib.hid hl
  obtain ⟨N, hN⟩ : ∃ N : Nat, N = n % 200 := ⟨_, rfl⟩
  have hN1 : N < 200 := by omega
  have hnr : (n : Int).tmod 200 = (N : Int) := by rw [Int.tmod_eq_emod_of_nonneg (by omega)]; omega
  have hnew := fun w => new_walk w 10 (10 + (N : Int)) (by omega) (by omega) (by omega) (by omega)
  rw [show many 10 (10 + (N : Int)) = N by unfold many; omega] at hnew
  have HNEW := Lib.hid hnew
  have HF := Lib.hid (told_tf 0 N)
  clear hl hnew hN
  go_enter Try.func3, Try.ntmps3
  go_wp2_with (first
    | (go_at_call 6; refine (awake_walk _).mono ?_; rintro e w1 ⟨rfl, hb1⟩; have HB1 := Lib.hid hb1; clear hb1)
    | (go_at_call 7; refine (HNEW.out w1).mono ?_; rintro e w2 ⟨g, lb, p, mr, rfl, hs, hg, hlb, hb2⟩; rw [tf_zero] at hs; have HS := Lib.hid hs; have HB2 := Lib.hid hb2; have HG := Lib.hid hg; have HLB := Lib.hid hlb; clear hs hb2 hg hlb)
    | (go_at_call 8; refine (copy_walk w2 g lb 10 p mr (tf 0 N) HS.out).mono ?_; rintro e w3 ⟨gc, lbc, pc, mrc, rfl, hsc, hgc, hlc, hb3⟩; have HSC := Lib.hid hsc; have HB3 := Lib.hid hb3; have HGC := Lib.hid hgc; clear hsc hb3 hgc hlc)
    | (go_at_call 9; refine (free_walk w3 g lb 10 p mr (tf 0 N) (HS.out.up HB3.out)).mono ?_; rintro e w4 ⟨he, hb4⟩; rw [HF.out] at he; subst he; have HB4 := Lib.hid hb4; clear hb4))
  have hB2 : Below w.heap.size w w2 := HB1.out.trans (HB2.out.mono HB1.out.size)
  have hB3 : Below w.heap.size w w3 := hB2.trans (HB3.out.mono hB2.size)
  have hB4 : Below w.heap.size w w4 := hB3.trans (HB4.out.mono hB3.size)
  have hbk : Bk w g gc lbc pc mrc N (.slice none 0 0) [] 0 w4 := ⟨⟨lb, p, mr, (HS.out.up HB3.out).up HB4.out⟩, HSC.out.up HB4.out, World.ownsRow_nil _ _ _ _, Tiles.nil, Nat.zero_le _, by
    have h1 := HGC.out
    have h2 := HS.out.blk.lt
    omega, Nat.le_trans HB1.out.size HG.out, hB4⟩
  have HBK := Lib.hid hbk
  clear hB2 hB3 hB4 hbk HB1 HB2 HB3 HB4 HG HGC HLB HS HSC
  go_loopw [10, 37] (fun v i wr => ∃ (q P : Nat) (L : List (Nat × Nat)), i = .int .i64 q ∧ q ≤ m ∧ L.length ≤ q ∧ Bk w g gc lbc pc mrc N v L P wr) (fun _ i _ => m - (intOf i).toNat)
  case atStart => exact ⟨0, 0, [], rfl, by omega, by simp, HBK.out⟩
  case round =>
    obtain ⟨q, P, L, rfl, hq, hLq, hbk⟩ := hrel
    obtain ⟨A1, cap1, rfl, _⟩ := own_runs hbk.row rfl (fun r hr => (hbk.tiles.each r hr).2.1)
    have HB := Lib.hid hbk
    have hL20 : L.length ≤ 20 := by omega
    have hcap : L.length ≤ cap1 := by
      rcases hbk.row.2 with ⟨h1, h2⟩ | ⟨_, _, _, h1, _, _, h2, _⟩
      · omega
      · cases h1; exact h2
    clear hbk HBK
    by_cases hlt : q < m
    · obtain ⟨bb, o, rfl, hbb, hc⟩ := HL.out.2 (by omega)
      have hql : q < ks.length := by have := HL.out.1; omega
      have hk : wr.cell? ⟨bb, o + q, none⟩ = some (.int .u8 (ks[q].toNat : Int)) := (HB.out.bel.cell hbb).trans (hc q hql)
      have hk8 := ks[q].toNat_lt
      generalize ks[q].toNat = kk at *
      obtain ⟨κ, hκ⟩ : ∃ κ : Nat, κ = kk % 20 := ⟨_, rfl⟩
      have hκ1 : κ < 20 := by omega
      have rk : (kk : Int).tmod 20 = (κ : Int) := by rw [Int.tmod_eq_emod_of_nonneg (by omega)]; omega
      obtain ⟨lb, p, mr, hs⟩ := HB.out.s
      have HS := Lib.hid hs
      have htk := take_walk wr g lb 10 p mr (tf P (N - P)) (κ : Int) (by omega) hs
      clear hs hc hκ
      by_cases hfit : 1 ≤ κ ∧ κ ≤ N - P
      · rw [tkA_fits hfit.1 hfit.2] at htk
        have HTK := Lib.hid htk
        clear htk
        go_wp2_with (go_at_call 10; refine HTK.out.mono ?_; rintro e w5 ⟨rfl, hx5, lb5, p5, mr5, hs5, _⟩; have X5 := Lib.hid hx5; have S5 := Lib.hid hs5; clear hx5 hs5)
        have hrow5 := (HB.out.stay HS.out X5.out).1
        have HR5 := Lib.hid hrow5
        have HRA := Lib.hid (own_runs' hrow5 rfl (fun r hr => (HB.out.tiles.each r hr).2.1))
        clear hrow5
        go_loopw [53] (fun i W => ∃ j : Nat, i = .int .i64 j ∧ j ≤ L.length ∧ Below w5.heap.size w5 W) (fun i _ => L.length - (intOf i).toNat)
        case atStart => exact ⟨0, rfl, by omega, Below.refl _ _⟩
        case round =>
          rename_i W
          obtain ⟨j, rfl, hj, hbw⟩ := hrel
          have HBW := Lib.hid hbw
          clear hbw
          by_cases hjl : j < L.length
          · obtain ⟨lg, lo, rfl, hlg, hcl⟩ := HRA.out.2.2 (by omega)
            have hc2 := hcl j (by rw [List.length_map]; exact hjl)
            rw [List.getElem_map] at hc2
            have hej := HB.out.tiles.each L[j] (List.getElem_mem hjl)
            generalize L[j] = r at *
            have ca := (HBW.out.cell hlg).trans hc2.1
            have cb := (HBW.out.cell hlg).trans hc2.2
            unfold toI at ca cb
            simp only at ca cb
            have hp200 := HB.out.le
            have wr1 : IntKind.i64.wrap (10 + (r.1 : Int) + (r.2 : Int)) = 10 + (r.1 : Int) + (r.2 : Int) := IntWalk.i64_in _ (by omega)
            have hno : ¬ (10 + (P : Int) < 10 + (r.1 : Int) + (r.2 : Int)) := by omega
            clear hcl hc2
            go_wp2
            exact ⟨⟨j + 1, by go_num, by omega, HBW.out.trans ((Below.refl _ wr).alloc HBW.out.size _)⟩, by simp [intOf]; omega⟩
          · have hje : j = L.length := by omega
            have hown := (own_below HR5.out HBW.out).alloc (.cells #[.int .i64 (10 + (P : Int)), .int .i64 (κ : Int)] 33)
            have hnews : ∀ i u, [Value.int .i64 (10 + (P : Int)), .int .i64 (κ : Int)][i]? = some u → (wr.alloc (.cells #[.int .i64 (10 + (P : Int)), .int .i64 (κ : Int)] 33)).cell? ((⟨wr.heap.size, 0, none⟩ : Addr).add i) = some u := World.news_of_block (cs := #[.int .i64 (10 + (P : Int)), .int .i64 (κ : Int)]) (Blk.fresh wr 33 _)
            have h1c : ∀ u ∈ [Value.int .i64 (10 + (P : Int)), .int .i64 (κ : Int)], u.oneCell' = true := by simp [Value.oneCell']
            have h63 : L.length + 1 ≤ maxLen := by unfold maxLen; omega
            have HO := Lib.hid hown
            have HN := Lib.hid hnews
            have H1 := Lib.hid h1c
            have H63 := Lib.hid h63
            have hsw : w.heap.size ≤ (wr.alloc (.cells #[.int .i64 (10 + (P : Int)), .int .i64 (κ : Int)] 33)).heap.size := by have := HBW.out.size; have := X5.out.size; have := HB.out.bel.size; simp; omega
            have HSW := Lib.hid hsw
            clear hown hnews h1c h63 hsw
            go_wp2_with (at_builtin; refine wpList_append_own _ rfl _ _ 28 rfl w.heap.size 33 i0 (.agg #[.int .i64 0, .int .i64 0]) 2 16 Try.underlying28 hi hz0 hz1 hz2 rfl (by decide) _ L.length (RL L) rfl HO.out ⟨wr.heap.size, 0, none⟩ 1 1 [.int .i64 (10 + (P : Int)), .int .i64 (κ : Int)] rfl rfl HN.out H1.out H63.out (by omega) HSW.out ?_; intro v' w6 hown' hgrow _; have HO6 := Lib.hid hown'; have HG6 := Lib.hid hgrow; clear hown' hgrow)
            go_roundw
            case rel =>
              have hb := HB.out.stay HS.out X5.out
              have hal := HBW.out.trans ((Below.refl _ wr).alloc HBW.out.size (.cells #[.int .i64 (10 + (P : Int)), .int .i64 (κ : Int)] 33))
              refine ⟨q + 1, P + κ, L ++ [(P, κ)], by go_num, by omega, by simp; omega, ⟨lb5, p5, mr5, (S5.out.up hal).grown HO.out HG6.out (by decide) (by decide)⟩, (hb.2.1.up hal).grown HO.out HG6.out (by decide) (by decide), ?_, HB.out.tiles.snoc (by omega) hκ1, by omega, HB.out.ne, HB.out.hg, (hb.2.2.1.trans (hal.mono hb.2.2.1.size)).grown HG6.out HSW.out (fun k e => (HO.out.lt k e).1)⟩
              rw [RL_snoc]
              simpa using HO6.out
            case measure => simp [intOf]; omega
      · obtain ⟨E, hE, hT⟩ := tkA_not hfit
        rw [hT] at htk
        have HTK := Lib.hid htk
        have hE2 : (E != 0) = true := by simpa using hE
        clear htk hT
        go_wp2_with (go_at_call 10; refine HTK.out.mono ?_; rintro e w5 ⟨rfl, hx5, lb5, p5, mr5, hs5, _⟩; have X5 := Lib.hid hx5; have S5 := Lib.hid hs5; clear hx5 hs5)
        go_roundw
        case rel =>
          have hb := HB.out.stay HS.out X5.out
          exact ⟨q + 1, P, L, by go_num, by omega, by omega, ⟨lb5, p5, mr5, S5.out⟩, hb.2.1, hb.1, HB.out.tiles, HB.out.le, HB.out.ne, HB.out.hg, hb.2.2.1⟩
        case measure => simp [intOf]; omega
    · have hqe : q = m := by omega
      have hr0 := Lib.hid (own_runs' HB.out.row rfl (fun r hr => (HB.out.tiles.each r hr).2.1))
      have hPN := HB.out.le
      go_wp2
      go_loopw [17, 86] (fun s i W => ∃ j : Nat, s = .int .i64 (sumJ L j : Nat) ∧ i = .int .i64 j ∧ j ≤ L.length ∧ Below wr.heap.size wr W) (fun _ i _ => L.length - (intOf i).toNat)
      case atStart => exact ⟨0, rfl, rfl, by omega, Below.refl _ _⟩
      case round =>
        obtain ⟨j, rfl, rfl, hj, hbw⟩ := hrel
        have HBW := Lib.hid hbw
        clear hbw
        by_cases hjl : j < L.length
        · obtain ⟨lg, lo, rfl, hlg, hcl⟩ := hr0.out.2.2 (by omega)
          have hc2 := hcl j (by rw [List.length_map]; exact hjl)
          rw [List.getElem_map] at hc2
          have hsj := Lib.hid (sumJ_succ L j hjl)
          have hsl := sumJ_le HB.out.tiles (j + 1)
          rw [sumJ_succ L j hjl] at hsl
          generalize L[j] = r at *
          have ca := (HBW.out.cell hlg).trans hc2.1
          have cb := (HBW.out.cell hlg).trans hc2.2
          unfold toI at ca cb
          simp only at ca cb
          have hw1 : IntKind.i64.wrap ((sumJ L j : Nat) + (r.2 : Int)) = (sumJ L j : Nat) + (r.2 : Int) := IntWalk.i64_in _ (by omega)
          clear hcl hc2
          go_wp2
          go_roundw
          case rel => exact ⟨j + 1, by rw [hsj.out]; go_num, by go_num, by omega, HBW.out.trans ((Below.refl _ _).alloc HBW.out.size _)⟩
          case measure => simp [intOf]; omega
        · have hje : j = L.length := by omega
          have hsum := sumJ_all HB.out.tiles
          rw [← hje] at hsum
          rw [hsum]
          have HBK := Lib.hid (HB.out.up HBW.out)
          obtain ⟨R, hR⟩ : ∃ R : Nat, R = N - P := ⟨_, rfl⟩
          have hwR : IntKind.i64.wrap ((N : Int) - (P : Int)) = (R : Int) := by rw [IntWalk.i64_in] <;> omega
          have HTF := Lib.hid (told_tf P (N - P))
          rw [← hR] at HTF
          obtain ⟨lb6, p6, mr6, hs6⟩ := HBK.out.s
          have HGT := Lib.hid (fun (M : List (Nat × Nat)) (hM : M.Perm L) => give_tiles (HB.out.tiles.perm hM) hPN (by omega))
          rw [← hR] at hs6
          simp only [← hR] at HGT
          have HS6 := Lib.hid hs6
          have HRA := Lib.hid (own_runs' HBK.out.row rfl (fun r hr => (HB.out.tiles.each r hr).2.1))
          have HC6 := Lib.hid HBK.out.c
          have HF0 := Lib.hid (told_tf 0 N)
          have hggc : Hid (∀ (W W' : World), (∃ lb p mr f, Spc W g lb 10 p mr f) → Ex g W W' → Spc W gc lbc 10 pc mrc (tf 0 N) → Spc W' gc lbc 10 pc mrc (tf 0 N)) := Lib.hid (fun W W' ⟨_, _, _, _, h1⟩ h2 h3 => h3.ex h2 h1.blk HBK.out.ne)
          clear hs6 hsum hR
          by_cases hL0 : L.length = 0
          · have HGE := Lib.hid (show truns 10 true [] (tf P R) = (0, tf 0 N) by
              have h1 : L = [] := List.eq_nil_of_length_eq_zero hL0
              have h2 := HGT.out L (List.Perm.refl _)
              rw [h1] at h2
              exact h2)
            go_wp2_with (first
              | (go_at_call 9; refine (free_walk w9 g lb9 10 p9 mr9 (tf 0 N) S9.out).mono ?_; rintro e w10 ⟨he, hb10⟩; rw [HF0.out] at he; subst he; have HB10 := Lib.hid hb10; clear hb10)
              | (go_at_call 9; refine (free_walk w7 gc lbc 10 pc mrc (tf 0 N) (HC6.out.up HB7.out)).mono ?_; rintro e w8 ⟨he, hb8⟩; rw [HF0.out] at he; subst he; have HB8 := Lib.hid hb8; clear hb8)
              | (go_at_call 9; refine (free_walk _ g lb6 10 p6 mr6 (tf P R) HS6.out).mono ?_; rintro e w7 ⟨he, hb7⟩; rw [HTF.out] at he; subst he; have HB7 := Lib.hid hb7; clear hb7)
              | (go_at_call 11; refine (give_walk w8 g lb6 10 p6 mr6 (tf P R) A1 0 cap1 [] (by omega) ((HS6.out.up HB7.out).up HB8.out) ⟨rfl, by simp, fun h => absurd h (by omega)⟩).mono ?_; rintro e w9 hp9; obtain ⟨rfl, hx9, lb9, p9, mr9, hs9⟩ := hp9.ok HGE.out; have X9 := Lib.hid hx9; have S9 := Lib.hid hs9; clear hp9 hx9 hs9))
            go_ret
            have hb8 : Below w.heap.size w w8 := (HBK.out.bel.trans (HB7.out.mono HBK.out.bel.size)).trans (HB8.out.mono (Nat.le_trans HBK.out.bel.size HB7.out.size))
            have hb9 : Below w.heap.size w w9 := Ex.below hb8 X9.out HBK.out.hg hb8.size
            exact ⟨rfl, hb9.trans (HB10.out.mono hb9.size)⟩
          · have hL1 : 0 < L.length := by omega
            obtain ⟨lg, cur, rfl, hlg, hblk, hcur⟩ := own_blk HBK.out.row rfl hL1
            obtain ⟨i, hii⟩ : ∃ i : Nat, i = fi % L.length := ⟨_, rfl⟩
            have hiL : i < L.length := by rw [hii]; exact Nat.mod_lt _ hL1
            have hlr : (fi : Int).tmod (L.length : Int) = (i : Int) := by rw [Int.tmod_eq_emod_of_nonneg (by omega), hii]; simp
            have hlz : ((L.length : Int) == 0) = false := by rw [beq_eq_false_iff_ne]; omega
            obtain ⟨M, r0, ri, hp, hri, hre, ⟨g0, g1, g2, g3⟩, hsw⟩ := swap_pack (lg := lg) HB.out.tiles hL1 hiL hcur
            have HGE := Lib.hid (HGT.out _ hp)
            have HGB := Lib.hid (give_there (N := N) (by omega) hre.1 (by omega : ri.1 + ri.2 ≤ N))
            have HSW := Lib.hid hsw
            have HGG := Lib.hid (And.intro g0 (And.intro g1 (And.intro g2 g3)))
            have HBL := Lib.hid hblk
            have HRI := Lib.hid hri
            clear g0 g1 g2 g3 hcur hblk hp hii hsw hri
            have hi0 : (0 : Int) ≤ (i : Int) := by omega
            have hi1 : (i : Int) < (L.length : Int) := by omega
            have hl1 : (0 : Int) < (L.length : Int) := by omega
            by_cases hz : i = 0
            · subst hz
              obtain rfl := HRI.out rfl
              go_wp2_with (first
                | (go_at_call 9; refine (free_walk w7 gc lbc 10 pc mrc (tf 0 N) (HC6.out.up HB7.out)).mono ?_; rintro e w8 ⟨he, hb8⟩; rw [HF0.out] at he; subst he; have HB8 := Lib.hid hb8; clear hb8)
                | (go_at_call 9; refine (free_walk _ g lb6 10 p6 mr6 (tf P R) HS6.out).mono ?_; rintro e w7 ⟨he, hb7⟩; rw [HTF.out] at he; subst he; have HB7 := Lib.hid hb7; clear hb7))
              have hB8 : Blk w8 lg 33 cur := (HBL.out.kept HB7.out HBL.out.lt).kept HB8.out (by have := HB7.out.size; have := HBL.out.lt; omega)
              have k0 : w8.cell? ⟨lg, 0, none⟩ = some (.int .i64 (10 + (r0.1 : Int))) := by rw [hB8.cell]; exact HGG.out.1
              have k1 : w8.cell? ⟨lg, 1, none⟩ = some (.int .i64 (r0.2 : Int)) := by rw [hB8.cell]; exact HGG.out.2.1
              have k2 : w8.cell? ⟨lg, 0 * 2, none⟩ = some (.int .i64 (10 + (r0.1 : Int))) := by rw [hB8.cell]; exact HGG.out.2.2.1
              have k3 : w8.cell? ⟨lg, 0 * 2 + 1, none⟩ = some (.int .i64 (r0.2 : Int)) := by rw [hB8.cell]; exact HGG.out.2.2.2
              have f0 := hB8.thaw 0
              have f1 := hB8.thaw 1
              have f2 := hB8.thaw (0 * 2)
              have f3 := hB8.thaw (0 * 2 + 1)
              have z0 : True := trivial
              have HB8B := Lib.hid hB8
              clear hB8
              go_region
              obtain ⟨W9, hW9⟩ : ∃ W9, ((((w8.setCell ⟨lg, 0, none⟩ (.int .i64 (10 + (r0.1 : Int)))).setCell ⟨lg, 1, none⟩ (.int .i64 (r0.2 : Int))).setCell ⟨lg, 0, none⟩ (.int .i64 (10 + (r0.1 : Int)))).setCell ⟨lg, 1, none⟩ (.int .i64 (r0.2 : Int))).drew = W9 := ⟨_, rfl⟩
              have hB9 : Blk W9 lg 33 (swapped cur 0 r0 r0) := by rw [← hW9]; exact ((((HB8B.out.put 0 _).put 1 _).put 0 _).put 1 _).drew
              have hX9 : Ex lg w8 W9 := by rw [← hW9]; exact ((((Ex.setCell _ _ _ _).trans (Ex.setCell _ _ _ _)).trans (Ex.setCell _ _ _ _)).trans (Ex.setCell _ _ _ _)).trans (Ex.drew _ _)
              have hs9 : Spc W9 g lb6 10 p6 mr6 (tf P R) := ((HS6.out.up HB7.out).up HB8.out).exRow hX9 HB8B.out
              obtain ⟨hra9, _, _⟩ := HSW.out W9 hB9
              have HSWR := Lib.hid hra9
              have HS9 := Lib.hid hs9
              have HB9 := Lib.hid hB9
              have HX9 := Lib.hid hX9
              rw [hW9]
              clear hra9 hs9 hB9 hX9 hW9 k0 k1 k2 k3 f0 f1 f2 f3
              go_wp2_with (first
                | (go_at_call 11; refine (give_walk (w11.alloc (.cells #[.int .i64 (10 + (r0.1 : Int)), .int .i64 (r0.2 : Int)] 33)) g lb10 10 p10 mr10 (tf 0 N) (some ⟨w11.heap.size, 0, none⟩) 1 1 [toI r0] (by omega) (S11.out.more _) RB.out).mono ?_; rintro e w12 hp12; obtain ⟨rfl, hx12⟩ := hp12.bad HGB.out; have X12 := Lib.hid hx12; clear hp12 hx12)
                | (go_at_call 9; refine (free_walk w10 g lb10 10 p10 mr10 (tf 0 N) S10.out).mono ?_; rintro e w11 ⟨he, hb11⟩; rw [HF0.out] at he; subst he; have HB11 := Lib.hid hb11; have S11 := Lib.hid (S10.out.up hb11); have B11 := Lib.hid (B10.out.kept hb11 B10.out.lt); have y0 := (HSW.out w11 B11.out).2.1; have y1 := (HSW.out w11 B11.out).2.2; have RB := Lib.hid (run_at w11 r0 (by omega)); clear hb11)
                | (go_at_call 11; refine (give_walk W9 g lb6 10 p6 mr6 (tf P R) (some ⟨lg, 0, none⟩) L.length cap1 (M.map toI) (by omega) HS9.out HSWR.out).mono ?_; rintro e w10 hp10; obtain ⟨rfl, hx10, lb10, p10, mr10, hs10⟩ := hp10.ok HGE.out; have X10 := Lib.hid hx10; have S10 := Lib.hid hs10; have B10 := Lib.hid (hx10.blk HB9.out (Blk.unlike HB9.out HS9.out.blk (by decide))); clear hp10 hx10 hs10))
              go_ret
              have hb8 : Below w.heap.size w w8 := (HBK.out.bel.trans (HB7.out.mono HBK.out.bel.size)).trans (HB8.out.mono (Nat.le_trans HBK.out.bel.size HB7.out.size))
              have hb9 : Below w.heap.size w W9 := Ex.below hb8 HX9.out hlg hb8.size
              have hb10 : Below w.heap.size w w10 := Ex.below hb9 X10.out HBK.out.hg hb9.size
              have hb11 : Below w.heap.size w w11 := hb10.trans (HB11.out.mono hb10.size)
              have hb12 : Below w.heap.size w w12 := Ex.below (hb11.alloc hb11.size _) X12.out HBK.out.hg (by have := hb11.size; simp; omega)
              exact ⟨rfl, hb12⟩
            · go_wp2_with (first
                | (go_at_call 9; refine (free_walk w7 gc lbc 10 pc mrc (tf 0 N) (HC6.out.up HB7.out)).mono ?_; rintro e w8 ⟨he, hb8⟩; rw [HF0.out] at he; subst he; have HB8 := Lib.hid hb8; clear hb8)
                | (go_at_call 9; refine (free_walk _ g lb6 10 p6 mr6 (tf P R) HS6.out).mono ?_; rintro e w7 ⟨he, hb7⟩; rw [HTF.out] at he; subst he; have HB7 := Lib.hid hb7; clear hb7))
              have hB8 : Blk w8 lg 33 cur := (HBL.out.kept HB7.out HBL.out.lt).kept HB8.out (by have := HB7.out.size; have := HBL.out.lt; omega)
              have k0 : w8.cell? ⟨lg, 0, none⟩ = some (.int .i64 (10 + (r0.1 : Int))) := by rw [hB8.cell]; exact HGG.out.1
              have k1 : w8.cell? ⟨lg, 1, none⟩ = some (.int .i64 (r0.2 : Int)) := by rw [hB8.cell]; exact HGG.out.2.1
              have k2 : w8.cell? ⟨lg, i * 2, none⟩ = some (.int .i64 (10 + (ri.1 : Int))) := by rw [hB8.cell]; exact HGG.out.2.2.1
              have k3 : w8.cell? ⟨lg, i * 2 + 1, none⟩ = some (.int .i64 (ri.2 : Int)) := by rw [hB8.cell]; exact HGG.out.2.2.2
              have f0 := hB8.thaw 0
              have f1 := hB8.thaw 1
              have f2 := hB8.thaw (i * 2)
              have f3 := hB8.thaw (i * 2 + 1)
              have z1 : ¬ i * 2 = 0 := by omega
              have z2 : ¬ i * 2 = 1 := by omega
              have z3 : ¬ i * 2 + 1 = 1 := by omega
              have z4 : ¬ 0 = i * 2 := by omega
              have z5 : ¬ 1 = i * 2 := by omega
              have HB8B := Lib.hid hB8
              clear hB8
              go_region
              obtain ⟨W9, hW9⟩ : ∃ W9, ((((w8.setCell ⟨lg, 0, none⟩ (.int .i64 (10 + (ri.1 : Int)))).setCell ⟨lg, 1, none⟩ (.int .i64 (ri.2 : Int))).setCell ⟨lg, i * 2, none⟩ (.int .i64 (10 + (r0.1 : Int)))).setCell ⟨lg, i * 2 + 1, none⟩ (.int .i64 (r0.2 : Int))).drew = W9 := ⟨_, rfl⟩
              have hB9 : Blk W9 lg 33 (swapped cur i r0 ri) := by rw [← hW9]; exact ((((HB8B.out.put 0 _).put 1 _).put (i * 2) _).put (i * 2 + 1) _).drew
              have hX9 : Ex lg w8 W9 := by rw [← hW9]; exact ((((Ex.setCell _ _ _ _).trans (Ex.setCell _ _ _ _)).trans (Ex.setCell _ _ _ _)).trans (Ex.setCell _ _ _ _)).trans (Ex.drew _ _)
              have hs9 : Spc W9 g lb6 10 p6 mr6 (tf P R) := ((HS6.out.up HB7.out).up HB8.out).exRow hX9 HB8B.out
              obtain ⟨hra9, _, _⟩ := HSW.out W9 hB9
              have HSWR := Lib.hid hra9
              have HS9 := Lib.hid hs9
              have HB9 := Lib.hid hB9
              have HX9 := Lib.hid hX9
              rw [hW9]
              clear hra9 hs9 hB9 hX9 hW9 k0 k1 k2 k3 f0 f1 f2 f3
              go_wp2_with (first
                | (go_at_call 11; refine (give_walk (w11.alloc (.cells #[.int .i64 (10 + (ri.1 : Int)), .int .i64 (ri.2 : Int)] 33)) g lb10 10 p10 mr10 (tf 0 N) (some ⟨w11.heap.size, 0, none⟩) 1 1 [toI ri] (by omega) (S11.out.more _) RB.out).mono ?_; rintro e w12 hp12; obtain ⟨rfl, hx12⟩ := hp12.bad HGB.out; have X12 := Lib.hid hx12; clear hp12 hx12)
                | (go_at_call 9; refine (free_walk w10 g lb10 10 p10 mr10 (tf 0 N) S10.out).mono ?_; rintro e w11 ⟨he, hb11⟩; rw [HF0.out] at he; subst he; have HB11 := Lib.hid hb11; have S11 := Lib.hid (S10.out.up hb11); have B11 := Lib.hid (B10.out.kept hb11 B10.out.lt); have y0 := (HSW.out w11 B11.out).2.1; have y1 := (HSW.out w11 B11.out).2.2; have RB := Lib.hid (run_at w11 ri (by omega)); clear hb11)
                | (go_at_call 11; refine (give_walk W9 g lb6 10 p6 mr6 (tf P R) (some ⟨lg, 0, none⟩) L.length cap1 (M.map toI) (by omega) HS9.out HSWR.out).mono ?_; rintro e w10 hp10; obtain ⟨rfl, hx10, lb10, p10, mr10, hs10⟩ := hp10.ok HGE.out; have X10 := Lib.hid hx10; have S10 := Lib.hid hs10; have B10 := Lib.hid (hx10.blk HB9.out (Blk.unlike HB9.out HS9.out.blk (by decide))); clear hp10 hx10 hs10))
              go_ret
              have hb8 : Below w.heap.size w w8 := (HBK.out.bel.trans (HB7.out.mono HBK.out.bel.size)).trans (HB8.out.mono (Nat.le_trans HBK.out.bel.size HB7.out.size))
              have hb9 : Below w.heap.size w W9 := Ex.below hb8 HX9.out hlg hb8.size
              have hb10 : Below w.heap.size w w10 := Ex.below hb9 X10.out HBK.out.hg hb9.size
              have hb11 : Below w.heap.size w w11 := hb10.trans (HB11.out.mono hb10.size)
              have hb12 : Below w.heap.size w w12 := Ex.below (hb11.alloc hb11.size _) X12.out HBK.out.hg (by have := hb11.size; simp; omega)
              exact ⟨rfl, hb12⟩
end Go.Proofs.Ytoeniealmcihmaa
