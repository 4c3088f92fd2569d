/- The document's Check of a map. -/
import Derived.Test.YtcinbmekjlmdpaaGreatY0o
import Derived.Test.YtcinbmekjlmdpaaGreatY0q
import Derived.Test.YtcinbmekjlmdpaaGreatY0n
import Derived.Test.YtcinbmekjlmdpaaGreatY08
import Derived.Test.YtcinbmekjlmdpaaGreatY0h
import Derived.Test.YtcinbmekjlmdpaaGreatRows
import Derived.ProofKit
import Derived.OpenShut
import Derived.Carry
import Derived.SizedLaws
import Derived.Lib.SmallJoins
import Derived.Deep.Slices
import Derived.Deep.Fields

/-! The document's Check of a map. -/
namespace Go.Proofs.YtcinbmekjlmdpaaGreat
open Go.RowKit

attribute [local irreducible] V
attribute [local irreducible] wpList in
set_option maxRecDepth 100000 in
set_option maxHeartbeats 4000000 in
/-- The document's Check. -/
theorem rcheck10_walk (w : World) (v : Value) (g : Gr) (rots : List (List UInt32)) (h : RM w v g rots) (hl1000 : rots.length ≤ 1000) :
    Calls Tryz.prog 10 #[v] w fun e w' => e = .returned (.int .i64 (rck g rots)) ∧ Below w.heap.size w w' := by
  obtain ⟨A, c, B, dd, C, ce, rfl, hg, hr⟩ := h
  have HG := Lib.hid hg
  have HR := Lib.hid hr
  have hrv : Rd w A g.vs := by
    obtain ⟨_, _, _, _, q, _, _, h1, _⟩ := hg
    simp only [Value.agg.injEq, Array.mk.injEq, List.cons.injEq, Value.slice.injEq] at q
    rw [q.1.1]; exact h1
  have HV := Lib.hid hrv
  have hnv := hrv.len
  have HB : Hid (Below w.heap.size w (w.alloc (.cells #[.slice A g.vs.length c, .slice B g.es.length dd, .slice C rots.length ce] 28))) := (Below.refl _ w).alloc (Nat.le_refl _) _
  have HBK : Hid (Blk (w.alloc (.cells #[.slice A g.vs.length c, .slice B g.es.length dd, .slice C rots.length ce] 28)) w.heap.size 28 #[.slice A g.vs.length c, .slice B g.es.length dd, .slice C rots.length ce]) := Blk.fresh _ _ _
  have HC := Lib.hid (fun W hW => rcheck_walk W (.agg #[.slice A g.vs.length c, .slice B g.es.length dd]) g hW)
  clear hg hr hrv
  by_cases hc : chk g = 0
  · have HM := Lib.hid (May.of hc)
    have hne : g.es.length ≤ 160 := HM.out.ne
    rw [hc] at HC
    have HCK := Lib.hid hc
    by_cases hll : rots.length = g.vs.length
    · have HLL := Lib.hid hll
      have t0 : ((rots.length : Int) != (g.vs.length : Int)) = false := by rw [hll]; simp
      clear hll hc
      go_enter Tryz.func10, Tryz.ntmps10
      go_wp2_with (go_at_call 42; refine (HC.out _ (HG.out.kept HB.out)).mono ?_; rintro e w1 ⟨rfl, hb⟩; have HB1 : Hid (Below w.heap.size w w1) := HB.out.trans (Below.mono hb HB.out.size); have HK1 := Lib.hid (HBK.out.kept hb HBK.out.lt); have k0 : w1.cell? ⟨w.heap.size, 0, none⟩ = some (.slice A g.vs.length c) := HK1.out.cell 0; have k2 : w1.cell? ⟨w.heap.size, 2, none⟩ = some (.slice C rots.length ce) := HK1.out.cell 2; clear hb)
      clear k0 k2
      go_loopw [28] (fun i wr => ∃ k : Nat, k ≤ g.vs.length ∧ i = .int .i64 k ∧ (∀ j, j < k → okT g rots j = true) ∧ Below w1.heap.size w1 wr) (fun i _ => g.vs.length - (intOf i).toNat)
      case atStart => exact ⟨0, Nat.zero_le _, rfl, fun j hj => absurd hj (Nat.not_lt_zero _), Below.refl _ _⟩
      case round =>
        obtain ⟨k, hk, rfl, hok, hb⟩ := hrel
        have HOK := Lib.hid hok
        have HBr := Lib.hid hb
        have HBW : Hid (Below w.heap.size w wr) := HB1.out.trans (Below.mono hb HB1.out.size)
        have HKr := Lib.hid (HK1.out.kept hb HK1.out.lt)
        have HRr := Lib.hid (HR.out.kept HBW.out)
        clear hok hb
        by_cases hlt : k < g.vs.length
        · obtain ⟨b, o, rfl, hcc⟩ := (HV.out.kept HBW.out (Nat.le_refl _)).spot (by omega)
          have hcell := hcc k hlt
          rw [getD_at hlt] at hcell
          obtain ⟨_, _, q3, _, z3⟩ := HRr.out
          injection q3 with q3 q3a q3b
          subst q3 q3b
          have hkr : k < rots.length := by rw [HLL.out]; exact hlt
          obtain ⟨b3, o3, rfl, _, h3⟩ := z3 (by omega)
          obtain ⟨u5, hc5, hr5⟩ := h3 k hkr
          have HR5 := Lib.hid hr5
          obtain ⟨A5, c5, rfl, _, hr5b⟩ := hr5
          have hl5 := hr5b.len
          have k0 : wr.cell? ⟨w.heap.size, 0, none⟩ = some (.slice (some ⟨b, o, none⟩) g.vs.length c) := HKr.out.cell 0
          have k1 : wr.cell? ⟨w.heap.size, 1, none⟩ = some (.slice B g.es.length dd) := HKr.out.cell 1
          have k2 : wr.cell? ⟨w.heap.size, 2, none⟩ = some (.slice (some ⟨b3, o3, none⟩) rots.length ce) := HKr.out.cell 2
          have HE := Lib.hid (fun W hW => rends9_walk W (.agg #[.slice (some ⟨b, o, none⟩) g.vs.length c, .slice B g.es.length dd]) g (g.vs.getD k 0) hW (by omega))
          clear hcc z3 h3 hr5b
          have HO1 : Hid (¬ (rots.getD k []).length = (eds g.es (g.vs.getD k 0)).length → rck g rots = 22) := fun q => rck_turn HCK.out hlt (okT_len q)
          have HO2 : Hid (¬ rots.getD k [] = norm (rots.getD k []) → rck g rots = 22) := fun q => rck_turn HCK.out hlt (okT_norm q)
          have HO3 : Hid (∀ j, j < (eds g.es (g.vs.getD k 0)).length → ¬ (eds g.es (g.vs.getD k 0)).getD j 0 ∈ rots.getD k [] → rck g rots = 22) := fun j hj q => rck_turn HCK.out hlt (okT_mem hj q)
          have HO4 : Hid ((rots.getD k []).length = (eds g.es (g.vs.getD k 0)).length → rots.getD k [] = norm (rots.getD k []) → (∀ j, j < (eds g.es (g.vs.getD k 0)).length → (eds g.es (g.vs.getD k 0)).getD j 0 ∈ rots.getD k []) → okT g rots k = true) := okT_true
          generalize rots.getD k [] = row at *
          generalize g.vs.getD k 0 = x at *
          generalize eds g.es x = es at *
          by_cases h1 : row.length = es.length
          · have t1 : ((row.length : Int) != (es.length : Int)) = false := by rw [h1]; simp
            have H1 := Lib.hid h1
            clear h1
            by_cases h2 : row = norm row
            · have HN := Lib.hid (fun W hW => rnorm_rv W (.slice A5 row.length c5) row hW)
              rw [← h2] at HN
              have H2 := Lib.hid h2
              clear h2
              go_wp2_with (first
                | (go_at_call 43; refine (HE.out _ (HG.out.kept HBW.out)).mono ?_; rintro e w2 ⟨u, rfl, hu, hb2⟩; have HB2 := Lib.hid hb2; have HU2 := Lib.hid hu; have HR2 := Lib.hid (HR5.out.kept hb2); obtain ⟨A6, c6, rfl, _, _⟩ := hu; clear hb2)
                | (go_at_call 44; refine (HN.out _ HR2.out).mono ?_; rintro e w3 ⟨u3, rfl, hu3, hb3⟩; have HB3 := Lib.hid hb3; have HU3 := Lib.hid hu3; have HR3 := Lib.hid (HR2.out.kept hb3); have HU23 := Lib.hid (HU2.out.kept hb3); obtain ⟨A7, c7, rfl, _, _⟩ := hu3; clear hb3)
                | (go_at_call 17; refine (rsame_rv _ _ _ _ _ HR3.out HU3.out).mono ?_; rintro e w4 ⟨rfl, hb4⟩; rw [decide_eq_true rfl]; have HB4 := Lib.hid hb4; have HR4 := Lib.hid (HR3.out.kept hb4); have HU4 := Lib.hid (HU23.out.kept hb4); clear hb4))
              have hd5 : Rd w4 A5 row := by
                obtain ⟨_, _, q, _, hd⟩ := HR4.out
                injection q with q
                subst q
                exact hd
              have hd6 : Rd w4 A6 es := by
                obtain ⟨_, _, q, _, hd⟩ := HU4.out
                injection q with q
                subst q
                exact hd
              have HF := Lib.hid (fun d => find_walk w4 A5 c5 row d hd5)
              have HD6 := Lib.hid hd6
              have hl6 := hd6.len
              clear hd5 hd6
              go_loop [56] (fun i => ∃ m : Nat, m ≤ es.length ∧ i = .int .i64 m ∧ ∀ j, j < m → es.getD j 0 ∈ row) (fun i => es.length - (intOf i).toNat)
              case atStart => exact ⟨0, Nat.zero_le _, rfl, fun j hj => absurd hj (Nat.not_lt_zero _)⟩
              case round =>
                obtain ⟨m, hm, rfl, hin⟩ := hrel
                have HIN := Lib.hid hin
                clear hin
                by_cases hlt6 : m < es.length
                · obtain ⟨b6, o6, rfl, hc6⟩ := HD6.out.spot (by omega)
                  have hcell6 := hc6 m hlt6
                  rw [getD_at hlt6] at hcell6
                  clear hc6
                  by_cases hmem : es.getD m 0 ∈ row
                  · have hf := HF.out (es.getD m 0)
                    rw [ix_ge0 hmem] at hf
                    have HFD := Lib.hid hf
                    have HIN2 : Hid (∀ j, j < m + 1 → es.getD j 0 ∈ row) := fun j hj => by
                      rcases Nat.lt_or_ge j m with q | q
                      · exact HIN.out j q
                      · obtain rfl : j = m := by omega
                        exact hmem
                    have hp : decide (((fst row (es.getD m 0) : Nat) : Int) < 0) = false := decide_eq_false (by omega)
                    have hp2 : decide (fst row (es.getD m 0) < 0) = false := decide_eq_false (by omega)
                    clear hf hmem
                    generalize es.getD m 0 = d at *
                    generalize fst row d = p at *
                    go_wp2_with (go_at_call 45; refine HFD.out.mono ?_; rintro e w' ⟨rfl, rfl⟩)
                    go_round
                    case rel => exact ⟨m + 1, by omega, by go_num, HIN2.out⟩
                    case measure => simp [intOf]; omega
                  · have hf := HF.out (es.getD m 0)
                    rw [ix_out hmem] at hf
                    have HFD := Lib.hid hf
                    have HT := Lib.hid (HO3.out m hlt6 hmem)
                    clear hf hmem
                    generalize es.getD m 0 = d at *
                    go_wp2_with (go_at_call 45; refine HFD.out.mono ?_; rintro e w' ⟨rfl, rfl⟩)
                    go_ret
                    exact ⟨by rw [HT.out]; rfl, ((HBW.out.trans (Below.mono HB2.out HBW.out.size)).trans (Below.mono HB3.out (Nat.le_trans HBW.out.size HB2.out.size))).trans (Below.mono HB4.out (Nat.le_trans (Nat.le_trans HBW.out.size HB2.out.size) HB3.out.size))⟩
                · obtain rfl : m = es.length := by omega
                  have HOK2 : Hid (∀ j, j < k + 1 → okT g rots j = true) := fun j hj => by
                    rcases Nat.lt_or_ge j k with q | q
                    · exact HOK.out j q
                    · obtain rfl : j = k := by omega
                      exact HO4.out H1.out H2.out HIN.out
                  go_wp2
                  go_roundw
                  case rel => exact ⟨k + 1, by omega, by go_num, HOK2.out, ((HBr.out.trans (Below.mono HB2.out HBr.out.size)).trans (Below.mono HB3.out (Nat.le_trans HBr.out.size HB2.out.size))).trans (Below.mono HB4.out (Nat.le_trans (Nat.le_trans HBr.out.size HB2.out.size) HB3.out.size))⟩
                  case measure => simp [intOf]; omega
            · have HN := Lib.hid (fun W hW => rnorm_rv W (.slice A5 row.length c5) row hW)
              have HT := Lib.hid (HO2.out h2)
              have H2 := Lib.hid (decide_eq_false h2)
              clear h2
              go_wp2_with (first
                | (go_at_call 43; refine (HE.out _ (HG.out.kept HBW.out)).mono ?_; rintro e w2 ⟨u, rfl, hu, hb2⟩; have HB2 := Lib.hid hb2; have HU2 := Lib.hid hu; have HR2 := Lib.hid (HR5.out.kept hb2); obtain ⟨A6, c6, rfl, _, _⟩ := hu; clear hb2)
                | (go_at_call 44; refine (HN.out _ HR2.out).mono ?_; rintro e w3 ⟨u3, rfl, hu3, hb3⟩; have HB3 := Lib.hid hb3; have HU3 := Lib.hid hu3; have HR3 := Lib.hid (HR2.out.kept hb3); obtain ⟨A7, c7, rfl, _, _⟩ := hu3; clear hb3)
                | (go_at_call 17; refine (rsame_rv _ _ _ _ _ HR3.out HU3.out).mono ?_; rintro e w4 ⟨rfl, hb4⟩; rw [H2.out]; have HB4 := Lib.hid hb4; clear hb4))
              go_ret
              exact ⟨by rw [HT.out]; rfl, ((HBW.out.trans (Below.mono HB2.out HBW.out.size)).trans (Below.mono HB3.out (Nat.le_trans HBW.out.size HB2.out.size))).trans (Below.mono HB4.out (Nat.le_trans (Nat.le_trans HBW.out.size HB2.out.size) HB3.out.size))⟩
          · have HT := Lib.hid (HO1.out h1)
            have t1 : ((row.length : Int) != (es.length : Int)) = true := by simp; omega
            clear h1
            go_wp2_with (first
                | (go_at_call 43; refine (HE.out _ (HG.out.kept HBW.out)).mono ?_; rintro e w2 ⟨u, rfl, hu, hb2⟩; have HB2 := Lib.hid hb2; have HU2 := Lib.hid hu; have HR2 := Lib.hid (HR5.out.kept hb2); obtain ⟨A6, c6, rfl, _, _⟩ := hu; clear hb2))
            go_ret
            exact ⟨by rw [HT.out]; rfl, HBW.out.trans (Below.mono HB2.out HBW.out.size)⟩
        · obtain rfl : k = g.vs.length := by omega
          have HT := Lib.hid (rck_ok HCK.out HLL.out HOK.out)
          go_wp2
          go_ret
          exact ⟨by rw [HT.out]; rfl, HBW.out⟩
    · have HT := Lib.hid (rck_len hc hll)
      have t0 : ((rots.length : Int) != (g.vs.length : Int)) = true := by simp; omega
      clear hll hc
      go_enter Tryz.func10, Tryz.ntmps10
      go_wp2_with (go_at_call 42; refine (HC.out _ (HG.out.kept HB.out)).mono ?_; rintro e w1 ⟨rfl, hb⟩; have HB1 : Hid (Below w.heap.size w w1) := HB.out.trans (Below.mono hb HB.out.size); have HK1 := Lib.hid (HBK.out.kept hb HBK.out.lt); have k0 : w1.cell? ⟨w.heap.size, 0, none⟩ = some (.slice A g.vs.length c) := HK1.out.cell 0; have k2 : w1.cell? ⟨w.heap.size, 2, none⟩ = some (.slice C rots.length ce) := HK1.out.cell 2; clear hb)
      go_ret
      exact ⟨by rw [HT.out]; rfl, HB1.out⟩
  · have HT := Lib.hid (rck_bad (rots := rots) hc)
    have t0 : (chk g != 0) = true := by simpa using hc
    clear hc
    generalize chk g = z at *
    go_enter Tryz.func10, Tryz.ntmps10
    go_wp2_with (go_at_call 42; refine (HC.out _ (HG.out.kept HB.out)).mono ?_; rintro e w1 ⟨rfl, hb⟩; have HB1 : Hid (Below w.heap.size w w1) := HB.out.trans (Below.mono hb HB.out.size); clear hb)
    go_ret
    exact ⟨by rw [HT.out]; rfl, HB1.out⟩
end Go.Proofs.YtcinbmekjlmdpaaGreat

/-! What a graph that is handed in holds. -/
namespace Go.Proofs.YtcinbmekjlmdpaaGreat
open Go.ChangeShapes Go.WideShapes Go.ChangeAt Go.RowKit Go.Deep Go.Joins

theorem own : ownKnob Tryz.prog.godebug = none := by kernel_rfl
theorem laidOut : laidOutB Tryz.prog = true := by kernel_rfl
theorem bounds_u32 {n : Int} (h : (Lit.int .u32 n).wf = true) : 0 ≤ n ∧ n ≤ 4294967295 := by
  simp [Lit.wf, IntKind.min, IntKind.max, IntKind.signed, IntKind.bits] at h
  omega
theorem to_u32 {n : Int} (h : 0 ≤ n ∧ n ≤ 4294967295) : ∃ b : UInt32, Value.int .u32 n = V b ∧ n = (b.toNat : Int) := ⟨UInt32.ofNat n.toNat, by
  have : (UInt32.ofNat n.toNat).toNat = n.toNat := by show n.toNat % 4294967296 = _; omega
  rw [V_def, this]
  constructor
  · congr 1; omega
  · omega⟩
theorem cells31 : Tryz.prog.cellsOf 34 = 1 := by kernel_rfl
theorem cells39 : Tryz.prog.cellsOf 67 = 3 := by kernel_rfl
section
variable {H : Type} {enc : TypeId × Value → H} {W : World} {base : Nat} {sp : Nat → Bool} {hd : Bool}
theorem open_row1 {fuel : Nat} {v : Value} {x : DataW H × List MemPlace} (h : DataW.trod enc Tryz.prog W base sp hd fuel 22 [v] = some x) :
    ∃ A n c, v = .slice A n c ∧ (n ≤ 1000000 → ∃ l : List UInt32, n = l.length ∧ n ≤ c ∧ Rd W A l) := by
  rcases Go.Deep.open_slice1 Tryz.underlying22 cells31 h with ⟨hcs, _⟩ | ⟨a, len, cap, m, k, Vf, D, Pl, hcs, _, hl, hx, hm, _, hel⟩
  · simp at hcs
    exact ⟨none, 0, 0, hcs, fun _ => ⟨[], rfl, Nat.le_refl _, Rd.nil _ _⟩⟩
  · simp at hcs
    refine ⟨some a, len, cap, hcs, fun hn => ?_⟩
    have hle : len ≤ m := by rw [hm]; split <;> omega
    have hone : ∀ i, i < len → ∃ x : UInt32, W.cell? (a.add i) = some (V x) := by
      intro i hi
      obtain ⟨h1, h2⟩ := hel i (by omega)
      obtain ⟨n0, e0, _, w0⟩ := DataW.trod_int Tryz.underlying34 h2
      have e1 : Vf i = .int .u32 n0 := by simpa using e0
      obtain ⟨x, hx, _⟩ := to_u32 (bounds_u32 w0)
      exact ⟨x, by rw [h1, e1, hx]⟩
    have hall : ∀ k, k ≤ len → ∃ l : List UInt32, l.length = k ∧ ∀ i (h : i < l.length), W.cell? (a.add i) = some (V l[i]) := by
      intro k
      induction k with
      | zero => exact fun _ => ⟨[], rfl, fun i h => by simp at h⟩
      | succ k ih =>
        intro hk
        obtain ⟨l, hl2, hi⟩ := ih (by omega)
        obtain ⟨x, hx⟩ := hone k (by omega)
        refine ⟨l ++ [x], by simp [hl2], fun i h => ?_⟩
        by_cases e : i < l.length
        · rw [List.getElem_append_left e]; exact hi i e
        · have hik : i = l.length := by simp at h; omega
          subst hik
          simp only [List.getElem_append_right (Nat.le_refl _), Nat.sub_self, List.getElem_cons_zero]
          rw [hl2]
          exact hx
    obtain ⟨l, hl2, hc⟩ := hall len (Nat.le_refl _)
    refine ⟨l, hl2.symm, hl, by omega, fun h0 => ?_⟩
    have h00 := hc 0 h0
    obtain ⟨b, off, spot⟩ := a
    have hspot : spot = none := by simpa [Addr.add] using World.cell?_spot h00
    subst hspot
    refine ⟨b, off, rfl, ?_, fun i hi => ?_⟩
    · have := World.block_lt_of_cell? W _ h00
      rw [addr_add] at this
      exact this
    · have h1 := hc i hi
      rw [addr_add] at h1
      exact h1
theorem open_w {fuel : Nat} {c0 : Value} {y : Option (DataW H × List MemPlace)} {t : TypeId} (ht : t = 34) (h : DataW.trod enc Tryz.prog W base sp hd fuel t [c0] = y) (hy : y.isSome = true) : ∃ b : UInt32, c0 = V b := by
  subst ht
  obtain ⟨x, rfl⟩ := Option.isSome_iff_exists.1 hy
  obtain ⟨n0, e0, _, w0⟩ := DataW.trod_int Tryz.underlying34 h
  obtain ⟨b, hb, _⟩ := to_u32 (bounds_u32 w0)
  exact ⟨b, by rw [← hb]; simpa using e0⟩
set_option maxRecDepth 100000 in
theorem open_eg {fuel : Nat} {cs : List Value} {x : DataW H × List MemPlace} (h : DataW.trod enc Tryz.prog W base sp hd fuel 67 cs = some x) (hl : cs.length = 3) : ∃ e : Eg, cs = [V e.id, V e.a, V e.b] := by
  obtain ⟨ys, n, _, _, _, hyl, hf⟩ := DataW.trod_struct Tryz.underlying67 h
  match cs, hl with
  | [c0, c1, c2], _ =>
    have k0 : DataW.trod enc Tryz.prog W base sp hd n 34 (List.take (Tryz.prog.cellsOf 34) (List.drop 0 [c0, c1, c2])) = ys[0]? := hf 0 _ rfl
    have k1 : DataW.trod enc Tryz.prog W base sp hd n 34 (List.take (Tryz.prog.cellsOf 34) (List.drop 1 [c0, c1, c2])) = ys[1]? := hf 1 _ rfl
    have k2 : DataW.trod enc Tryz.prog W base sp hd n 34 (List.take (Tryz.prog.cellsOf 34) (List.drop 2 [c0, c1, c2])) = ys[2]? := hf 2 _ rfl
    rw [cells31] at k0 k1 k2
    have hs : ys.length = 3 := hyl
    obtain ⟨b0, rfl⟩ := open_w rfl k0 (by rw [List.getElem?_eq_getElem (by omega)]; rfl)
    obtain ⟨b1, rfl⟩ := open_w rfl k1 (by rw [List.getElem?_eq_getElem (by omega)]; rfl)
    obtain ⟨b2, rfl⟩ := open_w rfl k2 (by rw [List.getElem?_eq_getElem (by omega)]; rfl)
    exact ⟨⟨b0, b1, b2⟩, rfl⟩
theorem open_rowe {fuel : Nat} {v : Value} {x : DataW H × List MemPlace} (h : DataW.trod enc Tryz.prog W base sp hd fuel 23 [v] = some x) :
    ∃ A n c, v = .slice A n c ∧ (n ≤ 1000000 → ∃ l : List Eg, n = l.length ∧ n ≤ c ∧ RdE W A l) := by
  rcases Go.Deep.open_slice Tryz.underlying23 h with ⟨hcs, _⟩ | ⟨a, len, cap, m, k, D, Pl, hcs, _, hl, _, hm, _, hel⟩
  · simp at hcs
    exact ⟨none, 0, 0, hcs, fun _ => ⟨[], rfl, Nat.le_refl _, RdE.nil _ _⟩⟩
  · simp at hcs
    refine ⟨some a, len, cap, hcs, fun hn => ?_⟩
    have hle : len ≤ m := by rw [hm]; split <;> omega
    rw [cells39] at hel
    have hone : ∀ i, i < len → ∃ e : Eg, ∀ j, j < 3 → W.cell? ((a.add (i * 3)).add j) = [V e.id, V e.a, V e.b][j]? := by
      intro i hi
      obtain ⟨cs', h1, h2⟩ := hel i (by omega)
      obtain ⟨_, h3, h4⟩ := World.cells?_some h1
      obtain ⟨e, rfl⟩ := open_eg h2 h3
      exact ⟨e, h4⟩
    have hall : ∀ k, k ≤ len → ∃ l : List Eg, l.length = k ∧ ∀ i, i < l.length → ∀ j, j < 3 → W.cell? ((a.add (i * 3)).add j) = [V (l.getD i e0).id, V (l.getD i e0).a, V (l.getD i e0).b][j]? := by
      intro k
      induction k with
      | zero => exact fun _ => ⟨[], rfl, fun i h => by simp at h⟩
      | succ k ih =>
        intro hk
        obtain ⟨l, hl2, hi⟩ := ih (by omega)
        obtain ⟨x, hx⟩ := hone k (by omega)
        refine ⟨l ++ [x], by simp [hl2], fun i h => ?_⟩
        rw [getD_app]
        by_cases e : i = l.length
        · rw [if_pos e, e, hl2]; exact hx
        · rw [if_neg e]
          exact hi i (by simp at h; omega)
    obtain ⟨l, hl2, hc⟩ := hall len (Nat.le_refl _)
    refine ⟨l, hl2.symm, hl, by omega, fun h0 => ?_⟩
    have h00 := hc 0 h0 0 (by decide)
    obtain ⟨b, off, spot⟩ := a
    have hspot : spot = none := by simpa [Addr.add] using World.cell?_spot h00
    subst hspot
    refine ⟨b, off, rfl, ?_, fun i hi => ?_⟩
    · have := World.block_lt_of_cell? W _ h00
      rw [addr_add, addr_add] at this
      exact this
    · have h1 := hc i hi 0 (by decide)
      have h2 := hc i hi 1 (by decide)
      have h3 := hc i hi 2 (by decide)
      rw [addr_add, addr_add] at h1 h2 h3
      exact ⟨h1, h2, h3⟩
set_option maxRecDepth 100000 in
theorem open_graph {r : Reach} {b0 : Nat} {v : Value} {d : DataW H} {p : List MemPlace} (hv : Value.okWide Tryz.prog W r b0 25 v) (h : DataW.Trod enc Tryz.prog W base sp hd 25 v d p) :
    ∃ A n c B m e, v = .agg #[.slice A n c, .slice B m e] ∧ (n ≤ 1000000 → m ≤ 1000000 → ∃ g : Gr, n = g.vs.length ∧ m = g.es.length ∧ RG W v g) := by
  obtain ⟨v0, v1, y0, y1, n, rfl, _, _, h0, h1⟩ := open_agg2 Tryz.underlying25 (by kernel_rfl) (by kernel_rfl) hv h
  obtain ⟨A, n, c, rfl, hr⟩ := open_row1 h0
  obtain ⟨B, m, e, rfl, hre⟩ := open_rowe h1
  refine ⟨A, n, c, B, m, e, rfl, fun hn hm => ?_⟩
  obtain ⟨l, rfl, hc, hr⟩ := hr hn
  obtain ⟨le, rfl, hce, hre⟩ := hre hm
  exact ⟨⟨l, le⟩, rfl, rfl, A, c, B, e, rfl, hc, hce, hr, hre⟩
end
end Go.Proofs.YtcinbmekjlmdpaaGreat
