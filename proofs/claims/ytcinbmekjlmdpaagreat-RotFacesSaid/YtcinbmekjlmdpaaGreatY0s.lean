/- What a map that is handed in holds: its turns may be of any length. -/
import Derived.Test.YtcinbmekjlmdpaaGreatY0r
import Derived.Test.YtcinbmekjlmdpaaGreatY0m

/-! What a map that is handed in holds: its turns may be of any length. -/
namespace Go.Proofs.YtcinbmekjlmdpaaGreat
open Go.ChangeShapes Go.WideShapes Go.ChangeAt Go.RowKit Go.Deep Go.Joins

/-- A row of so many; it reads so where it is not too long. -/
def RX (w : World) (v : Value) (l : List UInt32) : Prop := ∃ A c, v = .slice A l.length c ∧ (l.length ≤ 1000000 → RV w v l)
theorem RX.kept {w w' : World} {v : Value} {l : List UInt32} (h : RX w v l) (hb : Below w.heap.size w w') : RX w' v l := by
  obtain ⟨A, c, h1, h2⟩ := h
  exact ⟨A, c, h1, fun hl => (h2 hl).kept hb⟩
def RRx (w : World) (v : Value) (ls : List (List UInt32)) : Prop := ∃ A c, v = .slice A ls.length c ∧ ls.length ≤ c ∧ (0 < ls.length → ∃ b o, A = some ⟨b, o, none⟩ ∧ b < w.heap.size ∧ ∀ i, i < ls.length → ∃ u, w.cell? ⟨b, o + i, none⟩ = some u ∧ RX w u (ls.getD i []))
theorem RRx.kept {w w' : World} {v : Value} {ls : List (List UInt32)} (h : RRx w v ls) (hb : Below w.heap.size w w') : RRx w' v ls := by
  obtain ⟨A, c, h1, h2, h3⟩ := h
  refine ⟨A, c, h1, h2, fun h0 => ?_⟩
  obtain ⟨b, o, h4, h5, h6⟩ := h3 h0
  refine ⟨b, o, h4, Nat.lt_of_lt_of_le h5 hb.size, fun i hi => ?_⟩
  obtain ⟨u, h7, h8⟩ := h6 i hi
  exact ⟨u, (hb.cell h5).trans h7, h8.kept hb⟩
theorem RRx.rr {w : World} {v : Value} {ls : List (List UInt32)} (h : RRx w v ls) (hl : ∀ i, i < ls.length → (ls.getD i []).length ≤ 1000000) : RRv w v ls := by
  obtain ⟨A, c, h1, h2, h3⟩ := h
  refine ⟨A, c, h1, h2, fun h0 => ?_⟩
  obtain ⟨b, o, h4, h5, h6⟩ := h3 h0
  refine ⟨b, o, h4, h5, fun i hi => ?_⟩
  obtain ⟨u, h7, _, _, _, h9⟩ := h6 i hi
  exact ⟨u, h7, h9 (hl i hi)⟩
def RMx (w : World) (v : Value) (g : Gr) (rots : List (List UInt32)) : Prop :=
  ∃ A c B d C e, v = .agg #[.slice A g.vs.length c, .slice B g.es.length d, .slice C rots.length e] ∧ RG w (.agg #[.slice A g.vs.length c, .slice B g.es.length d]) g ∧ RRx w (.slice C rots.length e) rots
theorem RMx.kept {w w' : World} {v : Value} {g : Gr} {rots : List (List UInt32)} (h : RMx w v g rots) (hb : Below w.heap.size w w') : RMx w' v g rots := by
  obtain ⟨A, c, B, d, C, e, h1, h2, h3⟩ := h
  exact ⟨A, c, B, d, C, e, h1, h2.kept hb, h3.kept hb⟩
theorem RMx.rm {w : World} {v : Value} {g : Gr} {rots : List (List UInt32)} (h : RMx w v g rots) (hl : ∀ i, i < rots.length → (rots.getD i []).length ≤ 1000000) : RM w v g rots := by
  obtain ⟨A, c, B, d, C, e, h1, h2, h3⟩ := h
  exact ⟨A, c, B, d, C, e, h1, h2, h3.rr hl⟩
/-- The turns of a map that may be are short. -/
theorem MapOk.short {g : Gr} {rots : List (List UInt32)} (h : MapOk g rots) {i : Nat} (hi : i < rots.length) : (rots.getD i []).length ≤ 320 := by
  rw [(h.turn i (by rw [← h.len]; exact hi)).1]
  have h1 := eds_len g.es (g.vs.getD i 0)
  have h2 := nbr_len g.es (g.vs.getD i 0)
  have h3 := h.may.ne
  omega
section
variable {H : Type} {enc : TypeId × Value → H} {W : World} {base : Nat} {sp : Nat → Bool} {hd : Bool}
theorem cells22 : Tryz.prog.cellsOf 22 = 1 := by kernel_rfl
theorem open_rowx {fuel : Nat} {v : Value} {x : DataW H × List MemPlace} (h : DataW.trod enc Tryz.prog W base sp hd fuel 22 [v] = some x) : ∃ l, RX W v l := by
  obtain ⟨A, n, c, rfl, hr⟩ := open_row1 h
  by_cases hn : n ≤ 1000000
  · obtain ⟨l, rfl, hc, hr⟩ := hr hn
    exact ⟨l, A, c, rfl, fun _ => ⟨A, c, rfl, hc, hr⟩⟩
  · exact ⟨List.replicate n 0, A, c, by rw [List.length_replicate], fun hl => absurd (by simpa using hl) hn⟩
theorem open_rows {fuel : Nat} {v : Value} {x : DataW H × List MemPlace} (h : DataW.trod enc Tryz.prog W base sp hd fuel 26 [v] = some x) :
    ∃ A n c, v = .slice A n c ∧ ∃ ls : List (List UInt32), n = ls.length ∧ RRx W v ls := by
  rcases Go.Deep.open_slice1 Tryz.underlying26 cells22 h with ⟨hcs, _⟩ | ⟨a, len, cap, m, k, Vf, D, Pl, hcs, _, hl, hx, hm, _, hel⟩
  · simp at hcs
    exact ⟨none, 0, 0, hcs, [], rfl, none, 0, hcs, Nat.le_refl _, fun h => absurd h (by simp)⟩
  · simp at hcs
    have hle : len ≤ m := by rw [hm]; split <;> omega
    have hone : ∀ i, i < len → W.cell? (a.add i) = some (Vf i) ∧ ∃ l, RX W (Vf i) l := by
      intro i hi
      obtain ⟨h1, h2⟩ := hel i (by omega)
      exact ⟨h1, open_rowx h2⟩
    have hall : ∀ k, k ≤ len → ∃ ls : List (List UInt32), ls.length = k ∧ ∀ i, i < ls.length → RX W (Vf i) (ls.getD i []) := by
      intro k
      induction k with
      | zero => exact fun _ => ⟨[], rfl, fun i h => by simp at h⟩
      | succ k ih =>
        intro hk
        obtain ⟨ls, hl2, hi⟩ := ih (by omega)
        obtain ⟨_, x, hx⟩ := hone k (by omega)
        refine ⟨ls ++ [x], by simp [hl2], fun i h => ?_⟩
        by_cases e : i < ls.length
        · have : (ls ++ [x]).getD i [] = ls.getD i [] := by
            rw [List.getD_eq_getElem?_getD, List.getElem?_append_left e, ← List.getD_eq_getElem?_getD]
          rw [this]; exact hi i e
        · have hik : i = ls.length := by simp at h; omega
          have : (ls ++ [x]).getD i [] = x := by
            rw [List.getD_eq_getElem?_getD, hik, List.getElem?_append_right (Nat.le_refl _), Nat.sub_self]; rfl
          rw [this, hik, hl2]; exact hx
    obtain ⟨ls, hl2, hr⟩ := hall len (Nat.le_refl _)
    refine ⟨some a, len, cap, hcs, ls, hl2.symm, some a, cap, by rw [hcs, hl2], by omega, fun h0 => ?_⟩
    have h00 := (hone 0 (by omega)).1
    obtain ⟨b, off, spot⟩ := a
    have hspot : spot = none := by simpa [Addr.add] using World.cell?_spot h00
    subst hspot
    refine ⟨b, off, rfl, ?_, fun i hi => ?_⟩
    · have := World.block_lt_of_cell? W _ h00
      rw [addr_add] at this
      exact this
    · have h1 := (hone i (by omega)).1
      rw [addr_add] at h1
      exact ⟨Vf i, h1, hr i hi⟩
set_option maxRecDepth 100000 in
theorem open_map {r : Reach} {b0 : Nat} {v : Value} {d : DataW H} {p : List MemPlace} (hv : Value.okWide Tryz.prog W r b0 28 v) (h : DataW.Trod enc Tryz.prog W base sp hd 28 v d p) :
    ∃ A n c B m e C k f, v = .agg #[.slice A n c, .slice B m e, .slice C k f] ∧ (n ≤ 1000000 → m ≤ 1000000 → ∃ (g : Gr) (rots : List (List UInt32)), n = g.vs.length ∧ m = g.es.length ∧ k = rots.length ∧ RMx W v g rots) := by
  obtain ⟨cs, rfl, hsz⟩ := okWide_struct Tryz.underlying28 hv
  obtain ⟨c0, c1, c2, rfl⟩ := array3 (hsz.trans (by kernel_rfl))
  obtain ⟨fuel, hf⟩ := h
  obtain ⟨y0, y1, n, hx, _, h0, h1⟩ := trod_struct2 Tryz.underlying28 hf
  have e0 : Tryz.prog.cellsOf 25 = 2 := by kernel_rfl
  have e1 : Tryz.prog.cellsOf 26 = 1 := by kernel_rfl
  have k0 : DataW.trod enc Tryz.prog W base sp hd n 25 [c0, c1] = some y0 := by
    have := h0
    simp only [e0] at this
    exact this
  have k1 : DataW.trod enc Tryz.prog W base sp hd n 26 [c2] = some y1 := by
    have := h1
    simp only [e1] at this
    exact this
  obtain ⟨z0, z1, n2, _, _, h2, h3⟩ := trod_struct2 Tryz.underlying25 k0
  have k2 : DataW.trod enc Tryz.prog W base sp hd n2 22 [c0] = some z0 := by
    have := h2
    simp only [cells22] at this
    exact this
  have e3 : Tryz.prog.cellsOf 23 = 1 := by kernel_rfl
  have k3 : DataW.trod enc Tryz.prog W base sp hd n2 23 [c1] = some z1 := by
    have := h3
    simp only [e3] at this
    exact this
  obtain ⟨A, n, c, rfl, hr⟩ := open_row1 k2
  obtain ⟨B, m, e, rfl, hre⟩ := open_rowe k3
  obtain ⟨C, k, f, rfl, rots, rfl, hrr⟩ := open_rows k1
  refine ⟨A, n, c, B, m, e, C, _, f, rfl, fun hn hm => ?_⟩
  obtain ⟨l, rfl, hc, hr⟩ := hr hn
  obtain ⟨le, rfl, hce, hre⟩ := hre hm
  exact ⟨⟨l, le⟩, rots, rfl, rfl, rfl, A, c, B, e, C, f, rfl, ⟨A, c, B, e, rfl, hc, hce, hr, hre⟩, hrr⟩
end
end Go.Proofs.YtcinbmekjlmdpaaGreat

/-! The document's Check of a map whose turns may be of any length. -/
namespace Go.Proofs.YtcinbmekjlmdpaaGreat
open Go.RowKit

attribute [local irreducible] V
attribute [local irreducible] wpList in
set_option maxRecDepth 100000 in
set_option maxHeartbeats 4000000 in
/-- The document's Check. -/
theorem rcheckx_walk (w : World) (v : Value) (g : Gr) (rots : List (List UInt32)) (h : RMx w v g rots) (hl1000 : rots.length ≤ 1000) :
    Calls Tryz.prog 10 #[v] w fun e w' => e = .returned (.int .i64 (rck g rots)) ∧ Below w.heap.size w w' := by
  obtain ⟨A, c, B, dd, C, ce, rfl, hg, hr⟩ := h
  have HG := Lib.hid hg
  have HR := Lib.hid hr
  have hrv : Rd w A g.vs := by
    obtain ⟨_, _, _, _, q, _, _, h1, _⟩ := hg
    simp only [Value.agg.injEq, Array.mk.injEq, List.cons.injEq, Value.slice.injEq] at q
    rw [q.1.1]; exact h1
  have HV := Lib.hid hrv
  have hnv := hrv.len
  have HB : Hid (Below w.heap.size w (w.alloc (.cells #[.slice A g.vs.length c, .slice B g.es.length dd, .slice C rots.length ce] 28))) := (Below.refl _ w).alloc (Nat.le_refl _) _
  have HBK : Hid (Blk (w.alloc (.cells #[.slice A g.vs.length c, .slice B g.es.length dd, .slice C rots.length ce] 28)) w.heap.size 28 #[.slice A g.vs.length c, .slice B g.es.length dd, .slice C rots.length ce]) := Blk.fresh _ _ _
  have HC := Lib.hid (fun W hW => rcheck_walk W (.agg #[.slice A g.vs.length c, .slice B g.es.length dd]) g hW)
  clear hg hr hrv
  by_cases hc : chk g = 0
  · have HM := Lib.hid (May.of hc)
    have hne : g.es.length ≤ 160 := HM.out.ne
    rw [hc] at HC
    have HCK := Lib.hid hc
    by_cases hll : rots.length = g.vs.length
    · have HLL := Lib.hid hll
      have t0 : ((rots.length : Int) != (g.vs.length : Int)) = false := by rw [hll]; simp
      clear hll hc
      go_enter Tryz.func10, Tryz.ntmps10
      go_wp2_with (go_at_call 42; refine (HC.out _ (HG.out.kept HB.out)).mono ?_; rintro e w1 ⟨rfl, hb⟩; have HB1 : Hid (Below w.heap.size w w1) := HB.out.trans (Below.mono hb HB.out.size); have HK1 := Lib.hid (HBK.out.kept hb HBK.out.lt); have k0 : w1.cell? ⟨w.heap.size, 0, none⟩ = some (.slice A g.vs.length c) := HK1.out.cell 0; have k2 : w1.cell? ⟨w.heap.size, 2, none⟩ = some (.slice C rots.length ce) := HK1.out.cell 2; clear hb)
      clear k0 k2
      go_loopw [28] (fun i wr => ∃ k : Nat, k ≤ g.vs.length ∧ i = .int .i64 k ∧ (∀ j, j < k → okT g rots j = true) ∧ Below w1.heap.size w1 wr) (fun i _ => g.vs.length - (intOf i).toNat)
      case atStart => exact ⟨0, Nat.zero_le _, rfl, fun j hj => absurd hj (Nat.not_lt_zero _), Below.refl _ _⟩
      case round =>
        obtain ⟨k, hk, rfl, hok, hb⟩ := hrel
        have HOK := Lib.hid hok
        have HBr := Lib.hid hb
        have HBW : Hid (Below w.heap.size w wr) := HB1.out.trans (Below.mono hb HB1.out.size)
        have HKr := Lib.hid (HK1.out.kept hb HK1.out.lt)
        have HRr := Lib.hid (HR.out.kept HBW.out)
        clear hok hb
        by_cases hlt : k < g.vs.length
        · obtain ⟨b, o, rfl, hcc⟩ := (HV.out.kept HBW.out (Nat.le_refl _)).spot (by omega)
          have hcell := hcc k hlt
          rw [getD_at hlt] at hcell
          obtain ⟨_, _, q3, _, z3⟩ := HRr.out
          injection q3 with q3 q3a q3b
          subst q3 q3b
          have hkr : k < rots.length := by rw [HLL.out]; exact hlt
          obtain ⟨b3, o3, rfl, _, h3⟩ := z3 (by omega)
          obtain ⟨u5, hc5, hr5⟩ := h3 k hkr
          have HR5 := Lib.hid hr5
          obtain ⟨A5, c5, rfl, hr5b⟩ := hr5
          have k0 : wr.cell? ⟨w.heap.size, 0, none⟩ = some (.slice (some ⟨b, o, none⟩) g.vs.length c) := HKr.out.cell 0
          have k1 : wr.cell? ⟨w.heap.size, 1, none⟩ = some (.slice B g.es.length dd) := HKr.out.cell 1
          have k2 : wr.cell? ⟨w.heap.size, 2, none⟩ = some (.slice (some ⟨b3, o3, none⟩) rots.length ce) := HKr.out.cell 2
          have HE := Lib.hid (fun W hW => rends9_walk W (.agg #[.slice (some ⟨b, o, none⟩) g.vs.length c, .slice B g.es.length dd]) g (g.vs.getD k 0) hW (by omega))
          have hes := eds_len g.es (g.vs.getD k 0)
          have hesn := nbr_len g.es (g.vs.getD k 0)
          have hes2 : (eds g.es (g.vs.getD k 0)).length ≤ 1000000 := by omega
          clear hcc z3 h3 hes hesn
          have HO1 : Hid (¬ (rots.getD k []).length = (eds g.es (g.vs.getD k 0)).length → rck g rots = 22) := fun q => rck_turn HCK.out hlt (okT_len q)
          have HO2 : Hid (¬ rots.getD k [] = norm (rots.getD k []) → rck g rots = 22) := fun q => rck_turn HCK.out hlt (okT_norm q)
          have HO3 : Hid (∀ j, j < (eds g.es (g.vs.getD k 0)).length → ¬ (eds g.es (g.vs.getD k 0)).getD j 0 ∈ rots.getD k [] → rck g rots = 22) := fun j hj q => rck_turn HCK.out hlt (okT_mem hj q)
          have HO4 : Hid ((rots.getD k []).length = (eds g.es (g.vs.getD k 0)).length → rots.getD k [] = norm (rots.getD k []) → (∀ j, j < (eds g.es (g.vs.getD k 0)).length → (eds g.es (g.vs.getD k 0)).getD j 0 ∈ rots.getD k []) → okT g rots k = true) := okT_true
          generalize rots.getD k [] = row at *
          generalize g.vs.getD k 0 = x at *
          generalize eds g.es x = es at *
          by_cases h1 : row.length = es.length
          · have t1 : ((row.length : Int) != (es.length : Int)) = false := by rw [h1]; simp
            have H1 := Lib.hid h1
            have hl5 : row.length ≤ 1000000 := by omega
            have HR5 := Lib.hid (hr5b hl5)
            clear h1 hr5b
            by_cases h2 : row = norm row
            · have HN := Lib.hid (fun W hW => rnorm_rv W (.slice A5 row.length c5) row hW)
              rw [← h2] at HN
              have H2 := Lib.hid h2
              clear h2
              go_wp2_with (first
                | (go_at_call 43; refine (HE.out _ (HG.out.kept HBW.out)).mono ?_; rintro e w2 ⟨u, rfl, hu, hb2⟩; have HB2 := Lib.hid hb2; have HU2 := Lib.hid hu; have HR2 := Lib.hid (HR5.out.kept hb2); obtain ⟨A6, c6, rfl, _, _⟩ := hu; clear hb2)
                | (go_at_call 44; refine (HN.out _ HR2.out).mono ?_; rintro e w3 ⟨u3, rfl, hu3, hb3⟩; have HB3 := Lib.hid hb3; have HU3 := Lib.hid hu3; have HR3 := Lib.hid (HR2.out.kept hb3); have HU23 := Lib.hid (HU2.out.kept hb3); obtain ⟨A7, c7, rfl, _, _⟩ := hu3; clear hb3)
                | (go_at_call 17; refine (rsame_rv _ _ _ _ _ HR3.out HU3.out).mono ?_; rintro e w4 ⟨rfl, hb4⟩; rw [decide_eq_true rfl]; have HB4 := Lib.hid hb4; have HR4 := Lib.hid (HR3.out.kept hb4); have HU4 := Lib.hid (HU23.out.kept hb4); clear hb4))
              have hd5 : Rd w4 A5 row := by
                obtain ⟨_, _, q, _, hd⟩ := HR4.out
                injection q with q
                subst q
                exact hd
              have hd6 : Rd w4 A6 es := by
                obtain ⟨_, _, q, _, hd⟩ := HU4.out
                injection q with q
                subst q
                exact hd
              have HF := Lib.hid (fun d => find_walk w4 A5 c5 row d hd5)
              have HD6 := Lib.hid hd6
              have hl6 := hd6.len
              clear hd5 hd6
              go_loop [56] (fun i => ∃ m : Nat, m ≤ es.length ∧ i = .int .i64 m ∧ ∀ j, j < m → es.getD j 0 ∈ row) (fun i => es.length - (intOf i).toNat)
              case atStart => exact ⟨0, Nat.zero_le _, rfl, fun j hj => absurd hj (Nat.not_lt_zero _)⟩
              case round =>
                obtain ⟨m, hm, rfl, hin⟩ := hrel
                have HIN := Lib.hid hin
                clear hin
                by_cases hlt6 : m < es.length
                · obtain ⟨b6, o6, rfl, hc6⟩ := HD6.out.spot (by omega)
                  have hcell6 := hc6 m hlt6
                  rw [getD_at hlt6] at hcell6
                  clear hc6
                  by_cases hmem : es.getD m 0 ∈ row
                  · have hf := HF.out (es.getD m 0)
                    rw [ix_ge0 hmem] at hf
                    have HFD := Lib.hid hf
                    have HIN2 : Hid (∀ j, j < m + 1 → es.getD j 0 ∈ row) := fun j hj => by
                      rcases Nat.lt_or_ge j m with q | q
                      · exact HIN.out j q
                      · obtain rfl : j = m := by omega
                        exact hmem
                    have hp : decide (((fst row (es.getD m 0) : Nat) : Int) < 0) = false := decide_eq_false (by omega)
                    have hp2 : decide (fst row (es.getD m 0) < 0) = false := decide_eq_false (by omega)
                    clear hf hmem
                    generalize es.getD m 0 = d at *
                    generalize fst row d = p at *
                    go_wp2_with (go_at_call 45; refine HFD.out.mono ?_; rintro e w' ⟨rfl, rfl⟩)
                    go_round
                    case rel => exact ⟨m + 1, by omega, by go_num, HIN2.out⟩
                    case measure => simp [intOf]; omega
                  · have hf := HF.out (es.getD m 0)
                    rw [ix_out hmem] at hf
                    have HFD := Lib.hid hf
                    have HT := Lib.hid (HO3.out m hlt6 hmem)
                    clear hf hmem
                    generalize es.getD m 0 = d at *
                    go_wp2_with (go_at_call 45; refine HFD.out.mono ?_; rintro e w' ⟨rfl, rfl⟩)
                    go_ret
                    exact ⟨by rw [HT.out]; rfl, ((HBW.out.trans (Below.mono HB2.out HBW.out.size)).trans (Below.mono HB3.out (Nat.le_trans HBW.out.size HB2.out.size))).trans (Below.mono HB4.out (Nat.le_trans (Nat.le_trans HBW.out.size HB2.out.size) HB3.out.size))⟩
                · obtain rfl : m = es.length := by omega
                  have HOK2 : Hid (∀ j, j < k + 1 → okT g rots j = true) := fun j hj => by
                    rcases Nat.lt_or_ge j k with q | q
                    · exact HOK.out j q
                    · obtain rfl : j = k := by omega
                      exact HO4.out H1.out H2.out HIN.out
                  go_wp2
                  go_roundw
                  case rel => exact ⟨k + 1, by omega, by go_num, HOK2.out, ((HBr.out.trans (Below.mono HB2.out HBr.out.size)).trans (Below.mono HB3.out (Nat.le_trans HBr.out.size HB2.out.size))).trans (Below.mono HB4.out (Nat.le_trans (Nat.le_trans HBr.out.size HB2.out.size) HB3.out.size))⟩
                  case measure => simp [intOf]; omega
            · have HN := Lib.hid (fun W hW => rnorm_rv W (.slice A5 row.length c5) row hW)
              have HT := Lib.hid (HO2.out h2)
              have H2 := Lib.hid (decide_eq_false h2)
              clear h2
              go_wp2_with (first
                | (go_at_call 43; refine (HE.out _ (HG.out.kept HBW.out)).mono ?_; rintro e w2 ⟨u, rfl, hu, hb2⟩; have HB2 := Lib.hid hb2; have HU2 := Lib.hid hu; have HR2 := Lib.hid (HR5.out.kept hb2); obtain ⟨A6, c6, rfl, _, _⟩ := hu; clear hb2)
                | (go_at_call 44; refine (HN.out _ HR2.out).mono ?_; rintro e w3 ⟨u3, rfl, hu3, hb3⟩; have HB3 := Lib.hid hb3; have HU3 := Lib.hid hu3; have HR3 := Lib.hid (HR2.out.kept hb3); obtain ⟨A7, c7, rfl, _, _⟩ := hu3; clear hb3)
                | (go_at_call 17; refine (rsame_rv _ _ _ _ _ HR3.out HU3.out).mono ?_; rintro e w4 ⟨rfl, hb4⟩; rw [H2.out]; have HB4 := Lib.hid hb4; clear hb4))
              go_ret
              exact ⟨by rw [HT.out]; rfl, ((HBW.out.trans (Below.mono HB2.out HBW.out.size)).trans (Below.mono HB3.out (Nat.le_trans HBW.out.size HB2.out.size))).trans (Below.mono HB4.out (Nat.le_trans (Nat.le_trans HBW.out.size HB2.out.size) HB3.out.size))⟩
          · have HT := Lib.hid (HO1.out h1)
            have t1 : ((row.length : Int) != (es.length : Int)) = true := by simp; omega
            clear h1
            go_wp2_with (first
                | (go_at_call 43; refine (HE.out _ (HG.out.kept HBW.out)).mono ?_; rintro e w2 ⟨u, rfl, hu, hb2⟩; have HB2 := Lib.hid hb2; have HU2 := Lib.hid hu; have HR2 := Lib.hid (HR5.out.kept hb2); obtain ⟨A6, c6, rfl, _, _⟩ := hu; clear hb2))
            go_ret
            exact ⟨by rw [HT.out]; rfl, HBW.out.trans (Below.mono HB2.out HBW.out.size)⟩
        · obtain rfl : k = g.vs.length := by omega
          have HT := Lib.hid (rck_ok HCK.out HLL.out HOK.out)
          go_wp2
          go_ret
          exact ⟨by rw [HT.out]; rfl, HBW.out⟩
    · have HT := Lib.hid (rck_len hc hll)
      have t0 : ((rots.length : Int) != (g.vs.length : Int)) = true := by simp; omega
      clear hll hc
      go_enter Tryz.func10, Tryz.ntmps10
      go_wp2_with (go_at_call 42; refine (HC.out _ (HG.out.kept HB.out)).mono ?_; rintro e w1 ⟨rfl, hb⟩; have HB1 : Hid (Below w.heap.size w w1) := HB.out.trans (Below.mono hb HB.out.size); have HK1 := Lib.hid (HBK.out.kept hb HBK.out.lt); have k0 : w1.cell? ⟨w.heap.size, 0, none⟩ = some (.slice A g.vs.length c) := HK1.out.cell 0; have k2 : w1.cell? ⟨w.heap.size, 2, none⟩ = some (.slice C rots.length ce) := HK1.out.cell 2; clear hb)
      go_ret
      exact ⟨by rw [HT.out]; rfl, HB1.out⟩
  · have HT := Lib.hid (rck_bad (rots := rots) hc)
    have t0 : (chk g != 0) = true := by simpa using hc
    clear hc
    generalize chk g = z at *
    go_enter Tryz.func10, Tryz.ntmps10
    go_wp2_with (go_at_call 42; refine (HC.out _ (HG.out.kept HB.out)).mono ?_; rintro e w1 ⟨rfl, hb⟩; have HB1 : Hid (Below w.heap.size w w1) := HB.out.trans (Below.mono hb HB.out.size); clear hb)
    go_ret
    exact ⟨by rw [HT.out]; rfl, HB1.out⟩
end Go.Proofs.YtcinbmekjlmdpaaGreat

/-! rot.Face. -/
namespace Go.Proofs.YtcinbmekjlmdpaaGreat
open Go.RowKit

/-- The face of a dart; none, where it isn't there. -/
def fcd (g : Gr) (rots : List (List UInt32)) (d : UInt32) : List UInt32 := if d ∈ dts g.es then norm (fc g rots d) else []
theorem norm_nil : norm [] = [] := rfl
attribute [local irreducible] V
attribute [local irreducible] wpList in
set_option maxRecDepth 100000 in
set_option maxHeartbeats 2000000 in
/-- rot.Face. -/
theorem face_walk (w : World) (v : Value) (g : Gr) (rots : List (List UInt32)) (d : UInt32) (h : RM w v g rots) (hM : MapOk g rots) :
    Calls Tryz.prog 20 #[v, V d] w fun e w' => ∃ u, e = .returned u ∧ RV w' u (fcd g rots d) ∧ Below w.heap.size w w' := by
  have HRM := Lib.hid h
  have HOK := Lib.hid hM
  obtain ⟨A, c, B, dd, C, ce, rfl, hg, hr⟩ := h
  have hne := hM.may.ne
  have hfl := fc_len g rots d
  have HFL : Hid ((fc g rots d).length ≤ 1000000) := by show _ ≤ _; omega
  have HB1 : Hid (Below w.heap.size w (w.alloc (.cells #[.slice A g.vs.length c, .slice B g.es.length dd, .slice C rots.length ce] 28))) := (Below.refl _ w).alloc (Nat.le_refl _) _
  clear hg hr hM
  by_cases hd : d ∈ dts g.es
  · have HD := Lib.hid hd
    have HF : Hid (fcd g rots d = norm (fc g rots d)) := if_pos hd
    clear hd
    go_enter Tryz.func20, Tryz.ntmps20
    go_wp2_with (first
      | (go_at_call 46; refine (round_ex _ (.agg #[.slice A g.vs.length c, .slice B g.es.length dd, .slice C rots.length ce]) g rots (HRM.out.kept HB1.out) HOK.out).mono ?_; rintro e w2 ⟨mb1, mb2, n, rfl, h1, h2, hn12, hmb1, hmb2, hb2⟩; have HM1 := Lib.hid h1; have HM2 := Lib.hid h2; have HB2 := Lib.hid (HB1.out.trans (Below.mono hb2 HB1.out.size)); have HN12 := Lib.hid hn12; have HG2 : Hid (w.heap.size ≤ mb2) := (by show _ ≤ _; simp at hmb2; omega); clear h1 h2 hb2 hn12 hmb1 hmb2)
      | (go_at_call 47; refine (from_walk w2 mb1 mb2 n 0 g rots (fun _ => false) d HOK.out HM1.out (by rw [sf_none]; exact HM2.out) HN12.out (by omega) HD.out (fun _ _ => rfl)).mono ?_; rintro e6 w6 ⟨v6, m6, rfl, ho6, hm6, hmu6, hx6⟩; have HO6 := Lib.hid (ho6.rv HFL.out); have HB6 := Lib.hid (Ex.below HB2.out hx6 HG2.out HB2.out.size); clear ho6 hm6 hmu6 hx6)
      | (go_at_call 54; refine (normal_rv _ _ _ HO6.out).mono ?_; rintro e7 w7 ⟨v7, rfl, hv7, hb7⟩; have HV7 := Lib.hid hv7; have HB7 := Lib.hid (HB6.out.trans (Below.mono hb7 HB6.out.size)); clear hv7 hb7))
    go_ret
    exact ⟨_, rfl, by rw [HF.out]; exact HV7.out, HB7.out⟩
  · have HF : Hid (fcd g rots d = []) := if_neg hd
    have HD := Lib.hid (HOK.out.bh_out hd)
    clear hd
    go_enter Tryz.func20, Tryz.ntmps20
    go_wp2_with (first
      | (go_at_call 46; refine (round_ex _ (.agg #[.slice A g.vs.length c, .slice B g.es.length dd, .slice C rots.length ce]) g rots (HRM.out.kept HB1.out) HOK.out).mono ?_; rintro e w2 ⟨mb1, mb2, n, rfl, h1, h2, hn12, hmb1, hmb2, hb2⟩; have HM1 := Lib.hid h1; have HM2 := Lib.hid h2; have HB2 := Lib.hid (HB1.out.trans (Below.mono hb2 HB1.out.size)); clear h1 h2 hb2 hn12 hmb1 hmb2)
      | (go_at_call 47; refine (from_none w2 mb1 mb2 n 0 (bh rots rots.flatten) (fun _ => false) d HM1.out (by rw [sf_none]; exact HM2.out) (.inl HD.out) (.inr HD.out)).mono ?_; rintro e6 w6 ⟨rfl, hb6⟩; have HB6 := Lib.hid (HB2.out.trans (Below.mono hb6 HB2.out.size)); clear hb6)
      | (go_at_call 54; refine (normal_rv _ _ _ (RV.nil w6)).mono ?_; rintro e7 w7 ⟨v7, rfl, hv7, hb7⟩; rw [norm_nil] at hv7; have HV7 := Lib.hid hv7; have HB7 := Lib.hid (HB6.out.trans (Below.mono hb7 HB6.out.size)); clear hv7 hb7))
    go_ret
    exact ⟨_, rfl, by rw [HF.out]; exact HV7.out, HB7.out⟩
end Go.Proofs.YtcinbmekjlmdpaaGreat
