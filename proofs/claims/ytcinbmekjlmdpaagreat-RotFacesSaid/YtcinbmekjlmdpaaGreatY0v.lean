/- slices.Contains; rot.Turn. -/
import Derived.Test.YtcinbmekjlmdpaaGreatY0k
import Derived.Test.YtcinbmekjlmdpaaGreatY04
import Derived.Test.YtcinbmekjlmdpaaGreatY0o
import Derived.Test.YtcinbmekjlmdpaaGreatY0s
import Derived.Test.YtcinbmekjlmdpaaGreatY0t
import Derived.Test.YtcinbmekjlmdpaaGreatY0u

/-! slices.Contains; rot.Turn. -/
namespace Go.Proofs.YtcinbmekjlmdpaaGreat
open Go.RowKit

attribute [local irreducible] V
theorem contains_walk (w : World) (v : Value) (l : List UInt32) (d : UInt32) (h : RV w v l) :
    Calls Tryz.prog 52 #[v, V d] w fun e w' => e = .returned (.bool (l.contains d)) ∧ w = w' := by
  obtain ⟨A, c, rfl, _, hr⟩ := h
  have HI := Lib.hid (index_walk w A c l d hr)
  by_cases hd : d ∈ l
  · have hlt := fst_lt hd
    have hx : ix l d = (fst l d : Int) := ix_lt hlt
    have HC : Hid (l.contains d = true) := List.contains_iff_mem.2 hd
    rw [hx] at HI
    have hge : (0 : Int) ≤ (fst l d : Int) := by omega
    clear hd hlt hx hr
    generalize fst l d = p at *
    go_enter Tryz.func52, Tryz.ntmps52
    go_wp2_with (go_at_call 97; refine HI.out.mono ?_; rintro e w' ⟨rfl, rfl⟩)
    go_ret
    exact ⟨by rw [HC.out]; simp, rfl⟩
  · have hx : ix l d = -1 := ix_not hd
    have HC : Hid (l.contains d = false) := by
      show _ = _
      rw [Bool.eq_false_iff]; exact fun q => hd (List.contains_iff_mem.1 q)
    rw [hx] at HI
    clear hd hx hr
    go_enter Tryz.func52, Tryz.ntmps52
    go_wp2_with (go_at_call 97; refine HI.out.mono ?_; rintro e w' ⟨rfl, rfl⟩)
    go_ret
    exact ⟨by rw [HC.out]; rfl, rfl⟩
/-- The turn that has a dart; none. -/
def tro (rots : List (List UInt32)) (d : UInt32) : List UInt32 := rots.getD (rots.findIdx fun t => t.contains d) []
attribute [local irreducible] wpList in
set_option maxRecDepth 100000 in
set_option maxHeartbeats 2000000 in
/-- rot.Turn. -/
theorem turn_walk (w : World) (v : Value) (g : Gr) (rots : List (List UInt32)) (d : UInt32) (h : RM w v g rots) (hl : rots.length ≤ 1000) :
    Calls Tryz.prog 19 #[v, V d] w fun e w' => ∃ u, e = .returned u ∧ RV w' u (tro rots d) ∧ Below w.heap.size w w' := by
  obtain ⟨A, c, B, dd, C, ce, rfl, _, hr⟩ := h
  have HB : Hid (Below w.heap.size w (w.alloc (.cells #[.slice A g.vs.length c, .slice B g.es.length dd, .slice C rots.length ce] 28))) := (Below.refl _ w).alloc (Nat.le_refl _) _
  have HBK : Hid (Blk (w.alloc (.cells #[.slice A g.vs.length c, .slice B g.es.length dd, .slice C rots.length ce] 28)) w.heap.size 28 #[.slice A g.vs.length c, .slice B g.es.length dd, .slice C rots.length ce]) := Blk.fresh _ _ _
  have HR := Lib.hid (hr.kept HB.out)
  have HN : Hid (∀ j, j < rots.findIdx (fun t => t.contains d) → (rots.getD j []).contains d = false) := fun j hj => by
    have h1 : j < rots.length := Nat.lt_of_lt_of_le hj List.findIdx_le_length
    have := List.not_of_lt_findIdx hj
    rw [List.getD_eq_getElem?_getD, List.getElem?_eq_getElem h1]
    simpa using this
  have HY : Hid (rots.findIdx (fun t => t.contains d) < rots.length → (rots.getD (rots.findIdx (fun t => t.contains d)) []).contains d = true) := fun hj => by
    have := List.findIdx_getElem (p := fun t : List UInt32 => t.contains d) (xs := rots) (w := hj)
    rw [List.getD_eq_getElem?_getD, List.getElem?_eq_getElem hj]
    exact this
  have HX : Hid (tro rots d = rots.getD (rots.findIdx fun t => t.contains d) []) := rfl
  have HLE : Hid (rots.findIdx (fun t => t.contains d) ≤ rots.length) := List.findIdx_le_length
  clear hr
  generalize rots.findIdx (fun t => t.contains d) = q at *
  go_enter Tryz.func19, Tryz.ntmps19
  go_wp2
  generalize w.alloc (.cells #[.slice A g.vs.length c, .slice B g.es.length dd, .slice C rots.length ce] 28) = w1 at *
  have k2 : w1.cell? ⟨w.heap.size, 2, none⟩ = some (.slice C rots.length ce) := HBK.out.cell 2
  go_loop [10] (fun i => ∃ k : Nat, k ≤ q ∧ i = .int .i64 k) (fun i => rots.length - (intOf i).toNat)
  case atStart => exact ⟨0, Nat.zero_le _, rfl⟩
  case round =>
    obtain ⟨k, hk, rfl⟩ := hrel
    have hle := HLE.out
    by_cases hlt : k < rots.length
    · obtain ⟨_, _, q3, _, z3⟩ := HR.out
      injection q3 with q3 q3a q3b
      subst q3 q3b
      obtain ⟨b3, o3, rfl, _, h3⟩ := z3 (by omega)
      obtain ⟨u5, hc5, hr5⟩ := h3 k hlt
      have HF := Lib.hid (contains_walk w1 u5 _ d hr5)
      have HR5 := Lib.hid hr5
      obtain ⟨A5, c5, rfl, _, _⟩ := hr5
      clear z3 h3
      by_cases hkq : k < q
      · have h0 := HN.out k hkq
        rw [h0] at HF
        clear h0
        generalize rots.getD k [] = row at *
        go_wp2_with (go_at_call 52; refine HF.out.mono ?_; rintro e w' ⟨rfl, rfl⟩)
        go_round
        case rel => exact ⟨k + 1, by omega, by go_num⟩
        case measure => simp [intOf]; omega
      · obtain rfl : k = q := by omega
        have h0 := HY.out hlt
        rw [h0] at HF
        have hrl := HR5.out.len
        clear h0
        generalize rots.getD k [] = row at *
        go_wp2_with (first
          | (go_at_call 53; refine (clone_rv _ _ _ HR5.out).mono ?_; rintro e w3 ⟨u, rfl, hu, hb3⟩; have HU := Lib.hid (hu.rv hrl); have HB3 := Lib.hid hb3; clear hu hb3)
          | (go_at_call 52; refine HF.out.mono ?_; rintro e w' ⟨rfl, rfl⟩))
        go_ret
        exact ⟨_, rfl, by rw [HX.out]; exact HU.out, HB.out.trans (Below.mono HB3.out HB.out.size)⟩
    · have hq : q = rots.length ∨ q = rots.length := by omega
      obtain rfl : k = rots.length := by omega
      have hq2 : q = rots.length := by omega
      have HE : Hid (tro rots d = []) := by
        show _ = _
        rw [HX.out, hq2, List.getD_eq_getElem?_getD, List.getElem?_eq_none (Nat.le_refl _)]; rfl
      clear hq hq2
      go_wp2
      go_ret
      exact ⟨_, rfl, by rw [HE.out]; exact RV.nil _, HB.out⟩
end Go.Proofs.YtcinbmekjlmdpaaGreat

/-! RotFaces: the law's walk. -/
namespace Go.Proofs.YtcinbmekjlmdpaaGreat
open Go.RowKit

attribute [local irreducible] V
attribute [local irreducible] wpList in
set_option maxRecDepth 100000 in
set_option maxHeartbeats 2000000 in
/-- A map that is not gone through. -/
theorem rotfaces_many (w : World) (A B C : Option Addr) (n c m d r e : Nat) (x : UInt32) (h : ¬ (n ≤ 70 ∧ m ≤ 60 ∧ r ≤ 80)) :
    Calls Tryz.prog 4 #[.agg #[.slice A n c, .slice B m d, .slice C r e], V x] w fun e w' => e = .returned (.bool true) ∧ Below w.heap.size w w' := by
  have HB0 : Hid (Below w.heap.size w (w.alloc (.cells #[.slice A n c, .slice B m d, .slice C r e] 28))) := (Below.refl _ w).alloc (Nat.le_refl _) _
  have HK0 : Hid (Blk (w.alloc (.cells #[.slice A n c, .slice B m d, .slice C r e] 28)) w.heap.size 28 #[.slice A n c, .slice B m d, .slice C r e]) := Blk.fresh _ _ _
  have hF : (decide (n ≤ 70) && decide (m ≤ 60) && decide (r ≤ 80)) = false := by
    rw [Bool.eq_false_iff]; intro q; apply h
    simp only [Bool.and_eq_true, decide_eq_true_eq] at q
    exact ⟨q.1.1, q.1.2, q.2⟩
  have HF := Lib.hid hF
  clear h hF
  go_enter Tryz.func4, Tryz.ntmps4
  go_wp2_with (first
    | (go_at_call 7; refine (awake10_walk _).mono ?_; rintro e w1 ⟨rfl, hb1⟩; have HB1 := Lib.hid (HB0.out.trans (Below.mono hb1 HB0.out.size)); have HK1 := Lib.hid (HK0.out.kept hb1 HK0.out.lt); have k0 := HK1.out.cell 0; have k1 := HK1.out.cell 1; have k2 := HK1.out.cell 2; clear hb1)
    | (go_at_call 8; refine (few_walk w1 A B C n c m d r e).mono ?_; rintro e w2 ⟨rfl, hb2⟩; rw [HF.out]; have HB2 := Lib.hid (HB1.out.trans (Below.mono hb2 HB1.out.size)); clear hb2))
  go_ret
  exact ⟨rfl, HB2.out⟩
attribute [local irreducible] wpList in
set_option maxRecDepth 100000 in
set_option maxHeartbeats 2000000 in
/-- A map that may not be. -/
theorem rotfaces_bad (w : World) (v : Value) (g : Gr) (rots : List (List UInt32)) (x : UInt32) (h : RMx w v g rots) (hn : g.vs.length ≤ 70) (hm : g.es.length ≤ 60) (hr : rots.length ≤ 80) (hk : ¬ rck g rots = 0) :
    Calls Tryz.prog 4 #[v, V x] w fun e w' => e = .returned (.bool true) ∧ Below w.heap.size w w' := by
  have HM := Lib.hid h
  obtain ⟨A, c, B, d, C, ce, rfl, _, _⟩ := h
  have HB0 : Hid (Below w.heap.size w (w.alloc (.cells #[.slice A g.vs.length c, .slice B g.es.length d, .slice C rots.length ce] 28))) := (Below.refl _ w).alloc (Nat.le_refl _) _
  have HK0 : Hid (Blk (w.alloc (.cells #[.slice A g.vs.length c, .slice B g.es.length d, .slice C rots.length ce] 28)) w.heap.size 28 #[.slice A g.vs.length c, .slice B g.es.length d, .slice C rots.length ce]) := Blk.fresh _ _ _
  have hF : (decide (g.vs.length ≤ 70) && decide (g.es.length ≤ 60) && decide (rots.length ≤ 80)) = true := by
    rw [decide_eq_true hn, decide_eq_true hm, decide_eq_true hr]; rfl
  have HF := Lib.hid hF
  have HC := Lib.hid (fun W hW => rcheckx_walk W (.agg #[.slice A g.vs.length c, .slice B g.es.length d, .slice C rots.length ce]) g rots hW (by omega))
  have t0 : (rck g rots != 0) = true := by simpa using hk
  clear hF hk
  generalize rck g rots = z at *
  go_enter Tryz.func4, Tryz.ntmps4
  go_wp2_with (first
    | (go_at_call 7; refine (awake10_walk _).mono ?_; rintro e w1 ⟨rfl, hb1⟩; have HB1 := Lib.hid (HB0.out.trans (Below.mono hb1 HB0.out.size)); have HK1 := Lib.hid (HK0.out.kept hb1 HK0.out.lt); have k0 := HK1.out.cell 0; have k1 := HK1.out.cell 1; have k2 := HK1.out.cell 2; clear hb1)
    | (go_at_call 8; refine (few_walk w1 A B C _ c _ d _ ce).mono ?_; rintro e w2 ⟨rfl, hb2⟩; rw [HF.out]; have HB2 := Lib.hid (HB1.out.trans (Below.mono hb2 HB1.out.size)); have HK2 := Lib.hid (HK1.out.kept hb2 HK1.out.lt); have k3 := HK2.out.cell 0; have k4 := HK2.out.cell 1; have k5 := HK2.out.cell 2; clear hb2)
    | (go_at_call 10; refine (HC.out _ (HM.out.kept HB2.out)).mono ?_; rintro e w3 ⟨rfl, hb3⟩; have HB3 := Lib.hid (HB2.out.trans (Below.mono hb3 HB2.out.size)); clear hb3))
  go_ret
  exact ⟨rfl, HB3.out⟩
theorem rsame_one (w : World) (v u : Value) (l : List UInt32) (h : RV w v l) (h2 : RV w u l) : Calls Tryz.prog 17 #[v, u] w fun e w' => e = .returned (.bool true) ∧ Below w.heap.size w w' := by
  have := rsame_rv w v u l l h h2
  rwa [decide_eq_true rfl] at this
theorem tro_none {rots : List (List UInt32)} {x : UInt32} (h : ¬ rots.findIdx (fun t => t.contains x) < rots.length) : tro rots x = [] ∧ tix rots x = -1 := by
  refine ⟨?_, if_neg h⟩
  unfold tro
  rw [List.getD_eq_getElem?_getD, List.getElem?_eq_none (by omega)]
  rfl
theorem RRv.row {w : World} {b o n c : Nat} {ls : List (List UInt32)} (h : RRv w (.slice (some ⟨b, o, none⟩) n c) ls) {i : Nat} (hi : i < ls.length) : ∃ A c, w.cell? ⟨b, o + i, none⟩ = some (.slice A (ls.getD i []).length c) ∧ RV w (.slice A (ls.getD i []).length c) (ls.getD i []) := by
  obtain ⟨A, c2, h1, _, h3⟩ := h
  injection h1 with h1 _ _
  subst h1
  obtain ⟨b2, o2, h4, _, h5⟩ := h3 (by omega)
  injection h4 with h4
  injection h4 with h4 h6
  subst h4 h6
  obtain ⟨u, h7, h8⟩ := h5 i hi
  obtain ⟨A3, c3, rfl, _, _⟩ := id h8
  exact ⟨A3, c3, h7, h8⟩
theorem RRv.base {w : World} {A : Option Addr} {n c : Nat} {ls : List (List UInt32)} (h : RRv w (.slice A n c) ls) (h0 : 0 < ls.length) : ∃ b o, A = some ⟨b, o, none⟩ := by
  obtain ⟨A2, c2, h1, _, h3⟩ := h
  injection h1 with h1 _ _
  subst h1
  obtain ⟨b2, o2, h4, _, h5⟩ := h3 h0
  exact ⟨b2, o2, h4⟩
theorem sum_take {rows : List (List UInt32)} {k : Nat} (hk : k < rows.length) : ((rows.take (k + 1)).map List.length).sum = ((rows.take k).map List.length).sum + (rows.getD k []).length := by
  have : rows.take (k + 1) = rows.take k ++ [rows.getD k []] := by
    rw [List.take_add_one, List.getElem?_eq_getElem hk, List.getD_eq_getElem?_getD, List.getElem?_eq_getElem hk]; rfl
  rw [this, List.map_append, List.sum_append]; simp
theorem sum_le {rows : List (List UInt32)} (k : Nat) : ((rows.take k).map List.length).sum ≤ (rows.map List.length).sum := by
  have : rows.map List.length = (rows.take k).map List.length ++ (rows.drop k).map List.length := by rw [← List.map_append, List.take_append_drop]
  rw [this, List.sum_append]; omega
attribute [local irreducible] wpList in
set_option maxRecDepth 100000 in
set_option maxHeartbeats 4000000 in
/-- A map that may be. -/
theorem rotfaces_good (w : World) (v : Value) (g : Gr) (rots : List (List UInt32)) (x : UInt32) (h : RM w v g rots) (hx : RMx w v g rots) (hn : g.vs.length ≤ 70) (hm : g.es.length ≤ 60) (hr : rots.length ≤ 80) (hk : rck g rots = 0) :
    Calls Tryz.prog 4 #[v, V x] w fun e w' => e = .returned (.bool true) ∧ Below w.heap.size w w' := by
  have HM := Lib.hid h
  have HMX := Lib.hid hx
  have hok := MapOk.of hk
  obtain ⟨t, ht⟩ := hok.genus
  have htl : t ≤ 1000 := by
    have := parts_le g
    omega
  have HOK := Lib.hid hok
  have HFL : Hid (∀ l ∈ allf g rots, l.length ≤ 1000000) := fun l hl => by
    unfold allf fcs at hl
    obtain ⟨y, _, rfl⟩ := List.mem_map.1 hl
    have h1 := MapOk.face_len (g := g) (rots := rots) y
    have h2 := dts_len g.es
    omega
  have hsum := hok.sum
  have hfl : (allf g rots).length ≤ 1000000 := by
    have h1 := hok.faces_len
    have h2 := parts_le g
    omega
  obtain ⟨A, c, B, d, C, ce, rfl, _, hrr⟩ := h
  have HRR := Lib.hid hrr
  have HB0 : Hid (Below w.heap.size w (w.alloc (.cells #[.slice A g.vs.length c, .slice B g.es.length d, .slice C rots.length ce] 28))) := (Below.refl _ w).alloc (Nat.le_refl _) _
  have HK0 : Hid (Blk (w.alloc (.cells #[.slice A g.vs.length c, .slice B g.es.length d, .slice C rots.length ce] 28)) w.heap.size 28 #[.slice A g.vs.length c, .slice B g.es.length d, .slice C rots.length ce]) := Blk.fresh _ _ _
  have hF : (decide (g.vs.length ≤ 70) && decide (g.es.length ≤ 60) && decide (rots.length ≤ 80)) = true := by
    rw [decide_eq_true hn, decide_eq_true hm, decide_eq_true hr]; rfl
  have HF := Lib.hid hF
  have HC := Lib.hid (fun W hW => rcheckx_walk W (.agg #[.slice A g.vs.length c, .slice B g.es.length d, .slice C rots.length ce]) g rots hW (by omega))
  rw [hk] at HC
  have HFA := Lib.hid (fun W hW => faces_walk W (.agg #[.slice A g.vs.length c, .slice B g.es.length d, .slice C rots.length ce]) g rots hW hok)
  have HRFA := Lib.hid (fun W hW => rfaces_walk W (.agg #[.slice A g.vs.length c, .slice B g.es.length d, .slice C rots.length ce]) g rots hW hok)
  have HGE := Lib.hid (fun W hW => genus_walk W (.agg #[.slice A g.vs.length c, .slice B g.es.length d, .slice C rots.length ce]) g rots t hW hok ht)
  have HTW := Lib.hid (fun W hW => rtwice_walk W (.agg #[.slice A g.vs.length c, .slice B g.es.length d, .slice C rots.length ce]) g rots t hW hok ht)
  have HTI := Lib.hid (fun W hW => rturn_walk W (.agg #[.slice A g.vs.length c, .slice B g.es.length d, .slice C rots.length ce]) g rots x hW (by omega))
  have HTU := Lib.hid (fun W hW => turn_walk W (.agg #[.slice A g.vs.length c, .slice B g.es.length d, .slice C rots.length ce]) g rots x hW (by omega))
  have HFC := Lib.hid (fun W hW => face_walk W (.agg #[.slice A g.vs.length c, .slice B g.es.length d, .slice C rots.length ce]) g rots x hW hok)
  have HRFC := Lib.hid (fun W hW => rface_walk W (.agg #[.slice A g.vs.length c, .slice B g.es.length d, .slice C rots.length ce]) g rots x hW hok)
  have HNEG : Hid (decide ((t : Int) < 0) = false) := decide_eq_false (by omega)
  have HE1 : Hid (IntKind.i64.wrap (2 * (t : Int)) = 2 * (t : Int)) := IntWalk.i64_in _ (by omega)
  have HE2 : Hid (IntKind.i64.wrap (2 * (g.es.length : Int)) = 2 * (g.es.length : Int)) := IntWalk.i64_in _ (by omega)
  have HSUM := Lib.hid hsum
  clear hrr hF hk ht hok hsum hx
  generalize allf g rots = fs at *
  go_enter Tryz.func4, Tryz.ntmps4
  go_wp2_with (first
    | (go_at_call 7; refine (awake10_walk _).mono ?_; rintro e w1 ⟨rfl, hb1⟩; have HB1 := Lib.hid (HB0.out.trans (Below.mono hb1 HB0.out.size)); have HK1 := Lib.hid (HK0.out.kept hb1 HK0.out.lt); have k0 := HK1.out.cell 0; have k1 := HK1.out.cell 1; have k2 := HK1.out.cell 2; clear hb1)
    | (go_at_call 8; refine (few_walk w1 A B C _ c _ d _ ce).mono ?_; rintro e w2 ⟨rfl, hb2⟩; rw [HF.out]; have HB2 := Lib.hid (HB1.out.trans (Below.mono hb2 HB1.out.size)); have HK2 := Lib.hid (HK1.out.kept hb2 HK1.out.lt); have k3 := HK2.out.cell 0; have k4 := HK2.out.cell 1; have k5 := HK2.out.cell 2; clear hb2)
    | (go_at_call 10; refine (HC.out _ (HMX.out.kept HB2.out)).mono ?_; rintro e w3 ⟨rfl, hb3⟩; have HB3 := Lib.hid (HB2.out.trans (Below.mono hb3 HB2.out.size)); have HK3 := Lib.hid (HK2.out.kept hb3 HK2.out.lt); clear hb3))
  clear k0 k1 k2 k3 k4 k5
  have HB4 := Lib.hid (HB3.out.trans (Below.dr _ w3))
  have HK4 : Hid (Blk w3.drew w.heap.size 28 #[.slice A g.vs.length c, .slice B g.es.length d, .slice C rots.length ce]) := HK3.out
  have HM4 := Lib.hid (HM.out.kept HB4.out)
  have S0 : Hid (w3.drew.cell? ⟨w.heap.size, 0, none⟩ = some (.slice A g.vs.length c) ∧ w3.drew.cell? ⟨w.heap.size, 1, none⟩ = some (.slice B g.es.length d) ∧ w3.drew.cell? ⟨w.heap.size, 2, none⟩ = some (.slice C rots.length ce)) := ⟨HK4.out.cell 0, HK4.out.cell 1, HK4.out.cell 2⟩
  go_region_held3 (fun W => W.cell? ⟨w.heap.size, 0, none⟩ = some (.slice A g.vs.length c) ∧ W.cell? ⟨w.heap.size, 1, none⟩ = some (.slice B g.es.length d) ∧ W.cell? ⟨w.heap.size, 2, none⟩ = some (.slice C rots.length ce)) (first | exact S2.out | exact S1.out | exact S0.out) (first
    | (go_at_call 13; refine (HFA.out _ HM4.out).mono ?_; rintro e w5 ⟨u5, rfl, hu5, hb5⟩; have HB5 := Lib.hid (HB4.out.trans (Below.mono hb5 HB4.out.size)); have HM5 := Lib.hid (HM4.out.kept hb5); have HK5 := Lib.hid (HK4.out.kept hb5 HK4.out.lt); have S1 : Hid (w5.cell? ⟨w.heap.size, 0, none⟩ = some (.slice A g.vs.length c) ∧ w5.cell? ⟨w.heap.size, 1, none⟩ = some (.slice B g.es.length d) ∧ w5.cell? ⟨w.heap.size, 2, none⟩ = some (.slice C rots.length ce)) := ⟨HK5.out.cell 0, HK5.out.cell 1, HK5.out.cell 2⟩; have HU5 := Lib.hid (hu5.rr HFL.out); obtain ⟨A5, c5, hv5⟩ := hu5.slice; subst hv5; clear hu5 hb5)
    | (go_at_call 14; refine (HRFA.out _ HM5.out).mono ?_; rintro e w6 ⟨u6, rfl, hu6, hb6⟩; have HB6 := Lib.hid (HB5.out.trans (Below.mono hb6 HB5.out.size)); have HM6 := Lib.hid (HM5.out.kept hb6); have HK6 := Lib.hid (HK5.out.kept hb6 HK5.out.lt); have S2 : Hid (w6.cell? ⟨w.heap.size, 0, none⟩ = some (.slice A g.vs.length c) ∧ w6.cell? ⟨w.heap.size, 1, none⟩ = some (.slice B g.es.length d) ∧ w6.cell? ⟨w.heap.size, 2, none⟩ = some (.slice C rots.length ce)) := ⟨HK6.out.cell 0, HK6.out.cell 1, HK6.out.cell 2⟩; have HV6 := Lib.hid (HU5.out.kept hb6); have HU6 := Lib.hid (hu6.rr HFL.out); obtain ⟨A6, c6, hv6⟩ := hu6.slice; subst hv6; clear hu6 hb6))
  go_wp2
  have e1 := HE1.out
  have e2 := HNEG.out
  have HB7 := Lib.hid (HB6.out.trans (Below.dr _ w6))
  have HK7 : Hid (Blk w6.drew w.heap.size 28 #[.slice A g.vs.length c, .slice B g.es.length d, .slice C rots.length ce]) := HK6.out
  have HM7 := Lib.hid (HM.out.kept HB7.out)
  have HV7 := Lib.hid (HV6.out.kept (Below.dr _ w6))
  have HU7 := Lib.hid (HU6.out.kept (Below.dr _ w6))
  have S7 : Hid (w6.drew.cell? ⟨w.heap.size, 0, none⟩ = some (.slice A g.vs.length c) ∧ w6.drew.cell? ⟨w.heap.size, 1, none⟩ = some (.slice B g.es.length d) ∧ w6.drew.cell? ⟨w.heap.size, 2, none⟩ = some (.slice C rots.length ce)) := ⟨HK7.out.cell 0, HK7.out.cell 1, HK7.out.cell 2⟩
  go_region_held3 (fun W => W.cell? ⟨w.heap.size, 0, none⟩ = some (.slice A g.vs.length c) ∧ W.cell? ⟨w.heap.size, 1, none⟩ = some (.slice B g.es.length d) ∧ W.cell? ⟨w.heap.size, 2, none⟩ = some (.slice C rots.length ce)) (first | exact S10.out | exact S9.out | exact S8.out | exact S7.out) (first
    | (go_at_call 15; refine (HGE.out _ HM9.out).mono ?_; rintro e w10 ⟨rfl, hb10⟩; have HB10 := Lib.hid (HB9.out.trans (Below.mono hb10 HB9.out.size)); have HM10 := Lib.hid (HM9.out.kept hb10); have HK10 := Lib.hid (HK9.out.kept hb10 HK9.out.lt); have HV10 := Lib.hid (HV9.out.kept hb10); have HU10 := Lib.hid (HU9.out.kept hb10); have S10 : Hid (w10.cell? ⟨w.heap.size, 0, none⟩ = some (.slice A g.vs.length c) ∧ w10.cell? ⟨w.heap.size, 1, none⟩ = some (.slice B g.es.length d) ∧ w10.cell? ⟨w.heap.size, 2, none⟩ = some (.slice C rots.length ce)) := ⟨HK10.out.cell 0, HK10.out.cell 1, HK10.out.cell 2⟩; clear hb10)
    | (go_at_call 16; refine (HTW.out _ HM8.out).mono ?_; rintro e w9 ⟨rfl, hb9⟩; have HB9 := Lib.hid (HB8.out.trans (Below.mono hb9 HB8.out.size)); have HM9 := Lib.hid (HM8.out.kept hb9); have HK9 := Lib.hid (HK8.out.kept hb9 HK8.out.lt); have HV9 := Lib.hid (HV8.out.kept hb9); have HU9 := Lib.hid (HU8.out.kept hb9); have S9 : Hid (w9.cell? ⟨w.heap.size, 0, none⟩ = some (.slice A g.vs.length c) ∧ w9.cell? ⟨w.heap.size, 1, none⟩ = some (.slice B g.es.length d) ∧ w9.cell? ⟨w.heap.size, 2, none⟩ = some (.slice C rots.length ce)) := ⟨HK9.out.cell 0, HK9.out.cell 1, HK9.out.cell 2⟩; clear hb9)
    | (go_at_call 15; refine (HGE.out _ HM7.out).mono ?_; rintro e w8 ⟨rfl, hb8⟩; have HB8 := Lib.hid (HB7.out.trans (Below.mono hb8 HB7.out.size)); have HM8 := Lib.hid (HM7.out.kept hb8); have HK8 := Lib.hid (HK7.out.kept hb8 HK7.out.lt); have HV8 := Lib.hid (HV7.out.kept hb8); have HU8 := Lib.hid (HU7.out.kept hb8); have S8 : Hid (w8.cell? ⟨w.heap.size, 0, none⟩ = some (.slice A g.vs.length c) ∧ w8.cell? ⟨w.heap.size, 1, none⟩ = some (.slice B g.es.length d) ∧ w8.cell? ⟨w.heap.size, 2, none⟩ = some (.slice C rots.length ce)) := ⟨HK8.out.cell 0, HK8.out.cell 1, HK8.out.cell 2⟩; clear hb8))
  clear e1 e2
  go_wp2
  have HRA := HV10
  have HRB := HU10
  go_loopw [7, 45] (fun a i wr => ∃ (k : Nat), k ≤ fs.length ∧ i = .int .i64 k ∧ a = .int .i64 (((fs.take k).map List.length).sum : Nat) ∧ Below w10.heap.size w10 wr) (fun _ i _ => fs.length - (intOf i).toNat)
  case atStart => exact ⟨0, Nat.zero_le _, rfl, rfl, Below.refl _ _⟩
  case round =>
    obtain ⟨k, hk, rfl, rfl, hb⟩ := hrel
    have HBr := Lib.hid hb
    have HBW : Hid (Below w.heap.size w wr) := HB10.out.trans (Below.mono hb HB10.out.size)
    have HKr := Lib.hid (HK10.out.kept hb HK10.out.lt)
    have HMr := Lib.hid (HM10.out.kept hb)
    have HVr := Lib.hid (HRA.out.kept hb)
    have HUr := Lib.hid (HRB.out.kept hb)
    clear hb
    by_cases hlt : k < fs.length
    · obtain ⟨b5, o5, rfl⟩ := HVr.out.base (by omega)
      obtain ⟨b6, o6, rfl⟩ := HUr.out.base (by omega)
      obtain ⟨A7, c7, hc7, hv7⟩ := HVr.out.row hlt
      obtain ⟨A8, c8, hc8, hv8⟩ := HUr.out.row hlt
      have HV7 := Lib.hid (hv7.kept (Below.dr _ wr))
      have HV8 := Lib.hid (hv8.kept (Below.dr _ wr))
      have HS := Lib.hid (sum_take hlt)
      have hs1 := sum_le (rows := fs) (k + 1)
      have hsu := HSUM.out
      rw [HS.out, hsu] at hs1
      clear hsu
      have S0 : Hid (wr.drew.cell? ⟨b5, o5 + k, none⟩ = some (.slice A7 (fs.getD k []).length c7) ∧ wr.drew.cell? ⟨b6, o6 + k, none⟩ = some (.slice A8 (fs.getD k []).length c8)) := ⟨hc7, hc8⟩
      have HDr : Hid (Below wr.heap.size wr wr.drew) := Below.dr _ wr
      have HC7 := Lib.hid hc7
      have HC8 := Lib.hid hc8
      have HC8 := Lib.hid hc8
      clear hc7 hc8 hv7 hv8
      generalize hrow : fs.getD k [] = row at *
      clear hrow
      generalize hsm : ((fs.take k).map List.length).sum = sm at *
      clear hsm
      go_wp2
      go_region_held3 (fun W => W.cell? ⟨b5, o5 + k, none⟩ = some (.slice A7 row.length c7) ∧ W.cell? ⟨b6, o6 + k, none⟩ = some (.slice A8 row.length c8)) (first | exact S1.out | exact S0.out) (first
        | (go_at_call 17; refine (rsame_one _ _ _ _ HV7.out HV8.out).mono ?_; rintro e w11 ⟨rfl, hb11⟩; have HB11 : Hid (Below wr.heap.size wr w11) := HDr.out.trans hb11; have hc7 : w11.cell? ⟨b5, o5 + k, none⟩ = some (.slice A7 row.length c7) := (HB11.out.cell (World.block_lt_of_cell? _ _ HC7.out)).trans HC7.out; have S1 : Hid (w11.cell? ⟨b5, o5 + k, none⟩ = some (.slice A7 row.length c7) ∧ w11.cell? ⟨b6, o6 + k, none⟩ = some (.slice A8 row.length c8)) := ⟨hc7, (HB11.out.cell (World.block_lt_of_cell? _ _ HC8.out)).trans HC8.out⟩; clear hb11))
      have e1 : IntKind.i64.wrap ((sm : Int) + (row.length : Int)) = (sm : Int) + (row.length : Int) := IntWalk.i64_in _ (by omega)
      go_wp2
      go_roundw
      case rel => exact ⟨k + 1, by omega, by go_num, by rw [HS.out]; go_num, HBr.out.trans (Below.mono HB11.out HBr.out.size)⟩
      case measure => simp [intOf]; omega
    · obtain rfl : k = fs.length := by omega
      have hsum : (((fs.take fs.length).map List.length).sum : Int) = 2 * (g.es.length : Int) := by rw [List.take_length, HSUM.out]; simp
      rw [hsum]
      clear hsum hlt hk
      have k0 := HKr.out.cell 0
      have k1 := HKr.out.cell 1
      have k2 := HKr.out.cell 2
      have e2 := HE2.out
      have HB10r := HBW
      by_cases hq : rots.findIdx (fun t => t.contains x) < rots.length
      · have hti : tix rots x = (rots.findIdx (fun t => t.contains x) : Nat) := if_pos hq
        have htr : tro rots x = rots.getD (rots.findIdx (fun t => t.contains x)) [] := rfl
        rw [hti] at HTI
        rw [htr] at HTU
        clear hti htr
        generalize rots.findIdx (fun t => t.contains x) = q at *
        have HQ := Lib.hid hq
        generalize hrow : rots.getD q [] = row at *
        have HROW := Lib.hid hrow
        clear hrow
        have h0R : 0 < rots.length := by omega
        clear hq
        go_wp2_with (first
          | (go_at_call 18; refine (HTI.out _ HMr.out).mono ?_; rintro e w12 ⟨rfl, hb12⟩; have HB12 := Lib.hid (HB10r.out.trans (Below.mono hb12 HB10r.out.size)); have HM12 := Lib.hid (HMr.out.kept hb12); have HK12 := Lib.hid (HKr.out.kept hb12 HKr.out.lt); have k3 := HK12.out.cell 0; have k4 := HK12.out.cell 1; have k5 := HK12.out.cell 2; clear hb12)
          | (go_at_call 19; refine (HTU.out _ HM12.out).mono ?_; rintro e w13 ⟨u13, rfl, hu13, hb13⟩; have HU13 := Lib.hid hu13; obtain ⟨A13, c13, hv13, _, _⟩ := hu13; subst hv13; have HB13 := Lib.hid (HB12.out.trans (Below.mono hb13 HB12.out.size)); have HM13 := Lib.hid (HM12.out.kept hb13); have HK13 := Lib.hid (HK12.out.kept hb13 HK12.out.lt); clear hb13))
        clear k0 k1 k2 k3 k4 k5
        have HB14 := Lib.hid (HB13.out.trans (Below.dr _ w13))
        have HK14 : Hid (Blk w13.drew w.heap.size 28 #[.slice A g.vs.length c, .slice B g.es.length d, .slice C rots.length ce]) := HK13.out
        have HM14 := Lib.hid (HM.out.kept HB14.out)
        have HU14 := Lib.hid (HU13.out.kept (Below.dr _ w13))
        have HRR14 := Lib.hid (HRR.out.kept HB14.out)
        obtain ⟨bR, oR, hAR⟩ := HRR.out.base h0R
        subst hAR
        obtain ⟨AR, cR, hcR, hvR⟩ := HRR14.out.row HQ.out
        rw [HROW.out] at hcR hvR
        have HVR14 := Lib.hid hvR
        clear hvR
        have t0 : decide ((q : Int) < 0) = false := decide_eq_false (by omega)
        have t1 : decide ((q : Int) ≥ 0) = true := decide_eq_true (by omega)
        have S0 : Hid ((w13.drew.cell? ⟨w.heap.size, 0, none⟩ = some (.slice A g.vs.length c) ∧ w13.drew.cell? ⟨w.heap.size, 1, none⟩ = some (.slice B g.es.length d) ∧ w13.drew.cell? ⟨w.heap.size, 2, none⟩ = some (.slice (some ⟨bR, oR, none⟩) rots.length ce)) ∧ w13.drew.cell? ⟨bR, oR + q, none⟩ = some (.slice AR row.length cR)) := ⟨⟨HK14.out.cell 0, HK14.out.cell 1, HK14.out.cell 2⟩, hcR⟩
        have HLR := Lib.hid (World.block_lt_of_cell? _ _ hcR)
        have HCR := Lib.hid hcR
        clear hcR
        have hqr := HQ.out
        first | (go_region_held3 (fun W => (W.cell? ⟨w.heap.size, 0, none⟩ = some (.slice A g.vs.length c) ∧ W.cell? ⟨w.heap.size, 1, none⟩ = some (.slice B g.es.length d) ∧ W.cell? ⟨w.heap.size, 2, none⟩ = some (.slice (some ⟨bR, oR, none⟩) rots.length ce)) ∧ W.cell? ⟨bR, oR + q, none⟩ = some (.slice AR row.length cR)) (first | exact S4.out | exact S3.out | exact S2.out | exact S1.out | exact S0.out) (first
              | (go_at_call 17; refine (rsame_one _ _ _ _ HU17.out HVR17.out).mono ?_; rintro e w18 ⟨rfl, hb18⟩; have HB18 := Lib.hid (HB17.out.trans (Below.mono hb18 HB17.out.size)); have HM18 := Lib.hid (HM17.out.kept hb18); have HK18 := Lib.hid (HK17.out.kept hb18 HK17.out.lt); have HC18 : Hid (w18.cell? ⟨bR, oR + q, none⟩ = some (.slice AR row.length cR)) := (hb18.cell (World.block_lt_of_cell? _ _ HC17.out)).trans HC17.out; have S4 : Hid ((w18.cell? ⟨w.heap.size, 0, none⟩ = some (.slice A g.vs.length c) ∧ w18.cell? ⟨w.heap.size, 1, none⟩ = some (.slice B g.es.length d) ∧ w18.cell? ⟨w.heap.size, 2, none⟩ = some (.slice (some ⟨bR, oR, none⟩) rots.length ce)) ∧ w18.cell? ⟨bR, oR + q, none⟩ = some (.slice AR row.length cR)) := ⟨⟨HK18.out.cell 0, HK18.out.cell 1, HK18.out.cell 2⟩, HC18.out⟩; clear hb18)
              | (go_at_call 17; refine (rsame_one _ _ _ _ HF16.out HG16.out).mono ?_; rintro e w17 ⟨rfl, hb17⟩; have HB17 := Lib.hid (HB16.out.trans (Below.mono hb17 HB16.out.size)); have HM17 := Lib.hid (HM16.out.kept hb17); have HK17 := Lib.hid (HK16.out.kept hb17 HK16.out.lt); have HU17 := Lib.hid (HU16.out.kept hb17); have HVR17 := Lib.hid (HVR16.out.kept hb17); have HC17 : Hid (w17.cell? ⟨bR, oR + q, none⟩ = some (.slice AR row.length cR)) := (hb17.cell (World.block_lt_of_cell? _ _ HC16.out)).trans HC16.out; have S3 : Hid ((w17.cell? ⟨w.heap.size, 0, none⟩ = some (.slice A g.vs.length c) ∧ w17.cell? ⟨w.heap.size, 1, none⟩ = some (.slice B g.es.length d) ∧ w17.cell? ⟨w.heap.size, 2, none⟩ = some (.slice (some ⟨bR, oR, none⟩) rots.length ce)) ∧ w17.cell? ⟨bR, oR + q, none⟩ = some (.slice AR row.length cR)) := ⟨⟨HK17.out.cell 0, HK17.out.cell 1, HK17.out.cell 2⟩, HC17.out⟩; clear hb17)
              | (go_at_call 20; refine (HFC.out _ HM14.out).mono ?_; rintro e w15 ⟨u15, rfl, hu15, hb15⟩; have HB15 := Lib.hid (HB14.out.trans (Below.mono hb15 HB14.out.size)); have HM15 := Lib.hid (HM14.out.kept hb15); have HK15 := Lib.hid (HK14.out.kept hb15 HK14.out.lt); have HU15 := Lib.hid (HU14.out.kept hb15); have HVR15 := Lib.hid (HVR14.out.kept hb15); have HF15 := Lib.hid hu15; have HC15 : Hid (w15.cell? ⟨bR, oR + q, none⟩ = some (.slice AR row.length cR)) := (hb15.cell HLR.out).trans HCR.out; have S1 : Hid ((w15.cell? ⟨w.heap.size, 0, none⟩ = some (.slice A g.vs.length c) ∧ w15.cell? ⟨w.heap.size, 1, none⟩ = some (.slice B g.es.length d) ∧ w15.cell? ⟨w.heap.size, 2, none⟩ = some (.slice (some ⟨bR, oR, none⟩) rots.length ce)) ∧ w15.cell? ⟨bR, oR + q, none⟩ = some (.slice AR row.length cR)) := ⟨⟨HK15.out.cell 0, HK15.out.cell 1, HK15.out.cell 2⟩, HC15.out⟩; clear hb15 hu15)
              | (go_at_call 21; refine (HRFC.out _ HM15.out).mono ?_; rintro e w16 ⟨u16, rfl, hu16, hb16⟩; have HB16 := Lib.hid (HB15.out.trans (Below.mono hb16 HB15.out.size)); have HM16 := Lib.hid (HM15.out.kept hb16); have HK16 := Lib.hid (HK15.out.kept hb16 HK15.out.lt); have HU16 := Lib.hid (HU15.out.kept hb16); have HVR16 := Lib.hid (HVR15.out.kept hb16); have HF16 := Lib.hid (HF15.out.kept hb16); have HG16 := Lib.hid hu16; have HC16 : Hid (w16.cell? ⟨bR, oR + q, none⟩ = some (.slice AR row.length cR)) := (hb16.cell (World.block_lt_of_cell? _ _ HC15.out)).trans HC15.out; have S2 : Hid ((w16.cell? ⟨w.heap.size, 0, none⟩ = some (.slice A g.vs.length c) ∧ w16.cell? ⟨w.heap.size, 1, none⟩ = some (.slice B g.es.length d) ∧ w16.cell? ⟨w.heap.size, 2, none⟩ = some (.slice (some ⟨bR, oR, none⟩) rots.length ce)) ∧ w16.cell? ⟨bR, oR + q, none⟩ = some (.slice AR row.length cR)) := ⟨⟨HK16.out.cell 0, HK16.out.cell 1, HK16.out.cell 2⟩, HC16.out⟩; clear hb16 hu16))) | fail
        go_wp2
        go_ret
        exact ⟨rfl, HB18.out⟩
      · obtain ⟨htr, hti⟩ := tro_none hq
        rw [hti] at HTI
        rw [htr] at HTU
        clear hti htr hq
        go_wp2_with (first
          | (go_at_call 18; refine (HTI.out _ HMr.out).mono ?_; rintro e w12 ⟨rfl, hb12⟩; have HB12 := Lib.hid (HB10r.out.trans (Below.mono hb12 HB10r.out.size)); have HM12 := Lib.hid (HMr.out.kept hb12); have HK12 := Lib.hid (HKr.out.kept hb12 HKr.out.lt); have k3 := HK12.out.cell 0; have k4 := HK12.out.cell 1; have k5 := HK12.out.cell 2; clear hb12)
          | (go_at_call 19; refine (HTU.out _ HM12.out).mono ?_; rintro e w13 ⟨u13, rfl, hu13, hb13⟩; obtain ⟨A13, c13, hv13, _, _⟩ := hu13; replace hv13 : u13 = .slice A13 0 c13 := hv13; subst hv13; have HB13 := Lib.hid (HB12.out.trans (Below.mono hb13 HB12.out.size)); have HM13 := Lib.hid (HM12.out.kept hb13); have HK13 := Lib.hid (HK12.out.kept hb13 HK12.out.lt); clear hb13))
        clear k0 k1 k2 k3 k4 k5
        have HB14 := Lib.hid (HB13.out.trans (Below.dr _ w13))
        have HK14 : Hid (Blk w13.drew w.heap.size 28 #[.slice A g.vs.length c, .slice B g.es.length d, .slice C rots.length ce]) := HK13.out
        have HM14 := Lib.hid (HM.out.kept HB14.out)
        have t1 : (((0 : Nat) : Int) == 0) = true := rfl
        have t2 : decide ((-1 : Int) < 0) = true := rfl
        have S0 : Hid (w13.drew.cell? ⟨w.heap.size, 0, none⟩ = some (.slice A g.vs.length c) ∧ w13.drew.cell? ⟨w.heap.size, 1, none⟩ = some (.slice B g.es.length d) ∧ w13.drew.cell? ⟨w.heap.size, 2, none⟩ = some (.slice C rots.length ce)) := ⟨HK14.out.cell 0, HK14.out.cell 1, HK14.out.cell 2⟩
        first | (go_region_held3 (fun W => W.cell? ⟨w.heap.size, 0, none⟩ = some (.slice A g.vs.length c) ∧ W.cell? ⟨w.heap.size, 1, none⟩ = some (.slice B g.es.length d) ∧ W.cell? ⟨w.heap.size, 2, none⟩ = some (.slice C rots.length ce)) (first | exact S3.out | exact S2.out | exact S1.out | exact S0.out) (first
              | (go_at_call 17; refine (rsame_one _ _ _ _ HF16.out HG16.out).mono ?_; rintro e w17 ⟨rfl, hb17⟩; have HB17 := Lib.hid (HB16.out.trans (Below.mono hb17 HB16.out.size)); have HM17 := Lib.hid (HM16.out.kept hb17); have HK17 := Lib.hid (HK16.out.kept hb17 HK16.out.lt); have S3 : Hid (w17.cell? ⟨w.heap.size, 0, none⟩ = some (.slice A g.vs.length c) ∧ w17.cell? ⟨w.heap.size, 1, none⟩ = some (.slice B g.es.length d) ∧ w17.cell? ⟨w.heap.size, 2, none⟩ = some (.slice C rots.length ce)) := ⟨HK17.out.cell 0, HK17.out.cell 1, HK17.out.cell 2⟩; clear hb17)
              | (go_at_call 20; refine (HFC.out _ HM14.out).mono ?_; rintro e w15 ⟨u15, rfl, hu15, hb15⟩; have HB15 := Lib.hid (HB14.out.trans (Below.mono hb15 HB14.out.size)); have HM15 := Lib.hid (HM14.out.kept hb15); have HK15 := Lib.hid (HK14.out.kept hb15 HK14.out.lt); have HF15 := Lib.hid hu15; have S1 : Hid (w15.cell? ⟨w.heap.size, 0, none⟩ = some (.slice A g.vs.length c) ∧ w15.cell? ⟨w.heap.size, 1, none⟩ = some (.slice B g.es.length d) ∧ w15.cell? ⟨w.heap.size, 2, none⟩ = some (.slice C rots.length ce)) := ⟨HK15.out.cell 0, HK15.out.cell 1, HK15.out.cell 2⟩; clear hb15 hu15)
              | (go_at_call 21; refine (HRFC.out _ HM15.out).mono ?_; rintro e w16 ⟨u16, rfl, hu16, hb16⟩; have HB16 := Lib.hid (HB15.out.trans (Below.mono hb16 HB15.out.size)); have HM16 := Lib.hid (HM15.out.kept hb16); have HK16 := Lib.hid (HK15.out.kept hb16 HK15.out.lt); have HF16 := Lib.hid (HF15.out.kept hb16); have HG16 := Lib.hid hu16; have S2 : Hid (w16.cell? ⟨w.heap.size, 0, none⟩ = some (.slice A g.vs.length c) ∧ w16.cell? ⟨w.heap.size, 1, none⟩ = some (.slice B g.es.length d) ∧ w16.cell? ⟨w.heap.size, 2, none⟩ = some (.slice C rots.length ce)) := ⟨HK16.out.cell 0, HK16.out.cell 1, HK16.out.cell 2⟩; clear hb16 hu16))) | fail
        go_wp2
        go_ret
        exact ⟨rfl, HB17.out⟩
end Go.Proofs.YtcinbmekjlmdpaaGreat
