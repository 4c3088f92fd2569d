/- RotFaces: the law's walk. -/
import Derived.Test.YtcinbmekjlmdpaaGreatY0o
import Derived.Test.YtcinbmekjlmdpaaGreatY0s
import Derived.Test.YtcinbmekjlmdpaaGreatY0t
import Derived.Test.YtcinbmekjlmdpaaGreatY0u
import Derived.Test.YtcinbmekjlmdpaaGreatY0v

/-! RotFaces: the law's walk. -/
namespace Go.Proofs.YtcinbmekjlmdpaaGreat
open Go.RowKit

attribute [local irreducible] V
attribute [local irreducible] wpList in
set_option maxRecDepth 100000 in
set_option maxHeartbeats 2000000 in
/-- A map that is not gone through. -/
theorem rotfaces_many (w : World) (A B C : Option Addr) (n c m d r e : Nat) (x : UInt32) (h : ¬ (n ≤ 70 ∧ m ≤ 60 ∧ r ≤ 80)) :
    Calls Tryz.prog 4 #[.agg #[.slice A n c, .slice B m d, .slice C r e], V x] w fun e w' => e = .returned (.bool true) ∧ Below w.heap.size w w' := by
  have HB0 : Hid (Below w.heap.size w (w.alloc (.cells #[.slice A n c, .slice B m d, .slice C r e] 28))) := (Below.refl _ w).alloc (Nat.le_refl _) _
  have HK0 : Hid (Blk (w.alloc (.cells #[.slice A n c, .slice B m d, .slice C r e] 28)) w.heap.size 28 #[.slice A n c, .slice B m d, .slice C r e]) := Blk.fresh _ _ _
  have hF : (decide (n ≤ 70) && decide (m ≤ 60) && decide (r ≤ 80)) = false := by
    rw [Bool.eq_false_iff]; intro q; apply h
    simp only [Bool.and_eq_true, decide_eq_true_eq] at q
    exact ⟨q.1.1, q.1.2, q.2⟩
  have HF := Lib.hid hF
  clear h hF
  go_enter Tryz.func4, Tryz.ntmps4
  go_wp2_with (first
    | (go_at_call 7; refine (awake10_walk _).mono ?_; rintro e w1 ⟨rfl, hb1⟩; have HB1 := Lib.hid (HB0.out.trans (Below.mono hb1 HB0.out.size)); have HK1 := Lib.hid (HK0.out.kept hb1 HK0.out.lt); have k0 := HK1.out.cell 0; have k1 := HK1.out.cell 1; have k2 := HK1.out.cell 2; clear hb1)
    | (go_at_call 8; refine (few_walk w1 A B C n c m d r e).mono ?_; rintro e w2 ⟨rfl, hb2⟩; rw [HF.out]; have HB2 := Lib.hid (HB1.out.trans (Below.mono hb2 HB1.out.size)); clear hb2))
  go_ret
  exact ⟨rfl, HB2.out⟩
attribute [local irreducible] wpList in
set_option maxRecDepth 100000 in
set_option maxHeartbeats 2000000 in
/-- A map that may not be. -/
theorem rotfaces_bad (w : World) (v : Value) (g : Gr) (rots : List (List UInt32)) (x : UInt32) (h : RMx w v g rots) (hn : g.vs.length ≤ 70) (hm : g.es.length ≤ 60) (hr : rots.length ≤ 80) (hk : ¬ rck g rots = 0) :
    Calls Tryz.prog 4 #[v, V x] w fun e w' => e = .returned (.bool true) ∧ Below w.heap.size w w' := by
  have HM := Lib.hid h
  obtain ⟨A, c, B, d, C, ce, rfl, _, _⟩ := h
  have HB0 : Hid (Below w.heap.size w (w.alloc (.cells #[.slice A g.vs.length c, .slice B g.es.length d, .slice C rots.length ce] 28))) := (Below.refl _ w).alloc (Nat.le_refl _) _
  have HK0 : Hid (Blk (w.alloc (.cells #[.slice A g.vs.length c, .slice B g.es.length d, .slice C rots.length ce] 28)) w.heap.size 28 #[.slice A g.vs.length c, .slice B g.es.length d, .slice C rots.length ce]) := Blk.fresh _ _ _
  have hF : (decide (g.vs.length ≤ 70) && decide (g.es.length ≤ 60) && decide (rots.length ≤ 80)) = true := by
    rw [decide_eq_true hn, decide_eq_true hm, decide_eq_true hr]; rfl
  have HF := Lib.hid hF
  have HC := Lib.hid (fun W hW => rcheckx_walk W (.agg #[.slice A g.vs.length c, .slice B g.es.length d, .slice C rots.length ce]) g rots hW (by omega))
  have t0 : (rck g rots != 0) = true := by simpa using hk
  clear hF hk
  generalize rck g rots = z at *
  go_enter Tryz.func4, Tryz.ntmps4
  go_wp2_with (first
    | (go_at_call 7; refine (awake10_walk _).mono ?_; rintro e w1 ⟨rfl, hb1⟩; have HB1 := Lib.hid (HB0.out.trans (Below.mono hb1 HB0.out.size)); have HK1 := Lib.hid (HK0.out.kept hb1 HK0.out.lt); have k0 := HK1.out.cell 0; have k1 := HK1.out.cell 1; have k2 := HK1.out.cell 2; clear hb1)
    | (go_at_call 8; refine (few_walk w1 A B C _ c _ d _ ce).mono ?_; rintro e w2 ⟨rfl, hb2⟩; rw [HF.out]; have HB2 := Lib.hid (HB1.out.trans (Below.mono hb2 HB1.out.size)); have HK2 := Lib.hid (HK1.out.kept hb2 HK1.out.lt); have k3 := HK2.out.cell 0; have k4 := HK2.out.cell 1; have k5 := HK2.out.cell 2; clear hb2)
    | (go_at_call 10; refine (HC.out _ (HM.out.kept HB2.out)).mono ?_; rintro e w3 ⟨rfl, hb3⟩; have HB3 := Lib.hid (HB2.out.trans (Below.mono hb3 HB2.out.size)); clear hb3))
  go_ret
  exact ⟨rfl, HB3.out⟩
theorem rsame_one (w : World) (v u : Value) (l : List UInt32) (h : RV w v l) (h2 : RV w u l) : Calls Tryz.prog 17 #[v, u] w fun e w' => e = .returned (.bool true) ∧ Below w.heap.size w w' := by
  have := rsame_rv w v u l l h h2
  rwa [decide_eq_true rfl] at this
theorem tro_none {rots : List (List UInt32)} {x : UInt32} (h : ¬ rots.findIdx (fun t => t.contains x) < rots.length) : tro rots x = [] ∧ tix rots x = -1 := by
  refine ⟨?_, if_neg h⟩
  unfold tro
  rw [List.getD_eq_getElem?_getD, List.getElem?_eq_none (by omega)]
  rfl
theorem RRv.row {w : World} {b o n c : Nat} {ls : List (List UInt32)} (h : RRv w (.slice (some ⟨b, o, none⟩) n c) ls) {i : Nat} (hi : i < ls.length) : ∃ A c, w.cell? ⟨b, o + i, none⟩ = some (.slice A (ls.getD i []).length c) ∧ RV w (.slice A (ls.getD i []).length c) (ls.getD i []) := by
  obtain ⟨A, c2, h1, _, h3⟩ := h
  injection h1 with h1 _ _
  subst h1
  obtain ⟨b2, o2, h4, _, h5⟩ := h3 (by omega)
  injection h4 with h4
  injection h4 with h4 h6
  subst h4 h6
  obtain ⟨u, h7, h8⟩ := h5 i hi
  obtain ⟨A3, c3, rfl, _, _⟩ := id h8
  exact ⟨A3, c3, h7, h8⟩
theorem RRv.base {w : World} {A : Option Addr} {n c : Nat} {ls : List (List UInt32)} (h : RRv w (.slice A n c) ls) (h0 : 0 < ls.length) : ∃ b o, A = some ⟨b, o, none⟩ := by
  obtain ⟨A2, c2, h1, _, h3⟩ := h
  injection h1 with h1 _ _
  subst h1
  obtain ⟨b2, o2, h4, _, h5⟩ := h3 h0
  exact ⟨b2, o2, h4⟩
theorem sum_take {rows : List (List UInt32)} {k : Nat} (hk : k < rows.length) : ((rows.take (k + 1)).map List.length).sum = ((rows.take k).map List.length).sum + (rows.getD k []).length := by
  have : rows.take (k + 1) = rows.take k ++ [rows.getD k []] := by
    rw [List.take_add_one, List.getElem?_eq_getElem hk, List.getD_eq_getElem?_getD, List.getElem?_eq_getElem hk]; rfl
  rw [this, List.map_append, List.sum_append]; simp
theorem sum_le {rows : List (List UInt32)} (k : Nat) : ((rows.take k).map List.length).sum ≤ (rows.map List.length).sum := by
  have : rows.map List.length = (rows.take k).map List.length ++ (rows.drop k).map List.length := by rw [← List.map_append, List.take_append_drop]
  rw [this, List.sum_append]; omega
attribute [local irreducible] wpList in
set_option maxRecDepth 100000 in
set_option maxHeartbeats 4000000 in
/-- A map that may be. -/
theorem rotfaces_good (w : World) (v : Value) (g : Gr) (rots : List (List UInt32)) (x : UInt32) (h : RM w v g rots) (hx : RMx w v g rots) (hn : g.vs.length ≤ 70) (hm : g.es.length ≤ 60) (hr : rots.length ≤ 80) (hk : rck g rots = 0) :
    Calls Tryz.prog 4 #[v, V x] w fun e w' => e = .returned (.bool true) ∧ Below w.heap.size w w' := by
  have HM := Lib.hid h
  have HMX := Lib.hid hx
  have hok := MapOk.of hk
  obtain ⟨t, ht⟩ := hok.genus
  have htl : t ≤ 1000 := by
    have := parts_le g
    omega
  have HOK := Lib.hid hok
  have HFL : Hid (∀ l ∈ allf g rots, l.length ≤ 1000000) := fun l hl => by
    unfold allf fcs at hl
    obtain ⟨y, _, rfl⟩ := List.mem_map.1 hl
    have h1 := MapOk.face_len (g := g) (rots := rots) y
    have h2 := dts_len g.es
    omega
  have hsum := hok.sum
  have hfl : (allf g rots).length ≤ 1000000 := by
    have h1 := hok.faces_len
    have h2 := parts_le g
    omega
  obtain ⟨A, c, B, d, C, ce, rfl, _, hrr⟩ := h
  have HRR := Lib.hid hrr
  have HB0 : Hid (Below w.heap.size w (w.alloc (.cells #[.slice A g.vs.length c, .slice B g.es.length d, .slice C rots.length ce] 28))) := (Below.refl _ w).alloc (Nat.le_refl _) _
  have HK0 : Hid (Blk (w.alloc (.cells #[.slice A g.vs.length c, .slice B g.es.length d, .slice C rots.length ce] 28)) w.heap.size 28 #[.slice A g.vs.length c, .slice B g.es.length d, .slice C rots.length ce]) := Blk.fresh _ _ _
  have hF : (decide (g.vs.length ≤ 70) && decide (g.es.length ≤ 60) && decide (rots.length ≤ 80)) = true := by
    rw [decide_eq_true hn, decide_eq_true hm, decide_eq_true hr]; rfl
  have HF := Lib.hid hF
  have HC := Lib.hid (fun W hW => rcheckx_walk W (.agg #[.slice A g.vs.length c, .slice B g.es.length d, .slice C rots.length ce]) g rots hW (by omega))
  rw [hk] at HC
  have HFA := Lib.hid (fun W hW => faces_walk W (.agg #[.slice A g.vs.length c, .slice B g.es.length d, .slice C rots.length ce]) g rots hW hok)
  have HRFA := Lib.hid (fun W hW => rfaces_walk W (.agg #[.slice A g.vs.length c, .slice B g.es.length d, .slice C rots.length ce]) g rots hW hok)
  have HGE := Lib.hid (fun W hW => genus_walk W (.agg #[.slice A g.vs.length c, .slice B g.es.length d, .slice C rots.length ce]) g rots t hW hok ht)
  have HTW := Lib.hid (fun W hW => rtwice_walk W (.agg #[.slice A g.vs.length c, .slice B g.es.length d, .slice C rots.length ce]) g rots t hW hok ht)
  have HTI := Lib.hid (fun W hW => rturn_walk W (.agg #[.slice A g.vs.length c, .slice B g.es.length d, .slice C rots.length ce]) g rots x hW (by omega))
  have HTU := Lib.hid (fun W hW => turn_walk W (.agg #[.slice A g.vs.length c, .slice B g.es.length d, .slice C rots.length ce]) g rots x hW (by omega))
  have HFC := Lib.hid (fun W hW => face_walk W (.agg #[.slice A g.vs.length c, .slice B g.es.length d, .slice C rots.length ce]) g rots x hW hok)
  have HRFC := Lib.hid (fun W hW => rface_walk W (.agg #[.slice A g.vs.length c, .slice B g.es.length d, .slice C rots.length ce]) g rots x hW hok)
  have HNEG : Hid (decide ((t : Int) < 0) = false) := decide_eq_false (by omega)
  have HE1 : Hid (IntKind.i64.wrap (2 * (t : Int)) = 2 * (t : Int)) := IntWalk.i64_in _ (by omega)
  have HE2 : Hid (IntKind.i64.wrap (2 * (g.es.length : Int)) = 2 * (g.es.length : Int)) := IntWalk.i64_in _ (by omega)
  have HSUM := Lib.hid hsum
  clear hrr hF hk ht hok hsum hx
  generalize allf g rots = fs at *
  go_enter Tryz.func4, Tryz.ntmps4
  go_wp2_with (first
    | (go_at_call 7; refine (awake10_walk _).mono ?_; rintro e w1 ⟨rfl, hb1⟩; have HB1 := Lib.hid (HB0.out.trans (Below.mono hb1 HB0.out.size)); have HK1 := Lib.hid (HK0.out.kept hb1 HK0.out.lt); have k0 := HK1.out.cell 0; have k1 := HK1.out.cell 1; have k2 := HK1.out.cell 2; clear hb1)
    | (go_at_call 8; refine (few_walk w1 A B C _ c _ d _ ce).mono ?_; rintro e w2 ⟨rfl, hb2⟩; rw [HF.out]; have HB2 := Lib.hid (HB1.out.trans (Below.mono hb2 HB1.out.size)); have HK2 := Lib.hid (HK1.out.kept hb2 HK1.out.lt); have k3 := HK2.out.cell 0; have k4 := HK2.out.cell 1; have k5 := HK2.out.cell 2; clear hb2)
    | (go_at_call 10; refine (HC.out _ (HMX.out.kept HB2.out)).mono ?_; rintro e w3 ⟨rfl, hb3⟩; have HB3 := Lib.hid (HB2.out.trans (Below.mono hb3 HB2.out.size)); have HK3 := Lib.hid (HK2.out.kept hb3 HK2.out.lt); clear hb3))
  clear k0 k1 k2 k3 k4 k5
  have HB4 := Lib.hid (HB3.out.trans (Below.dr _ w3))
  have HK4 : Hid (Blk w3.drew w.heap.size 28 #[.slice A g.vs.length c, .slice B g.es.length d, .slice C rots.length ce]) := HK3.out
  have HM4 := Lib.hid (HM.out.kept HB4.out)
  have S0 : Hid (w3.drew.cell? ⟨w.heap.size, 0, none⟩ = some (.slice A g.vs.length c) ∧ w3.drew.cell? ⟨w.heap.size, 1, none⟩ = some (.slice B g.es.length d) ∧ w3.drew.cell? ⟨w.heap.size, 2, none⟩ = some (.slice C rots.length ce)) := ⟨HK4.out.cell 0, HK4.out.cell 1, HK4.out.cell 2⟩
  go_region_held3 (fun W => W.cell? ⟨w.heap.size, 0, none⟩ = some (.slice A g.vs.length c) ∧ W.cell? ⟨w.heap.size, 1, none⟩ = some (.slice B g.es.length d) ∧ W.cell? ⟨w.heap.size, 2, none⟩ = some (.slice C rots.length ce)) (first | exact S2.out | exact S1.out | exact S0.out) (first
    | (go_at_call 13; refine (HFA.out _ HM4.out).mono ?_; rintro e w5 ⟨u5, rfl, hu5, hb5⟩; have HB5 := Lib.hid (HB4.out.trans (Below.mono hb5 HB4.out.size)); have HM5 := Lib.hid (HM4.out.kept hb5); have HK5 := Lib.hid (HK4.out.kept hb5 HK4.out.lt); have S1 : Hid (w5.cell? ⟨w.heap.size, 0, none⟩ = some (.slice A g.vs.length c) ∧ w5.cell? ⟨w.heap.size, 1, none⟩ = some (.slice B g.es.length d) ∧ w5.cell? ⟨w.heap.size, 2, none⟩ = some (.slice C rots.length ce)) := ⟨HK5.out.cell 0, HK5.out.cell 1, HK5.out.cell 2⟩; have HU5 := Lib.hid (hu5.rr HFL.out); obtain ⟨A5, c5, hv5⟩ := hu5.slice; subst hv5; clear hu5 hb5)
    | (go_at_call 14; refine (HRFA.out _ HM5.out).mono ?_; rintro e w6 ⟨u6, rfl, hu6, hb6⟩; have HB6 := Lib.hid (HB5.out.trans (Below.mono hb6 HB5.out.size)); have HM6 := Lib.hid (HM5.out.kept hb6); have HK6 := Lib.hid (HK5.out.kept hb6 HK5.out.lt); have S2 : Hid (w6.cell? ⟨w.heap.size, 0, none⟩ = some (.slice A g.vs.length c) ∧ w6.cell? ⟨w.heap.size, 1, none⟩ = some (.slice B g.es.length d) ∧ w6.cell? ⟨w.heap.size, 2, none⟩ = some (.slice C rots.length ce)) := ⟨HK6.out.cell 0, HK6.out.cell 1, HK6.out.cell 2⟩; have HV6 := Lib.hid (HU5.out.kept hb6); have HU6 := Lib.hid (hu6.rr HFL.out); obtain ⟨A6, c6, hv6⟩ := hu6.slice; subst hv6; clear hu6 hb6))
  go_wp2
  have e1 := HE1.out
  have e2 := HNEG.out
  have HB7 := Lib.hid (HB6.out.trans (Below.dr _ w6))
  have HK7 : Hid (Blk w6.drew w.heap.size 28 #[.slice A g.vs.length c, .slice B g.es.length d, .slice C rots.length ce]) := HK6.out
  have HM7 := Lib.hid (HM.out.kept HB7.out)
  have HV7 := Lib.hid (HV6.out.kept (Below.dr _ w6))
  have HU7 := Lib.hid (HU6.out.kept (Below.dr _ w6))
  have S7 : Hid (w6.drew.cell? ⟨w.heap.size, 0, none⟩ = some (.slice A g.vs.length c) ∧ w6.drew.cell? ⟨w.heap.size, 1, none⟩ = some (.slice B g.es.length d) ∧ w6.drew.cell? ⟨w.heap.size, 2, none⟩ = some (.slice C rots.length ce)) := ⟨HK7.out.cell 0, HK7.out.cell 1, HK7.out.cell 2⟩
  go_region_held3 (fun W => W.cell? ⟨w.heap.size, 0, none⟩ = some (.slice A g.vs.length c) ∧ W.cell? ⟨w.heap.size, 1, none⟩ = some (.slice B g.es.length d) ∧ W.cell? ⟨w.heap.size, 2, none⟩ = some (.slice C rots.length ce)) (first | exact S10.out | exact S9.out | exact S8.out | exact S7.out) (first
    | (go_at_call 15; refine (HGE.out _ HM9.out).mono ?_; rintro e w10 ⟨rfl, hb10⟩; have HB10 := Lib.hid (HB9.out.trans (Below.mono hb10 HB9.out.size)); have HM10 := Lib.hid (HM9.out.kept hb10); have HK10 := Lib.hid (HK9.out.kept hb10 HK9.out.lt); have HV10 := Lib.hid (HV9.out.kept hb10); have HU10 := Lib.hid (HU9.out.kept hb10); have S10 : Hid (w10.cell? ⟨w.heap.size, 0, none⟩ = some (.slice A g.vs.length c) ∧ w10.cell? ⟨w.heap.size, 1, none⟩ = some (.slice B g.es.length d) ∧ w10.cell? ⟨w.heap.size, 2, none⟩ = some (.slice C rots.length ce)) := ⟨HK10.out.cell 0, HK10.out.cell 1, HK10.out.cell 2⟩; clear hb10)
    | (go_at_call 16; refine (HTW.out _ HM8.out).mono ?_; rintro e w9 ⟨rfl, hb9⟩; have HB9 := Lib.hid (HB8.out.trans (Below.mono hb9 HB8.out.size)); have HM9 := Lib.hid (HM8.out.kept hb9); have HK9 := Lib.hid (HK8.out.kept hb9 HK8.out.lt); have HV9 := Lib.hid (HV8.out.kept hb9); have HU9 := Lib.hid (HU8.out.kept hb9); have S9 : Hid (w9.cell? ⟨w.heap.size, 0, none⟩ = some (.slice A g.vs.length c) ∧ w9.cell? ⟨w.heap.size, 1, none⟩ = some (.slice B g.es.length d) ∧ w9.cell? ⟨w.heap.size, 2, none⟩ = some (.slice C rots.length ce)) := ⟨HK9.out.cell 0, HK9.out.cell 1, HK9.out.cell 2⟩; clear hb9)
    | (go_at_call 15; refine (HGE.out _ HM7.out).mono ?_; rintro e w8 ⟨rfl, hb8⟩; have HB8 := Lib.hid (HB7.out.trans (Below.mono hb8 HB7.out.size)); have HM8 := Lib.hid (HM7.out.kept hb8); have HK8 := Lib.hid (HK7.out.kept hb8 HK7.out.lt); have HV8 := Lib.hid (HV7.out.kept hb8); have HU8 := Lib.hid (HU7.out.kept hb8); have S8 : Hid (w8.cell? ⟨w.heap.size, 0, none⟩ = some (.slice A g.vs.length c) ∧ w8.cell? ⟨w.heap.size, 1, none⟩ = some (.slice B g.es.length d) ∧ w8.cell? ⟨w.heap.size, 2, none⟩ = some (.slice C rots.length ce)) := ⟨HK8.out.cell 0, HK8.out.cell 1, HK8.out.cell 2⟩; clear hb8))
  clear e1 e2
  go_wp2
  have HRA := HV10
  have HRB := HU10
  go_loopw [7, 45] (fun a i wr => ∃ (k : Nat), k ≤ fs.length ∧ i = .int .i64 k ∧ a = .int .i64 (((fs.take k).map List.length).sum : Nat) ∧ Below w10.heap.size w10 wr) (fun _ i _ => fs.length - (intOf i).toNat)
  case atStart => exact ⟨0, Nat.zero_le _, rfl, rfl, Below.refl _ _⟩
  case round =>
    obtain ⟨k, hk, rfl, rfl, hb⟩ := hrel
    have HBr := Lib.hid hb
    have HBW : Hid (Below w.heap.size w wr) := HB10.out.trans (Below.mono hb HB10.out.size)
    have HKr := Lib.hid (HK10.out.kept hb HK10.out.lt)
    have HMr := Lib.hid (HM10.out.kept hb)
    have HVr := Lib.hid (HRA.out.kept hb)
    have HUr := Lib.hid (HRB.out.kept hb)
    clear hb
    by_cases hlt : k < fs.length
    · obtain ⟨b5, o5, rfl⟩ := HVr.out.base (by omega)
      obtain ⟨b6, o6, rfl⟩ := HUr.out.base (by omega)
      obtain ⟨A7, c7, hc7, hv7⟩ := HVr.out.row hlt
      obtain ⟨A8, c8, hc8, hv8⟩ := HUr.out.row hlt
      have HV7 := Lib.hid (hv7.kept (Below.dr _ wr))
      have HV8 := Lib.hid (hv8.kept (Below.dr _ wr))
      have HS := Lib.hid (sum_take hlt)
      have hs1 := sum_le (rows := fs) (k + 1)
      have hsu := HSUM.out
      rw [HS.out, hsu] at hs1
      clear hsu
      have S0 : Hid (wr.drew.cell? ⟨b5, o5 + k, none⟩ = some (.slice A7 (fs.getD k []).length c7) ∧ wr.drew.cell? ⟨b6, o6 + k, none⟩ = some (.slice A8 (fs.getD k []).length c8)) := ⟨hc7, hc8⟩
      have HDr : Hid (Below wr.heap.size wr wr.drew) := Below.dr _ wr
      have HC7 := Lib.hid hc7
      have HC8 := Lib.hid hc8
      have HC8 := Lib.hid hc8
      clear hc7 hc8 hv7 hv8
      generalize hrow : fs.getD k [] = row at *
      clear hrow
      generalize hsm : ((fs.take k).map List.length).sum = sm at *
      clear hsm
      go_wp2
      go_region_held3 (fun W => W.cell? ⟨b5, o5 + k, none⟩ = some (.slice A7 row.length c7) ∧ W.cell? ⟨b6, o6 + k, none⟩ = some (.slice A8 row.length c8)) (first | exact S1.out | exact S0.out) (first
        | (go_at_call 17; refine (rsame_one _ _ _ _ HV7.out HV8.out).mono ?_; rintro e w11 ⟨rfl, hb11⟩; have HB11 : Hid (Below wr.heap.size wr w11) := HDr.out.trans hb11; have hc7 : w11.cell? ⟨b5, o5 + k, none⟩ = some (.slice A7 row.length c7) := (HB11.out.cell (World.block_lt_of_cell? _ _ HC7.out)).trans HC7.out; have S1 : Hid (w11.cell? ⟨b5, o5 + k, none⟩ = some (.slice A7 row.length c7) ∧ w11.cell? ⟨b6, o6 + k, none⟩ = some (.slice A8 row.length c8)) := ⟨hc7, (HB11.out.cell (World.block_lt_of_cell? _ _ HC8.out)).trans HC8.out⟩; clear hb11))
      have e1 : IntKind.i64.wrap ((sm : Int) + (row.length : Int)) = (sm : Int) + (row.length : Int) := IntWalk.i64_in _ (by omega)
      go_wp2
      go_roundw
      case rel => exact ⟨k + 1, by omega, by go_num, by rw [HS.out]; go_num, HBr.out.trans (Below.mono HB11.out HBr.out.size)⟩
      case measure => simp [intOf]; omega
    · obtain rfl : k = fs.length := by omega
      have hsum : (((fs.take fs.length).map List.length).sum : Int) = 2 * (g.es.length : Int) := by rw [List.take_length, HSUM.out]; simp
      rw [hsum]
      clear hsum hlt hk
      have k0 := HKr.out.cell 0
      have k1 := HKr.out.cell 1
      have k2 := HKr.out.cell 2
      have e2 := HE2.out
      have HB10r := HBW
      by_cases hq : rots.findIdx (fun t => t.contains x) < rots.length
      · have hti : tix rots x = (rots.findIdx (fun t => t.contains x) : Nat) := if_pos hq
        have htr : tro rots x = rots.getD (rots.findIdx (fun t => t.contains x)) [] := rfl
        rw [hti] at HTI
        rw [htr] at HTU
        clear hti htr
        generalize rots.findIdx (fun t => t.contains x) = q at *
        have HQ := Lib.hid hq
        generalize hrow : rots.getD q [] = row at *
        have HROW := Lib.hid hrow
        clear hrow
        have h0R : 0 < rots.length := by omega
        clear hq
        go_wp2_with (first
          | (go_at_call 18; refine (HTI.out _ HMr.out).mono ?_; rintro e w12 ⟨rfl, hb12⟩; have HB12 := Lib.hid (HB10r.out.trans (Below.mono hb12 HB10r.out.size)); have HM12 := Lib.hid (HMr.out.kept hb12); have HK12 := Lib.hid (HKr.out.kept hb12 HKr.out.lt); have k3 := HK12.out.cell 0; have k4 := HK12.out.cell 1; have k5 := HK12.out.cell 2; clear hb12)
          | (go_at_call 19; refine (HTU.out _ HM12.out).mono ?_; rintro e w13 ⟨u13, rfl, hu13, hb13⟩; have HU13 := Lib.hid hu13; obtain ⟨A13, c13, hv13, _, _⟩ := hu13; subst hv13; have HB13 := Lib.hid (HB12.out.trans (Below.mono hb13 HB12.out.size)); have HM13 := Lib.hid (HM12.out.kept hb13); have HK13 := Lib.hid (HK12.out.kept hb13 HK12.out.lt); clear hb13))
        clear k0 k1 k2 k3 k4 k5
        have HB14 := Lib.hid (HB13.out.trans (Below.dr _ w13))
        have HK14 : Hid (Blk w13.drew w.heap.size 28 #[.slice A g.vs.length c, .slice B g.es.length d, .slice C rots.length ce]) := HK13.out
        have HM14 := Lib.hid (HM.out.kept HB14.out)
        have HU14 := Lib.hid (HU13.out.kept (Below.dr _ w13))
        have HRR14 := Lib.hid (HRR.out.kept HB14.out)
        obtain ⟨bR, oR, hAR⟩ := HRR.out.base h0R
        subst hAR
        obtain ⟨AR, cR, hcR, hvR⟩ := HRR14.out.row HQ.out
        rw [HROW.out] at hcR hvR
        have HVR14 := Lib.hid hvR
        clear hvR
        have t0 : decide ((q : Int) < 0) = false := decide_eq_false (by omega)
        have t1 : decide ((q : Int) ≥ 0) = true := decide_eq_true (by omega)
        have HCR := Lib.hid hcR
        have HSW : Hid (∀ W, Up w13.drew W → (W.cell? ⟨w.heap.size, 0, none⟩ = some (.slice A g.vs.length c) ∧ W.cell? ⟨w.heap.size, 1, none⟩ = some (.slice B g.es.length d) ∧ W.cell? ⟨w.heap.size, 2, none⟩ = some (.slice (some ⟨bR, oR, none⟩) rots.length ce)) ∧ W.cell? ⟨bR, oR + q, none⟩ = some (.slice AR row.length cR)) := fun W hW => ⟨⟨(HK14.out.kept hW HK14.out.lt).cell 0, (HK14.out.kept hW HK14.out.lt).cell 1, (HK14.out.kept hW HK14.out.lt).cell 2⟩, (Below.cell hW (World.block_lt_of_cell? _ _ HCR.out)).trans HCR.out⟩
        have HMW : Hid (∀ W, Up w13.drew W → RM W (.agg #[.slice A g.vs.length c, .slice B g.es.length d, .slice (some ⟨bR, oR, none⟩) rots.length ce]) g rots) := fun W hW => HM14.out.kept hW
        have HRW : Hid (∀ W, Up w13.drew W → RV W (.slice A13 row.length c13) row ∧ RV W (.slice AR row.length cR) row) := fun W hW => ⟨HU14.out.kept hW, HVR14.out.kept hW⟩
        have hqr := HQ.out
        have e2 := HE2.out
        clear hcR
        refine wp_region_up (by kernel_rfl) [[7], [2], [73], [74], [75], [76], [72, 77], [78], [2, 79], [1, 79], [80, 81, 79], [2, 79], [1, 79], [83, 84, 79], [82, 85, 79], [79, 86], [87], [9, 88], [89, 88], [90, 88], [10, 91], [92, 91], [93, 91], [91, 94, 88], [95, 88], [9, 96], [97, 96], [98, 96], [10, 99], [2, 99], [101, 99], [9, 99], [102, 103, 99], [104, 99], [100, 105, 99], [99, 106, 96], [96, 107, 88], [88, 108], [109]] [(72, Sp.is (.int .i64 (2 * (g.es.length : Int)))), (73, Sp.is (.pointer (some ⟨w.heap.size, 0, none⟩))), (74, Sp.is (.pointer (some ⟨w.heap.size, 1, none⟩))), (75, Sp.is (.slice B g.es.length d)), (76, Sp.is (.int .i64 (g.es.length : Int))), (77, Sp.is (.int .i64 (2 * (g.es.length : Int)))), (78, Sp.is (.bool true)), (79, Sp.is (.bool true)), (80, Sp.is (.agg #[.slice A g.vs.length c, .slice B g.es.length d, .slice (some ⟨bR, oR, none⟩) rots.length ce])), (81, Sp.is (V x)), (82, rvS (fcd g rots x)), (83, Sp.is (.agg #[.slice A g.vs.length c, .slice B g.es.length d, .slice (some ⟨bR, oR, none⟩) rots.length ce])), (84, Sp.is (V x)), (85, rvS (fcd g rots x)), (86, Sp.is (.bool true)), (87, Sp.is (.bool true)), (88, Sp.is (.bool true)), (89, Sp.is (.int .i64 (q : Int))), (90, Sp.is (.bool false)), (91, Sp.is (.bool false)), (92, Sp.is undef), (93, Sp.is undef), (94, Sp.is undef), (95, Sp.is (.bool false)), (96, Sp.is (.bool false)), (97, Sp.is (.int .i64 (q : Int))), (98, Sp.is (.bool true)), (99, Sp.is (.bool true)), (100, Sp.is (.slice A13 row.length c13)), (101, Sp.is (.pointer (some ⟨w.heap.size, 2, none⟩))), (102, Sp.is (.slice (some ⟨bR, oR, none⟩) rots.length ce)), (103, Sp.is (.int .i64 (q : Int))), (104, Sp.is (.pointer (some ⟨bR, oR + q, none⟩))), (105, Sp.is (.slice AR row.length cR)), (106, Sp.is (.bool true)), (107, Sp.is (.bool true)), (108, Sp.is (.bool true)), (109, Sp.is (.bool true)), (4, Sp.is (.bool true))] 110 rfl (by kernel_rfl) (by kernel_rfl) (by kernel_rfl) ?_ ?_
        · refine ⟨?_, ?_, ?_, ?_, ?_, ?_, ?_, ?_, ?_, ?_, ?_, ?_, ?_, ?_, ?_, ?_, ?_, ?_, ?_, ?_, ?_, ?_, ?_, ?_, ?_, ?_, ?_, ?_, ?_, ?_, ?_, ?_, ?_, ?_, ?_, ?_, ?_, ?_, ?_, trivial⟩
          · as_aux_lemma =>
            refine UpOb.plain rfl fun a W hR hl K hK => ?_
            have h7 : a.tmps.getD 7 undef = (.int .i64 (2 * (g.es.length : Int))) := hl 7 (by decide)
            replace hK : ∀ v W2, Up W W2 → v = (.int .i64 (2 * (g.es.length : Int))) → K (a.put (some 72) v) W2 := fun v W2 h1 h2 => hK v W2 h1 (fun d hd => by cases hd; exact h2)
            clear hl
            simp only [Array.getD_eq_getD_getElem?] at h7
            go_simp
            exact hK _ W (Up.refl W) rfl
          · as_aux_lemma =>
            refine UpOb.plain rfl fun a W hR hl K hK => ?_
            have h2 : a.tmps.getD 2 undef = (.pointer (some ⟨w.heap.size, 0, none⟩)) := hl 2 (by decide)
            replace hK : ∀ v W2, Up W W2 → v = (.pointer (some ⟨w.heap.size, 0, none⟩)) → K (a.put (some 73) v) W2 := fun v W2 h1 h2 => hK v W2 h1 (fun d hd => by cases hd; exact h2)
            clear hl
            simp only [Array.getD_eq_getD_getElem?] at h2
            go_simp
            exact hK _ W (Up.refl W) rfl
          · as_aux_lemma =>
            refine UpOb.plain rfl fun a W hR hl K hK => ?_
            have h73 : a.tmps.getD 73 undef = (.pointer (some ⟨w.heap.size, 0, none⟩)) := hl 73 (by decide)
            replace hK : ∀ v W2, Up W W2 → v = (.pointer (some ⟨w.heap.size, 1, none⟩)) → K (a.put (some 74) v) W2 := fun v W2 h1 h2 => hK v W2 h1 (fun d hd => by cases hd; exact h2)
            clear hl
            simp only [Array.getD_eq_getD_getElem?] at h73
            go_simp
            exact hK _ W (Up.refl W) rfl
          · as_aux_lemma =>
            refine UpOb.plain rfl fun a W hR hl K hK => ?_
            have h74 : a.tmps.getD 74 undef = (.pointer (some ⟨w.heap.size, 1, none⟩)) := hl 74 (by decide)
            replace hK : ∀ v W2, Up W W2 → v = (.slice B g.es.length d) → K (a.put (some 75) v) W2 := fun v W2 h1 h2 => hK v W2 h1 (fun d hd => by cases hd; exact h2)
            clear hl
            have hS := HSW.out W hR
            obtain ⟨⟨s0, s1, s2⟩, s3⟩ := hS
            simp only [Array.getD_eq_getD_getElem?] at h74
            go_simp
            exact hK _ W (Up.refl W) rfl
          · as_aux_lemma =>
            refine UpOb.plain rfl fun a W hR hl K hK => ?_
            have h75 : a.tmps.getD 75 undef = (.slice B g.es.length d) := hl 75 (by decide)
            replace hK : ∀ v W2, Up W W2 → v = (.int .i64 (g.es.length : Int)) → K (a.put (some 76) v) W2 := fun v W2 h1 h2 => hK v W2 h1 (fun d hd => by cases hd; exact h2)
            clear hl
            simp only [Array.getD_eq_getD_getElem?] at h75
            go_simp
            exact hK _ W (Up.refl W) rfl
          · as_aux_lemma =>
            refine UpOb.plain rfl fun a W hR hl K hK => ?_
            have h76 : a.tmps.getD 76 undef = (.int .i64 (g.es.length : Int)) := hl 76 (by decide)
            replace hK : ∀ v W2, Up W W2 → v = (.int .i64 (2 * (g.es.length : Int))) → K (a.put (some 77) v) W2 := fun v W2 h1 h2 => hK v W2 h1 (fun d hd => by cases hd; exact h2)
            clear hl
            simp only [Array.getD_eq_getD_getElem?] at h76
            go_simp
            exact hK _ W (Up.refl W) rfl
          · as_aux_lemma =>
            refine UpOb.plain rfl fun a W hR hl K hK => ?_
            have h72 : a.tmps.getD 72 undef = (.int .i64 (2 * (g.es.length : Int))) := hl 72 (by decide)
            have h77 : a.tmps.getD 77 undef = (.int .i64 (2 * (g.es.length : Int))) := hl 77 (by decide)
            replace hK : ∀ v W2, Up W W2 → v = (.bool true) → K (a.put (some 78) v) W2 := fun v W2 h1 h2 => hK v W2 h1 (fun d hd => by cases hd; exact h2)
            clear hl
            simp only [Array.getD_eq_getD_getElem?] at h72 h77
            go_simp
            exact hK _ W (Up.refl W) rfl
          · as_aux_lemma =>
            refine UpOb.plain rfl fun a W hR hl K hK => ?_
            have h78 : a.tmps.getD 78 undef = (.bool true) := hl 78 (by decide)
            replace hK : ∀ v W2, Up W W2 → v = (.bool true) → K (a.put (some 79) v) W2 := fun v W2 h1 h2 => hK v W2 h1 (fun d hd => by cases hd; exact h2)
            clear hl
            simp only [Array.getD_eq_getD_getElem?] at h78
            go_simp
            exact hK _ W (Up.refl W) rfl
          · as_aux_lemma =>
            refine UpOb.guarded (d := 79) rfl rfl (fun a W hl => hl 79 (by decide)) fun a W hR hl K hK => ?_
            have h2 : a.tmps.getD 2 undef = (.pointer (some ⟨w.heap.size, 0, none⟩)) := hl 2 (by decide)
            have h79 : a.tmps.getD 79 undef = (.bool true) := hl 79 (by decide)
            replace hK : ∀ v W2, Up W W2 → v = (.agg #[.slice A g.vs.length c, .slice B g.es.length d, .slice (some ⟨bR, oR, none⟩) rots.length ce]) → K (a.put (some 80) v) W2 := fun v W2 h1 h2 => hK v W2 h1 (fun d hd => by cases hd; exact h2)
            clear hl
            have hS := HSW.out W hR
            obtain ⟨⟨s0, s1, s2⟩, s3⟩ := hS
            simp only [Array.getD_eq_getD_getElem?] at h2 h79
            go_simp
            exact hK _ W (Up.refl W) rfl
          · as_aux_lemma =>
            refine UpOb.guarded (d := 79) rfl rfl (fun a W hl => hl 79 (by decide)) fun a W hR hl K hK => ?_
            have h1 : a.tmps.getD 1 undef = (V x) := hl 1 (by decide)
            have h79 : a.tmps.getD 79 undef = (.bool true) := hl 79 (by decide)
            replace hK : ∀ v W2, Up W W2 → v = (V x) → K (a.put (some 81) v) W2 := fun v W2 h1 h2 => hK v W2 h1 (fun d hd => by cases hd; exact h2)
            clear hl
            simp only [Array.getD_eq_getD_getElem?] at h1 h79
            go_simp
            exact hK _ W (Up.refl W) rfl
          · as_aux_lemma =>
            refine UpOb.guarded (d := 79) rfl rfl (fun a W hl => hl 79 (by decide)) fun a W hR hl K hK => ?_
            have h80 : a.tmps.getD 80 undef = (.agg #[.slice A g.vs.length c, .slice B g.es.length d, .slice (some ⟨bR, oR, none⟩) rots.length ce]) := hl 80 (by decide)
            have h81 : a.tmps.getD 81 undef = (V x) := hl 81 (by decide)
            have h79 : a.tmps.getD 79 undef = (.bool true) := hl 79 (by decide)
            replace hK : ∀ v W2, Up W W2 → RV W2 v (fcd g rots x) → K (a.put (some 82) v) W2 := fun v W2 h1 h2 => hK v W2 h1 (fun d hd => by cases hd; exact h2)
            clear hl
            simp only [Array.getD_eq_getD_getElem?] at h80 h81 h79
            go_simp
            refine (HFC.out W (HMW.out W hR)).mono ?_
            rintro e w4 ⟨v4, rfl, hv4, hb4⟩
            exact hK _ w4 hb4 hv4
          · as_aux_lemma =>
            refine UpOb.guarded (d := 79) rfl rfl (fun a W hl => hl 79 (by decide)) fun a W hR hl K hK => ?_
            have h2 : a.tmps.getD 2 undef = (.pointer (some ⟨w.heap.size, 0, none⟩)) := hl 2 (by decide)
            have h79 : a.tmps.getD 79 undef = (.bool true) := hl 79 (by decide)
            replace hK : ∀ v W2, Up W W2 → v = (.agg #[.slice A g.vs.length c, .slice B g.es.length d, .slice (some ⟨bR, oR, none⟩) rots.length ce]) → K (a.put (some 83) v) W2 := fun v W2 h1 h2 => hK v W2 h1 (fun d hd => by cases hd; exact h2)
            clear hl
            have hS := HSW.out W hR
            obtain ⟨⟨s0, s1, s2⟩, s3⟩ := hS
            simp only [Array.getD_eq_getD_getElem?] at h2 h79
            go_simp
            exact hK _ W (Up.refl W) rfl
          · as_aux_lemma =>
            refine UpOb.guarded (d := 79) rfl rfl (fun a W hl => hl 79 (by decide)) fun a W hR hl K hK => ?_
            have h1 : a.tmps.getD 1 undef = (V x) := hl 1 (by decide)
            have h79 : a.tmps.getD 79 undef = (.bool true) := hl 79 (by decide)
            replace hK : ∀ v W2, Up W W2 → v = (V x) → K (a.put (some 84) v) W2 := fun v W2 h1 h2 => hK v W2 h1 (fun d hd => by cases hd; exact h2)
            clear hl
            simp only [Array.getD_eq_getD_getElem?] at h1 h79
            go_simp
            exact hK _ W (Up.refl W) rfl
          · as_aux_lemma =>
            refine UpOb.guarded (d := 79) rfl rfl (fun a W hl => hl 79 (by decide)) fun a W hR hl K hK => ?_
            have h83 : a.tmps.getD 83 undef = (.agg #[.slice A g.vs.length c, .slice B g.es.length d, .slice (some ⟨bR, oR, none⟩) rots.length ce]) := hl 83 (by decide)
            have h84 : a.tmps.getD 84 undef = (V x) := hl 84 (by decide)
            have h79 : a.tmps.getD 79 undef = (.bool true) := hl 79 (by decide)
            replace hK : ∀ v W2, Up W W2 → RV W2 v (fcd g rots x) → K (a.put (some 85) v) W2 := fun v W2 h1 h2 => hK v W2 h1 (fun d hd => by cases hd; exact h2)
            clear hl
            simp only [Array.getD_eq_getD_getElem?] at h83 h84 h79
            go_simp
            refine (HRFC.out W (HMW.out W hR)).mono ?_
            rintro e w4 ⟨v4, rfl, hv4, hb4⟩
            exact hK _ w4 hb4 hv4
          · as_aux_lemma =>
            refine UpOb.guarded (d := 79) rfl rfl (fun a W hl => hl 79 (by decide)) fun a W hR hl K hK => ?_
            have h82 : RV W (a.tmps.getD 82 undef) (fcd g rots x) := hl 82 (by decide)
            generalize hv82 : a.tmps.getD 82 undef = v82 at h82
            have h85 : RV W (a.tmps.getD 85 undef) (fcd g rots x) := hl 85 (by decide)
            generalize hv85 : a.tmps.getD 85 undef = v85 at h85
            have h79 : a.tmps.getD 79 undef = (.bool true) := hl 79 (by decide)
            replace hK : ∀ v W2, Up W W2 → v = (.bool true) → K (a.put (some 86) v) W2 := fun v W2 h1 h2 => hK v W2 h1 (fun d hd => by cases hd; exact h2)
            clear hl
            simp only [Array.getD_eq_getD_getElem?] at hv82 hv85 h79
            go_simp
            refine (rsame_one W v82 v85 _ h82 h85).mono ?_
            rintro e w4 ⟨rfl, hb4⟩
            exact hK _ w4 hb4 rfl
          · as_aux_lemma =>
            refine UpOb.plain rfl fun a W hR hl K hK => ?_
            have h79 : a.tmps.getD 79 undef = (.bool true) := hl 79 (by decide)
            have h86 : a.tmps.getD 86 undef = (.bool true) := hl 86 (by decide)
            replace hK : ∀ v W2, Up W W2 → v = (.bool true) → K (a.put (some 87) v) W2 := fun v W2 h1 h2 => hK v W2 h1 (fun d hd => by cases hd; exact h2)
            clear hl
            simp only [Array.getD_eq_getD_getElem?] at h79 h86
            go_simp
            exact hK _ W (Up.refl W) rfl
          · as_aux_lemma =>
            refine UpOb.plain rfl fun a W hR hl K hK => ?_
            have h87 : a.tmps.getD 87 undef = (.bool true) := hl 87 (by decide)
            replace hK : ∀ v W2, Up W W2 → v = (.bool true) → K (a.put (some 88) v) W2 := fun v W2 h1 h2 => hK v W2 h1 (fun d hd => by cases hd; exact h2)
            clear hl
            simp only [Array.getD_eq_getD_getElem?] at h87
            go_simp
            exact hK _ W (Up.refl W) rfl
          · as_aux_lemma =>
            refine UpOb.guarded (d := 88) rfl rfl (fun a W hl => hl 88 (by decide)) fun a W hR hl K hK => ?_
            have h9 : a.tmps.getD 9 undef = (.int .i64 (q : Int)) := hl 9 (by decide)
            have h88 : a.tmps.getD 88 undef = (.bool true) := hl 88 (by decide)
            replace hK : ∀ v W2, Up W W2 → v = (.int .i64 (q : Int)) → K (a.put (some 89) v) W2 := fun v W2 h1 h2 => hK v W2 h1 (fun d hd => by cases hd; exact h2)
            clear hl
            simp only [Array.getD_eq_getD_getElem?] at h9 h88
            go_simp
            exact hK _ W (Up.refl W) rfl
          · as_aux_lemma =>
            refine UpOb.guarded (d := 88) rfl rfl (fun a W hl => hl 88 (by decide)) fun a W hR hl K hK => ?_
            have h89 : a.tmps.getD 89 undef = (.int .i64 (q : Int)) := hl 89 (by decide)
            have h88 : a.tmps.getD 88 undef = (.bool true) := hl 88 (by decide)
            replace hK : ∀ v W2, Up W W2 → v = (.bool false) → K (a.put (some 90) v) W2 := fun v W2 h1 h2 => hK v W2 h1 (fun d hd => by cases hd; exact h2)
            clear hl
            simp only [Array.getD_eq_getD_getElem?] at h89 h88
            go_simp
            exact hK _ W (Up.refl W) rfl
          · as_aux_lemma =>
            refine UpOb.guarded (d := 88) rfl rfl (fun a W hl => hl 88 (by decide)) fun a W hR hl K hK => ?_
            have h90 : a.tmps.getD 90 undef = (.bool false) := hl 90 (by decide)
            have h88 : a.tmps.getD 88 undef = (.bool true) := hl 88 (by decide)
            replace hK : ∀ v W2, Up W W2 → v = (.bool false) → K (a.put (some 91) v) W2 := fun v W2 h1 h2 => hK v W2 h1 (fun d hd => by cases hd; exact h2)
            clear hl
            simp only [Array.getD_eq_getD_getElem?] at h90 h88
            go_simp
            exact hK _ W (Up.refl W) rfl
          · as_aux_lemma =>
            exact UpOb.skip (d := 91) rfl rfl (.bool false) (fun a W hl => hl 91 (by decide)) (by simp [undef]) (by intro d W hd; cases hd; rfl)
          · as_aux_lemma =>
            exact UpOb.skip (d := 91) rfl rfl (.bool false) (fun a W hl => hl 91 (by decide)) (by simp [undef]) (by intro d W hd; cases hd; rfl)
          · as_aux_lemma =>
            exact UpOb.skip (d := 91) rfl rfl (.bool false) (fun a W hl => hl 91 (by decide)) (by simp [undef]) (by intro d W hd; cases hd; rfl)
          · as_aux_lemma =>
            refine UpOb.guarded (d := 88) rfl rfl (fun a W hl => hl 88 (by decide)) fun a W hR hl K hK => ?_
            have h91 : a.tmps.getD 91 undef = (.bool false) := hl 91 (by decide)
            have h94 : a.tmps.getD 94 undef = undef := hl 94 (by decide)
            have h88 : a.tmps.getD 88 undef = (.bool true) := hl 88 (by decide)
            replace hK : ∀ v W2, Up W W2 → v = (.bool false) → K (a.put (some 95) v) W2 := fun v W2 h1 h2 => hK v W2 h1 (fun d hd => by cases hd; exact h2)
            clear hl
            simp only [Array.getD_eq_getD_getElem?] at h91 h94 h88
            go_simp
            exact hK _ W (Up.refl W) rfl
          · as_aux_lemma =>
            refine UpOb.guarded (d := 88) rfl rfl (fun a W hl => hl 88 (by decide)) fun a W hR hl K hK => ?_
            have h95 : a.tmps.getD 95 undef = (.bool false) := hl 95 (by decide)
            have h88 : a.tmps.getD 88 undef = (.bool true) := hl 88 (by decide)
            replace hK : ∀ v W2, Up W W2 → v = (.bool false) → K (a.put (some 96) v) W2 := fun v W2 h1 h2 => hK v W2 h1 (fun d hd => by cases hd; exact h2)
            clear hl
            simp only [Array.getD_eq_getD_getElem?] at h95 h88
            go_simp
            exact hK _ W (Up.refl W) rfl
          · as_aux_lemma =>
            refine UpOb.guarded (d := 96) rfl rfl (fun a W hl => hl 96 (by decide)) fun a W hR hl K hK => ?_
            have h9 : a.tmps.getD 9 undef = (.int .i64 (q : Int)) := hl 9 (by decide)
            have h96 : a.tmps.getD 96 undef = (.bool false) := hl 96 (by decide)
            replace hK : ∀ v W2, Up W W2 → v = (.int .i64 (q : Int)) → K (a.put (some 97) v) W2 := fun v W2 h1 h2 => hK v W2 h1 (fun d hd => by cases hd; exact h2)
            clear hl
            simp only [Array.getD_eq_getD_getElem?] at h9 h96
            go_simp
            exact hK _ W (Up.refl W) rfl
          · as_aux_lemma =>
            refine UpOb.guarded (d := 96) rfl rfl (fun a W hl => hl 96 (by decide)) fun a W hR hl K hK => ?_
            have h97 : a.tmps.getD 97 undef = (.int .i64 (q : Int)) := hl 97 (by decide)
            have h96 : a.tmps.getD 96 undef = (.bool false) := hl 96 (by decide)
            replace hK : ∀ v W2, Up W W2 → v = (.bool true) → K (a.put (some 98) v) W2 := fun v W2 h1 h2 => hK v W2 h1 (fun d hd => by cases hd; exact h2)
            clear hl
            simp only [Array.getD_eq_getD_getElem?] at h97 h96
            go_simp
            exact hK _ W (Up.refl W) rfl
          · as_aux_lemma =>
            refine UpOb.guarded (d := 96) rfl rfl (fun a W hl => hl 96 (by decide)) fun a W hR hl K hK => ?_
            have h98 : a.tmps.getD 98 undef = (.bool true) := hl 98 (by decide)
            have h96 : a.tmps.getD 96 undef = (.bool false) := hl 96 (by decide)
            replace hK : ∀ v W2, Up W W2 → v = (.bool true) → K (a.put (some 99) v) W2 := fun v W2 h1 h2 => hK v W2 h1 (fun d hd => by cases hd; exact h2)
            clear hl
            simp only [Array.getD_eq_getD_getElem?] at h98 h96
            go_simp
            exact hK _ W (Up.refl W) rfl
          · as_aux_lemma =>
            refine UpOb.guarded (d := 99) rfl rfl (fun a W hl => hl 99 (by decide)) fun a W hR hl K hK => ?_
            have h10 : a.tmps.getD 10 undef = (.slice A13 row.length c13) := hl 10 (by decide)
            have h99 : a.tmps.getD 99 undef = (.bool true) := hl 99 (by decide)
            replace hK : ∀ v W2, Up W W2 → v = (.slice A13 row.length c13) → K (a.put (some 100) v) W2 := fun v W2 h1 h2 => hK v W2 h1 (fun d hd => by cases hd; exact h2)
            clear hl
            simp only [Array.getD_eq_getD_getElem?] at h10 h99
            go_simp
            exact hK _ W (Up.refl W) rfl
          · as_aux_lemma =>
            refine UpOb.guarded (d := 99) rfl rfl (fun a W hl => hl 99 (by decide)) fun a W hR hl K hK => ?_
            have h2 : a.tmps.getD 2 undef = (.pointer (some ⟨w.heap.size, 0, none⟩)) := hl 2 (by decide)
            have h99 : a.tmps.getD 99 undef = (.bool true) := hl 99 (by decide)
            replace hK : ∀ v W2, Up W W2 → v = (.pointer (some ⟨w.heap.size, 2, none⟩)) → K (a.put (some 101) v) W2 := fun v W2 h1 h2 => hK v W2 h1 (fun d hd => by cases hd; exact h2)
            clear hl
            simp only [Array.getD_eq_getD_getElem?] at h2 h99
            go_simp
            exact hK _ W (Up.refl W) rfl
          · as_aux_lemma =>
            refine UpOb.guarded (d := 99) rfl rfl (fun a W hl => hl 99 (by decide)) fun a W hR hl K hK => ?_
            have h101 : a.tmps.getD 101 undef = (.pointer (some ⟨w.heap.size, 2, none⟩)) := hl 101 (by decide)
            have h99 : a.tmps.getD 99 undef = (.bool true) := hl 99 (by decide)
            replace hK : ∀ v W2, Up W W2 → v = (.slice (some ⟨bR, oR, none⟩) rots.length ce) → K (a.put (some 102) v) W2 := fun v W2 h1 h2 => hK v W2 h1 (fun d hd => by cases hd; exact h2)
            clear hl
            have hS := HSW.out W hR
            obtain ⟨⟨s0, s1, s2⟩, s3⟩ := hS
            simp only [Array.getD_eq_getD_getElem?] at h101 h99
            go_simp
            exact hK _ W (Up.refl W) rfl
          · as_aux_lemma =>
            refine UpOb.guarded (d := 99) rfl rfl (fun a W hl => hl 99 (by decide)) fun a W hR hl K hK => ?_
            have h9 : a.tmps.getD 9 undef = (.int .i64 (q : Int)) := hl 9 (by decide)
            have h99 : a.tmps.getD 99 undef = (.bool true) := hl 99 (by decide)
            replace hK : ∀ v W2, Up W W2 → v = (.int .i64 (q : Int)) → K (a.put (some 103) v) W2 := fun v W2 h1 h2 => hK v W2 h1 (fun d hd => by cases hd; exact h2)
            clear hl
            simp only [Array.getD_eq_getD_getElem?] at h9 h99
            go_simp
            exact hK _ W (Up.refl W) rfl
          · as_aux_lemma =>
            refine UpOb.guarded (d := 99) rfl rfl (fun a W hl => hl 99 (by decide)) fun a W hR hl K hK => ?_
            have h102 : a.tmps.getD 102 undef = (.slice (some ⟨bR, oR, none⟩) rots.length ce) := hl 102 (by decide)
            have h103 : a.tmps.getD 103 undef = (.int .i64 (q : Int)) := hl 103 (by decide)
            have h99 : a.tmps.getD 99 undef = (.bool true) := hl 99 (by decide)
            replace hK : ∀ v W2, Up W W2 → v = (.pointer (some ⟨bR, oR + q, none⟩)) → K (a.put (some 104) v) W2 := fun v W2 h1 h2 => hK v W2 h1 (fun d hd => by cases hd; exact h2)
            clear hl
            simp only [Array.getD_eq_getD_getElem?] at h102 h103 h99
            go_simp
            exact hK _ W (Up.refl W) rfl
          · as_aux_lemma =>
            refine UpOb.guarded (d := 99) rfl rfl (fun a W hl => hl 99 (by decide)) fun a W hR hl K hK => ?_
            have h104 : a.tmps.getD 104 undef = (.pointer (some ⟨bR, oR + q, none⟩)) := hl 104 (by decide)
            have h99 : a.tmps.getD 99 undef = (.bool true) := hl 99 (by decide)
            replace hK : ∀ v W2, Up W W2 → v = (.slice AR row.length cR) → K (a.put (some 105) v) W2 := fun v W2 h1 h2 => hK v W2 h1 (fun d hd => by cases hd; exact h2)
            clear hl
            have hS := HSW.out W hR
            obtain ⟨⟨s0, s1, s2⟩, s3⟩ := hS
            simp only [Array.getD_eq_getD_getElem?] at h104 h99
            go_simp
            exact hK _ W (Up.refl W) rfl
          · as_aux_lemma =>
            refine UpOb.guarded (d := 99) rfl rfl (fun a W hl => hl 99 (by decide)) fun a W hR hl K hK => ?_
            have h100 : a.tmps.getD 100 undef = (.slice A13 row.length c13) := hl 100 (by decide)
            have h105 : a.tmps.getD 105 undef = (.slice AR row.length cR) := hl 105 (by decide)
            have h99 : a.tmps.getD 99 undef = (.bool true) := hl 99 (by decide)
            replace hK : ∀ v W2, Up W W2 → v = (.bool true) → K (a.put (some 106) v) W2 := fun v W2 h1 h2 => hK v W2 h1 (fun d hd => by cases hd; exact h2)
            clear hl
            simp only [Array.getD_eq_getD_getElem?] at h100 h105 h99
            go_simp
            refine (rsame_one W _ _ row (HRW.out W hR).1 (HRW.out W hR).2).mono ?_
            rintro e w4 ⟨rfl, hb4⟩
            exact hK _ w4 hb4 rfl
          · as_aux_lemma =>
            refine UpOb.guarded (d := 96) rfl rfl (fun a W hl => hl 96 (by decide)) fun a W hR hl K hK => ?_
            have h99 : a.tmps.getD 99 undef = (.bool true) := hl 99 (by decide)
            have h106 : a.tmps.getD 106 undef = (.bool true) := hl 106 (by decide)
            have h96 : a.tmps.getD 96 undef = (.bool false) := hl 96 (by decide)
            replace hK : ∀ v W2, Up W W2 → v = (.bool true) → K (a.put (some 107) v) W2 := fun v W2 h1 h2 => hK v W2 h1 (fun d hd => by cases hd; exact h2)
            clear hl
            simp only [Array.getD_eq_getD_getElem?] at h99 h106 h96
            go_simp
            exact hK _ W (Up.refl W) rfl
          · as_aux_lemma =>
            refine UpOb.guarded (d := 88) rfl rfl (fun a W hl => hl 88 (by decide)) fun a W hR hl K hK => ?_
            have h96 : a.tmps.getD 96 undef = (.bool false) := hl 96 (by decide)
            have h107 : a.tmps.getD 107 undef = (.bool true) := hl 107 (by decide)
            have h88 : a.tmps.getD 88 undef = (.bool true) := hl 88 (by decide)
            replace hK : ∀ v W2, Up W W2 → v = (.bool true) → K (a.put (some 108) v) W2 := fun v W2 h1 h2 => hK v W2 h1 (fun d hd => by cases hd; exact h2)
            clear hl
            simp only [Array.getD_eq_getD_getElem?] at h96 h107 h88
            go_simp
            exact hK _ W (Up.refl W) rfl
          · as_aux_lemma =>
            refine UpOb.plain rfl fun a W hR hl K hK => ?_
            have h88 : a.tmps.getD 88 undef = (.bool true) := hl 88 (by decide)
            have h108 : a.tmps.getD 108 undef = (.bool true) := hl 108 (by decide)
            replace hK : ∀ v W2, Up W W2 → v = (.bool true) → K (a.put (some 109) v) W2 := fun v W2 h1 h2 => hK v W2 h1 (fun d hd => by cases hd; exact h2)
            clear hl
            simp only [Array.getD_eq_getD_getElem?] at h88 h108
            go_simp
            exact hK _ W (Up.refl W) rfl
          · as_aux_lemma =>
            refine UpOb.plain rfl fun a W hR hl K hK => ?_
            have h109 : a.tmps.getD 109 undef = (.bool true) := hl 109 (by decide)
            replace hK : ∀ v W2, Up W W2 → v = (.bool true) → K (a.put (some 4) v) W2 := fun v W2 h1 h2 => hK v W2 h1 (fun d hd => by cases hd; exact h2)
            clear hl
            simp only [Array.getD_eq_getD_getElem?] at h109
            go_simp
            exact hK _ W (Up.refl W) rfl
        · intro a W hd hR hl
          have h4 : a.tmps.getD 4 undef = .bool true := hl 4
          go_wp2
          exact bodyPost_ret (results_tmp rfl _ _ _) hd ⟨by rw [← h4], HB14.out.trans (Below.mono hR HB14.out.size)⟩
      · obtain ⟨htr, hti⟩ := tro_none hq
        rw [hti] at HTI
        rw [htr] at HTU
        clear hti htr hq
        go_wp2_with (first
          | (go_at_call 18; refine (HTI.out _ HMr.out).mono ?_; rintro e w12 ⟨rfl, hb12⟩; have HB12 := Lib.hid (HB10r.out.trans (Below.mono hb12 HB10r.out.size)); have HM12 := Lib.hid (HMr.out.kept hb12); have HK12 := Lib.hid (HKr.out.kept hb12 HKr.out.lt); have k3 := HK12.out.cell 0; have k4 := HK12.out.cell 1; have k5 := HK12.out.cell 2; clear hb12)
          | (go_at_call 19; refine (HTU.out _ HM12.out).mono ?_; rintro e w13 ⟨u13, rfl, hu13, hb13⟩; obtain ⟨A13, c13, hv13, _, _⟩ := hu13; replace hv13 : u13 = .slice A13 0 c13 := hv13; subst hv13; have HB13 := Lib.hid (HB12.out.trans (Below.mono hb13 HB12.out.size)); have HM13 := Lib.hid (HM12.out.kept hb13); have HK13 := Lib.hid (HK12.out.kept hb13 HK12.out.lt); clear hb13))
        clear k0 k1 k2 k3 k4 k5
        have HB14 := Lib.hid (HB13.out.trans (Below.dr _ w13))
        have HK14 : Hid (Blk w13.drew w.heap.size 28 #[.slice A g.vs.length c, .slice B g.es.length d, .slice C rots.length ce]) := HK13.out
        have HM14 := Lib.hid (HM.out.kept HB14.out)
        have t1 : (((0 : Nat) : Int) == 0) = true := rfl
        have t2 : decide ((-1 : Int) < 0) = true := rfl
        have HSW : Hid (∀ W, Up w13.drew W → (W.cell? ⟨w.heap.size, 0, none⟩ = some (.slice A g.vs.length c) ∧ W.cell? ⟨w.heap.size, 1, none⟩ = some (.slice B g.es.length d) ∧ W.cell? ⟨w.heap.size, 2, none⟩ = some (.slice C rots.length ce)) ∧ True) := fun W hW => ⟨⟨(HK14.out.kept hW HK14.out.lt).cell 0, (HK14.out.kept hW HK14.out.lt).cell 1, (HK14.out.kept hW HK14.out.lt).cell 2⟩, trivial⟩
        have HMW : Hid (∀ W, Up w13.drew W → RM W (.agg #[.slice A g.vs.length c, .slice B g.es.length d, .slice C rots.length ce]) g rots) := fun W hW => HM14.out.kept hW
        have e2 := HE2.out
        refine wp_region_up (by kernel_rfl) [[7], [2], [73], [74], [75], [76], [72, 77], [78], [2, 79], [1, 79], [80, 81, 79], [2, 79], [1, 79], [83, 84, 79], [82, 85, 79], [79, 86], [87], [9, 88], [89, 88], [90, 88], [10, 91], [92, 91], [93, 91], [91, 94, 88], [95, 88], [9, 96], [97, 96], [98, 96], [10, 99], [2, 99], [101, 99], [9, 99], [102, 103, 99], [104, 99], [100, 105, 99], [99, 106, 96], [96, 107, 88], [88, 108], [109]] [(72, Sp.is (.int .i64 (2 * (g.es.length : Int)))), (73, Sp.is (.pointer (some ⟨w.heap.size, 0, none⟩))), (74, Sp.is (.pointer (some ⟨w.heap.size, 1, none⟩))), (75, Sp.is (.slice B g.es.length d)), (76, Sp.is (.int .i64 (g.es.length : Int))), (77, Sp.is (.int .i64 (2 * (g.es.length : Int)))), (78, Sp.is (.bool true)), (79, Sp.is (.bool true)), (80, Sp.is (.agg #[.slice A g.vs.length c, .slice B g.es.length d, .slice C rots.length ce])), (81, Sp.is (V x)), (82, rvS (fcd g rots x)), (83, Sp.is (.agg #[.slice A g.vs.length c, .slice B g.es.length d, .slice C rots.length ce])), (84, Sp.is (V x)), (85, rvS (fcd g rots x)), (86, Sp.is (.bool true)), (87, Sp.is (.bool true)), (88, Sp.is (.bool true)), (89, Sp.is (.int .i64 (-1))), (90, Sp.is (.bool true)), (91, Sp.is (.bool true)), (92, Sp.is (.slice A13 0 c13)), (93, Sp.is (.int .i64 0)), (94, Sp.is (.bool true)), (95, Sp.is (.bool true)), (96, Sp.is (.bool true)), (97, Sp.is undef), (98, Sp.is undef), (99, Sp.is undef), (100, Sp.is undef), (101, Sp.is undef), (102, Sp.is undef), (103, Sp.is undef), (104, Sp.is undef), (105, Sp.is undef), (106, Sp.is undef), (107, Sp.is undef), (108, Sp.is (.bool true)), (109, Sp.is (.bool true)), (4, Sp.is (.bool true))] 110 rfl (by kernel_rfl) (by kernel_rfl) (by kernel_rfl) ?_ ?_
        · refine ⟨?_, ?_, ?_, ?_, ?_, ?_, ?_, ?_, ?_, ?_, ?_, ?_, ?_, ?_, ?_, ?_, ?_, ?_, ?_, ?_, ?_, ?_, ?_, ?_, ?_, ?_, ?_, ?_, ?_, ?_, ?_, ?_, ?_, ?_, ?_, ?_, ?_, ?_, ?_, trivial⟩
          · as_aux_lemma =>
            refine UpOb.plain rfl fun a W hR hl K hK => ?_
            have h7 : a.tmps.getD 7 undef = (.int .i64 (2 * (g.es.length : Int))) := hl 7 (by decide)
            replace hK : ∀ v W2, Up W W2 → v = (.int .i64 (2 * (g.es.length : Int))) → K (a.put (some 72) v) W2 := fun v W2 h1 h2 => hK v W2 h1 (fun d hd => by cases hd; exact h2)
            clear hl
            simp only [Array.getD_eq_getD_getElem?] at h7
            go_simp
            exact hK _ W (Up.refl W) rfl
          · as_aux_lemma =>
            refine UpOb.plain rfl fun a W hR hl K hK => ?_
            have h2 : a.tmps.getD 2 undef = (.pointer (some ⟨w.heap.size, 0, none⟩)) := hl 2 (by decide)
            replace hK : ∀ v W2, Up W W2 → v = (.pointer (some ⟨w.heap.size, 0, none⟩)) → K (a.put (some 73) v) W2 := fun v W2 h1 h2 => hK v W2 h1 (fun d hd => by cases hd; exact h2)
            clear hl
            simp only [Array.getD_eq_getD_getElem?] at h2
            go_simp
            exact hK _ W (Up.refl W) rfl
          · as_aux_lemma =>
            refine UpOb.plain rfl fun a W hR hl K hK => ?_
            have h73 : a.tmps.getD 73 undef = (.pointer (some ⟨w.heap.size, 0, none⟩)) := hl 73 (by decide)
            replace hK : ∀ v W2, Up W W2 → v = (.pointer (some ⟨w.heap.size, 1, none⟩)) → K (a.put (some 74) v) W2 := fun v W2 h1 h2 => hK v W2 h1 (fun d hd => by cases hd; exact h2)
            clear hl
            simp only [Array.getD_eq_getD_getElem?] at h73
            go_simp
            exact hK _ W (Up.refl W) rfl
          · as_aux_lemma =>
            refine UpOb.plain rfl fun a W hR hl K hK => ?_
            have h74 : a.tmps.getD 74 undef = (.pointer (some ⟨w.heap.size, 1, none⟩)) := hl 74 (by decide)
            replace hK : ∀ v W2, Up W W2 → v = (.slice B g.es.length d) → K (a.put (some 75) v) W2 := fun v W2 h1 h2 => hK v W2 h1 (fun d hd => by cases hd; exact h2)
            clear hl
            have hS := HSW.out W hR
            obtain ⟨⟨s0, s1, s2⟩, s3⟩ := hS
            simp only [Array.getD_eq_getD_getElem?] at h74
            go_simp
            exact hK _ W (Up.refl W) rfl
          · as_aux_lemma =>
            refine UpOb.plain rfl fun a W hR hl K hK => ?_
            have h75 : a.tmps.getD 75 undef = (.slice B g.es.length d) := hl 75 (by decide)
            replace hK : ∀ v W2, Up W W2 → v = (.int .i64 (g.es.length : Int)) → K (a.put (some 76) v) W2 := fun v W2 h1 h2 => hK v W2 h1 (fun d hd => by cases hd; exact h2)
            clear hl
            simp only [Array.getD_eq_getD_getElem?] at h75
            go_simp
            exact hK _ W (Up.refl W) rfl
          · as_aux_lemma =>
            refine UpOb.plain rfl fun a W hR hl K hK => ?_
            have h76 : a.tmps.getD 76 undef = (.int .i64 (g.es.length : Int)) := hl 76 (by decide)
            replace hK : ∀ v W2, Up W W2 → v = (.int .i64 (2 * (g.es.length : Int))) → K (a.put (some 77) v) W2 := fun v W2 h1 h2 => hK v W2 h1 (fun d hd => by cases hd; exact h2)
            clear hl
            simp only [Array.getD_eq_getD_getElem?] at h76
            go_simp
            exact hK _ W (Up.refl W) rfl
          · as_aux_lemma =>
            refine UpOb.plain rfl fun a W hR hl K hK => ?_
            have h72 : a.tmps.getD 72 undef = (.int .i64 (2 * (g.es.length : Int))) := hl 72 (by decide)
            have h77 : a.tmps.getD 77 undef = (.int .i64 (2 * (g.es.length : Int))) := hl 77 (by decide)
            replace hK : ∀ v W2, Up W W2 → v = (.bool true) → K (a.put (some 78) v) W2 := fun v W2 h1 h2 => hK v W2 h1 (fun d hd => by cases hd; exact h2)
            clear hl
            simp only [Array.getD_eq_getD_getElem?] at h72 h77
            go_simp
            exact hK _ W (Up.refl W) rfl
          · as_aux_lemma =>
            refine UpOb.plain rfl fun a W hR hl K hK => ?_
            have h78 : a.tmps.getD 78 undef = (.bool true) := hl 78 (by decide)
            replace hK : ∀ v W2, Up W W2 → v = (.bool true) → K (a.put (some 79) v) W2 := fun v W2 h1 h2 => hK v W2 h1 (fun d hd => by cases hd; exact h2)
            clear hl
            simp only [Array.getD_eq_getD_getElem?] at h78
            go_simp
            exact hK _ W (Up.refl W) rfl
          · as_aux_lemma =>
            refine UpOb.guarded (d := 79) rfl rfl (fun a W hl => hl 79 (by decide)) fun a W hR hl K hK => ?_
            have h2 : a.tmps.getD 2 undef = (.pointer (some ⟨w.heap.size, 0, none⟩)) := hl 2 (by decide)
            have h79 : a.tmps.getD 79 undef = (.bool true) := hl 79 (by decide)
            replace hK : ∀ v W2, Up W W2 → v = (.agg #[.slice A g.vs.length c, .slice B g.es.length d, .slice C rots.length ce]) → K (a.put (some 80) v) W2 := fun v W2 h1 h2 => hK v W2 h1 (fun d hd => by cases hd; exact h2)
            clear hl
            have hS := HSW.out W hR
            obtain ⟨⟨s0, s1, s2⟩, s3⟩ := hS
            simp only [Array.getD_eq_getD_getElem?] at h2 h79
            go_simp
            exact hK _ W (Up.refl W) rfl
          · as_aux_lemma =>
            refine UpOb.guarded (d := 79) rfl rfl (fun a W hl => hl 79 (by decide)) fun a W hR hl K hK => ?_
            have h1 : a.tmps.getD 1 undef = (V x) := hl 1 (by decide)
            have h79 : a.tmps.getD 79 undef = (.bool true) := hl 79 (by decide)
            replace hK : ∀ v W2, Up W W2 → v = (V x) → K (a.put (some 81) v) W2 := fun v W2 h1 h2 => hK v W2 h1 (fun d hd => by cases hd; exact h2)
            clear hl
            simp only [Array.getD_eq_getD_getElem?] at h1 h79
            go_simp
            exact hK _ W (Up.refl W) rfl
          · as_aux_lemma =>
            refine UpOb.guarded (d := 79) rfl rfl (fun a W hl => hl 79 (by decide)) fun a W hR hl K hK => ?_
            have h80 : a.tmps.getD 80 undef = (.agg #[.slice A g.vs.length c, .slice B g.es.length d, .slice C rots.length ce]) := hl 80 (by decide)
            have h81 : a.tmps.getD 81 undef = (V x) := hl 81 (by decide)
            have h79 : a.tmps.getD 79 undef = (.bool true) := hl 79 (by decide)
            replace hK : ∀ v W2, Up W W2 → RV W2 v (fcd g rots x) → K (a.put (some 82) v) W2 := fun v W2 h1 h2 => hK v W2 h1 (fun d hd => by cases hd; exact h2)
            clear hl
            simp only [Array.getD_eq_getD_getElem?] at h80 h81 h79
            go_simp
            refine (HFC.out W (HMW.out W hR)).mono ?_
            rintro e w4 ⟨v4, rfl, hv4, hb4⟩
            exact hK _ w4 hb4 hv4
          · as_aux_lemma =>
            refine UpOb.guarded (d := 79) rfl rfl (fun a W hl => hl 79 (by decide)) fun a W hR hl K hK => ?_
            have h2 : a.tmps.getD 2 undef = (.pointer (some ⟨w.heap.size, 0, none⟩)) := hl 2 (by decide)
            have h79 : a.tmps.getD 79 undef = (.bool true) := hl 79 (by decide)
            replace hK : ∀ v W2, Up W W2 → v = (.agg #[.slice A g.vs.length c, .slice B g.es.length d, .slice C rots.length ce]) → K (a.put (some 83) v) W2 := fun v W2 h1 h2 => hK v W2 h1 (fun d hd => by cases hd; exact h2)
            clear hl
            have hS := HSW.out W hR
            obtain ⟨⟨s0, s1, s2⟩, s3⟩ := hS
            simp only [Array.getD_eq_getD_getElem?] at h2 h79
            go_simp
            exact hK _ W (Up.refl W) rfl
          · as_aux_lemma =>
            refine UpOb.guarded (d := 79) rfl rfl (fun a W hl => hl 79 (by decide)) fun a W hR hl K hK => ?_
            have h1 : a.tmps.getD 1 undef = (V x) := hl 1 (by decide)
            have h79 : a.tmps.getD 79 undef = (.bool true) := hl 79 (by decide)
            replace hK : ∀ v W2, Up W W2 → v = (V x) → K (a.put (some 84) v) W2 := fun v W2 h1 h2 => hK v W2 h1 (fun d hd => by cases hd; exact h2)
            clear hl
            simp only [Array.getD_eq_getD_getElem?] at h1 h79
            go_simp
            exact hK _ W (Up.refl W) rfl
          · as_aux_lemma =>
            refine UpOb.guarded (d := 79) rfl rfl (fun a W hl => hl 79 (by decide)) fun a W hR hl K hK => ?_
            have h83 : a.tmps.getD 83 undef = (.agg #[.slice A g.vs.length c, .slice B g.es.length d, .slice C rots.length ce]) := hl 83 (by decide)
            have h84 : a.tmps.getD 84 undef = (V x) := hl 84 (by decide)
            have h79 : a.tmps.getD 79 undef = (.bool true) := hl 79 (by decide)
            replace hK : ∀ v W2, Up W W2 → RV W2 v (fcd g rots x) → K (a.put (some 85) v) W2 := fun v W2 h1 h2 => hK v W2 h1 (fun d hd => by cases hd; exact h2)
            clear hl
            simp only [Array.getD_eq_getD_getElem?] at h83 h84 h79
            go_simp
            refine (HRFC.out W (HMW.out W hR)).mono ?_
            rintro e w4 ⟨v4, rfl, hv4, hb4⟩
            exact hK _ w4 hb4 hv4
          · as_aux_lemma =>
            refine UpOb.guarded (d := 79) rfl rfl (fun a W hl => hl 79 (by decide)) fun a W hR hl K hK => ?_
            have h82 : RV W (a.tmps.getD 82 undef) (fcd g rots x) := hl 82 (by decide)
            generalize hv82 : a.tmps.getD 82 undef = v82 at h82
            have h85 : RV W (a.tmps.getD 85 undef) (fcd g rots x) := hl 85 (by decide)
            generalize hv85 : a.tmps.getD 85 undef = v85 at h85
            have h79 : a.tmps.getD 79 undef = (.bool true) := hl 79 (by decide)
            replace hK : ∀ v W2, Up W W2 → v = (.bool true) → K (a.put (some 86) v) W2 := fun v W2 h1 h2 => hK v W2 h1 (fun d hd => by cases hd; exact h2)
            clear hl
            simp only [Array.getD_eq_getD_getElem?] at hv82 hv85 h79
            go_simp
            refine (rsame_one W v82 v85 _ h82 h85).mono ?_
            rintro e w4 ⟨rfl, hb4⟩
            exact hK _ w4 hb4 rfl
          · as_aux_lemma =>
            refine UpOb.plain rfl fun a W hR hl K hK => ?_
            have h79 : a.tmps.getD 79 undef = (.bool true) := hl 79 (by decide)
            have h86 : a.tmps.getD 86 undef = (.bool true) := hl 86 (by decide)
            replace hK : ∀ v W2, Up W W2 → v = (.bool true) → K (a.put (some 87) v) W2 := fun v W2 h1 h2 => hK v W2 h1 (fun d hd => by cases hd; exact h2)
            clear hl
            simp only [Array.getD_eq_getD_getElem?] at h79 h86
            go_simp
            exact hK _ W (Up.refl W) rfl
          · as_aux_lemma =>
            refine UpOb.plain rfl fun a W hR hl K hK => ?_
            have h87 : a.tmps.getD 87 undef = (.bool true) := hl 87 (by decide)
            replace hK : ∀ v W2, Up W W2 → v = (.bool true) → K (a.put (some 88) v) W2 := fun v W2 h1 h2 => hK v W2 h1 (fun d hd => by cases hd; exact h2)
            clear hl
            simp only [Array.getD_eq_getD_getElem?] at h87
            go_simp
            exact hK _ W (Up.refl W) rfl
          · as_aux_lemma =>
            refine UpOb.guarded (d := 88) rfl rfl (fun a W hl => hl 88 (by decide)) fun a W hR hl K hK => ?_
            have h9 : a.tmps.getD 9 undef = (.int .i64 (-1)) := hl 9 (by decide)
            have h88 : a.tmps.getD 88 undef = (.bool true) := hl 88 (by decide)
            replace hK : ∀ v W2, Up W W2 → v = (.int .i64 (-1)) → K (a.put (some 89) v) W2 := fun v W2 h1 h2 => hK v W2 h1 (fun d hd => by cases hd; exact h2)
            clear hl
            simp only [Array.getD_eq_getD_getElem?] at h9 h88
            go_simp
            exact hK _ W (Up.refl W) rfl
          · as_aux_lemma =>
            refine UpOb.guarded (d := 88) rfl rfl (fun a W hl => hl 88 (by decide)) fun a W hR hl K hK => ?_
            have h89 : a.tmps.getD 89 undef = (.int .i64 (-1)) := hl 89 (by decide)
            have h88 : a.tmps.getD 88 undef = (.bool true) := hl 88 (by decide)
            replace hK : ∀ v W2, Up W W2 → v = (.bool true) → K (a.put (some 90) v) W2 := fun v W2 h1 h2 => hK v W2 h1 (fun d hd => by cases hd; exact h2)
            clear hl
            simp only [Array.getD_eq_getD_getElem?] at h89 h88
            go_simp
            exact hK _ W (Up.refl W) rfl
          · as_aux_lemma =>
            refine UpOb.guarded (d := 88) rfl rfl (fun a W hl => hl 88 (by decide)) fun a W hR hl K hK => ?_
            have h90 : a.tmps.getD 90 undef = (.bool true) := hl 90 (by decide)
            have h88 : a.tmps.getD 88 undef = (.bool true) := hl 88 (by decide)
            replace hK : ∀ v W2, Up W W2 → v = (.bool true) → K (a.put (some 91) v) W2 := fun v W2 h1 h2 => hK v W2 h1 (fun d hd => by cases hd; exact h2)
            clear hl
            simp only [Array.getD_eq_getD_getElem?] at h90 h88
            go_simp
            exact hK _ W (Up.refl W) rfl
          · as_aux_lemma =>
            refine UpOb.guarded (d := 91) rfl rfl (fun a W hl => hl 91 (by decide)) fun a W hR hl K hK => ?_
            have h10 : a.tmps.getD 10 undef = (.slice A13 0 c13) := hl 10 (by decide)
            have h91 : a.tmps.getD 91 undef = (.bool true) := hl 91 (by decide)
            replace hK : ∀ v W2, Up W W2 → v = (.slice A13 0 c13) → K (a.put (some 92) v) W2 := fun v W2 h1 h2 => hK v W2 h1 (fun d hd => by cases hd; exact h2)
            clear hl
            simp only [Array.getD_eq_getD_getElem?] at h10 h91
            go_simp
            exact hK _ W (Up.refl W) rfl
          · as_aux_lemma =>
            refine UpOb.guarded (d := 91) rfl rfl (fun a W hl => hl 91 (by decide)) fun a W hR hl K hK => ?_
            have h92 : a.tmps.getD 92 undef = (.slice A13 0 c13) := hl 92 (by decide)
            have h91 : a.tmps.getD 91 undef = (.bool true) := hl 91 (by decide)
            replace hK : ∀ v W2, Up W W2 → v = (.int .i64 0) → K (a.put (some 93) v) W2 := fun v W2 h1 h2 => hK v W2 h1 (fun d hd => by cases hd; exact h2)
            clear hl
            simp only [Array.getD_eq_getD_getElem?] at h92 h91
            go_simp
            exact hK _ W (Up.refl W) rfl
          · as_aux_lemma =>
            refine UpOb.guarded (d := 91) rfl rfl (fun a W hl => hl 91 (by decide)) fun a W hR hl K hK => ?_
            have h93 : a.tmps.getD 93 undef = (.int .i64 0) := hl 93 (by decide)
            have h91 : a.tmps.getD 91 undef = (.bool true) := hl 91 (by decide)
            replace hK : ∀ v W2, Up W W2 → v = (.bool true) → K (a.put (some 94) v) W2 := fun v W2 h1 h2 => hK v W2 h1 (fun d hd => by cases hd; exact h2)
            clear hl
            simp only [Array.getD_eq_getD_getElem?] at h93 h91
            go_simp
            exact hK _ W (Up.refl W) rfl
          · as_aux_lemma =>
            refine UpOb.guarded (d := 88) rfl rfl (fun a W hl => hl 88 (by decide)) fun a W hR hl K hK => ?_
            have h91 : a.tmps.getD 91 undef = (.bool true) := hl 91 (by decide)
            have h94 : a.tmps.getD 94 undef = (.bool true) := hl 94 (by decide)
            have h88 : a.tmps.getD 88 undef = (.bool true) := hl 88 (by decide)
            replace hK : ∀ v W2, Up W W2 → v = (.bool true) → K (a.put (some 95) v) W2 := fun v W2 h1 h2 => hK v W2 h1 (fun d hd => by cases hd; exact h2)
            clear hl
            simp only [Array.getD_eq_getD_getElem?] at h91 h94 h88
            go_simp
            exact hK _ W (Up.refl W) rfl
          · as_aux_lemma =>
            refine UpOb.guarded (d := 88) rfl rfl (fun a W hl => hl 88 (by decide)) fun a W hR hl K hK => ?_
            have h95 : a.tmps.getD 95 undef = (.bool true) := hl 95 (by decide)
            have h88 : a.tmps.getD 88 undef = (.bool true) := hl 88 (by decide)
            replace hK : ∀ v W2, Up W W2 → v = (.bool true) → K (a.put (some 96) v) W2 := fun v W2 h1 h2 => hK v W2 h1 (fun d hd => by cases hd; exact h2)
            clear hl
            simp only [Array.getD_eq_getD_getElem?] at h95 h88
            go_simp
            exact hK _ W (Up.refl W) rfl
          · as_aux_lemma =>
            exact UpOb.skip (d := 96) rfl rfl (.bool true) (fun a W hl => hl 96 (by decide)) (by simp [undef]) (by intro d W hd; cases hd; rfl)
          · as_aux_lemma =>
            exact UpOb.skip (d := 96) rfl rfl (.bool true) (fun a W hl => hl 96 (by decide)) (by simp [undef]) (by intro d W hd; cases hd; rfl)
          · as_aux_lemma =>
            exact UpOb.skip (d := 96) rfl rfl (.bool true) (fun a W hl => hl 96 (by decide)) (by simp [undef]) (by intro d W hd; cases hd; rfl)
          · as_aux_lemma =>
            exact UpOb.skip (d := 99) rfl rfl (undef) (fun a W hl => hl 99 (by decide)) (by simp [undef]) (by intro d W hd; cases hd; rfl)
          · as_aux_lemma =>
            exact UpOb.skip (d := 99) rfl rfl (undef) (fun a W hl => hl 99 (by decide)) (by simp [undef]) (by intro d W hd; cases hd; rfl)
          · as_aux_lemma =>
            exact UpOb.skip (d := 99) rfl rfl (undef) (fun a W hl => hl 99 (by decide)) (by simp [undef]) (by intro d W hd; cases hd; rfl)
          · as_aux_lemma =>
            exact UpOb.skip (d := 99) rfl rfl (undef) (fun a W hl => hl 99 (by decide)) (by simp [undef]) (by intro d W hd; cases hd; rfl)
          · as_aux_lemma =>
            exact UpOb.skip (d := 99) rfl rfl (undef) (fun a W hl => hl 99 (by decide)) (by simp [undef]) (by intro d W hd; cases hd; rfl)
          · as_aux_lemma =>
            exact UpOb.skip (d := 99) rfl rfl (undef) (fun a W hl => hl 99 (by decide)) (by simp [undef]) (by intro d W hd; cases hd; rfl)
          · as_aux_lemma =>
            exact UpOb.skip (d := 99) rfl rfl (undef) (fun a W hl => hl 99 (by decide)) (by simp [undef]) (by intro d W hd; cases hd; rfl)
          · as_aux_lemma =>
            exact UpOb.skip (d := 96) rfl rfl (.bool true) (fun a W hl => hl 96 (by decide)) (by simp [undef]) (by intro d W hd; cases hd; rfl)
          · as_aux_lemma =>
            refine UpOb.guarded (d := 88) rfl rfl (fun a W hl => hl 88 (by decide)) fun a W hR hl K hK => ?_
            have h96 : a.tmps.getD 96 undef = (.bool true) := hl 96 (by decide)
            have h107 : a.tmps.getD 107 undef = undef := hl 107 (by decide)
            have h88 : a.tmps.getD 88 undef = (.bool true) := hl 88 (by decide)
            replace hK : ∀ v W2, Up W W2 → v = (.bool true) → K (a.put (some 108) v) W2 := fun v W2 h1 h2 => hK v W2 h1 (fun d hd => by cases hd; exact h2)
            clear hl
            simp only [Array.getD_eq_getD_getElem?] at h96 h107 h88
            go_simp
            exact hK _ W (Up.refl W) rfl
          · as_aux_lemma =>
            refine UpOb.plain rfl fun a W hR hl K hK => ?_
            have h88 : a.tmps.getD 88 undef = (.bool true) := hl 88 (by decide)
            have h108 : a.tmps.getD 108 undef = (.bool true) := hl 108 (by decide)
            replace hK : ∀ v W2, Up W W2 → v = (.bool true) → K (a.put (some 109) v) W2 := fun v W2 h1 h2 => hK v W2 h1 (fun d hd => by cases hd; exact h2)
            clear hl
            simp only [Array.getD_eq_getD_getElem?] at h88 h108
            go_simp
            exact hK _ W (Up.refl W) rfl
          · as_aux_lemma =>
            refine UpOb.plain rfl fun a W hR hl K hK => ?_
            have h109 : a.tmps.getD 109 undef = (.bool true) := hl 109 (by decide)
            replace hK : ∀ v W2, Up W W2 → v = (.bool true) → K (a.put (some 4) v) W2 := fun v W2 h1 h2 => hK v W2 h1 (fun d hd => by cases hd; exact h2)
            clear hl
            simp only [Array.getD_eq_getD_getElem?] at h109
            go_simp
            exact hK _ W (Up.refl W) rfl
        · intro a W hd hR hl
          have h4 : a.tmps.getD 4 undef = .bool true := hl 4
          go_wp2
          exact bodyPost_ret (results_tmp rfl _ _ _) hd ⟨by rw [← h4], HB14.out.trans (Below.mono hR HB14.out.size)⟩
end Go.Proofs.YtcinbmekjlmdpaaGreat
