/- RotMakes: the law's walk. -/
import Derived.Test.YtcinbmekjlmdpaaY0o
import Derived.Test.YtcinbmekjlmdpaaRows

/-! RotMakes: the law's walk. -/
namespace Go.Proofs.Ytcinbmekjlmdpaa
open Go.RowKit

theorem rows_spot {w : World} {A : Option Addr} {n c : Nat} {ls : List (List UInt32)} (h : RRv w (.slice A n c) ls) (h0 : 0 < ls.length) : ∃ b o, A = some ⟨b, o, none⟩ := by
  obtain ⟨A2, c2, h1, _, h3⟩ := h
  injection h1 with h1 _ _
  subst h1
  obtain ⟨b2, o2, h4, _, h5⟩ := h3 h0
  exact ⟨b2, o2, h4⟩
theorem rows_at {w : World} {b o n c : Nat} {ls : List (List UInt32)} (h : RRv w (.slice (some ⟨b, o, none⟩) n c) ls) {i : Nat} (hi : i < ls.length) : ∃ A c, w.cell? ⟨b, o + i, none⟩ = some (.slice A (ls.getD i []).length c) ∧ RV w (.slice A (ls.getD i []).length c) (ls.getD i []) := by
  obtain ⟨A, c2, h1, _, h3⟩ := h
  injection h1 with h1 _ _
  subst h1
  obtain ⟨b2, o2, h4, _, h5⟩ := h3 (by omega)
  injection h4 with h4
  injection h4 with h4 h6
  subst h4 h6
  obtain ⟨u, h7, h8⟩ := h5 i hi
  obtain ⟨A3, c3, rfl, _, _⟩ := id h8
  exact ⟨A3, c3, h7, h8⟩
theorem rowx_spot {w : World} {A : Option Addr} {n c : Nat} {ls : List (List UInt32)} (h : RRx w (.slice A n c) ls) (h0 : 0 < ls.length) : ∃ b o, A = some ⟨b, o, none⟩ := by
  obtain ⟨A2, c2, h1, _, h3⟩ := h
  injection h1 with h1 _ _
  subst h1
  obtain ⟨b2, o2, h4, _, h5⟩ := h3 h0
  exact ⟨b2, o2, h4⟩
theorem rowx_at {w : World} {b o n c : Nat} {ls : List (List UInt32)} (h : RRx w (.slice (some ⟨b, o, none⟩) n c) ls) {i : Nat} (hi : i < ls.length) : ∃ A c, w.cell? ⟨b, o + i, none⟩ = some (.slice A (ls.getD i []).length c) ∧ RX w (.slice A (ls.getD i []).length c) (ls.getD i []) := by
  obtain ⟨A, c2, h1, _, h3⟩ := h
  injection h1 with h1 _ _
  subst h1
  obtain ⟨b2, o2, h4, _, h5⟩ := h3 (by omega)
  injection h4 with h4
  injection h4 with h4 h6
  subst h4 h6
  obtain ⟨u, h7, h8⟩ := h5 i hi
  obtain ⟨A3, c3, rfl, _⟩ := id h8
  exact ⟨A3, c3, h7, h8⟩
theorem rsame_eq (w : World) (v u : Value) (l : List UInt32) (h : RV w v l) (h2 : RV w u l) : Calls Try.prog 8 #[v, u] w fun e w' => e = .returned (.bool true) ∧ Below w.heap.size w w' := by
  have := rsame_rv w v u l l h h2
  rwa [decide_eq_true rfl] at this
attribute [local irreducible] V
attribute [local irreducible] wpList in
set_option maxRecDepth 100000 in
set_option maxHeartbeats 2000000 in
theorem check9_many (w : World) (A B : Option Addr) (n c m d : Nat) (hm : 64 < n ∨ 160 < m) :
    Calls Try.prog 5 #[.agg #[.slice A n c, .slice B m d]] w fun e w' => e = .returned (.int .i64 6) ∧ Below w.heap.size w w' := by
  have HB : Hid (Below w.heap.size w (w.alloc (.cells #[.slice A n c, .slice B m d] 25))) := (Below.refl _ w).alloc (Nat.le_refl _) _
  have HBK : Hid (Blk (w.alloc (.cells #[.slice A n c, .slice B m d] 25)) w.heap.size 25 #[.slice A n c, .slice B m d]) := Blk.fresh _ _ _
  by_cases hv64 : 64 < n
  · have q1 : (64 : Int) < (n : Int) := by omega
    clear hv64 hm
    go_enter Try.func5, Try.ntmps5
    go_wp2
    go_ret
    exact ⟨rfl, HB.out⟩
  · have q1 : ¬ (64 : Int) < (n : Int) := by omega
    have q2 : (160 : Int) < (m : Int) := by omega
    clear hv64 hm
    go_enter Try.func5, Try.ntmps5
    go_wp2
    go_ret
    exact ⟨rfl, HB.out⟩
attribute [local irreducible] wpList in
set_option maxRecDepth 100000 in
set_option maxHeartbeats 2000000 in
/-- A graph that may not be: the law says true at once. -/
theorem makes_not (w : World) (A B : Option Addr) (n c m d : Nat) (u : Value) (z : Int) (hz : z ≠ 0)
    (hC : ∀ W, Below w.heap.size w W → Calls Try.prog 5 #[.agg #[.slice A n c, .slice B m d]] W fun e w' => e = .returned (.int .i64 z) ∧ Below W.heap.size W w') :
    Calls Try.prog 3 #[.agg #[.slice A n c, .slice B m d], u] w fun e w' => e = .returned (.bool true) ∧ Below w.heap.size w w' := by
  have HB0 : Hid (Below w.heap.size w (w.alloc (.cells #[.slice A n c, .slice B m d] 25))) := (Below.refl _ w).alloc (Nat.le_refl _) _
  have HK0 : Hid (Blk (w.alloc (.cells #[.slice A n c, .slice B m d] 25)) w.heap.size 25 #[.slice A n c, .slice B m d]) := Blk.fresh _ _ _
  have HC := Lib.hid hC
  have z1 : (z != 0) = true := by simpa using hz
  clear hC hz
  go_enter Try.func3, Try.ntmps3
  go_wp2_with (first
    | (go_at_call 4; refine (awake10_walk _).mono ?_; rintro e w1 ⟨rfl, hb1⟩; have HB1 := Lib.hid (HB0.out.trans (Below.mono hb1 HB0.out.size)); have HK1 := Lib.hid (HK0.out.kept hb1 HK0.out.lt); have k0 := HK1.out.cell 0; have k1 := HK1.out.cell 1; clear hb1)
    | (go_at_call 5; refine (HC.out _ HB1.out).mono ?_; rintro e w2 ⟨rfl, hb2⟩; have HB2 := Lib.hid (HB1.out.trans (Below.mono hb2 HB1.out.size)); clear hb2))
  go_ret
  exact ⟨rfl, HB2.out⟩
attribute [local irreducible] wpList in
set_option maxRecDepth 100000 in
set_option maxHeartbeats 2000000 in
/-- A graph of too many edges. -/
theorem makes_big (w : World) (v u : Value) (g : Gr) (h : RG w v g) (hc : chk g = 0) (he : 60 < g.es.length) :
    Calls Try.prog 3 #[v, u] w fun e w' => e = .returned (.bool true) ∧ Below w.heap.size w w' := by
  have HRG := Lib.hid h
  have hC := fun W (hW : RG W v g) => rcheck_walk W v g hW
  rw [hc] at hC
  have HC := Lib.hid hC
  obtain ⟨A, c, B, d, rfl, _, _, _, _⟩ := h
  have HB0 : Hid (Below w.heap.size w (w.alloc (.cells #[.slice A g.vs.length c, .slice B g.es.length d] 25))) := (Below.refl _ w).alloc (Nat.le_refl _) _
  have HK0 : Hid (Blk (w.alloc (.cells #[.slice A g.vs.length c, .slice B g.es.length d] 25)) w.heap.size 25 #[.slice A g.vs.length c, .slice B g.es.length d]) := Blk.fresh _ _ _
  have q1 : (60 : Int) < (g.es.length : Int) := by omega
  clear hC he hc
  go_enter Try.func3, Try.ntmps3
  go_wp2_with (first
    | (go_at_call 4; refine (awake10_walk _).mono ?_; rintro e w1 ⟨rfl, hb1⟩; have HB1 := Lib.hid (HB0.out.trans (Below.mono hb1 HB0.out.size)); have HK1 := Lib.hid (HK0.out.kept hb1 HK0.out.lt); have k0 := HK1.out.cell 0; have k1 := HK1.out.cell 1; clear hb1)
    | (go_at_call 5; refine (HC.out _ (HRG.out.kept HB1.out)).mono ?_; rintro e w2 ⟨rfl, hb2⟩; have HB2 := Lib.hid (HB1.out.trans (Below.mono hb2 HB1.out.size)); have HK2 := Lib.hid (HK1.out.kept hb2 HK1.out.lt); have k2 := HK2.out.cell 0; have k3 := HK2.out.cell 1; clear hb2))
  go_ret
  exact ⟨rfl, HB2.out⟩
attribute [local irreducible] wpList in
set_option maxRecDepth 100000 in
set_option maxHeartbeats 4000000 in
theorem makes_walk (w : World) (v u : Value) (g : Gr) (ts : List (List UInt32)) (h : RG w v g) (hc : chk g = 0) (he : ¬ 60 < g.es.length) (ht : RRx w u ts) :
    Calls Try.prog 3 #[v, u] w fun e w' => e = .returned (.bool true) ∧ Below w.heap.size w w' := by
  have HRG := Lib.hid h
  have hC := fun W (hW : RG W v g) => rcheck_walk W v g hW
  rw [hc] at hC
  have HC := Lib.hid hC
  have HMAY := Lib.hid (May.of hc)
  have hnv := HMAY.out.nv
  obtain ⟨A, c, B, d, rfl, _, _, hr, _⟩ := h
  have HR := Lib.hid hr
  have HT := Lib.hid ht
  obtain ⟨T, tc, rfl, _, _⟩ := ht
  have HB0 : Hid (Below w.heap.size w (w.alloc (.cells #[.slice A g.vs.length c, .slice B g.es.length d] 25))) := (Below.refl _ w).alloc (Nat.le_refl _) _
  have HK0 : Hid (Blk (w.alloc (.cells #[.slice A g.vs.length c, .slice B g.es.length d] 25)) w.heap.size 25 #[.slice A g.vs.length c, .slice B g.es.length d]) := Blk.fresh _ _ _
  have q1 : ¬ (60 : Int) < (g.es.length : Int) := by omega
  have hmm := @run_makeMap Try.prog
  clear hC he hc hr
  go_enter Try.func3, Try.ntmps3
  go_wp2_with (first
    | (go_at_call 4; refine (awake10_walk _).mono ?_; rintro e w1 ⟨rfl, hb1⟩; have HB1 := Lib.hid (HB0.out.trans (Below.mono hb1 HB0.out.size)); have HK1 := Lib.hid (HK0.out.kept hb1 HK0.out.lt); have k0 := HK1.out.cell 0; have k1 := HK1.out.cell 1; clear hb1)
    | (go_at_call 5; refine (HC.out _ (HRG.out.kept HB1.out)).mono ?_; rintro e w2 ⟨rfl, hb2⟩; have HB2 := Lib.hid (HB1.out.trans (Below.mono hb2 HB1.out.size)); have HK2 := Lib.hid (HK1.out.kept hb2 HK1.out.lt); have k2 := HK2.out.cell 0; have k3 := HK2.out.cell 1; have k4 : (w2.alloc (.map #[] 0)).cell? ⟨w.heap.size, 0, none⟩ = some (.slice A g.vs.length c) := (HK2.out.more _).cell 0; clear hb2))
  clear k0 k1 k2 k3 k4 q1
  have HB3 : Hid (Below w.heap.size w (w2.alloc (.map #[] 0))) := HB2.out.alloc HB2.out.size _
  have HK3 : Hid (Blk (w2.alloc (.map #[] 0)) w.heap.size 25 #[.slice A g.vs.length c, .slice B g.es.length d]) := HK2.out.more _
  have HM3 : Hid (Mu (w2.alloc (.map #[] 0)) w2.heap.size 0 (fun _ => none)) := Mu.empty w2
  have HMB : Hid (w.heap.size < w2.heap.size) := HK2.out.lt
  have hmb := HMB.out
  generalize hw3 : w2.alloc (.map #[] 0) = w3 at *
  clear hw3
  go_loopw [26] (fun i wr => ∃ (k n : Nat) (f : UInt32 → Option Value) (L : UInt32 → List UInt32), k ≤ g.vs.length ∧ i = .int .i64 k ∧ n ≤ k ∧ Mu wr w2.heap.size n f ∧ (∀ x, RV wr ((f x).getD (.slice none 0 0)) (L x)) ∧ Below w.heap.size w wr ∧ Blk wr w.heap.size 25 #[.slice A g.vs.length c, .slice B g.es.length d]) (fun i _ => g.vs.length - (intOf i).toNat)
  case atStart => exact ⟨0, 0, _, fun _ => [], Nat.zero_le _, rfl, Nat.le_refl _, HM3.out, fun _ => RV.nil _, HB3.out, HK3.out⟩
  case round =>
    obtain ⟨k, n, f, L, hk, rfl, hnk, hm, hL, hb, hkb⟩ := hrel
    have HMr := Lib.hid hm
    have HLr := Lib.hid hL
    have HBr := Lib.hid hb
    have HKr := Lib.hid hkb
    have HTr := Lib.hid (HT.out.kept hb)
    clear hm hL hb hkb
    by_cases hlt : k < g.vs.length
    · obtain ⟨b, o, rfl, hcc⟩ := (HR.out.kept HBr.out (Nat.le_refl _)).spot (by omega)
      have hcell := hcc k hlt
      rw [getD_at hlt] at hcell
      clear hcc
      generalize g.vs.getD k 0 = x at *
      by_cases hkt : k < ts.length
      · obtain ⟨b5, o5, rfl⟩ := rowx_spot HTr.out (by omega)
        obtain ⟨A7, c7, hc7, hx7⟩ := rowx_at HTr.out hkt
        generalize ts.getD k [] = row at *
        by_cases hl : 300 < row.length
        · have q2 : (300 : Int) < (row.length : Int) := by omega
          clear hx7
          go_wp2
          go_ret
          exact ⟨rfl, HBr.out⟩
        · have q2 : ¬ (300 : Int) < (row.length : Int) := by omega
          obtain ⟨A8, c8, e8, hv8⟩ := hx7
          injection e8 with e8 _ e9
          subst e8 e9
          have HV8 := Lib.hid (hv8 (by omega))
          clear hv8 hl
          go_wp2_with (refine wpList_mapM rfl (.tmp 41) (.tmp 42) (.tmp 46) 29 22 rfl rfl w2.heap.size n f x _ rfl rfl rfl HMr.out (Nat.lt_of_le_of_lt (Nat.le_trans hnk (Nat.le_trans hk hnv)) (by decide)) ?_; intro w4 hm4 hx4 hs4; have HM4 := Lib.hid hm4; have HX4 := Lib.hid hx4; clear hm4 hx4 hs4)
          have HB4 := Lib.hid (Ex.below HBr.out HX4.out (Nat.le_of_lt hmb) HBr.out.size)
          have HK4 : Hid (Blk w4 w.heap.size 25 #[.slice (some ⟨b, o, none⟩) g.vs.length c, .slice B g.es.length d]) := HX4.out.blk HKr.out (by omega)
          have HL4 : Hid (∀ y, RV w4 (((fun y => if y = x then some (.slice A7 row.length c7) else f y) y : Option Value).getD (.slice none 0 0)) ((fun y => if y = x then row else L y) y)) := fun y => by
            by_cases hy : y = x
            · simp only [hy, if_true, Option.getD_some]; exact RV.exm HMr.out HX4.out HV8.out
            · simp only [hy, if_false]; exact RV.exm HMr.out HX4.out (HLr.out y)
          go_roundw
          case rel => exact ⟨k + 1, n + 1, _, _, by omega, by go_num, by omega, HM4.out, HL4.out, HB4.out, HK4.out⟩
          case measure => simp [intOf]; omega
      · go_wp2
        go_roundw
        case rel => exact ⟨k + 1, n, f, L, by omega, by go_num, by omega, HMr.out, HLr.out, HBr.out, HKr.out⟩
        case measure => simp [intOf]; omega
    · obtain rfl : k = g.vs.length := by omega
      clear hlt hk
      have k0 := HKr.out.cell 0
      have k1 := HKr.out.cell 1
      have HOF := Lib.hid (of10_walk wr (.agg #[.slice A g.vs.length c, .slice B g.es.length d]) g w2.heap.size n f L (HRG.out.kept HBr.out) HMr.out HLr.out)
      have HLEN : Hid (∀ l ∈ g.vs.map fun x => norm (L x), l.length ≤ 1000000) := fun l hl => by
        obtain ⟨y, _, rfl⟩ := List.mem_map.1 hl
        rw [norm_length]
        obtain ⟨_, _, _, _, hd⟩ := HLr.out y
        exact hd.len
      have HW : Hid (∀ w', Below wr.heap.size wr w' → Mu w' w2.heap.size n f ∧ ∀ x, RV w' ((f x).getD (.slice none 0 0)) (L x)) := fun w' hb => ⟨HMr.out.kept (hb.block _ HMr.out.lt), fun x => (HLr.out x).kept hb⟩
      have HNM : Hid (∀ k, k < g.vs.length → (g.vs.map fun x => norm (L x)).getD k [] = norm (L (g.vs.getD k 0))) := fun k hk => by
        rw [List.getD_eq_getElem?_getD, List.getElem?_map, List.getElem?_eq_getElem hk, List.getD_eq_getElem?_getD, List.getElem?_eq_getElem hk]; rfl
      have HNL : Hid ((g.vs.map fun x => norm (L x)).length = g.vs.length) := List.length_map ..
      generalize (g.vs.map fun x => norm (L x)) = rots at *
      go_wp2_with (first
        | (go_at_call 6; refine HOF.out.mono ?_; rintro e w5 ⟨u, rfl, hu, hb5⟩; have HRM := Lib.hid (hu.rm HLEN.out); obtain ⟨A5, c5, B5, d5, C5, e5, hu2, _, _⟩ := hu; rw [HNL.out] at hu2; subst hu2; have HX5 : Hid (Below w5.heap.size w5 (w5.alloc (.cells #[.slice A5 g.vs.length c5, .slice B5 g.es.length d5, .slice C5 g.vs.length e5] 32))) := (Below.refl _ w5).alloc (Nat.le_refl _) _; have HRM5 := Lib.hid (HRM.out.kept HX5.out); have HB5 := Lib.hid (HBr.out.trans (Below.mono hb5 HBr.out.size)); have HB6 := Lib.hid (HB5.out.trans (Below.mono HX5.out HB5.out.size)); have HBr6 : Hid (Below wr.heap.size wr (w5.alloc (.cells #[.slice A5 g.vs.length c5, .slice B5 g.es.length d5, .slice C5 g.vs.length e5] 32))) := hb5.trans (Below.mono HX5.out hb5.size); have HM6 : Hid (Blk (w5.alloc (.cells #[.slice A5 g.vs.length c5, .slice B5 g.es.length d5, .slice C5 g.vs.length e5] 32)) w5.heap.size 32 #[.slice A5 g.vs.length c5, .slice B5 g.es.length d5, .slice C5 g.vs.length e5]) := Blk.fresh _ _ _; have HK6 := Lib.hid ((HKr.out.kept hb5 HKr.out.lt).kept HX5.out (HKr.out.kept hb5 HKr.out.lt).lt); have m0 := HM6.out.cell 0; have m1 := HM6.out.cell 1; have k2 := HK6.out.cell 0; have k3 := HK6.out.cell 1; clear hb5)
        | (go_at_call 7; refine (same9_walk _ _ _ g HRM5.out.rg (HRG.out.kept HB6.out)).mono ?_; rintro e w7 ⟨rfl, hb7⟩; have HB7 := Lib.hid (HB6.out.trans (Below.mono hb7 HB6.out.size)); have HBr7 := Lib.hid (HBr6.out.trans (Below.mono hb7 HBr6.out.size)); have HM7 := Lib.hid (HM6.out.kept hb7 HM6.out.lt); have HK7 := Lib.hid (HK6.out.kept hb7 HK6.out.lt); have HRM7 := Lib.hid (HRM5.out.kept hb7); have n2 := HM7.out.cell 2; have k4 := HK7.out.cell 0; clear hb7))
      clear k0 k1 k2 k3 k4 m0 m1 n2
      have HRR7 : Hid (RRv w7 (.slice C5 g.vs.length e5) rots) := by
        obtain ⟨_, _, _, _, _, _, q, _, q2⟩ := HRM7.out
        simp only [Value.agg.injEq, Array.mk.injEq, List.cons.injEq, Value.slice.injEq] at q
        obtain ⟨_, _, ⟨rfl, q3, rfl⟩, _⟩ := q
        rw [q3]; exact q2
      have hnr := HNL.out
      have HS7 := Lib.hid HM7.out.lt
      go_loopw [68] (fun i wq => ∃ k : Nat, k ≤ g.vs.length ∧ i = .int .i64 k ∧ Below w7.heap.size w7 wq) (fun i _ => g.vs.length - (intOf i).toNat)
      case atStart => exact ⟨0, Nat.zero_le _, rfl, Below.refl _ _⟩
      case round =>
        obtain ⟨k, hk, rfl, hb⟩ := hrel
        have HBq := Lib.hid hb
        have HBWq : Hid (Below w.heap.size w wr) := HB7.out.trans (Below.mono hb HB7.out.size)
        have HRR := Lib.hid (HRR7.out.kept hb)
        have HMq := Lib.hid (HM7.out.kept hb HS7.out)
        have HWq := Lib.hid (HW.out _ (HBr7.out.trans (Below.mono hb HBr7.out.size)))
        clear hb
        by_cases hlt : k < g.vs.length
        · obtain ⟨b, o, rfl, hcc⟩ := (HR.out.kept HBWq.out (Nat.le_refl _)).spot (by omega)
          have hcell := hcc k hlt
          rw [getD_at hlt] at hcell
          clear hcc
          obtain ⟨b9, o9, rfl⟩ := rows_spot HRR.out (by omega)
          obtain ⟨A9, c9, hc9, hv9⟩ := rows_at HRR.out (by rw [HNL.out]; exact hlt)
          rw [HNM.out k hlt] at hc9 hv9
          generalize g.vs.getD k 0 = x at *
          have hmd : Mu wr.drew w2.heap.size n f := HWq.out.1.kept (w' := wr.drew) rfl
          have HV9 := Lib.hid (hv9.kept (Below.dr _ wr))
          have HLd := Lib.hid ((HWq.out.2 x).kept (Below.dr _ wr))
          have HMD := Lib.hid hmd
          generalize L x = l at *
          have HLK : Hid (∀ W, Mu W w2.heap.size n f → (Instr.lookup 29 (.map (some w2.heap.size)) (V x) false).run Try.prog W = .ok ((f x).getD (.slice none 0 0)) W) := fun W hW => hW.look 29 22 rfl _ (by kernel_rfl) _
          generalize (f x).getD (.slice none 0 0) = lv at *
          go_wp2
          have S0 : Hid (wr.drew.cell? ⟨w5.heap.size, 2, none⟩ = some (.slice (some ⟨b9, o9, none⟩) g.vs.length e5) ∧ wr.drew.cell? ⟨b9, o9 + k, none⟩ = some (.slice A9 (norm l).length c9) ∧ (Instr.lookup 29 (.map (some w2.heap.size)) (V x) false).run Try.prog wr.drew = .ok lv wr.drew) := ⟨HMq.out.cell 2, hc9, HLK.out _ hmd⟩
          have HC9 := Lib.hid hc9
          have HMdr : Hid (Blk wr.drew w5.heap.size 32 #[.slice A5 g.vs.length c5, .slice B5 g.es.length d5, .slice (some ⟨b9, o9, none⟩) g.vs.length e5]) := HMq.out
          clear hc9 hv9 hmd
          first
            | (go_region_held3 (fun W => W.cell? ⟨w5.heap.size, 2, none⟩ = some (.slice (some ⟨b9, o9, none⟩) g.vs.length e5) ∧ W.cell? ⟨b9, o9 + k, none⟩ = some (.slice A9 (norm l).length c9) ∧ (Instr.lookup 29 (.map (some w2.heap.size)) (V x) false).run Try.prog W = .ok lv W) (first | exact S2.out | exact S1.out | exact S0.out) (first
                | (go_at_call 9; refine (rnorm_rv _ _ l HLd.out).mono ?_; rintro e w8 ⟨u8, rfl, hu8, hb8⟩; have HU8 := Lib.hid hu8; have HV8 := Lib.hid (HV9.out.kept hb8); have HM8 := Lib.hid (HMdr.out.kept hb8 HMdr.out.lt); have HMU8 := Lib.hid (HMD.out.kept (hb8.block _ HMD.out.lt)); have HC8 : Hid (w8.cell? ⟨b9, o9 + k, none⟩ = some (.slice A9 (norm l).length c9)) := (hb8.cell (World.block_lt_of_cell? _ _ HC9.out)).trans HC9.out; have HB8 := Lib.hid hb8; have S1 : Hid (w8.cell? ⟨w5.heap.size, 2, none⟩ = some (.slice (some ⟨b9, o9, none⟩) g.vs.length e5) ∧ w8.cell? ⟨b9, o9 + k, none⟩ = some (.slice A9 (norm l).length c9) ∧ (Instr.lookup 29 (.map (some w2.heap.size)) (V x) false).run Try.prog w8 = .ok lv w8) := ⟨HM8.out.cell 2, HC8.out, HLK.out _ HMU8.out⟩; clear hb8 hu8)
                | (go_at_call 8; refine (rsame_eq _ _ _ _ HV8.out HU8.out).mono ?_; rintro e w9 ⟨rfl, hb9⟩; have HMU9 := Lib.hid (HMU8.out.kept (hb9.block _ HMU8.out.lt)); have HM9 := Lib.hid (HM8.out.kept hb9 HM8.out.lt); have HC10 : Hid (w9.cell? ⟨b9, o9 + k, none⟩ = some (.slice A9 (norm l).length c9)) := (hb9.cell (World.block_lt_of_cell? _ _ HC8.out)).trans HC8.out; have HB9 := Lib.hid (HB8.out.trans (Below.mono hb9 HB8.out.size)); have S2 : Hid (w9.cell? ⟨w5.heap.size, 2, none⟩ = some (.slice (some ⟨b9, o9, none⟩) g.vs.length e5) ∧ w9.cell? ⟨b9, o9 + k, none⟩ = some (.slice A9 (norm l).length c9) ∧ (Instr.lookup 29 (.map (some w2.heap.size)) (V x) false).run Try.prog w9 = .ok lv w9) := ⟨HM9.out.cell 2, HC10.out, HLK.out _ HMU9.out⟩; clear hb9)))
            | fail
          go_wp2
          go_roundw
          case rel => exact ⟨k + 1, by omega, by go_num, (HBq.out.trans (Below.dr _ _)).trans (Below.mono HB9.out HBq.out.size)⟩
          case measure => simp [intOf]; omega
        · obtain rfl : k = g.vs.length := by omega
          go_wp2
          go_ret
          exact ⟨rfl, HBWq.out⟩
end Go.Proofs.Ytcinbmekjlmdpaa

/-! The statement on the making of maps: for every graph and rows of turns the call returns true, and they read as before. -/
namespace Go.Proofs.Ytcinbmekjlmdpaa
open Go.ChangeShapes Go.WideShapes Go.ChangeAt Go.RowKit

theorem makes_any {W : World} {v0 v1 : Value} {A B : Option Addr} {n c m e : Nat} {ls : List (List UInt32)} (hv : v0 = .agg #[.slice A n c, .slice B m e])
    (hg : n ≤ 1000000 → m ≤ 1000000 → ∃ g : Gr, n = g.vs.length ∧ m = g.es.length ∧ RG W v0 g) (ht : RRx W v1 ls) :
    Calls Try.prog 3 #[v0, v1] W fun e W' => e = .returned (.bool true) ∧ Below W.heap.size W W' := by
  by_cases h : 64 < n ∨ 160 < m
  · rw [hv]; exact makes_not W A B n c m e v1 6 (by decide) (fun W' _ => check9_many W' A B n c m e h)
  · obtain ⟨g, _, _, hr⟩ := hg (by omega) (by omega)
    by_cases hk : chk g = 0
    · by_cases he : 60 < g.es.length
      · exact makes_big W v0 v1 g hr hk he
      · exact makes_walk W v0 v1 g ls hr hk he ht
    · have hr2 := hr
      obtain ⟨A2, c2, B2, d2, rfl, _⟩ := hr2
      exact makes_not W _ _ _ _ _ _ v1 (chk g) hk (fun W' hb => rcheck_walk W' _ g (hr.kept hb))
set_option maxRecDepth 100000 in
theorem makes_lifted (os : Os) (started : os.Started) (H : Type) (enc : TypeId × Value → H) :
    ReturnsInHanded {} Try.checked os 3 .any (Rows.rotMakesSpec.pre6 enc Try.prog Try.f3 Rows.rotMakesRow.domain false) (Rows.rotMakesSpec.post enc Try.prog Try.f3 false true false false) := by
  refine returnsInHanded_of_change (C := Try.checked) own started (by kernel_rfl) Try.func3
    (ChangeSpec.witness6 (enc := enc) (C := Try.checked) false ⟨#[], #[.agg #[.slice none 0 0, .slice none 0 0], .slice none 0 0], []⟩ 8 (by kernel_rfl) (by kernel_rfl) (by kernel_rfl) (by kernel_rfl)) ?_
  intro W base args ds gs before hval0 hW _ _
  have hval : ∀ (j : Nat) t v, Try.f3.params[j]? = some t → args[j]? = some v → Value.okWide Try.prog W .any base t v := hval0
  have hW' := hW
  obtain ⟨p, q, hA0, hV, rfl, _, _⟩ := hW
  have hA : DataW.TrodAll enc Try.prog W 0 (fun _ => true) true Try.f3.params.toList args.toList ds p := hA0
  rw [Try.params3] at hA hval
  obtain ⟨v0, vs0, d0, ds0, p0, q0, hargs, rfl, rfl, h0, r0⟩ := trodAll_cons hA
  obtain ⟨v1, vs1, d1, ds1, p1, q1, rfl, rfl, rfl, h1, r1⟩ := trodAll_cons r0
  obtain ⟨rfl, rfl, rfl⟩ := trodAll_nil r1
  obtain rfl : args = #[v0, v1] := by cases args; simp_all
  obtain ⟨rfl, rfl⟩ := trodVars_none hV
  clear hA0 hval0
  simp only [List.append_nil] at hW'
  obtain ⟨A, n, c, B, m, e, hv0, hg⟩ := open_graph (hval 0 25 v0 rfl rfl) h0
  obtain ⟨T, nt, ct, hv1⟩ := okWide_slice Try.underlying26 (hval 1 26 v1 rfl rfl)
  have hrows : ∃ ls : List (List UInt32), RRx W v1 ls := by
    obtain ⟨fuel, hf⟩ := h1
    have hf2 : DataW.trod enc Try.prog W 0 (fun _ => true) true fuel 26 [v1] = some (d1, p1) := by
      rw [hv1] at hf ⊢
      simpa [Value.cells] using hf
    obtain ⟨_, _, _, _, ls, _, hls⟩ := open_rows hf2
    exact ⟨ls, hls⟩
  obtain ⟨ls, hls⟩ := hrows
  have hlt : ∀ x ∈ p0 ++ (p1 ++ ([] : List MemPlace)), x.block < W.heap.size := fun x hx => by simpa using hW'.lt x (by simpa using hx)
  have hc := makes_any hv0 hg hls
  refine hc.mono fun e W' ⟨he, hb⟩ => ?_
  subst he
  have hk : ∀ (t : TypeId) (v : Value) (d : DataW H) (pl : List MemPlace), (∀ x ∈ pl, x.block < W.heap.size) → Try.prog.readableRec t = true → t < Try.prog.types.size → DataW.Trod enc Try.prog W 0 (fun _ => true) true t v d pl →
      DataW.Trod enc Try.prog W' 0 (fun b => decide (b < W.heap.size)) true t v d pl := fun t v d pl hl hr hts h => Below.trod laidOut hr hts h hb hl
  exact ⟨_, rfl, _, _, _, [], _, [], hW', trodAll_cons_mk (shut_bool Try.underlying4 _) trodAll_mk0, trodAll_cons_mk (hk 25 _ _ _ (fun x hx => hlt x (by simp [hx])) (by kernel_rfl) (of_decide_eq_true (by kernel_rfl)) h0) (trodAll_cons_mk (hk 26 _ _ _ (fun x hx => hlt x (by simp [hx])) (by kernel_rfl) (of_decide_eq_true (by kernel_rfl)) h1) trodAll_mk0), rfl, hb.frame _, fun h => by cases h⟩

theorem rot_makes_said : Rows.RotMakesSaid :=
  OpenClaim.holds_of_wide 3 Try.f3 rfl rfl rfl rfl rfl rfl rfl ⟨rfl, rfl, rfl, rfl, rfl⟩ rfl rfl rfl rfl rfl (by kernel_rfl) Try.func3 (by kernel_rfl)
    (of_decide_eq_true (by kernel_rfl)) (by unfold Func.isWrapper; first | (rw [if_pos (by decide +kernel)]; kernel_rfl) | (rw [if_neg (by decide +kernel)]; exact ⟨rfl, rfl⟩))
    (fun os started H enc _ => makes_lifted os started H enc)
end Go.Proofs.Ytcinbmekjlmdpaa
