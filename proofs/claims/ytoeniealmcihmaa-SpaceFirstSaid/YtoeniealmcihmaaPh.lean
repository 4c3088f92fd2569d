/- The law of the first run. -/
import Derived.Test.YtoeniealmcihmaaPf
import Derived.Test.YtoeniealmcihmaaR6
namespace Go.Proofs.Ytoeniealmcihmaa
open Go.RowKit Go.Shelf
attribute [local go_sem] Oper.semAt_some

theorem paint_first {fr : Int} {f : List Bool} {k : Int} {r : Nat × Nat} (hr : r ∈ runs f 0) (hk : 1 ≤ k) (hle : k ≤ (r.2 : Int)) : isB fr (paint f r.1 k.toNat false) (fr + (r.1 : Int)) = false ∧ (r.1 ≠ 0 → isB fr (paint f r.1 k.toNat false) (fr + (r.1 : Int) - 1) = false) := by
  obtain ⟨_, _, h3, h4, h5⟩ := runs_mem f 0 (.inl rfl) r hr
  have hp : r.1 + k.toNat ≤ f.length := by omega
  constructor
  · unfold isB
    rw [show (fr + (r.1 : Int) - fr).toNat = r.1 by omega, List.getD_eq_getElem?_getD, paint_get _ _ _ _ hp, if_pos ⟨Nat.le_refl _, by omega⟩]
    simp
  · intro h0
    unfold isB
    rw [show (fr + (r.1 : Int) - 1 - fr).toNat = r.1 - 1 by omega, List.getD_eq_getElem?_getD, paint_get _ _ _ _ hp, if_neg (by omega)]
    rcases h5 with h5 | h5
    · exact absurd h5 h0
    · rw [h5]; simp

/-- What the rounds keep. -/
structure FsI (g lb : Nat) (fr : Int) (p : Option Addr) (mr : List Value) (f : List Bool) (n : Int) (w : World) (H : Nat) (pre : List (Nat × Nat)) (W : World) : Prop where
  less : ∀ q ∈ pre, (q.2 : Int) < n
  b1 : Blk W H 3 #[.int .i64 n]
  b2 : Blk W (H + 1) 3 #[.int .i64 (-1)]
  spc : Spc W g lb fr p mr f
  bel : Below w.heap.size w W
  size : H + 3 ≤ W.heap.size
theorem FsI.own {g lb : Nat} {fr : Int} {p : Option Addr} {mr : List Value} {f : List Bool} {n : Int} {w : World} {H B : Nat} (hB : w.heap.size ≤ B) : OwnFrom B (FsI g lb fr p mr f n w H) := fun _ _ _ _ h hg hr =>
  ⟨h.less, h.b1.own hg (fun r e => (hr r e).2), h.b2.own hg (fun r e => (hr r e).2), h.spc.own hg (fun r e => (hr r e).2),
    h.bel.grown hg h.bel.size (fun k e => Nat.le_trans hB (hr k e).1), Nat.le_trans h.size hg.size⟩
def FsX (g lb : Nat) (fr : Int) (p : Option Addr) (mr : List Value) (f : List Bool) (n : Int) (w : World) (H : Nat) (id : Nat) (c : Code) (pre : List (Nat × Nat)) (W : World) : Prop :=
  c = .exit id ∧ ∃ pre0 r, pre = pre0 ++ [r] ∧ (∀ q ∈ pre0, (q.2 : Int) < n) ∧ n ≤ (r.2 : Int) ∧ Blk W H 3 #[.int .i64 n] ∧ Blk W (H + 1) 3 #[.int .i64 (fr + (r.1 : Int))] ∧ Spc W g lb fr p mr f ∧ Below w.heap.size w W ∧ H + 3 ≤ W.heap.size
theorem FsX.own {g lb : Nat} {fr : Int} {p : Option Addr} {mr : List Value} {f : List Bool} {n : Int} {w : World} {H id B : Nat} {c : Code} (hB : w.heap.size ≤ B) : OwnFrom B (FsX g lb fr p mr f n w H id c) := fun _ _ _ _ h hg hr => by
  obtain ⟨e, pre0, r, e1, e2, e3, h1, h2, h3, h4, h5⟩ := h
  exact ⟨e, pre0, r, e1, e2, e3, h1.own hg (fun r e => (hr r e).2), h2.own hg (fun r e => (hr r e).2), h3.own hg (fun r e => (hr r e).2), h4.grown hg h4.size (fun k e => Nat.le_trans hB (hr k e).1), Nat.le_trans h5 hg.size⟩

set_option maxRecDepth 100000 in
set_option maxHeartbeats 4000000 in
theorem first_walk (w : World) (n k : UInt8) (A : Option Addr) (m c : Nat) (l : List (Int × Int)) (hl : RunsAt w A m l) (hm : m ≤ 10) :
    Calls Try.prog 5 #[.int .u8 (n.toNat : Int), .slice A m c, .int .u8 (k.toNat : Int)] w fun e w' => e = .returned (.bool true) ∧ Below w.heap.size w w' := by
  have h0 : 1 ≤ 6 := by omega
  have hf6 : Fence.wide.fn 6 := trivial
  have hf7 : Fence.wide.fn 7 := trivial
  have hf10 : Fence.wide.fn 10 := trivial
  have hf12 : Fence.wide.fn 12 := trivial
  have hf13 : Fence.wide.fn 13 := trivial
  have hf14 : Fence.wide.fn 14 := trivial
  have hn8 := n.toNat_lt
  have hk8 := k.toNat_lt
  generalize n.toNat = n at *
  generalize k.toNat = k at *
  have HL := Lib.hid hl
  obtain ⟨N, hN⟩ : ∃ N : Nat, N = n % 200 := ⟨_, rfl⟩
  have hN1 : N < 200 := by omega
  have hnr : (n : Int).tmod 200 = (N : Int) := by rw [Int.tmod_eq_emod_of_nonneg (by omega)]; omega
  have hnew := fun w => new_walk w 0 (N : Int) (by omega) (by omega) (by omega) (by omega)
  rw [show many 0 (N : Int) = N by unfold many; omega] at hnew
  have HNEW := Lib.hid hnew
  clear hl hnew hN
  refine (callsIn_wide (n := 6)).1 ?_
  refine callsIn_of_wp_marks Try.func5 rfl trivial ?_ rfl
  simp only [Try.ntmps5, List.size_toArray, List.length_cons, List.length_nil, Nat.reduceAdd, Nat.reduceSub, Array.replicate_succ, Array.replicate_zero, List.push_toArray, List.append_toArray, List.nil_append, List.cons_append]
  gi_wp2_with (first
    | (gi_at_call 6; refine (callsIn_wide.2 (awake_walk _)).mono ?_; rintro e w1 ⟨rfl, hb1⟩; have HB1 := Lib.hid hb1; clear hb1)
    | (gi_at_call 7; refine (callsIn_wide.2 (HNEW.out w1)).mono ?_; rintro e w2 ⟨g, lb, p, mr, rfl, hs, hg, hlb, hb2⟩; rw [tf_zero] at hs; have HS := Lib.hid hs; have HB2 := Lib.hid hb2; have HG := Lib.hid hg; have HLB := Lib.hid hlb; clear hs hb2 hg hlb))
  have hB2 : Below w.heap.size w w2 := HB1.out.trans (HB2.out.mono HB1.out.size)
  have hg0 : w.heap.size ≤ g := Nat.le_trans HB1.out.size HG.out
  have HL0 : Hid (0 < N → w.heap.size ≤ lb) := Lib.hid (fun h => Nat.le_trans HB1.out.size (HLB.out h))
  have HBB := Lib.hid hB2
  have hb12 := HB2.out.size
  clear hB2
  gi_loopw [26] (fun i wr => ∃ (q : Nat) (f : List Bool) (lb : Nat) (p : Option Addr) (mr : List Value), i = .int .i64 q ∧ q ≤ m ∧ f.length = N ∧ Spc wr g lb 0 p mr f ∧ (0 < N → w.heap.size ≤ lb) ∧ Below w.heap.size w wr) (fun i _ => m - (intOf i).toNat)
  case atStart => exact ⟨0, tf 0 N, lb, p, mr, rfl, by omega, by rw [tf_length]; omega, HS.out, HL0.out, HBB.out⟩
  case round =>
    obtain ⟨q, f, lb, p, mr, rfl, hq, hfl, hs, hlb, hbl⟩ := hrel
    have HSr := Lib.hid hs
    have HLr := Lib.hid hlb
    have HBr := Lib.hid hbl
    have HF := Lib.hid hfl
    clear hs hlb hbl hfl
    by_cases hlt : q < m
    · obtain ⟨bb, o, rfl, hbb, hc⟩ := HL.out.2.2 (by omega)
      have hql : q < l.length := by have := HL.out.1; omega
      have hcell : ∀ j, wr.cell? ⟨bb, j, none⟩ = w.cell? ⟨bb, j, none⟩ := fun j => HBr.out.cell hbb
      have hA := (hcell (o + q * 2)).trans (hc q hql).1
      have hL := (hcell (o + q * 2 + 1)).trans (hc q hql).2
      generalize l[q] = r at *
      obtain ⟨X, Y⟩ := r
      simp only at hA hL
      clear hcell hc
      obtain ⟨u, hu⟩ : ∃ u : Nat, IntKind.u64.wrap X = u := ⟨(IntKind.u64.wrap X).toNat, by rw [IntKind.wrap_u64]; omega⟩
      obtain ⟨v, hv⟩ : ∃ v : Nat, IntKind.u64.wrap Y = v := ⟨(IntKind.u64.wrap Y).toNat, by rw [IntKind.wrap_u64]; omega⟩
      have hu1 : u < 18446744073709551616 := by rw [IntKind.wrap_u64] at hu; omega
      have hv1 : v < 18446744073709551616 := by rw [IntKind.wrap_u64] at hv; omega
      obtain ⟨a, ha⟩ : ∃ a : Nat, a = u % 200 := ⟨_, rfl⟩
      obtain ⟨b, hb⟩ : ∃ b : Nat, b = v % 20 := ⟨_, rfl⟩
      have ha1 : a < 200 := by omega
      have hb1 : b < 20 := by omega
      have ru : (u : Int).tmod 200 = (a : Int) := by rw [Int.tmod_eq_emod_of_nonneg (by omega)]; omega
      have rv : (v : Int).tmod 20 = (b : Int) := by rw [Int.tmod_eq_emod_of_nonneg (by omega)]; omega
      have ru' : (u : Int) % 200 = (a : Int) := by omega
      have rv' : (v : Int) % 20 = (b : Int) := by omega
      clear ha hb
      have hcl := fun (W1 : World) (h1 : Below wr.heap.size wr W1) (d : Nat) (hrow : Blk W1 d 33 #[.int .i64 (a : Int), .int .i64 (1 + (b : Int))]) => claim_walk W1 g lb 0 p mr f (some ⟨d, 0, none⟩) 1 1 [((a : Int), 1 + (b : Int))] (by omega) (HSr.out.up h1) ⟨rfl, by simp; omega, fun _ => ⟨d, 0, rfl, hrow.lt, fun i hi => by
        have : i = 0 := by simp at hi; omega
        subst this
        exact ⟨hrow.cell 0, hrow.cell 1⟩⟩⟩
      have HCL := Lib.hid hcl
      clear hcl
      gi_wp2_with (gi_at_call 13; refine (callsIn_wide.2 (HCL.out _ (((Below.refl _ wr).alloc (Nat.le_refl _) _).alloc (by simp) _) (wr.heap.size + 1) (by have := Blk.fresh (wr.alloc (.cells #[.int .i64 X, .int .i64 Y] 33)) 33 #[.int .i64 (a : Int), .int .i64 (1 + (b : Int))]; rwa [World.size_alloc] at this))).mono ?_; rintro e w3 ⟨rfl, hx3, hs3⟩; have X3 := Lib.hid hx3; have S3 := Lib.hid hs3; clear hx3 hs3)
      go_roundw
      case rel =>
        have hb3 : Below w.heap.size w w3 := Ex.below (HBr.out.trans ((((Below.refl _ wr).alloc (Nat.le_refl _) _).alloc (by simp) _).mono HBr.out.size)) X3.out hg0 (by have := HBr.out.size; simp; omega)
        rcases S3.out with ⟨_, hs⟩ | ⟨_, lb', p', mr', hs, hl'⟩
        · exact ⟨q + 1, f, lb, p, mr, by go_num, by omega, HF.out, hs, HLr.out, hb3⟩
        · exact ⟨q + 1, _, lb', p', mr', by go_num, by omega, by rw [truns_length]; exact HF.out, hs, fun h => by have h1 := hl' (by have := HF.out; omega); have := HBr.out.size; simp at h1; omega, hb3⟩
      case measure => simp [intOf]; omega
    · have hqe : q = m := by omega
      have rk : (k : Int).tmod 20 = ((k % 20 : Nat) : Int) := by rw [Int.tmod_eq_emod_of_nonneg (by omega)]; omega
      obtain ⟨K, hK⟩ : ∃ K : Nat, k % 20 = K := ⟨_, rfl⟩
      have hK1 : K < 20 := by omega
      rw [hK] at rk
      have wk : IntKind.i64.wrap (1 + (K : Int)) = 1 + (K : Int) := IntWalk.i64_in _ (by omega)
      clear hK
      gi_wp2_with (gi_at_call 12; refine (runs_in _ _ _).mono ?_; rintro e w' ⟨rfl, rfl⟩)
      obtain ⟨H, hH⟩ : ∃ H, wr.heap.size = H := ⟨_, rfl⟩
      obtain ⟨W0, hW0⟩ : ∃ W0, (((wr.alloc (.cells #[.int .i64 (1 + (K : Int))] 3)).alloc (.cells #[.int .i64 (-1)] 3)).alloc (.cells #[.pointer (some ⟨g, 0, none⟩)] 24)) = W0 := ⟨_, rfl⟩
      have hB0 : Below wr.heap.size wr W0 := by rw [← hW0]; exact (((Below.refl _ wr).alloc (Nat.le_refl _) _).alloc (by simp) _).alloc (by simp; omega) _
      have b1 : Blk W0 H 3 #[.int .i64 (1 + (K : Int))] := by rw [← hW0, ← hH]; exact ((Blk.fresh wr 3 _).more _).more _
      have b2 : Blk W0 (H + 1) 3 #[.int .i64 (-1)] := by
        rw [← hW0, ← hH]
        have := (Blk.fresh (wr.alloc (.cells #[.int .i64 (1 + (K : Int))] 3)) 3 #[.int .i64 (-1)]).more (.cells #[.pointer (some ⟨g, 0, none⟩)] 24)
        rwa [World.size_alloc] at this
      have b3 : Boxed W0 (H + 1 + 1) 24 (.pointer (some ⟨g, 0, none⟩)) := by
        rw [← hW0, ← hH]
        have := Boxed.new ((wr.alloc (.cells #[.int .i64 (1 + (K : Int))] 3)).alloc (.cells #[.int .i64 (-1)] 3)) 24 (.pointer (some ⟨g, 0, none⟩))
        simpa using this
      have hsz : W0.heap.size = H + 3 := by rw [← hW0, ← hH]; simp
      obtain ⟨fr, hfr⟩ : ∃ fr : Int, fr = 0 := ⟨0, rfl⟩
      have hS0 : Spc W0 g lb fr p mr f := by rw [hfr]; exact HSr.out.up hB0
      have hbel0 : Below w.heap.size w W0 := HBr.out.trans (hB0.mono HBr.out.size)
      have hgH : g < H := by have := HSr.out.blk.lt; omega
      have hlH : 0 < f.length → lb < H := fun h0 => by have := (HSr.out.pos h0).2.lt; omega
      have hwH : w.heap.size ≤ H := by have := HBr.out.size; omega
      rw [hH, hW0]
      clear hW0
      have HFR := Lib.hid hfr
      clear hfr
      refine range_law h0 52 12 (H + 3) g lb (H + 1 + 1) f.length 4097 fr rfl (runs_stops 5 (by omega) (H + 1 + 1) g lb fr p mr f W0 b3 hS0) (by omega) (by omega) (fun h0 => by have := hlH h0; omega) (by omega)
        (FsI g lb fr p mr f (1 + (K : Int)) w H) (FsX g lb fr p mr f (1 + (K : Int)) w H 2) (FsI.own (by omega)) (fun _ => FsX.own (by omega)) ⟨by simp, b1, b2, hS0, hbel0, by omega⟩ (fun _ _ h => h.size) ?assign ?body ?done ?stop
      case assign =>
        intro l x W Kk hKk
        unfold round rv at hKk
        unfold rv
        simp only [List.setIfInBounds_toArray, List.set_cons_succ, List.set_cons_zero] at hKk ⊢
        gi_wp2
        exact hKk
      case body =>
        intro l pre x Bx W hBx hx hi hlt
        have x0 := hx.cell 0
        have x1 := hx.cell 1
        have s1 := hi.b1.cell 0
        have s2 := hi.b2.cell 0
        have f2 := hi.b2.thaw 0
        have HI := Lib.hid hi
        clear hi hx
        unfold round rv
        simp only [List.setIfInBounds_toArray, List.set_cons_succ, List.set_cons_zero]
        by_cases hc : 1 + (K : Int) ≤ (x.2 : Int)
        · gi_wp2
          refine ⟨(KeepsOthers.setCell _ _ _).from _, rfl, pre, x, rfl, HI.out.less, hc, HI.out.b1.off (by simp) _, HI.out.b2.put 0 _, HI.out.spc.setFar (by omega) (fun h => by have := hlH h; omega) _, HI.out.bel.setCell (p := ⟨H + 1, 0, none⟩) (by simp only; omega) _, ?_⟩
          simp [World.setCell]; exact HI.out.size
        · gi_wp2
          exact ⟨KeepsFrom.refl _ _, Kp.refl _ _ _ _ _, less_snoc HI.out.less (by omega), HI.out.b1, HI.out.b2, HI.out.spc, HI.out.bel, HI.out.size⟩
      case done =>
        rintro D ys W hD rfl hi hK
        have SP := Lib.hid hi.spc
        have HT := Lib.hid (show tkA fr f (1 + (K : Int)) = ((0, 14), f) by unfold tkA; rw [if_neg (by omega)]; exact tk_none hi.less)
        have hlt : D < W.heap.size := (Array.getElem?_eq_some_iff.1 hK).1
        have htk := take_walk W g lb fr p mr f (1 + (K : Int)) (by omega) SP.out
        rw [HT.out] at htk
        have HTK := Lib.hid htk
        have HK := Lib.hid hK
        clear htk hK
        have s1 := hi.b1.cell 0
        have B2 := Lib.hid hi.b2
        have BL := Lib.hid hi.bel
        clear hi
        gi_wp2_with (gi_at_call 10; refine (callsIn_wide.2 HTK.out).mono ?_; rintro e w4 ⟨rfl, hx4, hs4⟩; have s2 : w4.cell? ⟨H + 1, 0, none⟩ = some (.int .i64 (-1)) := (hx4.blk B2.out (by omega)).cell 0; have X4 := Lib.hid hx4; clear hx4 hs4)
        have hK4 : w4.heap[D]? = some (.deferred (some [])) := (X4.out.block D hlt (by omega)).trans HK.out
        refine ⟨by simp, .inl ⟨_, _, rfl, run_takeDeferred hK4, ?_⟩⟩
        have hb4 : Below w.heap.size w w4 := Ex.below BL.out X4.out hg0 BL.out.size
        exact ⟨_, results_tmp rfl _ _ _, rfl, hb4.trans (belowK_b (w := w) (Nat.le_refl _) _ D _ _ (by omega) hK4 rfl rfl)⟩
      case stop =>
        rintro D c pre W hD hpre ⟨rfl, pre0, r, rfl, hless, hle, q1, q2, q3, q4, q5⟩ hK
        have hr : r ∈ runs f 0 := hpre.subset (by simp)
        have SP := Lib.hid q3
        have HT := Lib.hid (show tkA fr f (1 + (K : Int)) = ((fr + (r.1 : Int), 0), paint f r.1 (1 + (K : Int)).toNat false) by unfold tkA; rw [if_neg (by omega)]; exact tk_some hpre hless hle)
        obtain ⟨i1, i2⟩ := paint_first (fr := fr) hr (by omega) hle
        have I1 := Lib.hid i1
        have I2 := Lib.hid i2
        have hfr0 : (0 : Int) ≤ fr + (r.1 : Int) := by have := HFR.out; omega
        have hfr1 : fr + (r.1 : Int) ≤ 5000 := by have := HFR.out; have := (runs_mem f 0 (.inl rfl) r hr).2.2.1; have := q3.hi; omega
        have hlt : D < W.heap.size := (Array.getElem?_eq_some_iff.1 hK).1
        have htk := take_walk W g lb fr p mr f (1 + (K : Int)) (by omega) SP.out
        rw [HT.out] at htk
        have HTK := Lib.hid htk
        have HK := Lib.hid hK
        clear htk hK
        have s1 := q1.cell 0
        have B2 := Lib.hid q2
        have BL := Lib.hid q4
        clear q1 q2 q3 q4 q5 i1 i2 hpre hless hle
        generalize hF : fr + (r.1 : Int) = F at *
        have HF2 := Lib.hid hF
        clear hF
        generalize hpf : paint f r.1 (1 + (K : Int)).toNat false = pf at *
        clear hpf
        have hF0 : ¬ F < 0 := by omega
        by_cases hz : F = 0
        · subst hz
          gi_wp2_with (first | (gi_at_call 10; refine (callsIn_wide.2 HTK.out).mono ?_; rintro e w4 ⟨rfl, hx4, lb4, p4, mr4, hs4, _⟩; have s2 : w4.cell? ⟨H + 1, 0, none⟩ = some (.int .i64 0) := (hx4.blk B2.out (by omega)).cell 0; have X4 := Lib.hid hx4; have S4 := Lib.hid hs4; clear hx4 hs4) | (gi_at_call 14; refine (callsIn_wide.2 (is_walk w4 g lb4 fr p4 mr4 pf 0 S4.out)).mono ?_; rintro e w5 ⟨he, n5, rfl⟩; rw [I1.out] at he; subst he))
          have hK4 : (w4.drewN n5).heap[D]? = some (.deferred (some [])) := (X4.out.block D hlt (by omega)).trans HK.out
          refine ⟨by simp, .inl ⟨_, _, rfl, run_takeDeferred hK4, ?_⟩⟩
          have hb4 : Below w.heap.size w (w4.drewN n5) := (Ex.below BL.out X4.out hg0 BL.out.size).trans (below_drewN _ _ _)
          exact ⟨_, results_tmp rfl _ _ _, rfl, hb4.trans (belowK_b (w := w) (Nat.le_refl _) _ D _ _ (by omega) hK4 rfl rfl)⟩
        · have I3 : Hid (isB fr pf (F - 1) = false) := Lib.hid (I2.out (fun h => hz (by have h1 := HF2.out; have h2 := HFR.out; rw [h, h2] at h1; exact h1.symm)))
          have t1 : (F == 0) = false := by simp; omega
          have q1 : IntKind.i64.wrap (F - 1) = F - 1 := IntWalk.i64_in _ (by omega)
          gi_wp2_with (first | (gi_at_call 10; refine (callsIn_wide.2 HTK.out).mono ?_; rintro e w4 ⟨rfl, hx4, lb4, p4, mr4, hs4, _⟩; have s2 : w4.cell? ⟨H + 1, 0, none⟩ = some (.int .i64 F) := (hx4.blk B2.out (by omega)).cell 0; have X4 := Lib.hid hx4; have S4 := Lib.hid hs4; clear hx4 hs4) | (gi_at_call 14; refine (callsIn_wide.2 (is_walk (w4.drewN n5) g lb4 fr p4 mr4 pf (F - 1) (S4.out.drewN n5))).mono ?_; rintro e w6 ⟨he, n6, rfl⟩; rw [I3.out] at he; subst he) | (gi_at_call 14; refine (callsIn_wide.2 (is_walk w4 g lb4 fr p4 mr4 pf F S4.out)).mono ?_; rintro e w5 ⟨he, n5, rfl⟩; rw [I1.out] at he; subst he))
          have hK4 : (w4.drewN (n5 + n6)).heap[D]? = some (.deferred (some [])) := (X4.out.block D hlt (by omega)).trans HK.out
          refine ⟨by simp, .inl ⟨_, _, rfl, run_takeDeferred hK4, ?_⟩⟩
          have hb4 : Below w.heap.size w (w4.drewN (n5 + n6)) := (Ex.below BL.out X4.out hg0 BL.out.size).trans (below_drewN _ _ _)
          exact ⟨_, results_tmp rfl _ _ _, rfl, hb4.trans (belowK_b (w := w) (Nat.le_refl _) _ D _ _ (by omega) hK4 rfl rfl)⟩
end Go.Proofs.Ytoeniealmcihmaa
