/- graph.Keep by the law's closure. -/
import Derived.Test.YtbhoingiibcboaaJ5
namespace Go.Proofs.Ytbhoingiibcboaa
open Go.RowKit

/-- What the law's closure tells of an edge. -/
def so (odd : Bool) (e : Eg) : Bool := (e.id % 2 == 1) == odd
theorem run_rem2 (t : TypeId) (x : UInt32) (w : World) : (binOp .rem 31 (V x) (.int .u32 2)).run Try.prog w = .ok (V (x % 2)) w := by
  have h := x.toNat_lt
  show Result.ok (Value.int .u32 ((x.toNat : Int).tmod 2)) w = _
  rw [V_def, UInt32.toNat_mod, Int.tmod_eq_emod_of_nonneg (by omega)]
  congr 2
/-- The law's closure lies so. -/
def Fit (pb ob : Nat) (odd : Bool) (W : World) : Prop := W.cell? ⟨pb, 0, none⟩ = some (.func (.func 19) #[] #[.pointer (some ⟨ob, 0, none⟩)]) ∧ W.cell? ⟨ob, 0, none⟩ = some (.bool odd)
attribute [local irreducible] V
set_option maxRecDepth 100000 in
theorem clo19_walk (w : World) (i a b : UInt32) (ob : Nat) (odd : Bool) (ho : w.cell? ⟨ob, 0, none⟩ = some (.bool odd)) (hob : ob < w.heap.size) :
    Calls Try.prog 19 #[.agg #[V i, V a, V b], .pointer (some ⟨ob, 0, none⟩)] w fun e w' => e = .returned (.bool (so odd ⟨i, a, b⟩)) ∧ Below w.heap.size w w' := by
  have r1 := run_rem2 31 i
  have g := run_guard
  have he : ∀ w, (binOp .eql 31 (V (i % 2)) (.int .u32 1)).run Try.prog w = .ok (.bool (i % 2 == 1)) w := fun w => by rw [V1]; exact run_eql _ _ _ w
  have hg : ∀ w, (eqGuard .eql 31 (.tmp 6) (.const (.int .u32 1)) (V (i % 2)) (.int .u32 1)).run Try.prog w = .ok () w := fun w => by rw [V1]; exact run_guard _ _ _ _ _ _ w
  have HS : Hid (so odd ⟨i, a, b⟩ = ((i % 2 == 1) == odd)) := rfl
  have hne : ob ≠ w.heap.size := by omega
  generalize (i % 2 == 1) = q at *
  cases q <;> cases odd
  all_goals
    go_enter Try.func19, Try.ntmps19
    go_wp2
    go_ret
    exact ⟨by rw [HS.out]; rfl, (Below.refl _ w).alloc (Nat.le_refl _) _⟩
attribute [local irreducible] wpList in
set_option maxRecDepth 100000 in
theorem clo41_walk (w : World) (e : Eg) (pb ob : Nat) (odd : Bool) (hf : Fit pb ob odd w) :
    Calls Try.prog 41 #[.agg #[V e.id, V e.a, V e.b], .pointer (some ⟨pb, 0, none⟩)] w fun x w' => x = .returned (.bool (!so odd e)) ∧ Below w.heap.size w w' := by
  have hp : pb < w.heap.size := World.block_lt_of_cell? _ _ hf.1
  have ho : ob < w.heap.size := World.block_lt_of_cell? _ _ hf.2
  have HB : Hid (Below w.heap.size w (w.alloc (.cells #[V e.id, V e.a, V e.b] 39))) := (Below.refl _ w).alloc (Nat.le_refl _) _
  have h1 : (w.alloc (.cells #[V e.id, V e.a, V e.b] 39)).cell? ⟨pb, 0, none⟩ = some (.func (.func 19) #[] #[.pointer (some ⟨ob, 0, none⟩)]) := (HB.out.cell hp).trans hf.1
  have h2 : (w.alloc (.cells #[V e.id, V e.a, V e.b] 39)).cell? ⟨ob, 0, none⟩ = some (.bool odd) := (HB.out.cell ho).trans hf.2
  have HC := Lib.hid (clo19_walk (w.alloc (.cells #[V e.id, V e.a, V e.b] 39)) e.id e.a e.b ob odd h2 (by simp; omega))
  have HE : Hid ((Eg.mk e.id e.a e.b) = e) := rfl
  clear hf h2
  rw [HE.out] at HC
  generalize so odd e = q at *
  go_enter Try.func41, Try.ntmps41
  go_wp2_with (go_at_call 19; refine HC.out.mono ?_; rintro x w1 ⟨rfl, hb1⟩; have HB1 := Lib.hid hb1; clear hb1)
  go_ret
  exact ⟨rfl, HB.out.trans (Below.mono HB1.out HB.out.size)⟩
theorem tells (base pb ob : Nat) (odd : Bool) (h1 : pb < base) (h2 : ob < base) : Tells base pb (fun e => !so odd e) (Fit pb ob odd) :=
  ⟨fun _ _ hf hb => ⟨(hb.cell (p := ⟨pb, 0, none⟩) h1).trans hf.1, (hb.cell (p := ⟨ob, 0, none⟩) h2).trans hf.2⟩, fun W e hf => clo41_walk W e pb ob odd hf⟩
/-- The edges that are kept. -/
def kept (g : Gr) (odd : Bool) : Gr := ⟨g.vs, g.es.filter (so odd)⟩
theorem kept_es (l : List Eg) (odd : Bool) : l.filter (fun e => !(!so odd e)) = l.filter (so odd) := by simp
attribute [local irreducible] wpList in
set_option maxRecDepth 100000 in
set_option maxHeartbeats 4000000 in
/-- graph.Keep. -/
theorem keep_walk (w : World) (v : Value) (g : Gr) (ob : Nat) (odd : Bool) (h : RG w v g) (ho : w.cell? ⟨ob, 0, none⟩ = some (.bool odd)) :
    Calls Try.prog 18 #[v, .func (.func 19) #[] #[.pointer (some ⟨ob, 0, none⟩)]] w fun e w' => ∃ u, e = .returned u ∧ RG w' u (kept g odd) ∧ Below w.heap.size w w' := by
  obtain ⟨A, c, B, d, rfl, hcA, hcB, hr, hre⟩ := h
  have hz := zero25
  have hmf : ∀ (fn : Fn) (first cap : Array Value) (w : World), (Instr.makeFunc fn first cap).run Try.prog w = .ok (.func fn first cap) w := fun _ _ _ _ => rfl
  have hob : ob < w.heap.size := World.block_lt_of_cell? _ _ ho
  have HOB := Lib.hid hob
  have HO := Lib.hid ho
  have HR := Lib.hid hr
  have HRE := Lib.hid hre
  have HCA := Lib.hid hcA
  clear hr hre ho hob
  go_enter Try.func18, Try.ntmps18
  go_wp2
  have HB0 : Hid (Below w.heap.size w (((w.alloc (.cells #[.slice A g.vs.length c, .slice B g.es.length d] 25)).alloc (.cells #[.func (.func 19) #[] #[.pointer (some ⟨ob, 0, none⟩)]] 40)).alloc (.cells #[.slice none 0 0, .slice none 0 0] 25))) := (((Below.refl _ w).alloc (Nat.le_refl _) _).alloc (by simp) _).alloc (by simp; omega) _
  have HG0 : Hid (Blk (((w.alloc (.cells #[.slice A g.vs.length c, .slice B g.es.length d] 25)).alloc (.cells #[.func (.func 19) #[] #[.pointer (some ⟨ob, 0, none⟩)]] 40)).alloc (.cells #[.slice none 0 0, .slice none 0 0] 25)) w.heap.size 25 #[.slice A g.vs.length c, .slice B g.es.length d]) := ((Blk.fresh w _ _).more _).more _
  have HP0 : Hid (Blk (((w.alloc (.cells #[.slice A g.vs.length c, .slice B g.es.length d] 25)).alloc (.cells #[.func (.func 19) #[] #[.pointer (some ⟨ob, 0, none⟩)]] 40)).alloc (.cells #[.slice none 0 0, .slice none 0 0] 25)) (w.heap.size + 1) 40 #[.func (.func 19) #[] #[.pointer (some ⟨ob, 0, none⟩)]]) := by
    show Blk _ _ _ _
    have := (Blk.fresh (w.alloc (.cells #[.slice A g.vs.length c, .slice B g.es.length d] 25)) 40 #[.func (.func 19) #[] #[.pointer (some ⟨ob, 0, none⟩)]]).more (.cells #[.slice none 0 0, .slice none 0 0] 25)
    simpa using this
  have HZ0 : Hid (Blk (((w.alloc (.cells #[.slice A g.vs.length c, .slice B g.es.length d] 25)).alloc (.cells #[.func (.func 19) #[] #[.pointer (some ⟨ob, 0, none⟩)]] 40)).alloc (.cells #[.slice none 0 0, .slice none 0 0] 25)) (w.heap.size + 1 + 1) 25 #[.slice none 0 0, .slice none 0 0]) := by
    show Blk _ _ _ _
    have := Blk.fresh ((w.alloc (.cells #[.slice A g.vs.length c, .slice B g.es.length d] 25)).alloc (.cells #[.func (.func 19) #[] #[.pointer (some ⟨ob, 0, none⟩)]] 40)) 25 #[.slice none 0 0, .slice none 0 0]
    simpa using this
  have HSZ : Hid ((((w.alloc (.cells #[.slice A g.vs.length c, .slice B g.es.length d] 25)).alloc (.cells #[.func (.func 19) #[] #[.pointer (some ⟨ob, 0, none⟩)]] 40)).alloc (.cells #[.slice none 0 0, .slice none 0 0] 25)).heap.size = w.heap.size + 3) := by show _ = _; simp
  generalize hw1 : ((w.alloc (.cells #[.slice A g.vs.length c, .slice B g.es.length d] 25)).alloc (.cells #[.func (.func 19) #[] #[.pointer (some ⟨ob, 0, none⟩)]] 40)).alloc (.cells #[.slice none 0 0, .slice none 0 0] 25) = w1 at *
  clear hw1
  have HV1 : Hid (RV w1.drew (.slice A g.vs.length c) g.vs) := ⟨A, c, rfl, HCA.out, HR.out.kept (HB0.out.trans (Below.dr _ _)) (Nat.le_refl _)⟩
  have HE1 : Hid (RdE w1.drew B g.es) := HRE.out.kept (HB0.out.trans (Below.dr _ _)) (Nat.le_refl _)
  have HFIT : Hid (Fit (w.heap.size + 1) ob odd w1.drew) := ⟨HP0.out.cell 0, (HB0.out.cell (p := ⟨ob, 0, none⟩) HOB.out).trans HO.out⟩
  have HLL : Hid (g.vs.length ≤ 1000000) := HR.out.len
  have HLE : Hid (g.es.length ≤ 1000000) := HRE.out.len
  have HT := Lib.hid (tells (w.heap.size + 3) (w.heap.size + 1) ob odd (by omega) (by have := HOB.out; omega))
  have HNE : Hid (w.heap.size ≠ w.heap.size + 1 + 1) := by show _ ≠ _; omega
  have S0 : Hid (w1.drew.cell? ⟨w.heap.size, 0, none⟩ = some (.slice A g.vs.length c) ∧ w1.drew.cell? ⟨w.heap.size, 1, none⟩ = some (.slice B g.es.length d)) := ⟨HG0.out.cell 0, HG0.out.cell 1⟩
  go_region_held3 (fun W => W.cell? ⟨w.heap.size, 0, none⟩ = some (.slice A g.vs.length c) ∧ W.cell? ⟨w.heap.size, 1, none⟩ = some (.slice B g.es.length d)) (first | exact S4.out | exact S3.out | exact S2.out | exact S1.out | exact S0.out) (first
    | (go_at_call 38; refine (clone_rv _ _ _ HV1.out).mono ?_; rintro e w2 ⟨u, rfl, hu, hb2⟩; have HU := Lib.hid hu; obtain ⟨A2, c2, hu2, _, _⟩ := hu.rv HLL.out; subst hu2; have HB2 := Lib.hid hb2; have HG2 : Hid (Blk w2 w.heap.size 25 #[.slice A g.vs.length c, .slice B g.es.length d]) := Blk.kept (w := w1.drew) HG0.out hb2 HG0.out.lt; have HZ2 : Hid (Blk w2 (w.heap.size + 1 + 1) 25 #[.slice none 0 0, .slice none 0 0]) := Blk.kept (w := w1.drew) HZ0.out hb2 HZ0.out.lt; have S1 : Hid (w2.cell? ⟨w.heap.size, 0, none⟩ = some (.slice A g.vs.length c) ∧ w2.cell? ⟨w.heap.size, 1, none⟩ = some (.slice B g.es.length d)) := ⟨HG2.out.cell 0, HG2.out.cell 1⟩; clear hu hb2)
    | (go_at_call 40; refine (clonee_walk _ _ _ _ (HE1.out.kept HB2.out (Nat.le_refl _))).mono ?_; rintro e w3 ⟨u3, rfl, hu, hb3⟩; have HU3 := Lib.hid hu; have HB3 := Lib.hid hb3; have HG3 := Lib.hid (HG2.out.kept hb3 HG2.out.lt); have HZ3 := Lib.hid (HZ2.out.kept hb3 HZ2.out.lt); have S2 : Hid (w3.cell? ⟨w.heap.size, 0, none⟩ = some (.slice A g.vs.length c) ∧ w3.cell? ⟨w.heap.size, 1, none⟩ = some (.slice B g.es.length d)) := ⟨HG3.out.cell 0, HG3.out.cell 1⟩; clear hu hb3)
    | (go_at_call 39; refine (deletefe_walk _ (w.heap.size + 3) (w.heap.size + 1) _ g.es _ _ (owns_base (by have := HB2.out.size; have := HSZ.out; simp at *; omega) HU3.out) HLE.out HT.out (HT.out.stays _ _ (HT.out.stays _ _ HFIT.out (Below.mono HB2.out (by rw [← HSZ.out]; exact Nat.le_refl _))) (Below.mono HB3.out (by have := HB2.out.size; have := HSZ.out; simp at *; omega))) (by have := HB2.out.size; have := HB3.out.size; have := HSZ.out; simp at *; omega)).mono ?_; rintro e w4 ⟨u4, rfl, hu, hb4, hst4⟩; have HST4 := Lib.hid hst4; rw [kept_es] at hu; have HU4 := Lib.hid hu; obtain ⟨A4, c4, hu4, _, _⟩ := hu.rve; subst hu4; have HB4 := Lib.hid hb4; have HG4 : Hid (Blk w4 w.heap.size 25 #[.slice A g.vs.length c, .slice B g.es.length d]) := HG3.out.kept hb4 (by omega); have HZ4 : Hid (Blk w4 (w.heap.size + 1 + 1) 25 #[.slice none 0 0, .slice none 0 0]) := HZ3.out.kept hb4 (by omega); have S3 : Hid (w4.cell? ⟨w.heap.size, 0, none⟩ = some (.slice A g.vs.length c) ∧ w4.cell? ⟨w.heap.size, 1, none⟩ = some (.slice B g.es.length d)) := ⟨HG4.out.cell 0, HG4.out.cell 1⟩; have z0 := HZ4.out.cell 0; have z1 := HZ4.out.cell 1; have t0 := HZ4.out.thaw 0; have t1 := HZ4.out.thaw 1; have S4 : Hid (((w4.setCell ⟨w.heap.size + 1 + 1, 0, none⟩ (.slice A2 g.vs.length c2)).setCell ⟨w.heap.size + 1 + 1, 1, none⟩ (.slice A4 (g.es.filter (so odd)).length c4)).cell? ⟨w.heap.size, 0, none⟩ = some (.slice A g.vs.length c) ∧ ((w4.setCell ⟨w.heap.size + 1 + 1, 0, none⟩ (.slice A2 g.vs.length c2)).setCell ⟨w.heap.size + 1 + 1, 1, none⟩ (.slice A4 (g.es.filter (so odd)).length c4)).cell? ⟨w.heap.size, 1, none⟩ = some (.slice B g.es.length d)) := ⟨((HG4.out.off (a := ⟨w.heap.size + 1 + 1, 0, none⟩) HNE.out _).off (a := ⟨w.heap.size + 1 + 1, 1, none⟩) HNE.out _).cell 0, ((HG4.out.off (a := ⟨w.heap.size + 1 + 1, 0, none⟩) HNE.out _).off (a := ⟨w.heap.size + 1 + 1, 1, none⟩) HNE.out _).cell 1⟩; clear hu hb4 hst4))
  all_goals
    have HW : Hid (Blk ((w4.setCell ⟨w.heap.size + 1 + 1, 0, none⟩ (.slice A2 g.vs.length c2)).setCell ⟨w.heap.size + 1 + 1, 1, none⟩ (.slice A4 (g.es.filter (so odd)).length c4)) (w.heap.size + 1 + 1) 25 #[.slice A2 g.vs.length c2, .slice A4 (g.es.filter (so odd)).length c4]) := (HZ4.out.put 0 _).put 1 _
    have g0 := HW.out.cell 0
    have g1 := HW.out.cell 1
    have HS : Hid (Below w.heap.size w ((w4.setCell ⟨w.heap.size + 1 + 1, 0, none⟩ (.slice A2 g.vs.length c2)).setCell ⟨w.heap.size + 1 + 1, 1, none⟩ (.slice A4 (g.es.filter (so odd)).length c4))) := by
      have e1 : w.heap.size ≤ w1.heap.size := by rw [HSZ.out]; omega
      have e2 : w.heap.size ≤ w2.heap.size := Nat.le_trans e1 HB2.out.size
      have h1 := (((HB0.out.trans (Below.dr _ _)).trans (Below.mono HB2.out e1)).trans (Below.mono HB3.out e2)).trans (Below.mono HB4.out (by omega))
      exact RBelow.set (RBelow.set h1 0 (by omega) _) 1 (by omega) _
    have HRG : Hid (RG ((w4.setCell ⟨w.heap.size + 1 + 1, 0, none⟩ (.slice A2 g.vs.length c2)).setCell ⟨w.heap.size + 1 + 1, 1, none⟩ (.slice A4 (g.es.filter (so odd)).length c4)) (.agg #[.slice A2 g.vs.length c2, .slice A4 (g.es.filter (so odd)).length c4]) (kept g odd)) := by
      have s1 : Still w4 ((w4.setCell ⟨w.heap.size + 1 + 1, 0, none⟩ (.slice A2 g.vs.length c2)).setCell ⟨w.heap.size + 1 + 1, 1, none⟩ (.slice A4 (g.es.filter (so odd)).length c4)) := (Still.put HZ4.out (by decide) _).trans (Still.put (HZ4.out.put 0 _) (by decide) _)
      have q1 := (((Oq.owned HU.out).still (Still.below HB3.out)).still HST4.out).still s1
      have q2 := HU4.out.keepB (fun k cur hk => keep_put (i := 1) (HZ4.out.put 0 (.slice A2 g.vs.length c2)) (by decide) (.slice A4 (g.es.filter (so odd)).length c4) (keep_put (i := 0) HZ4.out (by decide) (.slice A2 g.vs.length c2) hk))
      exact RG.mk (q1.rv HLL.out) q2.rve
    go_wp2
    exact bodyPost_ret (v := .agg #[.slice A2 g.vs.length c2, .slice A4 (g.es.filter (so odd)).length c4]) (by simp [results, Try.results18, go_sem, g0, g1]) rfl ⟨_, rfl, HRG.out, HS.out⟩
end Go.Proofs.Ytbhoingiibcboaa
