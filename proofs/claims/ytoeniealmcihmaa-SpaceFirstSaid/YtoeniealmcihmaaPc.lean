/- Take. -/
import Derived.Test.YtoeniealmcihmaaP5
import Derived.Test.YtoeniealmcihmaaP9
import Derived.Test.YtoeniealmcihmaaR5
namespace Go.Proofs.Ytoeniealmcihmaa
open Go.RowKit Go.Shelf
attribute [local go_sem] Oper.semAt_some

theorem Spc.own {W W' : World} {row : Option Nat} {g lb : Nat} {fr : Int} {p : Option Addr} {mr : List Value} {f : List Bool} (h : Spc W g lb fr p mr f) (hg : W.grownBy W' row) (hr : ∀ r, row = some r → ∃ o : Obj, W.heap[r]? = some o ∧ o.isCells = false) : Spc W' g lb fr p mr f :=
  { h with blk := h.blk.own hg hr, pos := fun h0 => ⟨(h.pos h0).1, (h.pos h0).2.own hg hr⟩ }
theorem Ex.own {g B : Nat} {w W W' : World} {row : Option Nat} (h : Ex g w W) (hB : w.heap.size ≤ B) (hg : W.grownBy W' row) (hr : ∀ r, row = some r → B ≤ r ∧ ∃ o : Obj, W.heap[r]? = some o ∧ o.isCells = false) : Ex g w W' :=
  ⟨hg.os.trans h.os, hg.tape.trans h.tape, hg.output.trans h.output, Nat.le_trans h.size hg.size, fun k hk hne => (hg.block k (Nat.lt_of_lt_of_le hk h.size) (fun e => by have := (hr k e.symm).1; omega)).trans (h.block k hk hne)⟩
theorem Ex.setFar {g b : Nat} {w W : World} (h : Ex g w W) (hb : w.heap.size ≤ b) (v : Value) : Ex g w (W.setCell ⟨b, 0, none⟩ v) :=
  ⟨h.os, h.tape, h.output, by simpa [World.setCell] using h.size, fun k hk hne => (heap_setCell_other W _ k v (by simp only; omega)).trans (h.block k hk hne)⟩
theorem Spc.setFar {W : World} {g lb b : Nat} {fr : Int} {p : Option Addr} {mr : List Value} {f : List Bool} (h : Spc W g lb fr p mr f) (hg : g ≠ b) (hl : 0 < f.length → lb ≠ b) (v : Value) : Spc (W.setCell ⟨b, 0, none⟩ v) g lb fr p mr f :=
  { h with blk := h.blk.off hg v, pos := fun h0 => ⟨(h.pos h0).1, (h.pos h0).2.off (hl h0) v⟩ }
theorem Ex.keepsFrom {g B : Nat} {w W : World} (h : Ex g w W) (hg : g < B) : KeepsFrom B w W := ⟨h.size, fun k o hB hk _ => (h.block k (Array.getElem?_eq_some_iff.1 hk).1 (by omega)).trans hk⟩
/-- What is there behind a run claimed. -/
def Left (g lb : Nat) (fr : Int) (p : Option Addr) (mr : List Value) (f : List Bool) (w : World) (r : Int × List Bool) (W : World) : Prop :=
  Ex g w W ∧ ((r.1 ≠ 0 ∧ Spc W g lb fr p mr f) ∨ (r.1 = 0 ∧ ∃ lb' p' mr', Spc W g lb' fr p' mr' r.2 ∧ (0 < f.length → w.heap.size ≤ lb')))
theorem Left.own {g lb B : Nat} {fr : Int} {p : Option Addr} {mr : List Value} {f : List Bool} {w W W' : World} {r : Int × List Bool} {row : Option Nat} (h : Left g lb fr p mr f w r W) (hB : w.heap.size ≤ B) (hg : W.grownBy W' row) (hr : ∀ r, row = some r → B ≤ r ∧ ∃ o : Obj, W.heap[r]? = some o ∧ o.isCells = false) : Left g lb fr p mr f w r W' := by
  refine ⟨h.1.own hB hg hr, ?_⟩
  rcases h.2 with ⟨h0, hs⟩ | ⟨h0, lb', p', mr', hs, hl⟩
  · exact .inl ⟨h0, hs.own hg (fun r e => (hr r e).2)⟩
  · exact .inr ⟨h0, lb', p', mr', hs.own hg (fun r e => (hr r e).2), hl⟩

/-- What the rounds so far have kept. -/
structure TkI (g : Nat) (n : Int) (w : World) (pre : List (Nat × Nat)) (W : World) : Prop where
  less : ∀ q ∈ pre, (q.2 : Int) < n
  b0 : Blk W w.heap.size 24 #[.pointer (some ⟨g, 0, none⟩)]
  b1 : Blk W (w.heap.size + 1) 3 #[.int .i64 n]
  b2 : Blk W (w.heap.size + 1 + 1) 3 #[.int .i64 0]
  b3 : Blk W (w.heap.size + 1 + 1 + 1) 29 #[.int .i64 0]
  bel : Below w.heap.size w W
  size : w.heap.size + 5 ≤ W.heap.size
theorem TkI.own {g : Nat} {n : Int} {w : World} {B : Nat} (hB : w.heap.size ≤ B) : OwnFrom B (TkI g n w) := fun _ _ _ _ h hg hr =>
  ⟨h.less, h.b0.own hg (fun r e => (hr r e).2), h.b1.own hg (fun r e => (hr r e).2), h.b2.own hg (fun r e => (hr r e).2), h.b3.own hg (fun r e => (hr r e).2),
    h.bel.grown hg h.bel.size (fun k e => Nat.le_trans hB (hr k e).1), Nat.le_trans h.size hg.size⟩
/-- What a round that ends leaves. -/
def TkX (g lb : Nat) (fr : Int) (p : Option Addr) (mr : List Value) (f : List Bool) (n : Int) (w : World) (c : Code) (pre : List (Nat × Nat)) (W : World) : Prop :=
  c = .ret ∧ ∃ pre0 r, pre = pre0 ++ [r] ∧ (∀ q ∈ pre0, (q.2 : Int) < n) ∧ n ≤ (r.2 : Int) ∧ Blk W (w.heap.size + 1 + 1) 3 #[.int .i64 (fr + (r.1 : Int))] ∧ Blk W (w.heap.size + 1 + 1 + 1) 29 #[.int .i64 (truns fr false [(fr + (r.1 : Int), n)] f).1] ∧
    Left g lb fr p mr f w (truns fr false [(fr + (r.1 : Int), n)] f) W
theorem TkX.own {g lb : Nat} {fr : Int} {p : Option Addr} {mr : List Value} {f : List Bool} {n : Int} {w : World} {c : Code} {B : Nat} (hB : w.heap.size ≤ B) : OwnFrom B (TkX g lb fr p mr f n w c) := fun _ _ _ _ h hg hr => by
  obtain ⟨e, pre0, r, e1, e2, e3, h1, h2, h3⟩ := h
  exact ⟨e, pre0, r, e1, e2, e3, h1.own hg (fun r e => (hr r e).2), h2.own hg (fun r e => (hr r e).2), h3.own hB hg hr⟩

theorem less_snoc {pre : List (Nat × Nat)} {n : Int} {x : Nat × Nat} (h : ∀ q ∈ pre, (q.2 : Int) < n) (hx : ¬ n ≤ (x.2 : Int)) : ∀ q ∈ pre ++ [x], (q.2 : Int) < n := fun q hq => by
  rcases List.mem_append.1 hq with h1 | h1
  · exact h q h1
  · obtain rfl := List.mem_singleton.1 h1
    omega
/-- What Take answers: the first run that is long enough, and what is there then. -/
def tk (fr : Int) (f : List Bool) (n : Int) : (Int × Int) × List Bool :=
  match (runs f 0).find? (fun r => decide (n ≤ (r.2 : Int))) with
  | some r => ((fr + (r.1 : Int), 0), paint f r.1 n.toNat false)
  | none => ((0, 14), f)
def TakePost (g lb : Nat) (fr : Int) (f : List Bool) (w : World) (r : (Int × Int) × List Bool) (e : Ending) (w' : World) : Prop :=
  e = .returned (.tuple #[.int .i64 r.1.1, .int .i64 r.1.2]) ∧ Ex g w w' ∧ ∃ lb' p' mr', Spc w' g lb' fr p' mr' r.2 ∧ (0 < f.length → lb' = lb ∨ w.heap.size ≤ lb')

theorem tk_none {fr : Int} {f : List Bool} {n : Int} (h : ∀ q ∈ runs f 0, (q.2 : Int) < n) : tk fr f n = ((0, 14), f) := by
  unfold tk
  rw [List.find?_eq_none.2 (fun q hq => by have := h q hq; simp; omega)]
theorem tk_some {fr : Int} {f : List Bool} {n : Int} {pre : List (Nat × Nat)} {r : Nat × Nat} (hp : pre ++ [r] <+: runs f 0) (h : ∀ q ∈ pre, (q.2 : Int) < n) (hr : n ≤ (r.2 : Int)) : tk fr f n = ((fr + (r.1 : Int), 0), paint f r.1 n.toNat false) := by
  unfold tk
  obtain ⟨l, hl⟩ := hp
  rw [← hl, List.append_assoc, List.find?_append, List.find?_eq_none.2 (fun q hq => by have := h q hq; simp; omega)]
  simp [hr]
theorem truns_run {fr : Int} {f : List Bool} {n : Int} {r : Nat × Nat} (hfr : -9223372036854775808 ≤ fr) (hend : fr + (f.length : Int) ≤ 9223372036854775807) (hr : r ∈ runs f 0) (hn : 1 ≤ n) (hle : n ≤ (r.2 : Int)) : truns fr false [(fr + (r.1 : Int), n)] f = (0, paint f r.1 n.toNat false) := by
  obtain ⟨_, _, h3, h4, _⟩ := runs_mem f 0 (.inl rfl) r hr
  have := trun_paint fr false r.1 n.toNat f hfr hend (by omega) (by omega) (fun i h1 h2 => by
    have := h4 (i - r.1) (by omega)
    rw [show r.1 + (i - r.1) = i by omega] at this
    exact this)
  rw [show ((n.toNat : Nat) : Int) = n by omega] at this
  unfold truns
  rw [this, if_pos rfl]
  rfl
set_option maxRecDepth 100000 in
set_option maxHeartbeats 4000000 in
theorem take_in (n : Nat) (hn : 3 ≤ n) (w : World) (g lb : Nat) (fr : Int) (p : Option Addr) (mr : List Value) (f : List Bool) (m : Int) (hm : 1 ≤ m) (hm2 : m ≤ 9223372036854775807) (h : Spc w g lb fr p mr f) :
    CallsIn Fence.wide n Try.prog 10 #[.pointer (some ⟨g, 0, none⟩), .int .i64 m] w (TakePost g lb fr f w (tk fr f m)) := by
  have h1 : 1 ≤ n := by omega
  have hf12 : Fence.wide.fn 12 := trivial
  have hf13 : Fence.wide.fn 13 := trivial
  have HS := Lib.hid h
  have hm' : ¬ m < 1 := by omega
  clear h
  refine callsIn_of_wp_marks Try.func10 rfl trivial ?_ rfl
  simp only [Try.ntmps10, List.size_toArray, List.length_cons, List.length_nil, Nat.reduceAdd, Nat.reduceSub, Array.replicate_succ, Array.replicate_zero, List.push_toArray, List.append_toArray, List.nil_append, List.cons_append]
  gi_wp2_with (gi_at_call 12; refine (runs_in _ _ _).mono ?_; rintro e w' ⟨rfl, rfl⟩)
  have hB0 : Below w.heap.size w (((((w.alloc (.cells #[.pointer (some ⟨g, 0, none⟩)] 24)).alloc (.cells #[.int .i64 m] 3)).alloc (.cells #[.int .i64 0] 3)).alloc (.cells #[.int .i64 0] 29)).alloc (.cells #[.pointer (some ⟨g, 0, none⟩)] 24)) :=
    (((((Below.refl _ w).alloc (Nat.le_refl _) _).alloc (by simp) _).alloc (by simp; omega) _).alloc (by simp; omega) _).alloc (by simp; omega) _
  have b0 := ((((Blk.fresh w 24 #[.pointer (some ⟨g, 0, none⟩)]).more (.cells #[.int .i64 m] 3)).more (.cells #[.int .i64 0] 3)).more (.cells #[.int .i64 0] 29)).more (.cells #[.pointer (some ⟨g, 0, none⟩)] 24)
  have b1 := (((Blk.fresh (w.alloc (.cells #[.pointer (some ⟨g, 0, none⟩)] 24)) 3 #[.int .i64 m]).more (.cells #[.int .i64 0] 3)).more (.cells #[.int .i64 0] 29)).more (.cells #[.pointer (some ⟨g, 0, none⟩)] 24)
  have b2 := ((Blk.fresh ((w.alloc (.cells #[.pointer (some ⟨g, 0, none⟩)] 24)).alloc (.cells #[.int .i64 m] 3)) 3 #[.int .i64 0]).more (.cells #[.int .i64 0] 29)).more (.cells #[.pointer (some ⟨g, 0, none⟩)] 24)
  have b3 := (Blk.fresh (((w.alloc (.cells #[.pointer (some ⟨g, 0, none⟩)] 24)).alloc (.cells #[.int .i64 m] 3)).alloc (.cells #[.int .i64 0] 3)) 29 #[.int .i64 0]).more (.cells #[.pointer (some ⟨g, 0, none⟩)] 24)
  have b4 := Boxed.new ((((w.alloc (.cells #[.pointer (some ⟨g, 0, none⟩)] 24)).alloc (.cells #[.int .i64 m] 3)).alloc (.cells #[.int .i64 0] 3)).alloc (.cells #[.int .i64 0] 29)) 24 (.pointer (some ⟨g, 0, none⟩))
  have hsz : (((((w.alloc (.cells #[.pointer (some ⟨g, 0, none⟩)] 24)).alloc (.cells #[.int .i64 m] 3)).alloc (.cells #[.int .i64 0] 3)).alloc (.cells #[.int .i64 0] 29)).alloc (.cells #[.pointer (some ⟨g, 0, none⟩)] 24)).heap.size = w.heap.size + 5 := by simp
  simp only [World.size_alloc] at b1 b2 b3 b4
  obtain ⟨W0, hW0⟩ : ∃ W0, (((((w.alloc (.cells #[.pointer (some ⟨g, 0, none⟩)] 24)).alloc (.cells #[.int .i64 m] 3)).alloc (.cells #[.int .i64 0] 3)).alloc (.cells #[.int .i64 0] 29)).alloc (.cells #[.pointer (some ⟨g, 0, none⟩)] 24)) = W0 := ⟨_, rfl⟩
  rw [hW0] at b0 b1 b2 b3 b4 hB0 hsz ⊢
  clear hW0
  have hgl := HS.out.blk.lt
  have hll : 0 < f.length → lb < w.heap.size := fun h0 => (HS.out.pos h0).2.lt
  refine wpIn_rangeFunc_ownH (N := 4097) rfl (show 1 ≤ n by omega) (gf := 18) (lb := #[.pointer (some ⟨w.heap.size + 1 + 1 + 1 + 1, 0, none⟩)]) rfl trivial (enters_of Try.func18 (by kernel_rfl) rfl)
    (runs_stops (n - 1) (by omega) (w.heap.size + 1 + 1 + 1 + 1) g lb fr p mr f W0 b4 (HS.out.up hB0)) kp_t (kp_b (by omega) (fun h0 => by have := hll h0; omega) (by omega)) (Below.refl _ _) (fun _ => rfl)
    (TkI g m w) (TkX g lb fr p mr f m w) (TkI.own (by omega)) (fun _ => TkX.own (by omega)) ⟨by simp, b0, b1, b2, b3, hB0, by omega⟩
    (fun x a' W => ∃ Bx, w.heap.size + 4 < Bx ∧ Blk W Bx 33 #[.int .i64 (fr + (x.1 : Int)), .int .i64 (x.2 : Int)] ∧ a' = { tmps := #[.pointer (some ⟨g, 0, none⟩), .int .i64 m, .pointer (some ⟨w.heap.size, 0, none⟩), .pointer (some ⟨w.heap.size + 1, 0, none⟩), .pointer (some ⟨w.heap.size + 1 + 1, 0, none⟩), .pointer (some ⟨w.heap.size + 1 + 1 + 1, 0, none⟩), .pointer (some ⟨Bx, 0, none⟩), .pointer (some ⟨g, 0, none⟩), .bool false, .int .i64 m, .bool false, .pointer (some ⟨g, 0, none⟩), .func (.func 18) #[] #[.pointer (some ⟨w.heap.size + 1 + 1 + 1 + 1, 0, none⟩)], .agg #[.int .i64 (fr + (x.1 : Int)), .int .i64 (x.2 : Int)], undef, undef, undef, undef, undef, undef, undef, undef, undef, undef, undef, undef, undef], defers := [] })
    (fun x a' _ X Y row hs hg hr => by obtain ⟨Bx, e1, e2, e3⟩ := hs; exact ⟨Bx, e1, e2.own hg (fun r e => (hr r e).2), e3⟩) ?assign ?body ?done ?stop
  case assign =>
    rintro l pre x W K hi hK
    unfold encs
    have hz := hi.size
    gi_wp2
    exact hK _ _ ((KeepsOthers.alloc _ _).from _) (fun b hb => Below.heap_alloc W _ b (by
      rcases hb with rfl | ⟨h0, rfl⟩ | rfl
      · omega
      · have := hll h0; omega
      · omega)) ⟨hi.less, hi.b0.more _, hi.b1.more _, hi.b2.more _, hi.b3.more _, hi.bel.trans ((Below.refl _ W).alloc hi.bel.size _), by simp; omega⟩ ⟨W.heap.size, by omega, Blk.fresh W 33 _, rfl⟩
  case body =>
    rintro l pre x a' W hl ⟨r, hr⟩ hi ⟨Bx, hBx, hx, rfl⟩ hlt
    have x0 := hx.cell 0
    have x1 := hx.cell 1
    have s0 := hi.b0.cell 0
    have s1 := hi.b1.cell 0
    have f2 := hi.b2.thaw 0
    have f3 := hi.b3.thaw 0
    have HI := Lib.hid hi
    have HX := Lib.hid hx
    clear hi hx
    by_cases hc : m ≤ (x.2 : Int)
    · have hd : 1 ≤ n - 1 - 1 := by omega
      have hmx : Try.prog.follows .mixedOrders = true := by kernel_rfl
      have hcl := fun (W1 : World) (hb : Below w.heap.size w W1) (b : Nat) (hrow : Blk W1 b 33 #[.int .i64 (fr + (x.1 : Int)), .int .i64 m]) => claim_walk W1 g lb fr p mr f (some ⟨b, 0, none⟩) 1 1 [(fr + (x.1 : Int), m)] (by omega) (HS.out.up hb) ⟨rfl, by simpa using hm2, fun _ => ⟨b, 0, rfl, hrow.lt, fun i hi => by
        have : i = 0 := by simp at hi; omega
        subst this
        exact ⟨hrow.cell 0, hrow.cell 1⟩⟩⟩
      have hz := HI.out.size
      have HBX := Lib.hid ((HI.out.bel.trans ((Below.refl _ W).alloc HI.out.bel.size (.cells #[.int .i64 (fr + (x.1 : Int)), .int .i64 m] 33))).drew : Below w.heap.size w (W.alloc (.cells #[.int .i64 (fr + (x.1 : Int)), .int .i64 m] 33)).drew)
      have HC := Lib.hid (hcl _ HBX.out W.heap.size (Blk.fresh W 33 #[.int .i64 (fr + (x.1 : Int)), .int .i64 m]).drew)
      have k2 := (HI.out.b2.more (.cells #[.int .i64 (fr + (x.1 : Int)), .int .i64 m] 33)).drew
      have k3 := (HI.out.b3.more (.cells #[.int .i64 (fr + (x.1 : Int)), .int .i64 m] 33)).drew
      have kx := (HX.out.more (.cells #[.int .i64 (fr + (x.1 : Int)), .int .i64 m] 33)).drew
      have K2 := Lib.hid k2
      have K0 := Lib.hid ((HI.out.b0.more (.cells #[.int .i64 (fr + (x.1 : Int)), .int .i64 m] 33)).drew)
      have K1 := Lib.hid ((HI.out.b1.more (.cells #[.int .i64 (fr + (x.1 : Int)), .int .i64 m] 33)).drew)
      have K3 := Lib.hid k3
      have KX := Lib.hid kx
      clear k2 k3 kx hcl
      have hS : (fun W' : World => W'.cell? ⟨Bx, 0, none⟩ = some (.int .i64 (fr + (x.1 : Int))) ∧ W'.cell? ⟨w.heap.size, 0, none⟩ = some (.pointer (some ⟨g, 0, none⟩)) ∧ W'.cell? ⟨w.heap.size + 1, 0, none⟩ = some (.int .i64 m)) W.drew := ⟨x0, s0, s1⟩
      have HSW := Lib.hid hS
      clear hS
      gi_wp2
      refine wpIn_region_held (S := fun W' : World => W'.cell? ⟨Bx, 0, none⟩ = some (.int .i64 (fr + (x.1 : Int))) ∧ W'.cell? ⟨w.heap.size, 0, none⟩ = some (.pointer (some ⟨g, 0, none⟩)) ∧ W'.cell? ⟨w.heap.size + 1, 0, none⟩ = some (.int .i64 m)) hmx (noDefer_spec (by kernel_rfl)) (by rintro ⟨_, _, h⟩; exact h) ?_
      refine wpAnyH_take (i := 0) (oi := ({ dst := some 18, op := Op.fieldAddr 33 (Operand.tmp 6) 0, type := 0, pos := "space.go:86", after := #[], guard := none } : Oper)) (v := .pointer (some ⟨Bx, 0, none⟩)) rfl (by kernel_rfl) (by kernel_rfl) (by kernel_rfl) (fun _ _ _ h => h) (Or.inl ⟨by rfl, ?_⟩) HSW.out ?_
      · intro w' hSw
        obtain ⟨z0, z1, z2⟩ := hSw
        go_simp
      simp only [Act.put, List.setIfInBounds_toArray, List.set_cons_zero, List.set_cons_succ]
      refine wpAnyH_take (i := 1) (oi := ({ dst := some 19, op := Op.load 3 (Operand.tmp 18), type := 3, pos := "space.go:86", after := #[{ on := 0, ground := Ground.data }], guard := none } : Oper)) (v := .int .i64 (fr + (x.1 : Int))) rfl (by kernel_rfl) (by kernel_rfl) (by kernel_rfl) (fun _ _ _ h => h) (Or.inl ⟨by rfl, ?_⟩) HSW.out ?_
      · intro w' hSw
        obtain ⟨z0, z1, z2⟩ := hSw
        go_simp
      simp only [Act.put, List.setIfInBounds_toArray, List.set_cons_zero, List.set_cons_succ]
      refine wpAnyH_take (i := 2) (oi := ({ dst := some 20, op := Op.load 24 (Operand.tmp 2), type := 24, pos := "space.go:86", after := #[], guard := none } : Oper)) (v := .pointer (some ⟨g, 0, none⟩)) rfl (by kernel_rfl) (by kernel_rfl) (by kernel_rfl) (fun _ _ _ h => h) (Or.inl ⟨by rfl, ?_⟩) HSW.out ?_
      · intro w' hSw
        obtain ⟨z0, z1, z2⟩ := hSw
        go_simp
      simp only [Act.put, List.setIfInBounds_toArray, List.set_cons_zero, List.set_cons_succ]
      refine wpAnyH_take (i := 3) (oi := ({ dst := some 21, op := Op.fieldAddr 33 (Operand.tmp 6) 0, type := 0, pos := "space.go:86", after := #[], guard := none } : Oper)) (v := .pointer (some ⟨Bx, 0, none⟩)) rfl (by kernel_rfl) (by kernel_rfl) (by kernel_rfl) (fun _ _ _ h => h) (Or.inl ⟨by rfl, ?_⟩) HSW.out ?_
      · intro w' hSw
        obtain ⟨z0, z1, z2⟩ := hSw
        go_simp
      simp only [Act.put, List.setIfInBounds_toArray, List.set_cons_zero, List.set_cons_succ]
      refine wpAnyH_take (i := 4) (oi := ({ dst := some 22, op := Op.load 3 (Operand.tmp 21), type := 3, pos := "space.go:86", after := #[{ on := 3, ground := Ground.data }], guard := none } : Oper)) (v := .int .i64 (fr + (x.1 : Int))) rfl (by kernel_rfl) (by kernel_rfl) (by kernel_rfl) (fun _ _ _ h => h) (Or.inl ⟨by rfl, ?_⟩) HSW.out ?_
      · intro w' hSw
        obtain ⟨z0, z1, z2⟩ := hSw
        go_simp
      simp only [Act.put, List.setIfInBounds_toArray, List.set_cons_zero, List.set_cons_succ]
      refine wpAnyH_take (i := 5) (oi := ({ dst := some 23, op := Op.load 3 (Operand.tmp 3), type := 3, pos := "space.go:86", after := #[], guard := none } : Oper)) (v := .int .i64 m) rfl (by kernel_rfl) (by kernel_rfl) (by kernel_rfl) (fun _ _ _ h => h) (Or.inl ⟨by rfl, ?_⟩) HSW.out ?_
      · intro w' hSw
        obtain ⟨z0, z1, z2⟩ := hSw
        go_simp
      simp only [Act.put, List.setIfInBounds_toArray, List.set_cons_zero, List.set_cons_succ]
      refine wpAnyH_take (i := 6) (oi := ({ dst := some 24, op := Op.build 33 #[(0, Operand.tmp 22), (1, Operand.tmp 23)], type := 33, pos := "space.go:86", after := #[{ on := 4, ground := Ground.data }, { on := 5, ground := Ground.data }], guard := none } : Oper)) (v := .agg #[.int .i64 (fr + (x.1 : Int)), .int .i64 m]) rfl (by kernel_rfl) (by kernel_rfl) (by kernel_rfl) (fun _ _ _ h => h) (Or.inl ⟨by rfl, ?_⟩) HSW.out ?_
      · intro w' hSw
        obtain ⟨z0, z1, z2⟩ := hSw
        go_simp
      simp only [Act.put, List.setIfInBounds_toArray, List.set_cons_zero, List.set_cons_succ]
      refine wpAnyH_one (i := 7) (by kernel_rfl) rfl rfl ?_
      go_simp
      refine ⟨⟨KX.out.cell 0, K0.out.cell 0, K1.out.cell 0⟩, ?_⟩
      refine wpAnyH_one (i := 8) (by kernel_rfl) rfl rfl ?_
      go_simp
      refine HC.out.mono ?_
      rintro e w2 ⟨rfl, hx2, hs2⟩
      have z0 := (hx2.blk K0.out (by omega)).cell 0
      have z1 := (hx2.blk K1.out (by omega)).cell 0
      have zx := (hx2.blk KX.out (by omega)).cell 0
      have c2 := (hx2.blk K2.out (by omega)).cell 0
      have c3 := (hx2.blk K3.out (by omega)).cell 0
      have g2 := (hx2.blk K2.out (by omega)).thaw 0
      have g3 := (hx2.blk K3.out (by omega)).thaw 0
      have B2 := Lib.hid (hx2.blk K2.out (by omega))
      have B3 := Lib.hid (hx2.blk K3.out (by omega))
      have X2 := Lib.hid hx2
      have S2 := Lib.hid hs2
      clear hx2 hs2
      refine ⟨⟨zx, z0, z1⟩, ?_⟩
      refine wpAnyH_one (i := 9) (by kernel_rfl) rfl rfl ?_
      go_simp
      refine wpAnyH_one (i := 10) (by kernel_rfl) rfl rfl ?_
      go_simp
      refine wpAnyH_done (by kernel_rfl) ?_ _
      gi_wp2
      have hx3 : Ex g w w2 := (Ex.of_below HBX.out).trans X2.out
      refine ⟨((((KeepsOthers.alloc W _).trans (KeepsOthers.drew _)).from _).trans (X2.out.keepsFrom (by omega))).trans (((KeepsOthers.setCell w2 _ _).trans (KeepsOthers.setCell _ _ _)).from _), rfl, pre, x, rfl, HI.out.less, hc,
        (B2.out.put 0 _).off (by simp) _, (B3.out.off (by simp) _).put 0 _, (hx3.setFar (by omega) _).setFar (by omega) _, ?_⟩
      rcases S2.out with ⟨h0, hs⟩ | ⟨h0, lb', p', mr', hs, hlb⟩
      · exact .inl ⟨h0, (hs.setFar (by omega) (fun h => by have := hll h; omega) _).setFar (by omega) (fun h => by have := hll h; omega) _⟩
      · have hlb2 : 0 < f.length → w.heap.size + 4 < lb' := fun h => by
          have h3 := hlb h
          have h4 : W.heap.size + 1 ≤ lb' := by simpa using h3
          omega
        have hfl : (truns fr false [(fr + (x.1 : Int), m)] f).2.length = f.length := truns_length _ _ _ _
        exact .inr ⟨h0, lb', p', mr', (hs.setFar (by omega) (fun h => by have := hlb2 (by omega); omega) _).setFar (by omega) (fun h => by have := hlb2 (by omega); omega) _, fun h => by have := hlb2 h; omega⟩
    · gi_wp2
      exact ⟨KeepsFrom.refl _ _, Kp.refl _ _ _ _ _, less_snoc HI.out.less (by omega), HI.out.b0, HI.out.b1, HI.out.b2, HI.out.b3, HI.out.bel, HI.out.size⟩
  case done =>
    rintro D ys W hD rfl hi hK
    have f2 := hi.b2.thaw 0
    have f3 := hi.b3.thaw 0
    have q2 := (hi.b2.put 0 (.int .i64 0)).off (a := ⟨w.heap.size + 1 + 1 + 1, 0, none⟩) (by simp) (.int .i64 14)
    have q3 := (hi.b3.off (a := ⟨w.heap.size + 1 + 1, 0, none⟩) (by simp) (.int .i64 0)).put 0 (.int .i64 14)
    have hb := (hi.bel.setCell (p := ⟨w.heap.size + 1 + 1, 0, none⟩) (by simp only; omega) (.int .i64 0)).setCell (p := ⟨w.heap.size + 1 + 1 + 1, 0, none⟩) (by simp only; omega) (.int .i64 14)
    have hK2 := ((KeepsOthers.setCell W ⟨w.heap.size + 1 + 1, 0, none⟩ (.int .i64 0)).trans (KeepsOthers.setCell _ ⟨w.heap.size + 1 + 1 + 1, 0, none⟩ (.int .i64 14))).same D _ hK rfl
    have HT := Lib.hid (tk_none (fr := fr) hi.less)
    have HQ2 := Lib.hid q2
    have HQ3 := Lib.hid q3
    have HB := Lib.hid hb
    have HK2 := Lib.hid hK2
    have c2 := hi.b2.cell 0
    have c3 := hi.b3.cell 0
    clear hi q2 q3 hb hK2
    gi_wp2
    refine ⟨by simp, .inl ⟨_, _, rfl, run_takeDeferred HK2.out, ?_⟩⟩
    have r2 := cell_kept (HQ2.out.cell 0) (grownBy_putObj' _ D (.deferred none)) (fun r e => by cases e; exact ⟨_, HK2.out, rfl⟩)
    have r3 := cell_kept (HQ3.out.cell 0) (grownBy_putObj' _ D (.deferred none)) (fun r e => by cases e; exact ⟨_, HK2.out, rfl⟩)
    have hbf := HB.out.trans (belowK_b (w := w) (Nat.le_refl _) _ D _ (.deferred none) (by omega) HK2.out rfl rfl)
    refine ⟨.tuple #[.int .i64 0, .int .i64 14], ?_, ?_⟩
    · simp [results, Try.f10, go_sem, r2, r3]
    · rw [HT.out]
      exact ⟨rfl, Ex.of_below hbf, lb, p, mr, HS.out.up hbf, fun _ => .inl rfl⟩
  case stop =>
    rintro D c pre W hD hpre ⟨rfl, pre0, r, rfl, hless, hle, q2, q3, hleft⟩ hK
    have hr : r ∈ runs f 0 := hpre.subset (by simp)
    have HT := Lib.hid (tk_some (fr := fr) hpre hless hle)
    have HTR := Lib.hid (truns_run HS.out.lo HS.out.end' hr hm hle)
    have HQ2 := Lib.hid q2
    have HQ3 := Lib.hid q3
    have HL := Lib.hid hleft
    clear q2 q3 hleft hpre hless
    gi_wp2
    refine ⟨by simp, .inl ⟨_, _, rfl, run_takeDeferred hK, ?_⟩⟩
    have r2 := cell_kept (HQ2.out.cell 0) (grownBy_putObj' _ D (.deferred none)) (fun r e => by cases e; exact ⟨_, hK, rfl⟩)
    have r3 := cell_kept (HQ3.out.cell 0) (grownBy_putObj' _ D (.deferred none)) (fun r e => by cases e; exact ⟨_, hK, rfl⟩)
    have hl2 : Left g lb fr p mr f w (truns fr false [(fr + (r.1 : Int), m)] f) (W.putObj D (.deferred none)) := HL.out.own (B := w.heap.size) (Nat.le_refl _) (grownBy_putObj' W D (.deferred none)) (fun r e => by cases e; exact ⟨by omega, _, hK, rfl⟩)
    rw [HTR.out] at hl2 r3
    refine ⟨.tuple #[.int .i64 (fr + (r.1 : Int)), .int .i64 0], ?_, ?_⟩
    · simp [results, Try.f10, go_sem, r2, r3]
    · rw [HT.out]
      obtain ⟨h1, ⟨h2, _⟩ | ⟨_, lb', p', mr', h3, h4⟩⟩ := hl2
      · exact absurd rfl h2
      · exact ⟨rfl, h1, lb', p', mr', h3, fun h0 => .inr (h4 h0)⟩
end Go.Proofs.Ytoeniealmcihmaa
