/- graph.rising of one edge; graph.Make of vertices that rise and one edge. -/
import Derived.Test.YtcinbmekjlmdpaaY0d
import Derived.Test.YtcinbmekjlmdpaaY0c

/-! graph.rising of one edge; graph.Make of vertices that rise and one edge. -/
namespace Go.Proofs.Ytcinbmekjlmdpaa
open Go.RowKit

def Same1 (w : World) (e : Ending) (w' : World) : Prop := e = .returned (.tuple #[]) ∧ w = w'
attribute [local irreducible] V
set_option maxRecDepth 100000 in
theorem isorte_walk (w : World) (v f : Value) :
    Calls Try.prog 84 #[v, .int .i64 0, .int .i64 1, f] w (Same1 w) := by
  go_enter Try.func84, Try.ntmps84
  go_wp2
  go_loop [8] (fun i => i = .int .i64 1) (fun _ => 0)
  case atStart => rfl
  case round =>
    obtain rfl := hrel
    go_wp2
    go_end0
    exact ⟨rfl, rfl⟩
set_option maxRecDepth 100000 in
theorem stablee_walk (w : World) (v f : Value) :
    Calls Try.prog 69 #[v, .int .i64 1, f] w (Same1 w) := by
  go_enter Try.func69, Try.ntmps69
  go_wp2
  go_loop [7, 8] (fun a b => a = .int .i64 0 ∧ b = .int .i64 20) (fun _ _ => 0)
  case atStart => exact ⟨rfl, rfl⟩
  case round =>
    obtain ⟨rfl, rfl⟩ := hrel
    go_wp2_with (go_at_call 84; refine (isorte_walk _ _ _).mono ?_; rintro e w1 ⟨rfl, rfl⟩)
    go_loop [6] (fun a => a = .int .i64 20) (fun _ => 0)
    case atStart => rfl
    case round =>
      obtain rfl := hrel
      go_wp2
      go_end0
      exact ⟨rfl, rfl⟩
set_option maxRecDepth 100000 in
theorem sortste_walk (w : World) (A : Option Addr) (c : Nat) (f : Value) :
    Calls Try.prog 57 #[.slice A 1 c, f] w (Same1 w) := by
  go_enter Try.func57, Try.ntmps57
  go_wp2_with (go_at_call 69; refine (stablee_walk _ _ _).mono ?_; rintro e w1 ⟨rfl, rfl⟩)
  go_end0
  exact ⟨rfl, rfl⟩
set_option maxRecDepth 100000 in
theorem compacte_walk (w : World) (A : Option Addr) (c : Nat) (f : Value) :
    Calls Try.prog 59 #[.slice A 1 c, f] w fun e w' => e = .returned (.slice A 1 c) ∧ w = w' := by
  go_enter Try.func59, Try.ntmps59
  go_wp2
  go_ret
  exact ⟨rfl, rfl⟩
attribute [local irreducible] wpList in
set_option maxRecDepth 100000 in
set_option maxHeartbeats 1000000 in
theorem risinge_walk (w : World) (A : Option Addr) (c : Nat) (x : Eg) (h : RdE w A [x]) (fv : Value) (hf1 : fv = .func (.func 46) #[] #[]) :
    Calls Try.prog 45 #[.slice A 1 c, fv] w fun e w' => ∃ v, e = .returned v ∧ OwE w' w.heap.size v [x] ∧ Below w.heap.size w w' := by
  subst hf1
  have HB : Hid (Below w.heap.size w (w.alloc (.cells #[.func (.func 46) #[] #[]] 79))) := (Below.refl _ w).alloc (Nat.le_refl _) _
  have HR := Lib.hid (h.kept HB.out (Nat.le_refl _))
  have hmf : ∀ (fn : Fn) (first cap : Array Value) (w : World), (Instr.makeFunc fn first cap).run Try.prog w = .ok (.func fn first cap) w := fun _ _ _ _ => rfl
  have HC : Hid (∀ W (hW : RdE W A [x]), Calls Try.prog 25 #[.slice A 1 c] W fun e w' => ∃ v, e = .returned v ∧ OwE w' W.heap.size v [x] ∧ Below W.heap.size W w') := fun W hW => clonee_walk W A c [x] hW
  clear h
  go_enter Try.func45, Try.ntmps45
  go_wp2_with (first
    | (go_at_call 25; refine (HC.out _ HR.out).mono ?_; rintro e w1 ⟨u, rfl, ho, hb⟩; have HO1 := Lib.hid ho; have hrv := ho.rve (by simp); obtain ⟨A1, c1, hu, _, _⟩ := hrv; have hu2 : u = .slice A1 1 c1 := hu; clear hu; subst hu2; have HB1 := Lib.hid hb; clear ho hb)
    | (go_at_call 57; refine (sortste_walk _ _ _ _).mono ?_; rintro e w2 ⟨rfl, rfl⟩)
    | (go_at_call 59; refine (compacte_walk _ _ _ _).mono ?_; rintro e w2 ⟨rfl, rfl⟩))
  go_ret
  exact ⟨_, rfl, owns_base (by simp) HO1.out, HB.out.trans (Below.mono HB1.out HB.out.size)⟩
/-- A slot of a struct's result. -/
theorem RG.mk {w : World} {u v : Value} {vs : List UInt32} {es : List Eg} (h : RV w u vs) (h2 : RVE w v es) : RG w (.agg #[u, v]) ⟨vs, es⟩ := by
  obtain ⟨A, c, rfl, h3, h4⟩ := h
  obtain ⟨B, d, rfl, h5, h6⟩ := h2
  exact ⟨A, c, B, d, rfl, h3, h5, h4, h6⟩
theorem OwE.keepB {w w' : World} {base : Nat} {v : Value} {es : List Eg} (h : OwE w base v es) (hk : ∀ g cur, Blk w g 39 cur → Blk w' g 39 cur) : OwE w' base v es := by
  obtain ⟨h1, h2⟩ := h
  refine ⟨h1, ?_⟩
  rcases h2 with h2 | ⟨g, cap, cur, h3, h4, h5, h6⟩
  · exact .inl h2
  · exact .inr ⟨g, cap, cur, h3, h4, hk g cur h5, h6⟩
theorem keep_put {w : World} {g i k : Nat} {t t2 : TypeId} {cs cur : Array Value} (h : Blk w g t cs) (ht : t ≠ t2) (v : Value) (hb : Blk w k t2 cur) : Blk (w.setCell ⟨g, i, none⟩ v) k t2 cur :=
  hb.off (fun e => by
    have e' : k = g := e
    subst e'
    unfold Blk at h hb
    rw [h] at hb
    injection hb with hb
    injection hb with _ h2
    exact ht h2) v
theorem zero25 (w : World) : (zeroValue 25).run Try.prog w = .ok (.agg #[.slice none 0 0, .slice none 0 0]) w := by kernel_rfl
attribute [local irreducible] wpList in
set_option maxRecDepth 100000 in
set_option maxHeartbeats 1000000 in
theorem make_walk (w : World) (A B : Option Addr) (c d : Nat) (l : List UInt32) (x : Eg) (h : Rd w A l) (hc : l.length ≤ c) (hs : l.Pairwise (· < ·)) (hl : l.length < 20) (h2 : RdE w B [x]) :
    Calls Try.prog 35 #[.slice A l.length c, .slice B 1 d] w fun e w' => ∃ v, e = .returned v ∧ RG w' v ⟨l, [x]⟩ ∧ Below w.heap.size w w' := by
  have H1 : Hid (∀ W, Below w.heap.size w W → Calls Try.prog 43 #[.slice A l.length c, .func (.func 44) #[] #[]] W fun e w' => ∃ v, e = .returned v ∧ Ow w' W.heap.size v l ∧ Below W.heap.size W w') := fun W hW => rising_walk W A c l (h.kept hW (Nat.le_refl _)) hc hs hl
  have H2 : Hid (∀ W, Below w.heap.size w W → Calls Try.prog 45 #[.slice B 1 d, .func (.func 46) #[] #[]] W fun e w' => ∃ v, e = .returned v ∧ OwE w' W.heap.size v [x] ∧ Below W.heap.size W w') := fun W hW => risinge_walk W B d x (h2.kept hW (Nat.le_refl _)) _ rfl
  have HLL : Hid (l.length ≤ 1000000) := h.len
  have hz := zero25
  clear h hc hs hl h2
  go_enter Try.func35, Try.ntmps35
  go_wp2_with (first
    | (go_at_call 43; refine (H1.out _ ((Below.refl _ w).alloc (Nat.le_refl _) _)).mono ?_; rintro e w1 ⟨u, rfl, hu, hb⟩; have HU := Lib.hid hu; obtain ⟨A1, c1, hu1, _, _⟩ := hu.rv HLL.out; subst hu1; have HB1 := Lib.hid hb; clear hb)
    | (go_at_call 45; refine (H2.out _ (((Below.refl _ w).alloc (Nat.le_refl _) _).trans (Below.mono HB1.out (by simp)))).mono ?_; rintro e w2 ⟨u2, rfl, hu, hb⟩; have HU2 := Lib.hid hu; obtain ⟨A2, c2, hu2, _, _⟩ := hu.rve (by simp); have hu3 : u2 = .slice A2 1 c2 := hu2; clear hu2; subst hu3; have HB2 := Lib.hid hb; have HK2 : Hid (Blk w2 w.heap.size 25 #[.slice none 0 0, .slice none 0 0]) := (((Blk.fresh w 25 #[.slice none 0 0, .slice none 0 0]).kept HB1.out (by simp)).kept HB2.out (((Blk.fresh w 25 #[.slice none 0 0, .slice none 0 0]).kept HB1.out (by simp)).lt)); have k0 := HK2.out.cell 0; have k1 := HK2.out.cell 1; have f0 := HK2.out.thaw 0; have f1 := HK2.out.thaw 1; clear hb))
  have HS : Hid (Below w.heap.size w ((w2.setCell ⟨w.heap.size, 0, none⟩ (.slice A1 l.length c1)).setCell ⟨w.heap.size, 1, none⟩ (.slice A2 1 c2))) := by
    have h1 := (((Below.refl _ w).alloc (Nat.le_refl _) (.cells #[.slice none 0 0, .slice none 0 0] 25)).trans (Below.mono HB1.out (by simp))).trans (Below.mono HB2.out (Nat.le_trans (by simp) HB1.out.size))
    exact RBelow.set (RBelow.set h1 0 (Nat.le_refl _) _) 1 (Nat.le_refl _) _
  have HW : Hid (Blk ((w2.setCell ⟨w.heap.size, 0, none⟩ (.slice A1 l.length c1)).setCell ⟨w.heap.size, 1, none⟩ (.slice A2 1 c2)) w.heap.size 25 #[.slice A1 l.length c1, .slice A2 1 c2]) := (HK2.out.put 0 _).put 1 _
  have g0 := HW.out.cell 0
  have g1 := HW.out.cell 1
  have HRG : Hid (RG ((w2.setCell ⟨w.heap.size, 0, none⟩ (.slice A1 l.length c1)).setCell ⟨w.heap.size, 1, none⟩ (.slice A2 1 c2)) (.agg #[.slice A1 l.length c1, .slice A2 1 c2]) ⟨l, [x]⟩) := by
    have s1 : Still w2 ((w2.setCell ⟨w.heap.size, 0, none⟩ (.slice A1 l.length c1)).setCell ⟨w.heap.size, 1, none⟩ (.slice A2 1 c2)) := (Still.put HK2.out (by decide) _).trans (Still.put (HK2.out.put 0 _) (by decide) _)
    have e1 := ((Oq.owned HU.out).still (Still.below HB2.out)).still s1
    have e2 := HU2.out.keepB (fun g cur hk => keep_put (i := 1) (HK2.out.put 0 (.slice A1 l.length c1)) (by decide) (.slice A2 1 c2) (keep_put (i := 0) HK2.out (by decide) (.slice A1 l.length c1) hk))
    exact RG.mk (e1.rv HLL.out) (e2.rve (by simp))
  exact bodyPost_ret (v := .agg #[.slice A1 l.length c1, .slice A2 1 c2]) (by simp [results, Try.results35, go_sem, g0, g1]) rfl ⟨_, rfl, HRG.out, HS.out⟩
end Go.Proofs.Ytcinbmekjlmdpaa

/-! The darts at a vertex. -/
namespace Go.Proofs.Ytcinbmekjlmdpaa
open Go.RowKit

/-- The darts at a vertex, rising. -/
def eds (es : List Eg) (x : UInt32) : List UInt32 := es.flatMap fun e => (if e.a = x then [2 * e.id] else []) ++ (if e.b = x then [2 * e.id + 1] else [])
theorem eds_succ {es : List Eg} {k : Nat} (h : k < es.length) (x : UInt32) : eds (es.take (k + 1)) x = eds (es.take k) x ++ (if (es.getD k e0).a = x then [2 * (es.getD k e0).id] else []) ++ (if (es.getD k e0).b = x then [2 * (es.getD k e0).id + 1] else []) := by
  rw [List.take_succ_eq_append_getElem h, getE_at h]
  unfold eds
  simp only [List.flatMap_append, List.flatMap_cons, List.flatMap_nil, List.append_nil, List.append_assoc]
theorem eds_len (es : List Eg) (x : UInt32) : (eds es x).length = (nbr es x).length := by
  induction es with
  | nil => rfl
  | cons e r ih =>
    unfold eds nbr at *
    have hh : ((if e.a = x then [2 * e.id] else []) ++ (if e.b = x then [2 * e.id + 1] else [])).length = ((if e.a = x then [e.b] else []) ++ (if e.b = x then [e.a] else [])).length := by
      by_cases h1 : e.a = x <;> by_cases h2 : e.b = x <;> simp [h1, h2]
    rw [List.flatMap_cons, List.flatMap_cons]
    have h3 : ∀ (a b c d : List UInt32), a.length = b.length → c.length = d.length → (a ++ c).length = (b ++ d).length := fun a b c d h h' => by rw [List.length_append, List.length_append, h, h']
    exact h3 _ _ _ _ hh ih
theorem eds_take (es : List Eg) (k : Nat) (x : UInt32) : (eds (es.take k) x).length ≤ 2 * es.length := by rw [eds_len]; exact nbr_take es k x
theorem Blk.grown {w w' : World} {base g : Nat} {t : TypeId} {cs : Array Value} {v : Value} {l : List UInt32} (h : Blk w g t cs) (ho : Oq w base v l) (ht : t ≠ 30) (hg : w.grownBy w' v.ownBlock) : Blk w' g t cs :=
  (hg.block g h.lt (fun e => by
    obtain ⟨_, _, cur, hcur⟩ := ho.lt e.symm
    unfold Blk at h hcur
    rw [h] at hcur
    injection hcur with hcur
    injection hcur with _ h2
    exact ht h2)).trans h
theorem Oq.below {w w' : World} {base : Nat} {v : Value} {l : List UInt32} (ho : Oq w base v l) (hg : w.grownBy w' v.ownBlock) (hb : base ≤ w.heap.size) : Below base w w' :=
  ⟨hg.os, hg.tape, hg.output, hg.size, fun k hk => hg.block k (Nat.lt_of_lt_of_le hk hb) (fun e => by have := (ho.lt e.symm).2.1; omega)⟩
theorem par0 : par 0 = 0 := rfl
theorem par1 : par 1 = 1 := rfl
theorem of0 (w : World) (id : UInt32) : Calls Try.prog 20 #[V id, .int .i64 0] w fun e' w' => e' = .returned (V (2 * id)) ∧ w = w' := by
  have h := of_rv w id 0
  rwa [par0, UInt32.add_zero] at h
theorem of1 (w : World) (id : UInt32) : Calls Try.prog 20 #[V id, .int .i64 1] w fun e' w' => e' = .returned (V (2 * id + 1)) ∧ w = w' := of_rv w id 1
attribute [local irreducible] V
attribute [local irreducible] wpList in
set_option maxRecDepth 100000 in
set_option maxHeartbeats 4000000 in
/-- graph.Ends. -/
theorem ends9_walk (w : World) (v : Value) (g : Gr) (x : UInt32) (h : RG w v g) (hE : g.es.length ≤ 1000) :
    Calls Try.prog 31 #[v, V x] w fun e w' => ∃ u, e = .returned u ∧ RV w' u (eds g.es x) ∧ Below w.heap.size w w' := by
  obtain ⟨A, c, B, d, rfl, _, _, hr, hre⟩ := h
  have HB : Hid (Below w.heap.size w (w.alloc (.cells #[.slice A g.vs.length c, .slice B g.es.length d] 25))) := (Below.refl _ w).alloc (Nat.le_refl _) _
  have HRE := Lib.hid hre
  have hgd := run_guard
  have hz := zero39
  have r1 := run_mul2
  have r2 := run_add1
  have r6 := V_cells
  unfold Value.cells at r6
  clear hr hre
  go_enter Try.func31, Try.ntmps31
  go_wp2
  generalize w.alloc (.cells #[.slice A g.vs.length c, .slice B g.es.length d] 25) = w1 at *
  go_loopw [5, 11] (fun v i wr => ∃ k : Nat, k ≤ g.es.length ∧ i = .int .i64 k ∧ Oq wr w.heap.size v (eds (g.es.take k) x) ∧ Below w.heap.size w wr) (fun _ i _ => g.es.length - (intOf i).toNat)
  case atStart => exact ⟨0, Nat.zero_le _, rfl, Oq.nil _ _, HB.out⟩
  case round =>
    obtain ⟨k, hk, rfl, hq, hb⟩ := hrel
    have HQ := Lib.hid hq
    have HBL := Lib.hid hb
    clear hq hb
    by_cases hlt : k < g.es.length
    · obtain ⟨b, o, rfl, hc⟩ := (HRE.out.kept HBL.out (Nat.le_refl _)).spot (by omega)
      obtain ⟨hc1, hc2, hc3⟩ := hc k hlt
      have hs := eds_succ hlt x
      have HLE : Hid ((eds (g.es.take k) x).length ≤ 2000) := by have := eds_take g.es k x; show _ ≤ _; omega
      generalize g.es.getD k e0 = y at *
      by_cases ha : y.a = x
      · rw [if_pos ha] at hs
        have e1 := eqT (x := y.a) (y := x) (by rw [ha]; simp)
        clear ha
        by_cases hbx : y.b = x
        · rw [if_pos hbx] at hs
          have e2 := eqT (x := y.b) (y := x) (by rw [hbx]; simp)
          clear hbx
          have HS := Lib.hid hs
          have HTK : Hid True := trivial
          clear hs hc
          go_wp2_with (first
            | (refine wpList_store_fresh rfl 39 (.tmp 7) (.tmp 14) rfl #[V y.id, V y.a, V y.b] rfl rfl (by kernel_rfl) rfl (all3 _ _ _) ?_; intro w2 hb2 hs2 hk2; have HB2 := Lib.hid hb2; have HK2 := Lib.hid hk2; have c0 : w2.cell? ⟨wr.heap.size, 0, none⟩ = some (V y.id) := hk2.cell 0; have c1 : w2.cell? ⟨wr.heap.size, 1, none⟩ = some (V y.a) := hk2.cell 1; have c2 : w2.cell? ⟨wr.heap.size, 2, none⟩ = some (V y.b) := hk2.cell 2; have HQ2 := Lib.hid (HQ.out.still (Still.below hb2)); have HZ2 : Hid (w.heap.size ≤ w2.heap.size) := Nat.le_trans HBL.out.size hb2.size; clear hb2 hs2 hk2)
            | (have T := HTK; go_at_call 20; refine (of0 _ _).mono ?_; rintro e w' ⟨rfl, rfl⟩; clear HTK)
            | (go_at_call 20; refine (of1 _ _).mono ?_; rintro e w' ⟨rfl, rfl⟩)
            | (refine wpList_pushq rfl (.tmp 19) (.tmp 23) rfl w.heap.size _ (eds (g.es.take k) x) (2 * y.id) w2.heap.size rfl rfl (HQ2.out.still (Still.below ((Below.refl _ w2).alloc (Nat.le_refl _) (.cells #[V (2 * y.id)] 30)))) (by have := HLE.out; simp; omega) (by have := HZ2.out; simp; omega) (Blk.fresh _ _ _) ?_; intro v3 w3 ho3 hg3 hb3; have HP3 : Hid True := trivial; have HQ3 := Lib.hid ho3; have HG3 := Lib.hid (Oq.below (HQ2.out.still (Still.below ((Below.refl _ w2).alloc (Nat.le_refl _) (.cells #[V (2 * y.id)] 30)))) hg3 (by have := HZ2.out; simp; omega)); have HZ3 : Hid (w.heap.size ≤ w3.heap.size) := (by have := HG3.out.size; have := HZ2.out; simp at *; show _ ≤ _; omega); have HK3 := Lib.hid (Blk.grown ((HK2.out.more _)) (HQ2.out.still (Still.below ((Below.refl _ w2).alloc (Nat.le_refl _) (.cells #[V (2 * y.id)] 30)))) (by decide) hg3); have d2 : w3.cell? ⟨wr.heap.size, 2, none⟩ = some (V y.b) := HK3.out.cell 2; have d0 : w3.cell? ⟨wr.heap.size, 0, none⟩ = some (V y.id) := HK3.out.cell 0; clear ho3 hg3 hb3)
            | (have T := HP3; refine wpList_pushq rfl (.tmp 29) (.tmp 33) rfl w.heap.size _ (eds (g.es.take k) x ++ [2 * y.id]) (2 * y.id + 1) w3.heap.size rfl rfl (HQ3.out.still (Still.below ((Below.refl _ w3).alloc (Nat.le_refl _) (.cells #[V (2 * y.id + 1)] 30)))) (by have := HLE.out; simp; omega) (by have := HZ3.out; simp; omega) (Blk.fresh _ _ _) ?_; intro v4 w4 ho4 hg4 hb4; have HP4 : Hid True := trivial; have HQ4 := Lib.hid ho4; have HG4 := Lib.hid (Oq.below (HQ3.out.still (Still.below ((Below.refl _ w3).alloc (Nat.le_refl _) (.cells #[V (2 * y.id + 1)] 30)))) hg4 (by have := HZ3.out; simp; omega)); have HZ4 : Hid (w.heap.size ≤ w4.heap.size) := (by have := HG4.out.size; have := HZ3.out; simp at *; show _ ≤ _; omega); have HK4 := Lib.hid (Blk.grown ((HK3.out.more _)) (HQ3.out.still (Still.below ((Below.refl _ w3).alloc (Nat.le_refl _) (.cells #[V (2 * y.id + 1)] 30)))) (by decide) hg4); have d2 : w4.cell? ⟨wr.heap.size, 2, none⟩ = some (V y.b) := HK4.out.cell 2; have d0 : w4.cell? ⟨wr.heap.size, 0, none⟩ = some (V y.id) := HK4.out.cell 0; clear ho4 hg4 hb4))
          go_roundw
          case rel => exact ⟨k + 1, by omega, by go_num, by rw [HS.out]; exact HQ4.out, ((((HBL.out.trans (Below.mono HB2.out HBL.out.size)).alloc HZ2.out _).trans HG3.out).alloc HZ3.out _).trans HG4.out⟩
          case measure => simp [intOf]; omega
        · rw [if_neg hbx, List.append_nil] at hs
          have e2 := eqF (x := y.b) (y := x) (by simpa using hbx)
          clear hbx
          have HS := Lib.hid hs
          have HTK : Hid True := trivial
          clear hs hc
          go_wp2_with (first
            | (refine wpList_store_fresh rfl 39 (.tmp 7) (.tmp 14) rfl #[V y.id, V y.a, V y.b] rfl rfl (by kernel_rfl) rfl (all3 _ _ _) ?_; intro w2 hb2 hs2 hk2; have HB2 := Lib.hid hb2; have HK2 := Lib.hid hk2; have c0 : w2.cell? ⟨wr.heap.size, 0, none⟩ = some (V y.id) := hk2.cell 0; have c1 : w2.cell? ⟨wr.heap.size, 1, none⟩ = some (V y.a) := hk2.cell 1; have c2 : w2.cell? ⟨wr.heap.size, 2, none⟩ = some (V y.b) := hk2.cell 2; have HQ2 := Lib.hid (HQ.out.still (Still.below hb2)); have HZ2 : Hid (w.heap.size ≤ w2.heap.size) := Nat.le_trans HBL.out.size hb2.size; clear hb2 hs2 hk2)
            | (go_at_call 20; refine (of0 _ _).mono ?_; rintro e w' ⟨rfl, rfl⟩)
            | (refine wpList_pushq rfl (.tmp 19) (.tmp 23) rfl w.heap.size _ (eds (g.es.take k) x) (2 * y.id) w2.heap.size rfl rfl (HQ2.out.still (Still.below ((Below.refl _ w2).alloc (Nat.le_refl _) (.cells #[V (2 * y.id)] 30)))) (by have := HLE.out; simp; omega) (by have := HZ2.out; simp; omega) (Blk.fresh _ _ _) ?_; intro v3 w3 ho3 hg3 hb3; have HP3 : Hid True := trivial; have HQ3 := Lib.hid ho3; have HG3 := Lib.hid (Oq.below (HQ2.out.still (Still.below ((Below.refl _ w2).alloc (Nat.le_refl _) (.cells #[V (2 * y.id)] 30)))) hg3 (by have := HZ2.out; simp; omega)); have HZ3 : Hid (w.heap.size ≤ w3.heap.size) := (by have := HG3.out.size; have := HZ2.out; simp at *; show _ ≤ _; omega); have HK3 := Lib.hid (Blk.grown ((HK2.out.more _)) (HQ2.out.still (Still.below ((Below.refl _ w2).alloc (Nat.le_refl _) (.cells #[V (2 * y.id)] 30)))) (by decide) hg3); have d2 : w3.cell? ⟨wr.heap.size, 2, none⟩ = some (V y.b) := HK3.out.cell 2; have d0 : w3.cell? ⟨wr.heap.size, 0, none⟩ = some (V y.id) := HK3.out.cell 0; clear ho3 hg3 hb3))
          go_roundw
          case rel => exact ⟨k + 1, by omega, by go_num, by rw [HS.out]; exact HQ3.out, ((HBL.out.trans (Below.mono HB2.out HBL.out.size)).alloc HZ2.out _).trans HG3.out⟩
          case measure => simp [intOf]; omega
      · rw [if_neg ha, List.append_nil] at hs
        have e1 := eqF (x := y.a) (y := x) (by simpa using ha)
        clear ha
        by_cases hbx : y.b = x
        · rw [if_pos hbx] at hs
          have e2 := eqT (x := y.b) (y := x) (by rw [hbx]; simp)
          clear hbx
          have HS := Lib.hid hs
          have HTK : Hid True := trivial
          clear hs hc
          go_wp2_with (first
            | (refine wpList_store_fresh rfl 39 (.tmp 7) (.tmp 14) rfl #[V y.id, V y.a, V y.b] rfl rfl (by kernel_rfl) rfl (all3 _ _ _) ?_; intro w2 hb2 hs2 hk2; have HB2 := Lib.hid hb2; have HK2 := Lib.hid hk2; have c0 : w2.cell? ⟨wr.heap.size, 0, none⟩ = some (V y.id) := hk2.cell 0; have c1 : w2.cell? ⟨wr.heap.size, 1, none⟩ = some (V y.a) := hk2.cell 1; have c2 : w2.cell? ⟨wr.heap.size, 2, none⟩ = some (V y.b) := hk2.cell 2; have HQ2 := Lib.hid (HQ.out.still (Still.below hb2)); have HZ2 : Hid (w.heap.size ≤ w2.heap.size) := Nat.le_trans HBL.out.size hb2.size; clear hb2 hs2 hk2)
            | (go_at_call 20; refine (of1 _ _).mono ?_; rintro e w' ⟨rfl, rfl⟩)
            | (refine wpList_pushq rfl (.tmp 29) (.tmp 33) rfl w.heap.size _ (eds (g.es.take k) x) (2 * y.id + 1) w2.heap.size rfl rfl (HQ2.out.still (Still.below ((Below.refl _ w2).alloc (Nat.le_refl _) (.cells #[V (2 * y.id + 1)] 30)))) (by have := HLE.out; simp; omega) (by have := HZ2.out; simp; omega) (Blk.fresh _ _ _) ?_; intro v4 w4 ho4 hg4 hb4; have HP4 : Hid True := trivial; have HQ4 := Lib.hid ho4; have HG4 := Lib.hid (Oq.below (HQ2.out.still (Still.below ((Below.refl _ w2).alloc (Nat.le_refl _) (.cells #[V (2 * y.id + 1)] 30)))) hg4 (by have := HZ2.out; simp; omega)); have HZ4 : Hid (w.heap.size ≤ w4.heap.size) := (by have := HG4.out.size; have := HZ2.out; simp at *; show _ ≤ _; omega); have HK4 := Lib.hid (Blk.grown ((HK2.out.more _)) (HQ2.out.still (Still.below ((Below.refl _ w2).alloc (Nat.le_refl _) (.cells #[V (2 * y.id + 1)] 30)))) (by decide) hg4); have d2 : w4.cell? ⟨wr.heap.size, 2, none⟩ = some (V y.b) := HK4.out.cell 2; have d0 : w4.cell? ⟨wr.heap.size, 0, none⟩ = some (V y.id) := HK4.out.cell 0; clear ho4 hg4 hb4))
          go_roundw
          case rel => exact ⟨k + 1, by omega, by go_num, by rw [HS.out]; exact HQ4.out, ((HBL.out.trans (Below.mono HB2.out HBL.out.size)).alloc HZ2.out _).trans HG4.out⟩
          case measure => simp [intOf]; omega
        · rw [if_neg hbx, List.append_nil] at hs
          have e2 := eqF (x := y.b) (y := x) (by simpa using hbx)
          clear hbx
          have HS := Lib.hid hs
          have HTK : Hid True := trivial
          clear hs hc
          go_wp2_with (first
            | (refine wpList_store_fresh rfl 39 (.tmp 7) (.tmp 14) rfl #[V y.id, V y.a, V y.b] rfl rfl (by kernel_rfl) rfl (all3 _ _ _) ?_; intro w2 hb2 hs2 hk2; have HB2 := Lib.hid hb2; have HK2 := Lib.hid hk2; have c0 : w2.cell? ⟨wr.heap.size, 0, none⟩ = some (V y.id) := hk2.cell 0; have c1 : w2.cell? ⟨wr.heap.size, 1, none⟩ = some (V y.a) := hk2.cell 1; have c2 : w2.cell? ⟨wr.heap.size, 2, none⟩ = some (V y.b) := hk2.cell 2; have HQ2 := Lib.hid (HQ.out.still (Still.below hb2)); have HZ2 : Hid (w.heap.size ≤ w2.heap.size) := Nat.le_trans HBL.out.size hb2.size; clear hb2 hs2 hk2))
          go_roundw
          case rel => exact ⟨k + 1, by omega, by go_num, by rw [HS.out]; exact HQ2.out, HBL.out.trans (Below.mono HB2.out HBL.out.size)⟩
          case measure => simp [intOf]; omega
    · obtain rfl : k = g.es.length := by omega
      have hq := HQ.out
      have hl := eds_take g.es g.es.length x
      rw [List.take_length] at hq hl
      have HV := Lib.hid (hq.rv (by omega))
      clear hq hl
      go_wp2
      go_ret
      exact ⟨_, rfl, HV.out, HBL.out⟩
end Go.Proofs.Ytcinbmekjlmdpaa
