/- The document's Part. -/
import Derived.Test.YtcinbmekjlmdpaaGreatY0e
import Derived.Test.YtcinbmekjlmdpaaGreatY0g

/-! The document's Part. -/
namespace Go.Proofs.YtcinbmekjlmdpaaGreat
open Go.RowKit

section
variable {ops : Array Oper} {rest : List Oper} {o : Oper} {a : Act} {w : World} {Q : Exit → Act → World → Prop}
theorem wpList_mapI (hgd : o.guard = none) (m x v : Operand) (t e : TypeId) (ho : o.op = .insert t m x v) (ht : Tryz.prog.underlying t = some (.map 34 e)) (mb n : Nat) (f : UInt32 → Option Value) (k : UInt32) (val : Value)
    (hm : a.eval m = .map (some mb)) (hx : a.eval x = V k) (hv : a.eval v = val) (hmu : Mu w mb n f) (hn : n < maxLen)
    (h : ∀ w', Mu w' mb (n + 1) (fun y => if y = k then some val else f y) → Ex mb w w' → w'.heap.size = w.heap.size → wpList Tryz.prog ops Q rest (a.put o.dst undef) w') : wpList Tryz.prog ops Q (o :: rest) a w := by
  refine wpList_plain hgd fun K hK => ?_
  obtain ⟨w', hrun, h1, h2, h3⟩ := hmu.put t e ht hn k val
  unfold Oper.wp
  simp only [execOp, ho, Sem.run_bind, Sem.run_pure, Result.andThen_ok, hm, hx, hv, hrun]
  exact hK _ _ (h w' h1 h2 h3)
end
/-- What the map of those reached holds. -/
def pf (N : UInt32 → Bool) (x : UInt32) : Option Value := if N x then some (.bool true) else none
theorem pf_put (N : UInt32 → Bool) (y : UInt32) : (fun z => if z = y then some (Value.bool true) else pf N z) = pf (upd N y true) := by
  funext z
  unfold pf
  by_cases e : z = y
  · subst e; rw [upd_at]; simp
  · rw [upd_ne _ _ e]; simp [e]
theorem pf_put2 (N : UInt32 → Bool) (a b : UInt32) : (fun z => if z = b then some (Value.bool true) else if z = a then some (Value.bool true) else pf N z) = pf (upd (upd N a true) b true) := by
  rw [← pf_put (upd N a true) b, ← pf_put N a]
theorem zero4 (w : World) : (zeroValue 4).run Tryz.prog w = .ok (.bool false) w := by kernel_rfl
theorem look74 {w : World} {mb n : Nat} {N : UInt32 → Bool} (h : Mu w mb n (pf N)) (x : UInt32) : (Instr.lookup 158 (.map (some mb)) (V x) false).run Tryz.prog w = .ok (.bool (N x)) w := by
  have := h.look 158 4 Tryz.underlying158 _ (zero4 w) x
  rw [this]
  unfold pf
  cases N x <;> rfl
structure PInv (es : List Eg) (v : UInt32) (N : UInt32 → Bool) : Prop where
  src : N v = true
  same : ∀ x, N x = true → lab es x = lab es v
theorem PInv.put {es : List Eg} {v y : UInt32} {N : UInt32 → Bool} (h : PInv es v N) (hy : lab es y = lab es v) : PInv es v (upd N y true) := by
  refine ⟨?_, fun x hx => ?_⟩
  · by_cases e : v = y
    · rw [← e]; exact upd_at _ _ _
    · rw [upd_ne _ _ e]; exact h.src
  · by_cases e : x = y
    · rw [e]; exact hy
    · rw [upd_ne _ _ e] at hx; exact h.same x hx
theorem PInv.done {es : List Eg} {v : UInt32} {N : UInt32 → Bool} (h : PInv es v N) (hc : ∀ e ∈ es, N e.a = N e.b) (x : UInt32) : N x = true ↔ lab es x = lab es v :=
  ⟨h.same x, fun e => (lab_same (fun x => N x = true) es (fun e he => by rw [hc e he]) e).2 h.src⟩
theorem upd_had {N : UInt32 → Bool} {y : UInt32} (h : N y = true) : upd N y true = N := by
  funext z
  by_cases e : z = y
  · rw [e, upd_at, h]
  · rw [upd_ne _ _ e]
theorem upd_two {N : UInt32 → Bool} {a b : UInt32} (h : N b = true) : upd (upd N a true) b true = upd N a true := by
  refine upd_had ?_
  by_cases e : b = a
  · rw [e]; exact upd_at _ _ _
  · rw [upd_ne _ _ e]; exact h
/-- Those reached, as far as place k. -/
def got (vs : List UInt32) (N : UInt32 → Bool) (k : Nat) : List UInt32 := (vs.take k).filter N
theorem got_yes {vs : List UInt32} {N : UInt32 → Bool} {k : Nat} (h : k < vs.length) (hn : N (vs.getD k 0) = true) : got vs N (k + 1) = got vs N k ++ [vs.getD k 0] := by
  unfold got
  rw [take_at h, List.filter_append]
  congr 1
  simp only [List.filter_cons, List.filter_nil, hn, if_true]
theorem got_no {vs : List UInt32} {N : UInt32 → Bool} {k : Nat} (h : k < vs.length) (hn : N (vs.getD k 0) = false) : got vs N (k + 1) = got vs N k := by
  unfold got
  rw [take_at h, List.filter_append]
  simp only [List.filter_cons, List.filter_nil, hn]
  simp
theorem got_len (vs : List UInt32) (N : UInt32 → Bool) (k : Nat) : (got vs N k).length ≤ vs.length := by
  unfold got
  have := List.length_filter_le N (vs.take k)
  rw [List.length_take] at this
  omega
theorem got_all {g : Gr} {v : UInt32} {N : UInt32 → Bool} (h : ∀ x, N x = true ↔ lab g.es x = lab g.es v) : got g.vs N g.vs.length = part g (lab g.es v) := by
  unfold got part
  rw [List.take_length]
  refine List.filter_congr fun x _ => ?_
  rw [Bool.eq_iff_iff, h x, beq_iff_eq]
def b2n (b : Bool) : Nat := if b then 1 else 0
attribute [local irreducible] V
attribute [local irreducible] wpList in
set_option maxRecDepth 100000 in
set_option maxHeartbeats 4000000 in
/-- The document's Part. -/
theorem rpart_walk (w : World) (v : Value) (g : Gr) (x : UInt32) (h : RG w v g) (hM : May g) (hx : x ∈ g.vs) :
    Calls Tryz.prog 96 #[v, V x] w fun e w' => ∃ u, e = .returned u ∧ Oq w' w.heap.size u (part g (lab g.es x)) ∧ Below w.heap.size w w' := by
  have HM := Lib.hid hM
  obtain ⟨A, c, B, d, rfl, _, _, hr, hre⟩ := h
  have hn64 := hM.nv
  have hn160 := hM.ne
  have hmm := @run_makeMap Tryz.prog
  have HB : Hid (Below w.heap.size w (w.alloc (.cells #[.slice A g.vs.length c, .slice B g.es.length d] 25))) := (Below.refl _ w).alloc (Nat.le_refl _) _
  have HBK : Hid (Blk (w.alloc (.cells #[.slice A g.vs.length c, .slice B g.es.length d] 25)) w.heap.size 25 #[.slice A g.vs.length c, .slice B g.es.length d]) := Blk.fresh _ _ _
  have HR := Lib.hid hr
  have HRE := Lib.hid hre
  have HXM := Lib.hid hx
  have hz := zero39
  have r6 := V_cells
  unfold Value.cells at r6
  have HSZ : Hid ((w.alloc (.cells #[.slice A g.vs.length c, .slice B g.es.length d] 25)).heap.size = w.heap.size + 1) := by show _ = _; simp
  clear hr hre hM hx
  go_enter Tryz.func96, Tryz.ntmps96
  have HME : Hid (Mu ((w.alloc (.cells #[.slice A g.vs.length c, .slice B g.es.length d] 25)).alloc (.map #[] 0)) (w.heap.size + 1) 0 (fun _ => none)) := by
    have := Mu.empty (w.alloc (.cells #[.slice A g.vs.length c, .slice B g.es.length d] 25))
    rw [HSZ.out] at this
    exact this
  go_wp2_with (refine wpList_mapI rfl _ _ _ 158 4 rfl Tryz.underlying158 (w.heap.size + 1) 0 _ x (.bool true) rfl rfl rfl HME.out (by decide) ?_; intro w2 hm2 hx2 hs2; have HM2 := Lib.hid hm2; have HX2 := Lib.hid hx2; clear hm2 hx2 hs2)
  have HMU : Hid (Mu w2 (w.heap.size + 1) 1 (pf (upd (fun _ => false) x true))) := by
    have h1 := HM2.out
    have e : (fun y => if y = x then some (Value.bool true) else (fun _ => none) y) = pf (upd (fun _ => false) x true) := by
      rw [← pf_put]; funext z; simp [pf]
    rw [e] at h1
    exact h1
  have HB2 : Hid (Below w.heap.size w w2) := Ex.below (HB.out.alloc (by rw [HSZ.out]; omega) _) HX2.out (by omega) (by simp; omega)
  have HK2 : Hid (Blk w2 w.heap.size 25 #[.slice A g.vs.length c, .slice B g.es.length d]) := HX2.out.blk (HBK.out.more _) (by omega)
  have HU0 : Hid (un g.vs (upd (fun _ => false) x true) + 1 ≤ g.vs.length) := by
    have h1 := un_put (N := fun _ => false) HXM.out rfl
    have h2 : un g.vs (fun _ => false) ≤ g.vs.length := List.countP_le_length
    show _ ≤ _
    omega
  clear HME HM2 HX2
  go_loopg [6] (2 * g.vs.length) (fun gk b wr => ∃ (gb : Bool) (N : UInt32 → Bool) (m : Nat), b = .bool gb ∧ Mu wr (w.heap.size + 1) m (pf N) ∧ Below w.heap.size w wr ∧ Blk wr w.heap.size 25 #[.slice A g.vs.length c, .slice B g.es.length d] ∧ PInv g.es x N ∧ (gb = false → ∀ e ∈ g.es, N e.a = N e.b) ∧ m + 2 * un g.vs N ≤ 2 * g.vs.length + 1 ∧ 2 * un g.vs N + b2n gb ≤ gk)
  case atStart => exact ⟨true, _, 1, rfl, HMU.out, HB2.out, HK2.out, ⟨upd_at _ _ _, fun y hy => by
    by_cases e : y = x
    · rw [e]
    · rw [upd_ne _ _ e] at hy; cases hy⟩, fun h => (by cases h), by have := HU0.out; omega, by have := HU0.out; unfold b2n; simp; omega⟩
  case round =>
    obtain ⟨gb, N, m, rfl, hmu, hb, hkb, hinv, hcl, hml, hgk⟩ := hrel
    have HMu := Lib.hid hmu
    have HBl := Lib.hid hb
    have HKb := Lib.hid hkb
    have HI := Lib.hid hinv
    have HCL := Lib.hid hcl
    have HML := Lib.hid hml
    have HGK := Lib.hid hgk
    have k0 : wr.cell? ⟨w.heap.size, 0, none⟩ = some (.slice A g.vs.length c) := hkb.cell 0
    have k1 : wr.cell? ⟨w.heap.size, 1, none⟩ = some (.slice B g.es.length d) := hkb.cell 1
    clear hmu hb hkb hinv hcl hml hgk
    cases gb with
    | false =>
      have HD := Lib.hid (HI.out.done (HCL.out rfl))
      have HGA := Lib.hid (got_all HD.out)
      go_wp2
      clear k0 k1
      generalize hwr : wr = ws at *
      go_loopw [9, 42] (fun v i wr => ∃ k : Nat, k ≤ g.vs.length ∧ i = .int .i64 k ∧ Oq wr ws.heap.size v (got g.vs N k) ∧ Below ws.heap.size ws wr) (fun _ i _ => g.vs.length - (intOf i).toNat)
      case atStart => exact ⟨0, Nat.zero_le _, rfl, Oq.nil _ _, Below.refl _ _⟩
      case round =>
        obtain ⟨k, hk, rfl, hq, hb⟩ := hrel
        have HQ := Lib.hid hq
        have HBs := Lib.hid hb
        have hmu := HMu.out.kept (hb.block _ HMu.out.lt)
        clear hq hb
        by_cases hlt : k < g.vs.length
        · obtain ⟨b, o, rfl, hc⟩ := (HR.out.kept (HBl.out.trans (Below.mono HBs.out HBl.out.size)) (Nat.le_refl _)).spot (by omega)
          have hcell := hc k hlt
          rw [getD_at hlt] at hcell
          have hl := look74 hmu (g.vs.getD k 0)
          have HGL := Lib.hid (got_len g.vs N k)
          clear hc hmu
          by_cases hN : N (g.vs.getD k 0) = true
          · have HS := Lib.hid (got_yes hlt hN)
            rw [hN] at hl
            clear hN
            generalize g.vs.getD k 0 = y at *
            go_wp2_with (refine wpList_pushq rfl (.tmp 49) (.tmp 51) rfl ws.heap.size _ (got g.vs N k) y wr.heap.size rfl rfl (HQ.out.still (Still.below ((Below.refl _ wr).alloc (Nat.le_refl _) (.cells #[V y] 34)))) (by have := HGL.out; omega) (by have := HBs.out.size; simp; omega) (Blk.fresh _ _ _) ?_; intro v3 w3 ho3 hg3 hb3; have HQ3 := Lib.hid ho3; have HG3 := Lib.hid (Oq.below (HQ.out.still (Still.below ((Below.refl _ wr).alloc (Nat.le_refl _) (.cells #[V y] 34)))) hg3 (by have := HBs.out.size; simp; omega)); clear ho3 hg3 hb3)
            go_roundw
            case rel => exact ⟨k + 1, by omega, by go_num, by rw [HS.out]; exact HQ3.out, (HBs.out.alloc HBs.out.size _).trans HG3.out⟩
            case measure => simp [intOf]; omega
          · have hN' : N (g.vs.getD k 0) = false := by simpa using hN
            have HS := Lib.hid (got_no hlt hN')
            rw [hN'] at hl
            clear hN hN'
            generalize g.vs.getD k 0 = y at *
            go_wp2
            go_roundw
            case rel => exact ⟨k + 1, by omega, by go_num, by rw [HS.out]; exact HQ.out, HBs.out⟩
            case measure => simp [intOf]; omega
        · obtain rfl : k = g.vs.length := by omega
          have hq := HQ.out
          rw [HGA.out] at hq
          have HV := Lib.hid (Oq.base hq HBl.out.size)
          clear hq hmu
          go_wp2
          go_ret
          exact ⟨_, rfl, HV.out, HBl.out.trans (Below.mono HBs.out HBl.out.size)⟩
    | true =>
      go_wp2
      clear k0 k1
      go_loopw [6, 19] (fun b i wr => ∃ (k : Nat) (gb : Bool) (N2 : UInt32 → Bool) (m2 : Nat), k ≤ g.es.length ∧ i = .int .i64 k ∧ b = .bool gb ∧ Mu wr (w.heap.size + 1) m2 (pf N2) ∧ Below w.heap.size w wr ∧ Blk wr w.heap.size 25 #[.slice A g.vs.length c, .slice B g.es.length d] ∧ PInv g.es x N2 ∧ (gb = false → ∀ e ∈ g.es.take k, N2 e.a = N2 e.b) ∧ m2 + 2 * un g.vs N2 ≤ 2 * g.vs.length + 1 ∧ un g.vs N2 + b2n gb ≤ un g.vs N) (fun _ i _ => g.es.length - (intOf i).toNat)
      case atStart => exact ⟨0, false, N, m, Nat.zero_le _, rfl, rfl, HMu.out, HBl.out, HKb.out, HI.out, fun _ e he => by simp at he, HML.out, by unfold b2n; simp⟩
      case round =>
        obtain ⟨k, gb, N2, m2, hk, rfl, rfl, hmu, hb, hkb, hinv, hcl, hml, hun⟩ := hrel
        have HMu2 := Lib.hid hmu
        have HBl2 := Lib.hid hb
        have HKb2 := Lib.hid hkb
        have HI2 := Lib.hid hinv
        have HCL2 := Lib.hid hcl
        have HML2 := Lib.hid hml
        have HUN2 := Lib.hid hun
        clear hmu hb hkb hinv hcl hml hun
        by_cases hlt : k < g.es.length
        · obtain ⟨b, o, rfl, hc⟩ := (HRE.out.kept HBl2.out (Nat.le_refl _)).spot (by omega)
          obtain ⟨hc1, hc2, hc3⟩ := hc k hlt
          have HMEM : Hid (g.es.getD k e0 ∈ g.es) := getE_mem hlt
          have HT : Hid (g.es.take (k + 1) = g.es.take k ++ [g.es.getD k e0]) := by show _ = _; rw [List.take_succ_eq_append_getElem hlt, getE_at hlt]
          clear hc
          generalize g.es.getD k e0 = y at *
          have HED := Lib.hid (HM.out.ends y HMEM.out)
          have HLAB := Lib.hid (lab_edge g.es y HMEM.out)
          cases hA : N2 y.a <;> cases hBv : N2 y.b
          · have HN : Hid (N2 y.a = N2 y.b) := by show _ = _; rw [hA, hBv]
            have HSS : Hid (gb = false → ∀ e ∈ g.es.take (k + 1), N2 e.a = N2 e.b) := fun h e he => by
              rw [HT.out] at he
              rcases List.mem_append.1 he with he | he
              · exact HCL2.out h e he
              · rw [List.mem_singleton] at he; rw [he]; exact HN.out
            go_wp2_with (refine wpList_store_fresh rfl 67 (.tmp 8) (.tmp 22) rfl #[V y.id, V y.a, V y.b] rfl rfl (by kernel_rfl) rfl (all3 _ _ _) ?_; intro w3 hb3 hs3 hk3; have HB3 := Lib.hid hb3; have HM3 := Lib.hid (HMu2.out.kept (hb3.block _ HMu2.out.lt)); have HK3 := Lib.hid (HKb2.out.kept hb3 HKb2.out.lt); have HY3 := Lib.hid hk3; have HB3w : Hid (Below w.heap.size w w3) := HBl2.out.trans (Below.mono hb3 HBl2.out.size); have c1 : w3.cell? ⟨wr.heap.size, 1, none⟩ = some (V y.a) := hk3.cell 1; have c2 : w3.cell? ⟨wr.heap.size, 2, none⟩ = some (V y.b) := hk3.cell 2; have la := look74 HM3.out y.a; have lb := look74 HM3.out y.b; rw [hA] at la; rw [hBv] at lb; clear hb3 hs3 hk3)
            go_roundw
            case rel => exact ⟨k + 1, gb, N2, m2, by omega, by go_num, rfl, HM3.out, HB3w.out, HK3.out, HI2.out, HSS.out, HML2.out, HUN2.out⟩
            case measure => simp [intOf]; omega
          · have HSET : Hid (upd (upd N2 y.a true) y.b true = upd N2 y.a true) := upd_two hBv
            have HIN := Lib.hid (HI2.out.put (HLAB.out.trans (HI2.out.same _ hBv)))
            have HUP := Lib.hid (un_put HED.out.1 hA)
            go_wp2_with (first
              | (refine wpList_store_fresh rfl 67 (.tmp 8) (.tmp 22) rfl #[V y.id, V y.a, V y.b] rfl rfl (by kernel_rfl) rfl (all3 _ _ _) ?_; intro w3 hb3 hs3 hk3; have HB3 := Lib.hid hb3; have HM3 := Lib.hid (HMu2.out.kept (hb3.block _ HMu2.out.lt)); have HK3 := Lib.hid (HKb2.out.kept hb3 HKb2.out.lt); have HY3 := Lib.hid hk3; have HB3w : Hid (Below w.heap.size w w3) := HBl2.out.trans (Below.mono hb3 HBl2.out.size); have c1 : w3.cell? ⟨wr.heap.size, 1, none⟩ = some (V y.a) := hk3.cell 1; have c2 : w3.cell? ⟨wr.heap.size, 2, none⟩ = some (V y.b) := hk3.cell 2; have la := look74 HM3.out y.a; have lb := look74 HM3.out y.b; rw [hA] at la; rw [hBv] at lb; clear hb3 hs3 hk3)
              | (have T := c2; refine wpList_mapM rfl _ _ _ 158 4 rfl Tryz.underlying158 (w.heap.size + 1) m2 _ y.a (.bool true) rfl rfl rfl HM3.out (by have := HML2.out; unfold maxLen; omega) ?_; intro w4 hm4 hx4 hs4; have HM4 := Lib.hid hm4; have HX4 := Lib.hid hx4; have d2 : w4.cell? ⟨wr.heap.size, 2, none⟩ = some (V y.b) := (hx4.blk HY3.out (HM3.out.no_cells HY3.out)).cell 2; clear hm4 hx4 hs4 c2)
              | (refine wpList_mapM rfl _ _ _ 158 4 rfl Tryz.underlying158 (w.heap.size + 1) (m2 + 1) _ y.b (.bool true) rfl rfl rfl HM4.out (by have := HML2.out; unfold maxLen; omega) ?_; intro w5 hm5 hx5 hs5; have HM5 := Lib.hid hm5; have HX5 := Lib.hid (HX4.out.trans hx5); clear hm5 hx5 hs5))
            go_roundw
            case rel =>
              refine ⟨k + 1, true, upd N2 y.a true, m2 + 2, by omega, by go_num, rfl, ?_, Ex.below HB3w.out HX5.out (by omega) HB3w.out.size, HX5.out.blk HK3.out (by omega), HIN.out, fun h => (by cases h), ?_, ?_⟩
              · have h1 := HM5.out
                rw [pf_put2, HSET.out] at h1
                exact h1
              · have := HUP.out; have := HML2.out; omega
              · have := HUP.out; have := HUN2.out; unfold b2n at *; simp; omega
            case measure => simp [intOf]; omega
          · have HSET : Hid (upd (upd N2 y.a true) y.b true = upd N2 y.b true) := by show _ = _; rw [upd_had hA]
            have HIN := Lib.hid (HI2.out.put (HLAB.out.symm.trans (HI2.out.same _ hA)))
            have HUP := Lib.hid (un_put HED.out.2 hBv)
            go_wp2_with (first
              | (refine wpList_store_fresh rfl 67 (.tmp 8) (.tmp 22) rfl #[V y.id, V y.a, V y.b] rfl rfl (by kernel_rfl) rfl (all3 _ _ _) ?_; intro w3 hb3 hs3 hk3; have HB3 := Lib.hid hb3; have HM3 := Lib.hid (HMu2.out.kept (hb3.block _ HMu2.out.lt)); have HK3 := Lib.hid (HKb2.out.kept hb3 HKb2.out.lt); have HY3 := Lib.hid hk3; have HB3w : Hid (Below w.heap.size w w3) := HBl2.out.trans (Below.mono hb3 HBl2.out.size); have c1 : w3.cell? ⟨wr.heap.size, 1, none⟩ = some (V y.a) := hk3.cell 1; have c2 : w3.cell? ⟨wr.heap.size, 2, none⟩ = some (V y.b) := hk3.cell 2; have la := look74 HM3.out y.a; have lb := look74 HM3.out y.b; rw [hA] at la; rw [hBv] at lb; clear hb3 hs3 hk3)
              | (have T := c2; refine wpList_mapM rfl _ _ _ 158 4 rfl Tryz.underlying158 (w.heap.size + 1) m2 _ y.a (.bool true) rfl rfl rfl HM3.out (by have := HML2.out; unfold maxLen; omega) ?_; intro w4 hm4 hx4 hs4; have HM4 := Lib.hid hm4; have HX4 := Lib.hid hx4; have d2 : w4.cell? ⟨wr.heap.size, 2, none⟩ = some (V y.b) := (hx4.blk HY3.out (HM3.out.no_cells HY3.out)).cell 2; clear hm4 hx4 hs4 c2)
              | (refine wpList_mapM rfl _ _ _ 158 4 rfl Tryz.underlying158 (w.heap.size + 1) (m2 + 1) _ y.b (.bool true) rfl rfl rfl HM4.out (by have := HML2.out; unfold maxLen; omega) ?_; intro w5 hm5 hx5 hs5; have HM5 := Lib.hid hm5; have HX5 := Lib.hid (HX4.out.trans hx5); clear hm5 hx5 hs5))
            go_roundw
            case rel =>
              refine ⟨k + 1, true, upd N2 y.b true, m2 + 2, by omega, by go_num, rfl, ?_, Ex.below HB3w.out HX5.out (by omega) HB3w.out.size, HX5.out.blk HK3.out (by omega), HIN.out, fun h => (by cases h), ?_, ?_⟩
              · have h1 := HM5.out
                rw [pf_put2, HSET.out] at h1
                exact h1
              · have := HUP.out; have := HML2.out; omega
              · have := HUP.out; have := HUN2.out; unfold b2n at *; simp; omega
            case measure => simp [intOf]; omega
          · have HN : Hid (N2 y.a = N2 y.b) := by show _ = _; rw [hA, hBv]
            have HSS : Hid (gb = false → ∀ e ∈ g.es.take (k + 1), N2 e.a = N2 e.b) := fun h e he => by
              rw [HT.out] at he
              rcases List.mem_append.1 he with he | he
              · exact HCL2.out h e he
              · rw [List.mem_singleton] at he; rw [he]; exact HN.out
            go_wp2_with (refine wpList_store_fresh rfl 67 (.tmp 8) (.tmp 22) rfl #[V y.id, V y.a, V y.b] rfl rfl (by kernel_rfl) rfl (all3 _ _ _) ?_; intro w3 hb3 hs3 hk3; have HB3 := Lib.hid hb3; have HM3 := Lib.hid (HMu2.out.kept (hb3.block _ HMu2.out.lt)); have HK3 := Lib.hid (HKb2.out.kept hb3 HKb2.out.lt); have HY3 := Lib.hid hk3; have HB3w : Hid (Below w.heap.size w w3) := HBl2.out.trans (Below.mono hb3 HBl2.out.size); have c1 : w3.cell? ⟨wr.heap.size, 1, none⟩ = some (V y.a) := hk3.cell 1; have c2 : w3.cell? ⟨wr.heap.size, 2, none⟩ = some (V y.b) := hk3.cell 2; have la := look74 HM3.out y.a; have lb := look74 HM3.out y.b; rw [hA] at la; rw [hBv] at lb; clear hb3 hs3 hk3)
            go_roundw
            case rel => exact ⟨k + 1, gb, N2, m2, by omega, by go_num, rfl, HM3.out, HB3w.out, HK3.out, HI2.out, HSS.out, HML2.out, HUN2.out⟩
            case measure => simp [intOf]; omega
        · obtain rfl : k = g.es.length := by omega
          go_wp2
          go_roundg (2 * un g.vs N2 + b2n gb)
          case measure => have := HUN2.out; have := HGK.out; unfold b2n at *; simp at *; split at * <;> omega
          case rel => exact ⟨gb, N2, m2, rfl, HMu2.out, HBl2.out, HKb2.out, HI2.out, fun h => by have := HCL2.out h; rwa [List.take_length] at this, HML2.out, Nat.le_refl _⟩
end Go.Proofs.YtcinbmekjlmdpaaGreat
