/- rot.isTurn, over what slices.Sorted answers. -/
import Derived.Test.YtcinbmekjlmdpaaY0f
import Derived.Test.YtcinbmekjlmdpaaY04
import Derived.Test.YtcinbmekjlmdpaaY0e
import Derived.Test.YtcinbmekjlmdpaaY0a
import Derived.Test.YtcinbmekjlmdpaaY0c

/-! rot.isTurn, over what slices.Sorted answers. -/
namespace Go.Proofs.Ytcinbmekjlmdpaa
open Go.RowKit

theorem values_walk (w : World) (A : Option Addr) (n c : Nat) : Calls Try.prog 42 #[.slice A n c] w fun e w' => e = .returned (.func (.func 51) #[] #[.pointer (some ⟨w.heap.size, 0, none⟩)]) ∧ w' = w.alloc (.cells #[.slice A n c] 22) := by
  go_enter Try.func42, Try.ntmps42
  go_wp2
  go_ret
  exact ⟨rfl, rfl⟩
/-- Sorted answers this row. -/
def Srt (l s : List UInt32) : Prop := ∀ (W : World) (Bs : Nat) (A : Option Addr) (c : Nat), W.cell? ⟨Bs, 0, none⟩ = some (.slice A l.length c) → Bs < W.heap.size → Rd W A l →
  Calls Try.prog 41 #[.func (.func 51) #[] #[.pointer (some ⟨Bs, 0, none⟩)]] W fun e w' => ∃ v, e = .returned v ∧ RV w' v s ∧ Below W.heap.size W w'
theorem srt_one {l : List UInt32} (h : l.length ≤ 1) : Srt l l := fun W Bs A c h1 h2 h3 => sorted_one W Bs A c l h1 h2 h3 h
attribute [local irreducible] V
attribute [local irreducible] wpList in
set_option maxRecDepth 100000 in
set_option maxHeartbeats 2000000 in
theorem isturn_walk (w : World) (v u : Value) (l m s : List UInt32) (hv : RV w v l) (hu : RV w u m) (hS : Srt l s) :
    Calls Try.prog 30 #[v, u] w fun e w' => e = .returned (.bool (decide (s = m) && decide (l = norm l))) ∧ Below w.heap.size w w' := by
  have HV := Lib.hid hv
  have HU := Lib.hid hu
  have HS := Lib.hid hS
  obtain ⟨A, c, rfl, _, hr⟩ := hv
  have HR := Lib.hid hr
  clear hu hS hr
  have HB1 : Hid (Below w.heap.size w (w.alloc (.cells #[.slice A l.length c] 22))) := (Below.refl _ w).alloc (Nat.le_refl _) _
  by_cases hsm : s = m
  · have t1 : decide (s = m) = true := decide_eq_true hsm
    clear hsm
    go_enter Try.func30, Try.ntmps30
    go_wp2_with (first
      | (go_at_call 42; refine (values_walk _ _ _ _).mono ?_; rintro e w1 ⟨rfl, rfl⟩)
      | (go_at_call 41; refine (HS.out _ _ A c ((Blk.fresh w 22 #[.slice A l.length c]).cell 0) (by simp) (HR.out.kept HB1.out (Nat.le_refl _))).mono ?_; rintro e w2 ⟨x, rfl, hx, hb2⟩; have HX := Lib.hid hx; have HB2 := Lib.hid (HB1.out.trans (Below.mono hb2 HB1.out.size)); clear hx hb2)
      | (go_at_call 16; refine (normal_rv _ _ _ (HV.out.kept HB3.out)).mono ?_; rintro e w4 ⟨y, rfl, hy, hb4⟩; have HY := Lib.hid hy; have HB4 := Lib.hid (HB3.out.trans (Below.mono hb4 HB3.out.size)); clear hy hb4)
      | (go_at_call 40; refine (equal_rv _ _ _ l (norm l) (HV.out.kept HB4.out) HY.out).mono ?_; rintro e w5 ⟨rfl, hb5⟩; have HB5 := Lib.hid (HB4.out.trans (Below.mono hb5 HB4.out.size)); clear hb5)
      | (go_at_call 40; refine (equal_rv _ _ _ s m HX.out (HU.out.kept HB2.out)).mono ?_; rintro e w3 ⟨rfl, hb3⟩; have HB3 := Lib.hid (HB2.out.trans (Below.mono hb3 HB2.out.size)); rw [t1]; clear hb3))
    go_ret
    exact ⟨by rw [t1]; simp, HB5.out⟩
  · have t1 : decide (s = m) = false := decide_eq_false hsm
    clear hsm
    go_enter Try.func30, Try.ntmps30
    go_wp2_with (first
      | (go_at_call 42; refine (values_walk _ _ _ _).mono ?_; rintro e w1 ⟨rfl, rfl⟩)
      | (go_at_call 41; refine (HS.out _ _ A c ((Blk.fresh w 22 #[.slice A l.length c]).cell 0) (by simp) (HR.out.kept HB1.out (Nat.le_refl _))).mono ?_; rintro e w2 ⟨x, rfl, hx, hb2⟩; have HX := Lib.hid hx; have HB2 := Lib.hid (HB1.out.trans (Below.mono hb2 HB1.out.size)); clear hx hb2)
      | (go_at_call 40; refine (equal_rv _ _ _ s m HX.out (HU.out.kept HB2.out)).mono ?_; rintro e w3 ⟨rfl, hb3⟩; have HB3 := Lib.hid (HB2.out.trans (Below.mono hb3 HB2.out.size)); rw [t1]; clear hb3))
    go_ret
    exact ⟨by rw [t1]; rfl, HB3.out⟩
end Go.Proofs.Ytcinbmekjlmdpaa

/-! Rows of edges in a block of their kind. -/
namespace Go.Proofs.Ytcinbmekjlmdpaa
open Go.RowKit

/-- What stands at place x of a row of edges. -/
def EAt (cu : Array Value) (x : Nat) (e : Eg) : Prop := cu[x * 3]? = some (V e.id) ∧ cu[x * 3 + 1]? = some (V e.a) ∧ cu[x * 3 + 2]? = some (V e.b)
/-- A row of edges in a block of its kind. -/
def OqE (w : World) (base : Nat) (v : Value) (l : List Eg) : Prop :=
  (v = .slice none 0 0 ∧ l = []) ∨ ∃ g cap cur, v = .slice (some ⟨g, 0, none⟩) l.length cap ∧ base ≤ g ∧ Blk w g 39 cur ∧ l.length ≤ cap ∧ l.length ≤ 1000000 ∧ ∀ i, i < l.length → EAt cur i (l.getD i e0)
theorem OqE.keepB {w w' : World} {base : Nat} {v : Value} {l : List Eg} (h : OqE w base v l) (hk : ∀ g cur, Blk w g 39 cur → Blk w' g 39 cur) : OqE w' base v l := by
  rcases h with h | ⟨g, cap, cur, h1, h2, h3, h4⟩
  · exact .inl h
  · exact .inr ⟨g, cap, cur, h1, h2, hk g cur h3, h4⟩
theorem OqE.rve {w : World} {base : Nat} {v : Value} {l : List Eg} (h : OqE w base v l) : RVE w v l := by
  rcases h with ⟨rfl, rfl⟩ | ⟨g, cap, cur, rfl, h2, h3, h4, h5, h6⟩
  · exact ⟨none, 0, rfl, Nat.le_refl _, RdE.nil _ _⟩
  · refine ⟨_, cap, rfl, h4, h5, fun h0 => ⟨g, 0, rfl, h3.lt, fun i hi => ?_⟩⟩
    obtain ⟨e1, e2, e3⟩ := h6 i hi
    rw [Nat.zero_add, h3.cell, h3.cell, h3.cell]
    exact ⟨e1, e2, e3⟩
theorem Still.exb {w w' : World} {g : Nat} {t : TypeId} {cs : Array Value} (hb : Blk w g t cs) (ht : t ≠ 30) (hx : Ex g w w') : Still w w' := fun k cur hk =>
  hx.blk hk (fun e => by
    subst e
    unfold Blk at hb hk
    rw [hb] at hk
    injection hk with hk
    injection hk with _ h2
    exact ht h2)
theorem OwE.oq {w : World} {base : Nat} {v : Value} {l : List Eg} (h : OwE w base v l) (hl : l.length ≤ 1000000) : OqE w base v l := by
  rcases h.2 with ⟨rfl, h0⟩ | ⟨b, cap, cur, rfl, hb, hgc, hcap, _, hsz, htake⟩
  · exact .inl ⟨rfl, List.length_eq_zero_iff.1 h0⟩
  · refine .inr ⟨b, cap, cur, rfl, hb, hgc, hcap, hl, fun i hi => ?_⟩
    have hg : ∀ j, j < l.length * 3 → cur[j]? = (ecs l)[j]? := fun j hj => by
      have h1 : (cur.toList.take (l.length * 3))[j]? = (ecs l)[j]? := by rw [htake]
      rw [List.getElem?_take_of_lt hj, Array.getElem?_toList] at h1
      exact h1
    obtain ⟨h1, h2, h3⟩ := ecs_at l i hi
    exact ⟨by rw [hg _ (by omega)]; exact h1, by rw [hg _ (by omega)]; exact h2, by rw [hg _ (by omega)]; exact h3⟩
end Go.Proofs.Ytcinbmekjlmdpaa

/-! graph.Parts. -/
namespace Go.Proofs.Ytcinbmekjlmdpaa
open Go.RowKit

theorem PartsAt.own {w : World} {B : Nat} {pv : Value} {rows : List (List UInt32)} (h : PartsAt w B pv rows) {b : Nat} (hb : pv.ownBlock = some b) : B ≤ b ∧ b < w.heap.size ∧ ∃ cur, Blk w b 22 cur := by
  obtain ⟨vals, h1, h2, h3⟩ := h
  rcases h2.2 with ⟨rfl, h0⟩ | ⟨g, cap, cur, rfl, hB, hg, _⟩
  · cases hb
  · cases hb
    have hblk : Blk w g 22 cur := hg
    exact ⟨hB, hblk.lt, cur, hblk⟩
theorem Mu.no_cells {w : World} {m n g : Nat} {t : TypeId} {s : UInt32 → Option Value} {cur : Array Value} (h : Mu w m n s) (hb : Blk w g t cur) : g ≠ m := fun e => by
  subst e
  obtain ⟨es, c, hm⟩ := h.map
  unfold Blk at hb
  rw [hm] at hb
  cases hb
theorem Ex.grow {w wr w' : World} {sm : Nat} {v : Value} (h : Ex sm w wr) (hg : wr.grownBy w' v.ownBlock) (hb : ∀ b, v.ownBlock = some b → w.heap.size ≤ b) : Ex sm w w' :=
  ⟨hg.os.trans h.os, hg.tape.trans h.tape, hg.output.trans h.output, Nat.le_trans h.size hg.size, fun k hk hne => (hg.block k (Nat.lt_of_lt_of_le hk h.size) (fun e => by
    have := hb k e.symm; omega)).trans (h.block k hk hne)⟩
theorem Ex.put {w wr : World} {sm g i : Nat} (h : Ex sm w wr) (hg : w.heap.size ≤ g) (v : Value) : Ex sm w (wr.setCell ⟨g, i, none⟩ v) :=
  ⟨h.os, h.tape, h.output, by simp [World.setCell]; exact h.size, fun k hk hne => (heap_setCell_other wr _ k v (by show k ≠ g; omega)).trans (h.block k hk hne)⟩
section
variable {ops : Array Oper} {rest : List Oper} {o : Oper} {a : Act} {w : World} {Q : Exit → Act → World → Prop}
set_option maxRecDepth 100000 in
theorem wpList_row (hgd : o.guard = none) (s x : Operand) (ho : o.op = .call { callee := .builtin .append, args := #[s, x], argTypes := #[26, 26] }) (B : Nat) (pv u : Value) (l : List UInt32) (rows : List (List UInt32)) (g0 : Nat)
    (hs : a.eval s = pv) (hx : a.eval x = .slice (some ⟨g0, 0, none⟩) 1 1) (h : PartsAt w B pv rows) (hl : rows.length < 1000000) (hb : B ≤ w.heap.size) (hsrc : Blk w g0 22 #[u]) (hu : u.oneCell' = true)
    (hou : Oq w B u l) (hap : ∀ vals : List Value, vals.length = rows.length → w.ownsRow B 22 1 pv rows.length vals → ∀ i b, (vals.getD i nilv).ownBlock = some b → u.ownBlock ≠ some b)
    (H : ∀ v' w', PartsAt w' B v' (rows ++ [l]) → w.grownBy w' pv.ownBlock → wpList Try.prog ops Q rest (a.put o.dst v') w') : wpList Try.prog ops Q (o :: rest) a w := by
  obtain ⟨v', w', hr, h1, h2⟩ := run_row w B o.type pv u l rows g0 h hl hb hsrc hu hou hap
  exact wpList_plain hgd fun _ hK => Lib.wp_append_run w s x _ _ ho pv _ hs hx v' w' hr (hK _ _ (H v' w' h1 h2))
end
theorem May.ends {g : Gr} (h : May g) : ∀ e ∈ g.es, e.a ∈ g.vs ∧ e.b ∈ g.vs := fun e he => ⟨(h.er e he).2.2.2.1, (h.er e he).2.2.2.2⟩
theorem rows_old_len (g : Gr) (k : Nat) (r : UInt32) (h : r ∈ reps g k) : fst (reps g k) r < (prows g k).length := by rw [prows_len]; exact fst_lt h
theorem PartsAt.slice {w : World} {B : Nat} {pv : Value} {rows : List (List UInt32)} (h : PartsAt w B pv rows) : ∃ A c, pv = .slice A rows.length c := by
  obtain ⟨vals, h1, h2, h3⟩ := h
  rcases h2.2 with ⟨rfl, h0⟩ | ⟨g, cap, cur, rfl, _⟩
  · exact ⟨_, _, by rw [h0]⟩
  · exact ⟨_, _, rfl⟩
attribute [local irreducible] V
attribute [local irreducible] wpList in
set_option maxRecDepth 100000 in
set_option maxHeartbeats 4000000 in
/-- graph.Parts. -/
theorem parts_walk (w : World) (v : Value) (g : Gr) (h : RG w v g) (hM : May g) :
    Calls Try.prog 21 #[v] w fun e w' => ∃ u, e = .returned u ∧ RRv w' u (parts g) ∧ Below w.heap.size w w' := by
  have HRG := Lib.hid h
  have HM := Lib.hid hM
  obtain ⟨A, c, B, d, rfl, _, _, hr, hre⟩ := h
  have hn64 := hM.nv
  have hn160 := hM.ne
  have hmm := @run_makeMap Try.prog
  have HB : Hid (Below w.heap.size w (w.alloc (.cells #[.slice A g.vs.length c, .slice B g.es.length d] 25))) := (Below.refl _ w).alloc (Nat.le_refl _) _
  have HBK : Hid (Blk (w.alloc (.cells #[.slice A g.vs.length c, .slice B g.es.length d] 25)) w.heap.size 25 #[.slice A g.vs.length c, .slice B g.es.length d]) := Blk.fresh _ _ _
  have HR := Lib.hid hr
  have HV := Lib.hid (fun W hW => near_walk W (.agg #[.slice A g.vs.length c, .slice B g.es.length d]) g hW (by omega))
  have r6 := V_cells
  unfold Value.cells at r6
  clear hr hre hM
  go_enter Try.func21, Try.ntmps21
  go_wp2_with (go_at_call 33; refine (HV.out _ (HRG.out.kept HB.out)).mono ?_; rintro e wn ⟨nm, f, rfl, hna, hbn⟩; have HNA := Lib.hid hna; have HBN := Lib.hid hbn; have k0 : wn.cell? ⟨w.heap.size, 0, none⟩ = some (.slice A g.vs.length c) := (HBK.out.kept hbn HBK.out.lt).cell 0; have klt : w.heap.size < wn.heap.size := (HBK.out.kept hbn HBK.out.lt).lt; clear hna hbn)
  have HBWN : Hid (Below w.heap.size w wn) := HB.out.trans (Below.mono HBN.out HB.out.size)
  have HNM : Hid (nm < wn.heap.size) := HNA.out.1.lt
  have HNA3 : Hid (NearAt (wn.alloc (.map #[] 0)) (w.alloc (.cells #[.slice A g.vs.length c, .slice B g.es.length d] 25)).heap.size nm (2 * g.es.length) f (nbr g.es)) := HNA.out.below ((Below.refl _ wn).alloc (Nat.le_refl _) _)
  have HBW3 : Hid (Below w.heap.size w (wn.alloc (.map #[] 0))) := HBWN.out.alloc HBWN.out.size _
  have HMU3 : Hid (Mu (wn.alloc (.map #[] 0)) wn.heap.size 0 (sK g 0)) := by
    have := Mu.empty wn
    rw [sK_zero]
    exact this
  have HSM : Hid (w.heap.size ≤ wn.heap.size) := HBWN.out.size
  generalize (w.alloc (.cells #[.slice A g.vs.length c, .slice B g.es.length d] 25)).heap.size = nb at *
  generalize hw3 : wn.alloc (.map #[] 0) = w3 at *
  clear hw3 k0 klt
  go_loopw [5, 16] (fun pv i wr => ∃ (k m' : Nat), k ≤ g.vs.length ∧ i = .int .i64 k ∧ PartsAt wr w3.heap.size pv (prows g k) ∧ Mu wr wn.heap.size m' (sK g k) ∧ m' ≤ k * 64 ∧ Ex wn.heap.size w3 wr) (fun _ i _ => g.vs.length - (intOf i).toNat)
  case atStart => exact ⟨0, 0, Nat.zero_le _, rfl, PartsAt.nil _ _, HMU3.out, by omega, Ex.refl _ _⟩
  case round =>
    obtain ⟨k, m', hk, rfl, hpa, hmu, hmb, hex⟩ := hrel
    have HPA := Lib.hid hpa
    have HMU := Lib.hid hmu
    have HMB := Lib.hid hmb
    have HEX := Lib.hid hex
    have HBW : Hid (Below w.heap.size w wr) := Ex.below HBW3.out hex HSM.out HBW3.out.size
    have HN := Lib.hid (HNA3.out.ex HMU3.out (by have := HNM.out; omega) hex)
    obtain ⟨PA, pc, hpv⟩ := hpa.slice
    clear hmu hmb hex hpa
    by_cases hlt : k < g.vs.length
    · obtain ⟨b, o, rfl, hc⟩ := (HR.out.kept HBW.out (Nat.le_refl _)).spot (by omega)
      have hcell := hc k hlt
      rw [getD_at hlt] at hcell
      have hl := look54 HMU.out (g.vs.getD k 0)
      clear hc
      by_cases he : lab g.es (g.vs.getD k 0) = g.vs.getD k 0
      · have hnm := rep_lab HM.out.vup hlt he
        have hsk : sK g k (g.vs.getD k 0) = none := by unfold sK; rw [if_neg hnm]
        rw [hsk] at hl
        simp only [Option.getD_none, Option.isSome_none] at hl
        have HROW := Lib.hid (prows_new HM.out.vup hlt he)
        have HSK := Lib.hid (sK_new HM.out.vup hlt he)
        have HS0 : Hid (∀ y, lab g.es y = lab g.es (g.vs.getD k 0) → sK g k y = none) := fun y hy => by unfold sK; rw [if_neg (by rw [hy]; exact hnm)]
        have HIN : Hid (g.vs.getD k 0 ∈ g.vs) := getD_mem hlt
        have HPL : Hid ((prows g k).length ≤ 64) := by have := reps_le g k hk; rw [← prows_len] at this; show _ ≤ _; omega
        have HRL : Hid ((reps g k).length = (prows g k).length) := (prows_len g k).symm
        have hpl := HPL.out
        have hpl2 : (prows g k ++ [[]]).length = (prows g k).length + 1 := by simp
        have HPL2 := Lib.hid hpl2
        have hmb := HMB.out
        have HGD : Hid ((prows g k ++ [[]]).getD (prows g k).length [] = []) := by show _ = _; simp
        clear hsk hnm he hpl2
        subst hpv
        generalize g.vs.getD k 0 = x at *
        go_wp2_with (first
          | (refine wpList_row rfl (.tmp 30) (.tmp 31) rfl w3.heap.size _ (.slice none 0 0) [] (prows g k) wr.heap.size rfl rfl (HPA.out.kept ((Below.refl _ wr).alloc (Nat.le_refl _) (.cells #[.slice none 0 0] 22))) (by omega) (by have := HEX.out.size; simp; omega) (Blk.fresh _ _ _) rfl (Oq.nil _ _) (fun _ _ _ _ _ _ h => by cases h) ?_; intro v5 w5 hp5 hg5; have HP5 := Lib.hid hp5; have HE5 : Hid (Ex wn.heap.size w3 w5) := ((HEX.out.trans (Ex.alloc _ wr _)).grow hg5 (fun b hb => ((HPA.out.kept ((Below.refl _ wr).alloc (Nat.le_refl _) (.cells #[.slice none 0 0] 22))).own hb).1)); have HM5 : Hid (Mu w5 wn.heap.size m' (sK g k)) := ((HMU.out.kept (Below.heap_alloc wr (.cells #[.slice none 0 0] 22) _ HMU.out.lt))).kept (hg5.block _ (HMU.out.kept (Below.heap_alloc wr (.cells #[.slice none 0 0] 22) _ HMU.out.lt)).lt (fun e => by obtain ⟨_, _, cur, hcur⟩ := (HPA.out.kept ((Below.refl _ wr).alloc (Nat.le_refl _) (.cells #[.slice none 0 0] 22))).own e.symm; exact (HMU.out.kept (Below.heap_alloc wr (.cells #[.slice none 0 0] 22) _ HMU.out.lt)).no_cells hcur rfl)); obtain ⟨A5, c5, hv5⟩ := hp5.slice; subst hv5; clear hp5 hg5)
          | (go_at_call 34; refine (reach_walk w5 nb nm (2 * g.es.length) wn.heap.size m' f (sK g k) g.vs g.es x _ (HNA3.out.ex HMU3.out (by have := HNM.out; omega) HE5.out) HM5.out (by have := HNM.out; omega) HM.out.ends HIN.out HS0.out (by omega) (by omega) (by omega)).mono ?_; rintro e w6 ⟨rfl, m6, s6, hm6, hmu6, hs6, he6⟩; have HM6 := Lib.hid hm6; have HMU6 := Lib.hid hmu6; have HS6 := Lib.hid hs6; have HE6 := Lib.hid he6; have hp6 := HP5.out.ex HM5.out he6; obtain ⟨gb, cap, u, hpv2, hcu, hfu, ⟨gcur, hgcur⟩, hou, hcl⟩ := hp6.cell (i := (prows g k).length) (by rw [HPL2.out]; omega); rw [HGD.out] at hou hcl; have HNG : Hid (gb ≠ wn.heap.size) := hmu6.no_cells hgcur; have HGB : Hid (w3.heap.size ≤ gb) := (hp6.own (by rw [hpv2]; rfl)).1; have HHS : Hid (w3.heap.size ≤ w6.heap.size) := (HE5.out.trans he6).size; obtain ⟨ua, uc, hu, _⟩ := hou.is; have HOU := Lib.hid hou; have HCL := Lib.hid hcl; subst hu; injection hpv2 with hA5 _ hc5; subst hA5; subst hc5; have hidx : (prows g k).length < (prows g k ++ [[]]).length := (by rw [HPL2.out]; omega); clear hm6 hmu6 hs6 he6 hp6 hou hcl hgcur)
          | (refine wpList_pushq rfl (.tmp 43) (.tmp 45) rfl w3.heap.size _ [] x w6.heap.size rfl rfl (HOU.out.still (Still.below ((Below.refl _ w6).alloc (Nat.le_refl _) (.cells #[V x] 30)))) (by simp) (by have := HHS.out; simp; omega) (Blk.fresh _ _ _) ?_; intro v7 w7 ho7 hg7 hb7; have HG7 := Lib.hid hg7; have hcl := HCL.out _ v7 x ((Below.refl _ w6).alloc (Nat.le_refl _) (.cells #[V x] 30)) w7 ho7 hg7 hb7; have q1 := hcl.1; have q2 := hcl.2.1; have HP7 := Lib.hid hcl.2.2; obtain ⟨A7, c7, hv7, _⟩ := ho7.is; subst hv7; clear ho7 hg7 hb7 hcl))
        go_roundw
        case rel =>
          refine ⟨k + 1, m6, by omega, by go_num, ?_, ?_, ?_, ?_⟩
          · have := HP7.out
            rw [HPL2.out] at this
            rw [HROW.out, HRL.out]
            exact this
          · have h1 := (HMU6.out.kept (Below.heap_alloc w6 (.cells #[V x] 30) _ HMU6.out.lt)).grown (HOU.out.still (Still.below ((Below.refl _ w6).alloc (Nat.le_refl _) (.cells #[V x] 30)))) HG7.out
            have h2 : sK g (k + 1) = s6 := by
              funext y
              rw [HSK.out y, HS6.out y, HRL.out]
            rw [h2]
            exact h1.kept (heap_setCell_other w7 _ _ _ (fun e => HNG.out e.symm))
          · have := HMB.out; have := HM6.out; omega
          · exact (((HE5.out.trans HE6.out).trans (Ex.alloc _ w6 _)).grow HG7.out (fun b hb => (HOU.out.lt hb).2.1)).put HGB.out _
        case measure => simp [intOf]; omega
      · have hmem := rep_old HM.out.vup HM.out.ends hlt he
        have hsk : sK g k (g.vs.getD k 0) = some (.int .i64 (fst (reps g k) (lab g.es (g.vs.getD k 0)) : Nat)) := by unfold sK; rw [if_pos hmem]
        rw [hsk] at hl
        simp only [Option.getD_some, Option.isSome_some] at hl
        have HROW := Lib.hid (prows_old HM.out.vup HM.out.ends hlt he)
        have HSK := Lib.hid (sK_old hlt he)
        obtain ⟨gb, cap, u, hpv2, hcu, hfu, ⟨gcur, hgcur⟩, hou, hcl⟩ := HPA.out.cell (rows_old_len g k _ hmem)
        rw [prows_getD hmem] at hou hcl
        have HNG : Hid (gb ≠ wn.heap.size) := HMU.out.no_cells hgcur
        have HGB : Hid (w3.heap.size ≤ gb) := (HPA.out.own (by rw [hpv2]; rfl)).1
        obtain ⟨ua, uc, hu, _⟩ := hou.is
        have HOU := Lib.hid hou
        have HCL := Lib.hid hcl
        have HIDX := Lib.hid (rows_old_len g k _ hmem)
        have hidx : fst (reps g k) (lab g.es (g.vs.getD k 0)) < (prows g k).length := HIDX.out
        have HLEN := Lib.hid (prow_le g k (lab g.es (g.vs.getD k 0)))
        have HPL : Hid ((prows g k).length ≤ 64) := by have := reps_le g k hk; rw [← prows_len] at this; show _ ≤ _; omega
        have hpl := HPL.out
        clear hsk hmem hou hcl hgcur he hpv
        subst hpv2
        subst hu
        generalize lab g.es (g.vs.getD k 0) = r at *
        generalize prow g k r = pr at *
        generalize g.vs.getD k 0 = x at *
        generalize fst (reps g k) r = idx at *
        go_wp2_with (refine wpList_pushq rfl (.tmp 43) (.tmp 45) rfl w3.heap.size _ pr x wr.heap.size rfl rfl (HOU.out.still (Still.below ((Below.refl _ wr).alloc (Nat.le_refl _) (.cells #[V x] 30)))) (by have := HLEN.out; omega) (by have := HEX.out.size; simp; omega) (Blk.fresh _ _ _) ?_; intro v7 w7 ho7 hg7 hb7; have HG7 := Lib.hid hg7; have hcl := HCL.out _ v7 x ((Below.refl _ wr).alloc (Nat.le_refl _) (.cells #[V x] 30)) w7 ho7 hg7 hb7; have q1 := hcl.1; have q2 := hcl.2.1; have HP7 := Lib.hid hcl.2.2; obtain ⟨A7, c7, hv7, _⟩ := ho7.is; subst hv7; clear ho7 hg7 hb7 hcl)
        go_roundw
        case rel =>
          refine ⟨k + 1, m', by omega, by go_num, ?_, ?_, ?_, ?_⟩
          · have := HP7.out
            rw [List.length_append, List.length_singleton] at this
            rw [HROW.out]
            exact this
          · have h1 := (HMU.out.kept (Below.heap_alloc wr (.cells #[V x] 30) _ HMU.out.lt)).grown (HOU.out.still (Still.below ((Below.refl _ wr).alloc (Nat.le_refl _) (.cells #[V x] 30)))) HG7.out
            rw [HSK.out]
            exact h1.kept (heap_setCell_other w7 _ _ _ (fun e => HNG.out e.symm))
          · have := HMB.out; omega
          · exact ((HEX.out.trans (Ex.alloc _ wr _)).grow HG7.out (fun b hb => (HOU.out.lt hb).2.1)).put HGB.out _
        case measure => simp [intOf]; omega
    · obtain rfl : k = g.vs.length := by omega
      rw [prows_all] at hpv
      have HPE : Hid (RRv wr (.slice PA (parts g).length pc) (parts g)) := by
        show RRv _ _ _
        have h1 := HPA.out
        rw [hpv] at h1
        have := h1.rr (fun l hl => by
          unfold prows at hl
          obtain ⟨v, _, rfl⟩ := List.mem_map.1 hl
          have := prow_le g g.vs.length v
          omega)
        rwa [prows_all] at this
      subst hpv
      go_wp2
      go_ret
      exact ⟨_, rfl, HPE.out, HBW.out⟩
end Go.Proofs.Ytcinbmekjlmdpaa

/-! graph.Alone. -/
namespace Go.Proofs.Ytcinbmekjlmdpaa
open Go.RowKit

def aln (g : Gr) (k : Nat) : Nat := (g.vs.take k).countP fun v => (nbr g.es v).length == 0
def alone (g : Gr) : Nat := g.vs.countP fun v => (nbr g.es v).length == 0
theorem aln_yes {g : Gr} {k : Nat} (h : k < g.vs.length) (h0 : (nbr g.es (g.vs.getD k 0)).length = 0) : aln g (k + 1) = aln g k + 1 := by
  unfold aln
  rw [take_at h, List.countP_append, List.countP_cons, List.countP_nil, if_pos (beq_iff_eq.2 h0)]
theorem aln_no {g : Gr} {k : Nat} (h : k < g.vs.length) (h0 : ¬ (nbr g.es (g.vs.getD k 0)).length = 0) : aln g (k + 1) = aln g k := by
  unfold aln
  rw [take_at h, List.countP_append, List.countP_cons, List.countP_nil, if_neg (fun q => h0 (beq_iff_eq.1 q))]
  rfl
theorem aln_le (g : Gr) (k : Nat) : aln g k ≤ g.vs.length := by
  unfold aln
  have h1 : (g.vs.take k).countP (fun v => (nbr g.es v).length == 0) ≤ (g.vs.take k).length := List.countP_le_length
  rw [List.length_take] at h1
  omega
theorem aln_all (g : Gr) : aln g g.vs.length = alone g := by unfold aln alone; rw [List.take_length]
attribute [local irreducible] V
attribute [local irreducible] wpList in
set_option maxRecDepth 100000 in
set_option maxHeartbeats 2000000 in
/-- graph.Alone. -/
theorem alone_walk (w : World) (v : Value) (g : Gr) (h : RG w v g) (hn64 : g.vs.length ≤ 1000) (hn160 : g.es.length ≤ 1000) :
    Calls Try.prog 22 #[v] w fun e w' => e = .returned (.int .i64 (alone g)) ∧ Below w.heap.size w w' := by
  have HRG := Lib.hid h
  obtain ⟨A, c, B, d, rfl, _, _, hr, hre⟩ := h
  have HB : Hid (Below w.heap.size w (w.alloc (.cells #[.slice A g.vs.length c, .slice B g.es.length d] 25))) := (Below.refl _ w).alloc (Nat.le_refl _) _
  have HBK : Hid (Blk (w.alloc (.cells #[.slice A g.vs.length c, .slice B g.es.length d] 25)) w.heap.size 25 #[.slice A g.vs.length c, .slice B g.es.length d]) := Blk.fresh _ _ _
  have HR := Lib.hid hr
  have HV := Lib.hid (fun W hW => near_walk W (.agg #[.slice A g.vs.length c, .slice B g.es.length d]) g hW (by omega))
  clear hr hre
  go_enter Try.func22, Try.ntmps22
  go_wp2_with (go_at_call 33; refine (HV.out _ (HRG.out.kept HB.out)).mono ?_; rintro e wn ⟨nm, f, rfl, hna, hbn⟩; have HNA := Lib.hid hna; have HBN := Lib.hid hbn; have k0 : wn.cell? ⟨w.heap.size, 0, none⟩ = some (.slice A g.vs.length c) := (HBK.out.kept hbn HBK.out.lt).cell 0; clear hna hbn)
  have HBWN : Hid (Below w.heap.size w wn) := HB.out.trans (Below.mono HBN.out HB.out.size)
  clear k0
  go_loop [4, 12] (fun s i => ∃ k : Nat, k ≤ g.vs.length ∧ i = .int .i64 k ∧ s = .int .i64 (aln g k : Nat)) (fun _ i => g.vs.length - (intOf i).toNat)
  case atStart => exact ⟨0, Nat.zero_le _, rfl, rfl⟩
  case round =>
    obtain ⟨k, hk, rfl, rfl⟩ := hrel
    have hal := aln_le g k
    by_cases hlt : k < g.vs.length
    · obtain ⟨b, o, rfl, hc⟩ := (HR.out.kept HBWN.out (Nat.le_refl _)).spot (by omega)
      have hcell := hc k hlt
      rw [getD_at hlt] at hcell
      have hl := HNA.out.look (g.vs.getD k 0)
      obtain ⟨A2, c2, hfv, _⟩ := (HNA.out.2.own (g.vs.getD k 0)).is
      have hfv2 : (f (g.vs.getD k 0)).getD (.slice none 0 0) = .slice A2 (nbr g.es (g.vs.getD k 0)).length c2 := hfv
      rw [hfv2] at hl
      clear hc hfv hfv2
      by_cases h0 : (nbr g.es (g.vs.getD k 0)).length = 0
      · have HS := Lib.hid (aln_yes hlt h0)
        rw [h0] at hl
        clear h0
        generalize g.vs.getD k 0 = x at *
        generalize aln g k = n at *
        go_wp2
        go_round
        case rel => exact ⟨k + 1, by omega, by go_num, by rw [HS.out]; go_num⟩
        case measure => simp [intOf]; omega
      · have HS := Lib.hid (aln_no hlt h0)
        have ht : ((nbr g.es (g.vs.getD k 0)).length == 0) = false := by simpa using h0
        have hnl := nbr_len g.es (g.vs.getD k 0)
        have ht2 : (((nbr g.es (g.vs.getD k 0)).length : Int) == 0) = false := beq_false_of_ne (by omega)
        generalize (nbr g.es (g.vs.getD k 0)).length = q at *
        generalize g.vs.getD k 0 = x at *
        generalize aln g k = n at *
        go_wp2
        go_round
        case rel => exact ⟨k + 1, by omega, by go_num, by rw [HS.out]⟩
        case measure => simp [intOf]; omega
    · obtain rfl : k = g.vs.length := by omega
      go_wp2
      go_ret
      exact ⟨by rw [← aln_all]; rfl, HBWN.out⟩
end Go.Proofs.Ytcinbmekjlmdpaa

/-! The chapter's example walked; DartEnds. -/
namespace Go.Proofs.Ytcinbmekjlmdpaa
open Go.RowKit

set_option maxRecDepth 100000 in
theorem of_three (w : World) : Calls Try.prog 20 #[.int .u32 3, .int .i64 0] w fun e' w' => e' = .returned (.int .u32 6) ∧ w = w' := of_rv w 3 0
set_option maxRecDepth 100000 in
theorem twin_six (w : World) : Calls Try.prog 32 #[.int .u32 6] w fun e' w' => e' = .returned (.int .u32 7) ∧ w = w' := twin_rv w 6
set_option maxRecDepth 100000 in
theorem awake_walk (w : World) : Calls Try.prog 47 #[] w fun e w' => e = .returned (.bool true) ∧ Below w.heap.size w w' := by
  have H := Lib.hid (awake_ins w)
  have HB0 : Hid (Below w.heap.size w ((w.alloc (.cells #[.int .u32 2, .int .u32 5, .int .u32 7] 30)).alloc (.cells #[.int .u32 9] 30))) := ((Below.refl _ w).alloc (Nat.le_refl _) _).alloc (by simp) _
  have HZ : Hid (((w.alloc (.cells #[.int .u32 2, .int .u32 5, .int .u32 7] 30)).alloc (.cells #[.int .u32 9] 30)).heap.size = w.heap.size + 2) := by show _ = _; simp
  have H3 := of_three
  have H4 := twin_six
  go_enter Try.func47, Try.ntmps47
  go_wp2_with (first
    | (go_at_call 61; refine H.out.mono ?_; rintro e w1 ⟨x, rfl, hx, hb⟩; have HX := Lib.hid hx; have HB := Lib.hid (HB0.out.trans (Below.mono hb (Nat.le_add_right _ 2))); clear hx hb)
    | (go_at_call 8; refine (rsame_rv _ _ _ [2, 5, 9, 7] [2, 5, 9, 7] (HX.out.kept ((Below.refl _ _).alloc (Nat.le_refl _) _)) (awake_row w1)).mono ?_; rintro e w2 ⟨rfl, hb⟩; have HB2 := Lib.hid ((HB.out.alloc HB.out.size _).trans (Below.mono hb (HB.out.alloc HB.out.size _).size)); clear hb)
    | (go_at_call 20; refine (H3 _).mono ?_; rintro e w' ⟨rfl, rfl⟩)
    | (go_at_call 32; refine (H4 _).mono ?_; rintro e w' ⟨rfl, rfl⟩))
  go_ret
  exact ⟨by simp, HB2.out⟩
theorem xor_half (d : UInt32) : (d ^^^ 1) / 2 = d / 2 := by
  apply UInt32.toNat_inj.1
  rw [UInt32.toNat_div, UInt32.toNat_div, UInt32.toNat_xor]
  show (d.toNat ^^^ 1) / 2 = d.toNat / 2
  have : ∀ n : Nat, (n ^^^ 1) / 2 = n / 2 := fun n => by
    have := Nat.xor_div_two_pow (a := n) (b := 1) (n := 1)
    simpa using this
  exact this _
theorem xor_back (d : UInt32) : (d ^^^ 1) ^^^ 1 = d := by
  rw [UInt32.xor_assoc]
  simp
theorem xor_ne (d : UInt32) : ¬ (d ^^^ 1) = d := by
  intro h
  have h2 : d ^^^ (d ^^^ 1) = d ^^^ d := by rw [h]
  rw [← UInt32.xor_assoc, UInt32.xor_self, UInt32.zero_xor] at h2
  exact absurd h2 (by decide)
attribute [local irreducible] V
end Go.Proofs.Ytcinbmekjlmdpaa
