/- The document's Parts. -/
import Derived.Test.YtcinbmekjlmdpaaGreatY0p
import Derived.Test.YtcinbmekjlmdpaaGreatY0o
import Derived.Test.YtcinbmekjlmdpaaGreatY0k

/-! The document's Parts. -/
namespace Go.Proofs.YtcinbmekjlmdpaaGreat
open Go.RowKit

/-- Rows of darts that stand in a row of one's own. -/
def RowsOf (w : World) (B : Nat) (pv : Value) (rows : List (List UInt32)) : Prop := ∃ vals : List Value, vals.length = rows.length ∧ w.ownsRow B 22 1 pv rows.length vals ∧ ∀ i, i < rows.length → Oq w 0 (vals.getD i nilv) (rows.getD i [])
theorem RowsOf.nil (w : World) (B : Nat) : RowsOf w B (.slice none 0 0) [] := ⟨[], rfl, World.ownsRow_nil _ _ _ _, fun i h => by simp at h⟩
theorem RowsOf.kept {w w' : World} {B : Nat} {pv : Value} {rows : List (List UInt32)} (h : RowsOf w B pv rows) (hb : Below w.heap.size w w') : RowsOf w' B pv rows := by
  obtain ⟨vals, h1, h2, h3⟩ := h
  exact ⟨vals, h1, owns_blk h2 (fun _ _ hk => hk.kept hb hk.lt), fun i hi => (h3 i hi).still (Still.below hb)⟩
theorem RowsOf.rr {w : World} {B : Nat} {pv : Value} {rows : List (List UInt32)} (h : RowsOf w B pv rows) (hl : ∀ l ∈ rows, l.length ≤ 1000000) : RRv w pv rows := by
  obtain ⟨vals, h1, h2, h3⟩ := h
  rcases h2.2 with ⟨rfl, h0⟩ | ⟨g, cap, cur, rfl, hB, hg, hc, _, hsz, htake⟩
  · obtain rfl : rows = [] := List.length_eq_zero_iff.1 h0
    exact ⟨none, 0, rfl, Nat.le_refl _, fun h => absurd h (by simp)⟩
  · have hblk : Blk w g 22 cur := hg
    refine ⟨_, cap, rfl, hc, fun _ => ⟨g, 0, rfl, hblk.lt, fun i hi => ⟨vals.getD i nilv, ?_, (h3 i hi).rv (hl _ ?_)⟩⟩⟩
    · rw [Nat.zero_add, hblk.cell]
      have h4 : (cur.toList.take (rows.length * 1))[i]? = vals[i]? := by rw [htake]
      rw [List.getElem?_take_of_lt (by omega)] at h4
      rw [List.getD_eq_getElem?_getD, ← Array.getElem?_toList, h4, List.getElem?_eq_getElem (by omega)]
      rfl
    · rw [List.getD_eq_getElem?_getD, List.getElem?_eq_getElem hi]; exact List.getElem_mem hi
theorem RowsOf.slice {w : World} {B : Nat} {pv : Value} {rows : List (List UInt32)} (h : RowsOf w B pv rows) : ∃ A c, pv = .slice A rows.length c := by
  obtain ⟨vals, h1, h2, h3⟩ := h
  rcases h2.2 with ⟨rfl, h0⟩ | ⟨g, cap, cur, rfl, _⟩
  · exact ⟨_, _, by rw [h0]⟩
  · exact ⟨_, _, rfl⟩
section
variable {ops : Array Oper} {rest : List Oper} {o : Oper} {a : Act} {w : World} {Q : Exit → Act → World → Prop}
set_option maxRecDepth 100000 in
theorem wpList_rowof (hgd : o.guard = none) (s x : Operand) (ho : o.op = .call { callee := .builtin .append, args := #[s, x], argTypes := #[26, 26] }) (B : Nat) (pv u : Value) (l : List UInt32) (rows : List (List UInt32)) (g0 : Nat)
    (hs : a.eval s = pv) (hx : a.eval x = .slice (some ⟨g0, 0, none⟩) 1 1) (h : RowsOf w B pv rows) (hl : rows.length < 1000000) (hb : B ≤ w.heap.size) (hsrc : Blk w g0 22 #[u]) (hou : Oq w 0 u l)
    (H : ∀ v' w', RowsOf w' B v' (rows ++ [l]) → Below B w w' → wpList Tryz.prog ops Q rest (a.put o.dst v') w') : wpList Tryz.prog ops Q (o :: rest) a w := by
  obtain ⟨i, hi, hz, hsz, hby⟩ := info22
  obtain ⟨vals, h1, h2, h3⟩ := h
  have hu : u.oneCell' = true := by
    rcases hou with ⟨rfl, _⟩ | ⟨g, off, cap, cur, rfl, _⟩ <;> rfl
  obtain ⟨v', w', hr, h4, h5, _, _⟩ := run_append_own_at (P := Tryz.prog) (w := w) B 26 o.type 22 i (.slice none 0 0) 1 24 Tryz.underlying26 hi hz hsz hby rfl (by decide) pv rows.length vals h2 ⟨g0, 0, none⟩ 1 1 [u] rfl (src_val hsrc) (by intro x hx; rw [List.mem_singleton] at hx; subst hx; exact hu) (by unfold maxLen; omega) (by omega) hb
  have hstill : Still w w' := fun g cur hk => (h5.block g hk.lt (fun e => by
    rcases h2.2 with ⟨rfl, _⟩ | ⟨g', cap, cur', rfl, _, hg', _⟩
    · cases e
    · cases e
      unfold Blk at hk
      rw [hg'] at hk
      injection hk with hk
      injection hk with _ h2
      exact absurd h2 (by decide))).trans hk
  refine wpList_plain hgd fun _ hK => Lib.wp_append_run w s x _ _ ho pv _ hs hx v' w' hr (hK _ _ (H v' w' ⟨vals ++ [u], by simp [h1], by rw [List.length_append]; exact h4, fun j hj => ?_⟩ ?_))
  · rw [getD_app, getD_app, h1]
    by_cases e : j = rows.length
    · rw [if_pos e, if_pos e]; exact hou.still hstill
    · rw [if_neg e, if_neg e]; exact (h3 j (by simp at hj; omega)).still hstill
  · exact ⟨h5.os, h5.tape, h5.output, h5.size, fun k hk => h5.block k (Nat.lt_of_lt_of_le hk hb) (fun e => by
      rcases h2.2 with ⟨rfl, _⟩ | ⟨g', cap, cur', rfl, hB, _⟩
      · cases e
      · cases e
        have hk2 : g' < B := hk
        omega)⟩
end
/-- The parts, as far as place k. -/
def rparts (g : Gr) (k : Nat) : List (List UInt32) := ((g.vs.take k).filter fun v => lab g.es v == v).map (part g)
theorem rparts_all (g : Gr) : rparts g g.vs.length = parts g := by unfold rparts parts; rw [List.take_length]
theorem rparts_yes {g : Gr} {k : Nat} (h : k < g.vs.length) (he : lab g.es (g.vs.getD k 0) = g.vs.getD k 0) : rparts g (k + 1) = rparts g k ++ [part g (lab g.es (g.vs.getD k 0))] := by
  unfold rparts
  rw [take_at h, List.filter_append, List.map_append]
  congr 1
  simp only [List.filter_cons, List.filter_nil]
  rw [if_pos (beq_iff_eq.2 he), he]
  rfl
theorem rparts_no {g : Gr} {k : Nat} (h : k < g.vs.length) (he : ¬ lab g.es (g.vs.getD k 0) = g.vs.getD k 0) : rparts g (k + 1) = rparts g k := by
  unfold rparts
  rw [take_at h, List.filter_append, List.map_append]
  simp only [List.filter_cons, List.filter_nil]
  rw [if_neg (fun q => he (beq_iff_eq.1 q))]
  simp
theorem rparts_len (g : Gr) (k : Nat) : (rparts g k).length ≤ g.vs.length := by
  unfold rparts
  rw [List.length_map]
  have := List.length_filter_le (fun v => lab g.es v == v) (g.vs.take k)
  rw [List.length_take] at this
  omega
/-- A part begins with its label. -/
theorem part_head {g : Gr} (h : g.vs.Pairwise (· < ·)) {r : UInt32} (hr : r ∈ g.vs) (hl : lab g.es r = r) : 0 < (part g r).length ∧ (part g r).getD 0 0 = r := by
  have hm : r ∈ part g r := List.mem_filter.2 ⟨hr, beq_iff_eq.2 hl⟩
  have hp : (part g r).Pairwise (· < ·) := h.filter _
  have hlen : 0 < (part g r).length := List.length_pos_of_mem hm
  refine ⟨hlen, ?_⟩
  have h0 : (part g r).getD 0 0 ∈ part g r := getD_mem hlen
  obtain ⟨hv, he⟩ := List.mem_filter.1 h0
  have hle := lab_le g.es ((part g r).getD 0 0)
  rw [beq_iff_eq.1 he] at hle
  obtain ⟨i, hi, hir⟩ := List.getElem_of_mem hm
  rw [getD_at hi] at hir
  have := up2_of hp 0 i (Nat.zero_le _) hi
  rw [hir] at this
  exact UInt32.le_antisymm this hle
attribute [local irreducible] V
attribute [local irreducible] wpList in
set_option maxRecDepth 100000 in
set_option maxHeartbeats 4000000 in
/-- The document's Parts. -/
theorem rparts_walk (w : World) (v : Value) (g : Gr) (h : RG w v g) (hM : May g) :
    Calls Tryz.prog 51 #[v] w fun e w' => ∃ u, e = .returned u ∧ RRv w' u (parts g) ∧ Below w.heap.size w w' := by
  have HRG := Lib.hid h
  have HM := Lib.hid hM
  obtain ⟨A, c, B, d, rfl, _, _, hr, hre⟩ := h
  have hn64 := hM.nv
  have hn160 := hM.ne
  have hgd := run_guard
  have HB : Hid (Below w.heap.size w (w.alloc (.cells #[.slice A g.vs.length c, .slice B g.es.length d] 25))) := (Below.refl _ w).alloc (Nat.le_refl _) _
  have HBK : Hid (Blk (w.alloc (.cells #[.slice A g.vs.length c, .slice B g.es.length d] 25)) w.heap.size 25 #[.slice A g.vs.length c, .slice B g.es.length d]) := Blk.fresh _ _ _
  have HSZ : Hid ((w.alloc (.cells #[.slice A g.vs.length c, .slice B g.es.length d] 25)).heap.size = w.heap.size + 1) := by show _ = _; simp
  have HR := Lib.hid hr
  have r6 : True := trivial
  clear hr hre hM r6
  go_enter Tryz.func51, Tryz.ntmps51
  go_wp2
  generalize hw1 : w.alloc (.cells #[.slice A g.vs.length c, .slice B g.es.length d] 25) = w1 at *
  clear hw1
  go_loopw [3, 10] (fun pv i wr => ∃ k : Nat, k ≤ g.vs.length ∧ i = .int .i64 k ∧ RowsOf wr w1.heap.size pv (rparts g k) ∧ Below w1.heap.size w1 wr) (fun _ i _ => g.vs.length - (intOf i).toNat)
  case atStart => exact ⟨0, Nat.zero_le _, rfl, RowsOf.nil _ _, Below.refl _ _⟩
  case round =>
    obtain ⟨k, hk, rfl, hpa, hb⟩ := hrel
    have HPA := Lib.hid hpa
    have HBr := Lib.hid hb
    have HBW : Hid (Below w.heap.size w wr) := HB.out.trans (Below.mono hb HB.out.size)
    have HKb := Lib.hid (HBK.out.kept hb HBK.out.lt)
    obtain ⟨PA, pc, hpv⟩ := hpa.slice
    clear hpa hb
    subst hpv
    by_cases hlt : k < g.vs.length
    · obtain ⟨b, o, rfl, hc⟩ := (HR.out.kept HBW.out (Nat.le_refl _)).spot (by omega)
      have hcell := hc k hlt
      rw [getD_at hlt] at hcell
      have HIN : Hid (g.vs.getD k 0 ∈ g.vs) := getD_mem hlt
      have HPH := Lib.hid (part_head HM.out.vup (lab_mem HM.out.ends HIN.out) (lab_idem g.es (g.vs.getD k 0)))
      have HPL := Lib.hid (rparts_len g k)
      have HPT := Lib.hid (part_le g (lab g.es (g.vs.getD k 0)))
      have k0 : wr.cell? ⟨w.heap.size, 0, none⟩ = some (.slice (some ⟨b, o, none⟩) g.vs.length c) := HKb.out.cell 0
      have k1 : wr.cell? ⟨w.heap.size, 1, none⟩ = some (.slice B g.es.length d) := HKb.out.cell 1
      clear hc
      by_cases he : lab g.es (g.vs.getD k 0) = g.vs.getD k 0
      · have HS := Lib.hid (rparts_yes hlt he)
        have ht := eqT (x := lab g.es (g.vs.getD k 0)) (y := g.vs.getD k 0) (by rw [beq_iff_eq]; exact he)
        clear he
        have HP := Lib.hid (fun W hW => rpart_walk W (.agg #[.slice (some ⟨b, o, none⟩) g.vs.length c, .slice B g.es.length d]) g (g.vs.getD k 0) hW HM.out HIN.out)
        generalize g.vs.getD k 0 = x at *
        generalize lab g.es x = r at *
        generalize part g r = pr at *
        go_wp2_with (first
          | (go_at_call 96; refine (HP.out _ (HRG.out.kept HBW.out)).mono ?_; rintro e w2 ⟨u, rfl, hu, hb2⟩; have HU := Lib.hid hu; have HB2 := Lib.hid hb2; obtain ⟨A2, c2, hu2, hcc⟩ := hu.is; obtain ⟨b2, o2, hA2, hc2⟩ := hcc HPH.out.1; subst hA2; subst hu2; have hx0 : w2.cell? ⟨b2, o2, none⟩ = some (V (pr.getD 0 0)) := hc2 0 HPH.out.1; rw [HPH.out.2] at hx0; have hl0 := HPH.out.1; have hl1 : pr.length ≤ 64 := (by have := HPT.out; omega); clear hu hb2 hc2 hcc)
          | (refine wpList_rowof rfl (.tmp 22) (.tmp 24) rfl w1.heap.size _ _ pr (rparts g k) w2.heap.size rfl rfl ((HPA.out.kept HB2.out).kept ((Below.refl _ w2).alloc (Nat.le_refl _) (.cells #[.slice (some ⟨b2, o2, none⟩) pr.length c2] 22))) (by have := HPL.out; omega) (by have := HBr.out.size; have := HB2.out.size; simp; omega) (Blk.fresh _ _ _) ((Oq.base HU.out (Nat.zero_le _)).still (Still.below ((Below.refl _ w2).alloc (Nat.le_refl _) (.cells #[.slice (some ⟨b2, o2, none⟩) pr.length c2] 22)))) ?_; intro v3 w3 hp3 hb3; have HP3 := Lib.hid hp3; have HB3 := Lib.hid hb3; clear hp3 hb3))
        go_roundw
        case rel => exact ⟨k + 1, by omega, by go_num, by rw [HS.out]; exact HP3.out, ((HBr.out.trans (Below.mono HB2.out HBr.out.size)).alloc (Nat.le_trans HBr.out.size HB2.out.size) _).trans HB3.out⟩
        case measure => simp [intOf]; omega
      · have HS := Lib.hid (rparts_no hlt he)
        have ht := eqF (x := lab g.es (g.vs.getD k 0)) (y := g.vs.getD k 0) (by simpa using he)
        clear he
        have HP := Lib.hid (fun W hW => rpart_walk W (.agg #[.slice (some ⟨b, o, none⟩) g.vs.length c, .slice B g.es.length d]) g (g.vs.getD k 0) hW HM.out HIN.out)
        generalize g.vs.getD k 0 = x at *
        generalize lab g.es x = r at *
        generalize part g r = pr at *
        go_wp2_with (go_at_call 96; refine (HP.out _ (HRG.out.kept HBW.out)).mono ?_; rintro e w2 ⟨u, rfl, hu, hb2⟩; have HB2 := Lib.hid hb2; obtain ⟨A2, c2, hu2, hcc⟩ := hu.is; obtain ⟨b2, o2, hA2, hc2⟩ := hcc HPH.out.1; subst hA2; subst hu2; have hx0 : w2.cell? ⟨b2, o2, none⟩ = some (V (pr.getD 0 0)) := hc2 0 HPH.out.1; rw [HPH.out.2] at hx0; have hl0 := HPH.out.1; have hl1 : pr.length ≤ 64 := (by have := HPT.out; omega); clear hu hb2 hc2 hcc)
        go_roundw
        case rel => exact ⟨k + 1, by omega, by go_num, by rw [HS.out]; exact HPA.out.kept HB2.out, HBr.out.trans (Below.mono HB2.out HBr.out.size)⟩
        case measure => simp [intOf]; omega
    · obtain rfl : k = g.vs.length := by omega
      have HPE : Hid (RRv wr (.slice PA (rparts g g.vs.length).length pc) (parts g)) := by
        show RRv _ _ _
        have h1 := HPA.out.rr (fun l hl => by
          unfold rparts at hl
          obtain ⟨v, _, rfl⟩ := List.mem_map.1 hl
          have := part_le g v
          omega)
        rw [rparts_all] at h1 ⊢
        exact h1
      go_wp2
      go_ret
      exact ⟨_, rfl, HPE.out, HBW.out⟩
end Go.Proofs.YtcinbmekjlmdpaaGreat

/-! How a map lies; the document's twin and Turn. -/
namespace Go.Proofs.YtcinbmekjlmdpaaGreat
open Go.RowKit

theorem run_rem2t (x : UInt32) (w : World) : (binOp .rem 34 (V x) (.int .u32 2)).run Tryz.prog w = .ok (V (x % 2)) w := by
  have h := x.toNat_lt
  show Result.ok (Value.int .u32 ((x.toNat : Int).tmod 2)) w = _
  rw [V_def, UInt32.toNat_mod, Int.tmod_eq_emod_of_nonneg (by omega)]
  congr 2
set_option maxRecDepth 100000 in
theorem run_sub1 (x : UInt32) (w : World) : (binOp .sub 34 (V x) (.int .u32 1)).run Tryz.prog w = .ok (V (x - 1)) w := by
  show Result.ok (Value.int .u32 (IntKind.u32.wrap ((x.toNat : Int) - 1))) w = _
  have h := x.toNat_lt
  have e : (x - 1).toNat = (4294967296 - 1 + x.toNat) % 4294967296 := by rw [UInt32.toNat_sub]; rfl
  rw [V_def, e, IntKind.wrap_u32]
  congr 2
  omega
attribute [local irreducible] V
set_option maxRecDepth 100000 in
theorem rtwin_walk (w : World) (d : UInt32) : Calls Tryz.prog 55 #[V d] w fun e w' => e = .returned (V (tw2 d)) ∧ w = w' := by
  have r1 := run_rem2t d
  have r2 := run_add1 d
  have r3 := run_sub1 d
  by_cases h : d % 2 = 0
  · have he : ∀ w, (binOp .eql 34 (V (d % 2)) (.int .u32 0)).run Tryz.prog w = .ok (.bool true) w := fun w => by rw [V0t, h]; exact run_eql _ _ _ w
    have hg : ∀ w, (eqGuard .eql 34 (.tmp 4) (.const (.int .u32 0)) (V (d % 2)) (.int .u32 0)).run Tryz.prog w = .ok () w := fun w => by rw [V0t]; exact run_guard _ _ _ _ _ _ w
    have HT : Hid (tw2 d = d + 1) := if_pos h
    clear h
    go_enter Tryz.func55, Tryz.ntmps55
    go_wp2
    go_ret
    exact ⟨by rw [HT.out]; rfl, rfl⟩
  · have he : ∀ w, (binOp .eql 34 (V (d % 2)) (.int .u32 0)).run Tryz.prog w = .ok (.bool false) w := fun w => by
      rw [V0t, run_eql, beq_eq_false_iff_ne.2 h]
    have hg : ∀ w, (eqGuard .eql 34 (.tmp 4) (.const (.int .u32 0)) (V (d % 2)) (.int .u32 0)).run Tryz.prog w = .ok () w := fun w => by rw [V0t]; exact run_guard _ _ _ _ _ _ w
    have HT : Hid (tw2 d = d - 1) := if_neg h
    clear h
    go_enter Tryz.func55, Tryz.ntmps55
    go_wp2
    go_ret
    exact ⟨by rw [HT.out]; rfl, rfl⟩
/-- The place of the turn that has it; -1. -/
def tix (rots : List (List UInt32)) (d : UInt32) : Int := if rots.findIdx (fun t => t.contains d) < rots.length then (rots.findIdx (fun t => t.contains d) : Int) else -1
attribute [local irreducible] wpList in
set_option maxRecDepth 100000 in
set_option maxHeartbeats 2000000 in
/-- The document's Turn. -/
theorem rturn_walk (w : World) (v : Value) (g : Gr) (rots : List (List UInt32)) (d : UInt32) (h : RM w v g rots) (hl : rots.length ≤ 1000) :
    Calls Tryz.prog 18 #[v, V d] w fun e w' => e = .returned (.int .i64 (tix rots d)) ∧ Below w.heap.size w w' := by
  obtain ⟨A, c, B, dd, C, ce, rfl, _, hr⟩ := h
  have HB : Hid (Below w.heap.size w (w.alloc (.cells #[.slice A g.vs.length c, .slice B g.es.length dd, .slice C rots.length ce] 28))) := (Below.refl _ w).alloc (Nat.le_refl _) _
  have HBK : Hid (Blk (w.alloc (.cells #[.slice A g.vs.length c, .slice B g.es.length dd, .slice C rots.length ce] 28)) w.heap.size 28 #[.slice A g.vs.length c, .slice B g.es.length dd, .slice C rots.length ce]) := Blk.fresh _ _ _
  have HR := Lib.hid (hr.kept HB.out)
  have HN : Hid (∀ j, j < rots.findIdx (fun t => t.contains d) → (rots.getD j []).contains d = false) := fun j hj => by
    have h1 : j < rots.length := Nat.lt_of_lt_of_le hj List.findIdx_le_length
    have := List.not_of_lt_findIdx hj
    rw [List.getD_eq_getElem?_getD, List.getElem?_eq_getElem h1]
    simpa using this
  have HY : Hid (rots.findIdx (fun t => t.contains d) < rots.length → (rots.getD (rots.findIdx (fun t => t.contains d)) []).contains d = true) := fun hj => by
    have := List.findIdx_getElem (p := fun t : List UInt32 => t.contains d) (xs := rots) (w := hj)
    rw [List.getD_eq_getElem?_getD, List.getElem?_eq_getElem hj]
    exact this
  have HX : Hid (tix rots d = if rots.findIdx (fun t => t.contains d) < rots.length then (rots.findIdx (fun t => t.contains d) : Int) else -1) := rfl
  have HLE : Hid (rots.findIdx (fun t => t.contains d) ≤ rots.length) := List.findIdx_le_length
  clear hr
  generalize rots.findIdx (fun t => t.contains d) = q at *
  go_enter Tryz.func18, Tryz.ntmps18
  go_wp2
  generalize w.alloc (.cells #[.slice A g.vs.length c, .slice B g.es.length dd, .slice C rots.length ce] 28) = w1 at *
  have k2 : w1.cell? ⟨w.heap.size, 2, none⟩ = some (.slice C rots.length ce) := HBK.out.cell 2
  go_loop [9] (fun i => ∃ k : Nat, k ≤ q ∧ i = .int .i64 k) (fun i => rots.length - (intOf i).toNat)
  case atStart => exact ⟨0, Nat.zero_le _, rfl⟩
  case round =>
    obtain ⟨k, hk, rfl⟩ := hrel
    have hle := HLE.out
    by_cases hlt : k < rots.length
    · obtain ⟨_, _, q3, _, z3⟩ := HR.out
      injection q3 with q3 q3a q3b
      subst q3 q3b
      obtain ⟨b3, o3, rfl, _, h3⟩ := z3 (by omega)
      obtain ⟨u5, hc5, hr5⟩ := h3 k hlt
      obtain ⟨A5, c5, rfl, _, hr5⟩ := hr5
      have HF := Lib.hid (find_walk w1 A5 c5 _ d hr5)
      clear z3 h3
      by_cases hkq : k < q
      · have h0 := HN.out k hkq
        have hix : ix (rots.getD k []) d = -1 := ix_ge fun h => by
          have := fst_yes _ d h
          rw [beq_iff_eq] at this
          have hm : d ∈ rots.getD k [] := this ▸ List.getElem_mem h
          rw [List.contains_iff_mem.2 hm] at h0
          cases h0
        rw [hix] at HF
        clear h0 hix hr5
        generalize rots.getD k [] = row at *
        go_wp2_with (go_at_call 45; refine HF.out.mono ?_; rintro e w' ⟨rfl, rfl⟩)
        go_round
        case rel => exact ⟨k + 1, by omega, by go_num⟩
        case measure => simp [intOf]; omega
      · obtain rfl : k = q := by omega
        have h0 := HY.out hlt
        have hm : d ∈ rots.getD k [] := List.contains_iff_mem.1 h0
        have hfl := fst_lt hm
        rw [ix_lt hfl] at HF
        have hge : (0 : Int) ≤ (fst (rots.getD k []) d : Nat) := by omega
        have HT : Hid (tix rots d = (k : Int)) := by rw [HX.out]; exact if_pos hlt
        clear h0 hm hr5 hfl
        generalize rots.getD k [] = row at *
        generalize fst row d = p at *
        go_wp2_with (go_at_call 45; refine HF.out.mono ?_; rintro e w' ⟨rfl, rfl⟩)
        go_ret
        exact ⟨by rw [HT.out]; rfl, HB.out⟩
    · obtain rfl : k = rots.length := by omega
      have HT : Hid (tix rots d = -1) := by rw [HX.out]; exact if_neg (by omega)
      go_wp2
      go_ret
      exact ⟨by rw [HT.out]; rfl, HB.out⟩
end Go.Proofs.YtcinbmekjlmdpaaGreat
