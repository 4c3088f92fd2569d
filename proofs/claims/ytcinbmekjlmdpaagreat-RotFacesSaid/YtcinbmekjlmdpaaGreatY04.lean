/- The document's Normal. -/
import Derived.Test.YtcinbmekjlmdpaaGreatY03

/-! The document's Normal. -/
namespace Go.Proofs.YtcinbmekjlmdpaaGreat
open Go.RowKit

/-- The place of the least one among the first k. -/
def am (l : List UInt32) : Nat → Nat
  | 0 => 0
  | k + 1 => if l.getD k 0 < l.getD (am l k) 0 then k else am l k
theorem am_lt (l : List UInt32) (h : 0 < l.length) : ∀ k, k ≤ l.length → am l k < l.length
  | 0, _ => h
  | k + 1, hk => by
    unfold am
    split
    · omega
    · exact am_lt l h k (by omega)
theorem mn_eq (x y : UInt32) : mn x y = if y < x then y else x := rfl
theorem lt_nat {x y : UInt32} : x < y ↔ x.toNat < y.toNat := UInt32.lt_iff_toNat_lt
theorem am_inv (l : List UInt32) : ∀ k, k < l.length → am l (k + 1) ≤ k ∧ l.getD (am l (k + 1)) 0 = mnl (l.take (k + 1)) ∧ (∀ j, j < am l (k + 1) → mnl (l.take (k + 1)) < l.getD j 0)
  | 0, h => by
    have e : am l 1 = 0 := by unfold am; rw [if_neg]; · rfl
                              · show ¬ l.getD 0 0 < l.getD 0 0; rw [lt_nat]; omega
    rw [e, mnl_one l h, getD_at h]
    exact ⟨Nat.le_refl _, rfl, fun j hj => by omega⟩
  | k + 1, h => by
    obtain ⟨h1, h2, h3⟩ := am_inv l k (by omega)
    have hs := mnl_succ l (k + 1) (by omega) h
    rw [hs, getD_at h, ← h2, mn_eq]
    have e : am l (k + 1 + 1) = if l.getD (k + 1) 0 < l.getD (am l (k + 1)) 0 then k + 1 else am l (k + 1) := rfl
    rw [e]
    by_cases c : l.getD (k + 1) 0 < l.getD (am l (k + 1)) 0
    · simp only [if_pos c]
      refine ⟨by omega, trivial, fun j hj => ?_⟩
      rw [lt_nat] at c ⊢
      by_cases hj2 : j < am l (k + 1)
      · have := h3 j hj2
        rw [← h2, lt_nat] at this
        omega
      · have hle : ∀ i, i ≤ k → (mnl (l.take (k + 1))).toNat ≤ (l.getD i 0).toNat := by
          intro i hi
          have : ∀ (r : List UInt32) (x : UInt32), ∀ y ∈ x :: r, (r.foldl mn x).toNat ≤ y.toNat := by
            intro r
            induction r with
            | nil => intro x y hy; rw [List.mem_singleton.1 hy]; exact Nat.le_refl _
            | cons z r ih =>
              intro x y hy
              rw [List.foldl_cons]
              have hz : (mn x z).toNat ≤ x.toNat ∧ (mn x z).toNat ≤ z.toNat := by
                rw [mn_eq]
                split
                · rename_i q; rw [lt_nat] at q; omega
                · rename_i q; rw [lt_nat] at q; omega
              have h0 := ih (mn x z) (mn x z) List.mem_cons_self
              rcases List.mem_cons.1 hy with rfl | hy
              · omega
              · rcases List.mem_cons.1 hy with rfl | hy
                · omega
                · exact ih _ y (List.mem_cons_of_mem _ hy)
          have hm : l.getD i 0 ∈ l.take (k + 1) := by
            rw [← getD_at (by omega : i < l.length)]
            exact List.mem_iff_getElem.2 ⟨i, by rw [List.length_take]; omega, by rw [List.getElem_take]⟩
          cases ht : l.take (k + 1) with
          | nil => rw [ht] at hm; cases hm
          | cons x r => rw [ht] at hm; exact this r x _ hm
        have := hle j (by omega)
        rw [← h2] at this
        omega
    · simp only [if_neg c]
      refine ⟨by omega, trivial, fun j hj => ?_⟩
      rw [h2]
      exact h3 j hj
theorem am_all (l : List UInt32) (h : 0 < l.length) : am l l.length = fst l (mnl l) := by
  obtain ⟨h1, h2, h3⟩ := am_inv l (l.length - 1) (by omega)
  rw [show l.length - 1 + 1 = l.length by omega] at h1 h2 h3
  rw [List.take_length] at h2 h3
  generalize am l l.length = a at *
  have ha : a < l.length := by omega
  symm
  unfold fst
  rw [List.findIdx_eq ha]
  refine ⟨?_, fun j hj => ?_⟩
  · rw [← h2, ← getD_at ha]; simp
  · have := h3 j hj
    rw [← getD_at (by omega : j < l.length), lt_nat] at this
    refine beq_false_of_ne fun e => ?_
    rw [e] at this
    omega
def rot (l : List UInt32) (a : Nat) : List UInt32 := l.drop a ++ l.take a
theorem rot_length (l : List UInt32) (a : Nat) (h : a ≤ l.length) : (rot l a).length = l.length := by
  unfold rot; rw [List.length_append, List.length_drop, List.length_take]; omega
theorem rot_at (l : List UInt32) (a k : Nat) (ha : a < l.length) (hk : k < l.length) : (rot l a).take (k + 1) = (rot l a).take k ++ [l.getD ((a + k) % l.length) 0] := by
  have hl := rot_length l a (by omega)
  rw [List.take_succ_eq_append_getElem (by omega)]
  congr 2
  unfold rot
  rw [List.getElem_append]
  split
  · rename_i q
    rw [List.length_drop] at q
    rw [Nat.mod_eq_of_lt (by omega), List.getElem_drop, ← getD_at]
  · rename_i q
    rw [List.length_drop] at q
    have e : (a + k) % l.length = k - (l.length - a) := by
      rw [show a + k = (k - (l.length - a)) + l.length by omega, Nat.add_mod_right]
      exact Nat.mod_eq_of_lt (by omega)
    rw [e, List.getElem_take, ← getD_at (by omega)]
    simp only [List.length_drop]
set_option maxRecDepth 100000 in
theorem V_cells (x : UInt32) : (V x).cells = #[V x] := rfl
attribute [local irreducible] V
set_option maxRecDepth 100000 in
theorem ltT {x y : UInt32} (h : x < y) (w : World) : (binOp .lss 34 (V x) (V y)).run Tryz.prog w = .ok (.bool true) w := by
  rw [run_lss]; simp [h]
set_option maxRecDepth 100000 in
theorem ltF {x y : UInt32} (h : ¬ x < y) (w : World) : (binOp .lss 34 (V x) (V y)).run Tryz.prog w = .ok (.bool false) w := by
  rw [run_lss]; simp [h]
set_option maxRecDepth 100000 in
set_option maxHeartbeats 1000000 in
/-- The document's Normal. -/
theorem rnorm_walk (w : World) (A : Option Addr) (c : Nat) (l : List UInt32) (h : Rd w A l) (hc : l.length ≤ c) :
    Calls Tryz.prog 44 #[.slice A l.length c] w fun e w' => ∃ v, e = .returned v ∧ RV w' v (norm l) ∧ Below w.heap.size w w' := by
  have hlen := h.len
  have H := Lib.hid h
  have hg := run_guard
  clear h hc
  go_enter Tryz.func44, Tryz.ntmps44
  go_wp2
  go_loop [3, 10] (fun a i => ∃ k : Nat, k ≤ l.length ∧ i = .int .i64 k ∧ a = .int .i64 (am l k : Nat)) (fun _ i => l.length - (intOf i).toNat)
  case atStart => exact ⟨0, by omega, rfl, rfl⟩
  case round =>
    obtain ⟨k, hk, rfl, rfl⟩ := hrel
    by_cases hlt : k < l.length
    · obtain ⟨b, o, rfl, hcell⟩ := H.out.spot (by omega)
      have ha := am_lt l (by omega) k hk
      have c1 := hcell k hlt
      have c2 := hcell _ ha
      rw [getD_at hlt] at c1
      rw [getD_at ha] at c2
      clear hcell
      by_cases hx : l.getD k 0 < l.getD (am l k) 0
      · have HS : Hid (am l (k + 1) = k) := by show am l (k + 1) = k; unfold am; rw [if_pos hx]
        have hq := ltT hx
        clear hx
        generalize l.getD k 0 = x at *
        generalize l.getD (am l k) 0 = y at *
        generalize am l k = a at *
        go_wp2
        go_round
        case rel => exact ⟨k + 1, by omega, by go_num, by rw [HS.out]⟩
        case measure => simp [intOf]; omega
      · have HS : Hid (am l (k + 1) = am l k) := by show am l (k + 1) = am l k; conv => lhs; unfold am
                                                    rw [if_neg hx]
        have hq := ltF hx
        clear hx
        generalize l.getD k 0 = x at *
        generalize l.getD (am l k) 0 = y at *
        generalize am l k = a at *
        go_wp2
        go_round
        case rel => exact ⟨k + 1, by omega, by go_num, by rw [HS.out]⟩
        case measure => simp [intOf]; omega
    · obtain rfl : k = l.length := by omega
      have hal : 0 < l.length → am l l.length < l.length := fun h0 => am_lt l h0 _ (Nat.le_refl _)
      have HA : Hid (0 < l.length → norm l = rot l (am l l.length)) := fun h0 => by rw [am_all l h0]; rfl
      have HAL := Lib.hid hal
      have HN : Hid (l.length = 0 → norm l = []) := fun h0 => by
        obtain rfl : l = [] := List.length_eq_zero_iff.1 h0
        rfl
      clear hal
      generalize am l l.length = a at *
      go_wp2
      go_loopw [6, 25] (fun v i wr => ∃ k : Nat, k ≤ l.length ∧ i = .int .i64 k ∧ Ow wr w.heap.size v ((rot l a).take k) ∧ Below w.heap.size w wr) (fun _ i _ => l.length - (intOf i).toNat)
      case atStart => exact ⟨0, by omega, rfl, Ow.nil _ _, Below.refl _ _⟩
      case round =>
        obtain ⟨k, hk, rfl, ho, hb⟩ := hrel
        have HO := Lib.hid ho
        have HB := Lib.hid hb
        clear ho hb hlt
        by_cases hlt : k < l.length
        · have hap := HAL.out (by omega)
          obtain ⟨b, o, rfl, hcell⟩ := (H.out.kept HB.out (Nat.le_refl _)).spot (by omega)
          have hml : (a + k) % l.length < l.length := Nat.mod_lt _ (by omega)
          have hc1 := hcell _ hml
          rw [getD_at hml] at hc1
          clear hcell
          have hr : ((a : Int) + k).tmod (l.length : Int) = (((a + k) % l.length : Nat) : Int) := rem_nat (a + k) l.length
          have HS := Lib.hid (rot_at l a k hap hlt)
          have hl0 : ¬ ((l.length : Int) = 0) := by omega
          have HL : Hid (((rot l a).take k).length = k) := by show _ = _; rw [List.length_take, rot_length l a (by omega)]; omega
          generalize (a + k) % l.length = q at *
          generalize l.getD q 0 = x at *
          have r6 := V_cells x
          unfold Value.cells at r6
          go_wp2_with (refine wpList_append_rd rfl (.tmp 28) (.tmp 38) rfl w.heap.size _ _ [x] (some ⟨wr.heap.size, 0, none⟩) 1 rfl rfl (HO.out.alloc _) (Rd.fresh wr [x] (by simp)) (by rw [HL.out]; simp; omega) (by have := HB.out.size; simp; omega) ?_; intro v2 w2 ho2 hb2; have HO2 := Lib.hid ho2; have HB2 := Lib.hid hb2; clear ho2 hb2)
          go_roundw
          case rel => exact ⟨k + 1, by omega, by go_num, by rw [HS.out]; exact HO2.out, (HB.out.alloc HB.out.size _).trans HB2.out⟩
          case measure => simp [intOf]; omega
        · obtain rfl : k = l.length := by omega
          have HF : Hid (RV wr u6 (norm l)) := by
            by_cases h0 : 0 < l.length
            · have hr := HA.out h0
              have hal := HAL.out h0
              have ho := HO.out
              rw [List.take_of_length_le (by rw [rot_length l a (by omega)]; exact Nat.le_refl _), ← hr] at ho
              exact ho.rv (by rw [norm_length]; exact hlen)
            · have hn := HN.out (by omega)
              have ho := HO.out
              obtain rfl : l = [] := List.length_eq_zero_iff.1 (by omega)
              exact ho.rv (by simp)
          go_wp2
          go_ret
          exact ⟨_, rfl, HF.out, HB.out⟩
end Go.Proofs.YtcinbmekjlmdpaaGreat

/-! Reverse, Mirror, Same. -/
namespace Go.Proofs.YtcinbmekjlmdpaaGreat
open Go.RowKit

set_option maxRecDepth 100000 in
theorem RBelow.set {B : Nat} {a w : World} (h : Below B a w) {g : Nat} (i : Nat) (hg : B ≤ g) (v : Value) : Below B a (w.setCell ⟨g, i, none⟩ v) :=
  h.trans ⟨rfl, rfl, rfl, by simp [World.setCell], fun k hk => heap_setCell_other w _ k v (by show k ≠ g; omega)⟩
set_option maxRecDepth 100000 in
theorem V_all (x : UInt32) : (V x).oneCell' = true := rfl
attribute [local irreducible] V
/-! Over values that read so. -/
set_option maxRecDepth 100000 in
theorem RV.len {w : World} {v : Value} {l : List UInt32} (h : RV w v l) : l.length ≤ 1000000 := by
  obtain ⟨A, c, _, _, h⟩ := h; exact h.len
set_option maxRecDepth 100000 in
theorem normal_rv (w : World) (v : Value) (l : List UInt32) (h : RV w v l) : Calls Tryz.prog 54 #[v] w fun e w' => ∃ v, e = .returned v ∧ RV w' v (norm l) ∧ Below w.heap.size w w' := by
  obtain ⟨A, c, rfl, hc, hr⟩ := h
  exact normal_walk w A c l hr hc
set_option maxRecDepth 100000 in
theorem rnorm_rv (w : World) (v : Value) (l : List UInt32) (h : RV w v l) : Calls Tryz.prog 44 #[v] w fun e w' => ∃ v, e = .returned v ∧ RV w' v (norm l) ∧ Below w.heap.size w w' := by
  obtain ⟨A, c, rfl, hc, hr⟩ := h
  exact rnorm_walk w A c l hr hc
set_option maxRecDepth 100000 in
theorem equal_rv (w : World) (v u : Value) (l m : List UInt32) (h : RV w v l) (h2 : RV w u m) : Calls Tryz.prog 89 #[v, u] w fun e w' => e = .returned (.bool (decide (l = m))) ∧ Below w.heap.size w w' := by
  obtain ⟨A, c, rfl, hc, hr⟩ := h
  obtain ⟨B, d, rfl, hd, hs⟩ := h2
  exact equal_walk w A B c d l m hr hs
set_option maxRecDepth 100000 in
theorem rsame_rv (w : World) (v u : Value) (l m : List UInt32) (h : RV w v l) (h2 : RV w u m) : Calls Tryz.prog 17 #[v, u] w fun e w' => e = .returned (.bool (decide (l = m))) ∧ Below w.heap.size w w' := by
  obtain ⟨A, c, rfl, hc, hr⟩ := h
  obtain ⟨B, d, rfl, hd, hs⟩ := h2
  exact same_walk w A B c d l m hr hs
set_option maxRecDepth 100000 in
theorem index_rv (w : World) (v : Value) (l : List UInt32) (d : UInt32) (h : RV w v l) : Calls Tryz.prog 97 #[v, V d] w fun e w' => e = .returned (.int .i64 (ix l d)) ∧ w = w' := by
  obtain ⟨A, c, rfl, hc, hr⟩ := h
  exact index_walk w A c l d hr
set_option maxRecDepth 100000 in
theorem clone_rv (w : World) (v : Value) (l : List UInt32) (h : RV w v l) : Calls Tryz.prog 53 #[v] w fun e w' => ∃ u, e = .returned u ∧ Ow w' w.heap.size u l ∧ Below w.heap.size w w' := by
  obtain ⟨A, c, rfl, hc, hr⟩ := h
  exact clone_walk w A c l hr hc
end Go.Proofs.YtcinbmekjlmdpaaGreat
