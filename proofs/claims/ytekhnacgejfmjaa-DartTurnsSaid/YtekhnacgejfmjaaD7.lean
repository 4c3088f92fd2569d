/- Reverse, Mirror, Same. -/
import Derived.Test.YtekhnacgejfmjaaD6
namespace Go.Proofs.Ytekhnacgejfmjaa
open Go.RowKit

/-- Half reversed. -/
def rvk (l : List UInt32) (k x : Nat) : UInt32 := if x < k ∨ l.length ≤ x + k then l.getD (l.length - 1 - x) 0 else l.getD x 0
theorem rvk_zero (l : List UInt32) (x : Nat) (h : x < l.length) : rvk l 0 x = l.getD x 0 := by
  unfold rvk; rw [if_neg (by omega)]
theorem rvk_succ (l : List UInt32) (k x : Nat) (h : x < l.length) (hk : 2 * k + 1 < l.length) :
    rvk l (k + 1) x = if x = k then rvk l k (l.length - 1 - k) else if x = l.length - 1 - k then rvk l k k else rvk l k x := by
  unfold rvk
  by_cases h1 : x = k
  · subst h1
    rw [if_pos (by omega), if_pos rfl, if_neg (by omega)]
  · rw [if_neg h1]
    by_cases h2 : x = l.length - 1 - k
    · subst h2
      rw [if_pos (by omega), if_pos rfl, if_neg (by omega)]
      congr 1
      omega
    · rw [if_neg h2]
      by_cases h3 : x < k ∨ l.length ≤ x + k
      · rw [if_pos (by omega), if_pos h3]
      · rw [if_neg (by omega), if_neg h3]
theorem rvk_end (l : List UInt32) (k x : Nat) (h : x < l.length) (hk : l.length ≤ 2 * k + 1) : rvk l k x = l.reverse.getD x 0 := by
  have hr : l.reverse.getD x 0 = l.getD (l.length - 1 - x) 0 := by
    rw [← getD_at (by rw [List.length_reverse]; exact h), ← getD_at (by omega), List.getElem_reverse]
  rw [hr]
  unfold rvk
  by_cases h3 : x < k ∨ l.length ≤ x + k
  · rw [if_pos h3]
  · rw [if_neg h3]
    congr 1
    omega
theorem RBelow.set {B : Nat} {a w : World} (h : Below B a w) {g : Nat} (i : Nat) (hg : B ≤ g) (v : Value) : Below B a (w.setCell ⟨g, i, none⟩ v) :=
  h.trans ⟨rfl, rfl, rfl, by simp [World.setCell], fun k hk => heap_setCell_other w _ k v (by show k ≠ g; omega)⟩
theorem V_all (x : UInt32) : (V x).oneCell' = true := rfl
attribute [local irreducible] V
set_option maxHeartbeats 1000000 in
theorem reverse_walk (w : World) (base : Nat) (v : Value) (l : List UInt32) (h : Ow w base v l) (hl : l.length ≤ 1000000) :
    Calls Try.prog 53 #[v] w fun e w' => e = .returned (.tuple #[]) ∧ Ow w' base v l.reverse ∧ Below base w w' := by
  rcases h.2 with ⟨rfl, h0⟩ | ⟨g, cap, cur, rfl, hb, hgc, hcap, hcm, hsz, htake⟩
  · obtain rfl : l = [] := List.length_eq_zero_iff.1 h0
    go_enter Try.func53, Try.ntmps53
    go_wp2
    go_loop [2, 3] (fun i j => i = .int .i64 0 ∧ j = .int .i64 (-1)) (fun _ _ => 0)
    case atStart => exact ⟨rfl, rfl⟩
    case round =>
      obtain ⟨rfl, rfl⟩ := hrel
      go_wp2
      go_end0
      exact ⟨rfl, Ow.nil _ _, Below.refl _ _⟩
  · have hblk : Blk w g 37 cur := hgc
    have hpt : ∀ x, x < l.length → cur[x]? = some (V (rvk l 0 x)) := by
      intro x hx
      have h1 : (cur.toList.take (l.length * 1))[x]? = (l.map V)[x]? := by rw [htake]
      rw [List.getElem?_take_of_lt (by omega)] at h1
      rw [rvk_zero l x hx, ← getD_at hx]
      simpa [hx] using h1
    have hcs : l.length ≤ cur.size := by omega
    have HG : Hid (∀ (wr : World) (cu : Array Value), Blk wr g 37 cu → cu.size = cur.size → (∀ x, x < l.length → cu[x]? = some (V (l.reverse.getD x 0))) → Ow wr base (.slice (some ⟨g, 0, none⟩) l.length cap) l.reverse) := by
      intro wr cu hblk2 hs2 hpt2
      refine ⟨by simp, .inr ⟨g, cap, cu, by rw [List.length_reverse], hb, hblk2, by rw [List.length_reverse]; exact hcap, hcm, by rw [hs2]; exact hsz, ?_⟩⟩
      apply List.ext_getElem?
      intro x
      rw [List.length_reverse, Nat.mul_one]
      by_cases hx : x < l.length
      · rw [List.getElem?_take_of_lt hx, List.getElem?_map, List.getElem?_eq_getElem (i := x) (l := l.reverse) (by rw [List.length_reverse]; exact hx), Array.getElem?_toList, hpt2 x hx, ← getD_at (by rw [List.length_reverse]; exact hx)]
        rfl
      · rw [List.getElem?_eq_none (by rw [List.length_take]; omega), List.getElem?_eq_none (by rw [List.length_map, List.length_reverse]; omega)]
    have HB := Lib.hid hblk
    have HP := Lib.hid hpt
    have HC := Lib.hid hcs
    clear hblk hpt hcs htake hsz hgc h
    go_enter Try.func53, Try.ntmps53
    go_wp2
    go_loopw [2, 3] (fun i j wr => ∃ k : Nat, k ≤ l.length ∧ i = .int .i64 k ∧ j = .int .i64 ((l.length : Int) - 1 - k) ∧ Below base w wr ∧ ∃ cu, Blk wr g 37 cu ∧ cu.size = cur.size ∧ ∀ x, x < l.length → cu[x]? = some (V (rvk l k x))) (fun i _ _ => l.length - (intOf i).toNat)
    case atStart => exact ⟨0, by omega, rfl, by simp, Below.refl _ _, cur, HB.out, rfl, HP.out⟩
    case round =>
      obtain ⟨k, hk, rfl, rfl, hbl, cu, hblk, hsz, hpt⟩ := hrel
      by_cases hlt : 2 * k + 1 < l.length
      · have h1 := hpt k (by omega)
        have h2 := hpt (l.length - 1 - k) (by omega)
        have hj : (l.length : Int) - 1 - k = ((l.length - 1 - k : Nat) : Int) := by omega
        have HJ := Lib.hid hj
        have hjs : l.length - 1 - k < cu.size := by have := HC.out; omega
        have hjn : l.length - 1 - k < l.length := by omega
        have hne : k < l.length - 1 - k := by omega
        have HN : Hid (∀ x, x < l.length → ((cu.setIfInBounds k (V (rvk l k (l.length - 1 - k)))).setIfInBounds (l.length - 1 - k) (V (rvk l k k)))[x]? = some (V (rvk l (k + 1) x))) := by
          intro x hx
          rw [rvk_succ l k x hx hlt, Array.getElem?_setIfInBounds, Array.getElem?_setIfInBounds]
          by_cases e2 : l.length - 1 - k = x
          · subst e2
            rw [if_pos rfl, if_pos (by simpa using hjs), if_neg (by omega), if_pos rfl]
          · rw [if_neg e2]
            by_cases e1 : k = x
            · subst e1
              rw [if_pos rfl, if_pos (by omega), if_pos rfl]
            · rw [if_neg e1, if_neg (fun e => e1 e.symm), if_neg (fun e => e2 e.symm), hpt x hx]
        have HBL := Lib.hid hbl
        have HK := Lib.hid hblk
        have HSZ := Lib.hid hsz
        have HLT := Lib.hid hlt
        have c1 := hblk.cell k
        have c2 := hblk.cell (l.length - 1 - k)
        rw [h1] at c1
        rw [h2] at c2
        have q1 := hblk.thaw k
        have q2 := hblk.thaw (l.length - 1 - k)
        have e1 : (l.length : Int) - 1 - k - 1 = (l.length : Int) - 1 - ((k + 1 : Nat) : Int) := by omega
        have HE := Lib.hid e1
        rw [hj] at HE ⊢
        clear hpt h1 h2 hbl hblk hsz hj hlt e1
        generalize l.length - 1 - k = j at *
        generalize rvk l k j = y at *
        generalize rvk l k k = x at *
        have s1 := fun (x : UInt32) (a : Addr) (w : World) => run_store Try.prog w a (V x) .plain (V_all x)
        have r6 := V_cells
        unfold Value.cells at r6
        go_wp2
        go_region
        go_wp2
        go_roundw
        case rel => exact ⟨k + 1, by omega, by go_num, by rw [HE.out], (RBelow.set (RBelow.set HBL.out k hb (V y)) j hb (V x)).trans ⟨rfl, rfl, rfl, Nat.le_refl _, fun _ _ => rfl⟩, _, (HK.out.put k (V y)).put j (V x), by rw [Array.size_setIfInBounds, Array.size_setIfInBounds]; exact HSZ.out, HN.out⟩
        case measure => simp [intOf]; omega
      · have HF : Hid (Ow wr base (.slice (some ⟨g, 0, none⟩) l.length cap) l.reverse) := HG.out wr cu hblk hsz (fun x hx => by rw [hpt x hx, rvk_end l k x hx (by omega)])
        have HBL := Lib.hid hbl
        clear hpt hbl hblk hsz
        go_wp2
        go_end0
        exact ⟨rfl, HF.out, HBL.out⟩
/-! Over values that read so. -/
theorem RV.len {w : World} {v : Value} {l : List UInt32} (h : RV w v l) : l.length ≤ 1000000 := by
  obtain ⟨A, c, _, _, h⟩ := h; exact h.len
theorem normal_rv (w : World) (v : Value) (l : List UInt32) (h : RV w v l) : Calls Try.prog 25 #[v] w fun e w' => ∃ v, e = .returned v ∧ RV w' v (norm l) ∧ Below w.heap.size w w' := by
  obtain ⟨A, c, rfl, hc, hr⟩ := h
  exact normal_walk w A c l hr hc
theorem rnorm_rv (w : World) (v : Value) (l : List UInt32) (h : RV w v l) : Calls Try.prog 26 #[v] w fun e w' => ∃ v, e = .returned v ∧ RV w' v (norm l) ∧ Below w.heap.size w w' := by
  obtain ⟨A, c, rfl, hc, hr⟩ := h
  exact rnorm_walk w A c l hr hc
theorem equal_rv (w : World) (v u : Value) (l m : List UInt32) (h : RV w v l) (h2 : RV w u m) : Calls Try.prog 52 #[v, u] w fun e w' => e = .returned (.bool (decide (l = m))) ∧ Below w.heap.size w w' := by
  obtain ⟨A, c, rfl, hc, hr⟩ := h
  obtain ⟨B, d, rfl, hd, hs⟩ := h2
  exact equal_walk w A B c d l m hr hs
theorem rsame_rv (w : World) (v u : Value) (l m : List UInt32) (h : RV w v l) (h2 : RV w u m) : Calls Try.prog 24 #[v, u] w fun e w' => e = .returned (.bool (decide (l = m))) ∧ Below w.heap.size w w' := by
  obtain ⟨A, c, rfl, hc, hr⟩ := h
  obtain ⟨B, d, rfl, hd, hs⟩ := h2
  exact same_walk w A B c d l m hr hs
theorem next_rv (w : World) (v : Value) (l : List UInt32) (d : UInt32) (h : RV w v l) : Calls Try.prog 27 #[v, V d] w fun e w' => e = .returned (V (nxt l d)) ∧ w = w' := by
  obtain ⟨A, c, rfl, hc, hr⟩ := h
  exact next_walk w A c l d hr
theorem rnext_rv (w : World) (v : Value) (l : List UInt32) (d : UInt32) (h : RV w v l) : Calls Try.prog 28 #[v, V d] w fun e w' => e = .returned (V (nxt l d)) ∧ w = w' := by
  obtain ⟨A, c, rfl, hc, hr⟩ := h
  exact rnext_walk w A c l d hr
theorem prev_rv (w : World) (v : Value) (l : List UInt32) (d : UInt32) (h : RV w v l) : Calls Try.prog 29 #[v, V d] w fun e w' => e = .returned (V (prv l d)) ∧ w = w' := by
  obtain ⟨A, c, rfl, hc, hr⟩ := h
  exact prev_walk w A c l d hr
theorem rprev_rv (w : World) (v : Value) (l : List UInt32) (d : UInt32) (h : RV w v l) : Calls Try.prog 30 #[v, V d] w fun e w' => e = .returned (V (prv l d)) ∧ w = w' := by
  obtain ⟨A, c, rfl, hc, hr⟩ := h
  exact rprev_walk w A c l d hr
theorem index_rv (w : World) (v : Value) (l : List UInt32) (d : UInt32) (h : RV w v l) : Calls Try.prog 44 #[v, V d] w fun e w' => e = .returned (.int .i64 (ix l d)) ∧ w = w' := by
  obtain ⟨A, c, rfl, hc, hr⟩ := h
  exact index_walk w A c l d hr
theorem find_rv (w : World) (v : Value) (l : List UInt32) (d : UInt32) (h : RV w v l) : Calls Try.prog 48 #[v, V d] w fun e w' => e = .returned (.int .i64 (ix l d)) ∧ w = w' := by
  obtain ⟨A, c, rfl, hc, hr⟩ := h
  exact find_walk w A c l d hr
theorem clone_rv (w : World) (v : Value) (l : List UInt32) (h : RV w v l) : Calls Try.prog 50 #[v] w fun e w' => ∃ u, e = .returned u ∧ Ow w' w.heap.size u l ∧ Below w.heap.size w w' := by
  obtain ⟨A, c, rfl, hc, hr⟩ := h
  exact clone_walk w A c l hr hc
/-- The other way round. -/
def mir (l : List UInt32) : List UInt32 := norm l.reverse
theorem mirror_rv (w : World) (v : Value) (l : List UInt32) (h : RV w v l) : Calls Try.prog 36 #[v] w fun e w' => ∃ u, e = .returned u ∧ RV w' u (mir l) ∧ Below w.heap.size w w' := by
  have H := Lib.hid h
  have HL := Lib.hid h.len
  clear h
  go_enter Try.func36, Try.ntmps36
  go_wp2_with (first
    | (go_at_call 50; refine (clone_rv _ _ _ H.out).mono ?_; rintro e w1 ⟨v1, rfl, h1, hb1⟩; have H1 := Lib.hid h1; have HB1 := Lib.hid hb1; clear h1 hb1)
    | (go_at_call 53; refine (reverse_walk _ _ _ _ H1.out HL.out).mono ?_; rintro e w2 ⟨rfl, h2, hb2⟩; have H2 := Lib.hid h2; have HB2 := Lib.hid hb2; clear h2 hb2)
    | (go_at_call 25; refine (normal_rv _ _ _ (H2.out.rv (by rw [List.length_reverse]; exact HL.out))).mono ?_; rintro e w3 ⟨v3, rfl, h3, hb3⟩; have H3 := Lib.hid h3; have HB3 := Lib.hid hb3; clear h3 hb3))
  go_ret
  exact ⟨_, rfl, H3.out, (HB1.out.trans HB2.out).trans (Below.mono HB3.out (HB1.out.trans HB2.out).size)⟩
/-- dart.Same. -/
def sam (l m : List UInt32) : Bool := decide (norm l = norm m)
theorem dsame_rv (w : World) (v u : Value) (l m : List UInt32) (h : RV w v l) (h2 : RV w u m) : Calls Try.prog 35 #[v, u] w fun e w' => e = .returned (.bool (sam l m)) ∧ Below w.heap.size w w' := by
  have H := Lib.hid h
  have HM := Lib.hid h2
  clear h h2
  unfold sam
  go_enter Try.func35, Try.ntmps35
  go_wp2_with (first
    | (go_at_call 52; refine (equal_rv _ _ _ _ _ (H1.out.kept HB2.out) H2.out).mono ?_; rintro e w3 ⟨rfl, hb3⟩; have HB3 := Lib.hid hb3; clear hb3)
    | (go_at_call 25; refine (normal_rv _ _ _ (HM.out.kept HB1.out)).mono ?_; rintro e w2 ⟨v2, rfl, h2, hb2⟩; have H2 := Lib.hid h2; have HB2 := Lib.hid hb2; clear h2 hb2)
    | (go_at_call 25; refine (normal_rv _ _ _ H.out).mono ?_; rintro e w1 ⟨v1, rfl, h1, hb1⟩; have H1 := Lib.hid h1; have HB1 := Lib.hid hb1; clear h1 hb1))
  go_ret
  exact ⟨rfl, (HB1.out.trans (Below.mono HB2.out HB1.out.size)).trans (Below.mono HB3.out (Nat.le_trans HB1.out.size HB2.out.size))⟩
end Go.Proofs.Ytekhnacgejfmjaa
