/- Numbers of 32 bits compared; slices.BinarySearch. -/
import Derived.Test.YtcinbmekjlmdpaaY04
import Derived.Deep.LoopGhost
import Derived.Lib.Walk

/-! Numbers of 32 bits compared; slices.BinarySearch. -/
namespace Go.Proofs.Ytcinbmekjlmdpaa
open Go.RowKit

theorem run_gtr (t : TypeId) (x y : UInt32) (w : World) : (binOp .gtr t (V x) (V y)).run Try.prog w = .ok (.bool (decide (y < x))) w := by
  have h : (binOp .gtr t (V x) (V y)).run Try.prog w = .ok (.bool (decide ((y.toNat : Int) < (x.toNat : Int)))) w := rfl
  rw [h]
  congr 2
  rw [Bool.eq_iff_iff]
  simp [UInt32.lt_iff_toNat_lt]
theorem run_leq (t : TypeId) (x y : UInt32) (w : World) : (binOp .leq t (V x) (V y)).run Try.prog w = .ok (.bool (decide (x ≤ y))) w := by
  have h : (binOp .leq t (V x) (V y)).run Try.prog w = .ok (.bool (decide ((x.toNat : Int) ≤ (y.toNat : Int)))) w := rfl
  rw [h]
  congr 2
  rw [Bool.eq_iff_iff]
  simp [UInt32.le_iff_toNat_le]
theorem Vc (n : Nat) (h : n < 4294967296) : Value.int .u32 (n : Int) = V (UInt32.ofNat n) := by
  rw [V_def]; congr 1
  have : (UInt32.ofNat n).toNat = n := by show n % 4294967296 = _; omega
  rw [this]
/-- How many are less. -/
def ct (l : List UInt32) (x : UInt32) : Nat := l.countP (fun y => decide (y < x))
theorem ct_le (l : List UInt32) (x : UInt32) : ct l x ≤ l.length := List.countP_le_length
def Up2 (l : List UInt32) : Prop := ∀ a b, a ≤ b → b < l.length → l.getD a 0 ≤ l.getD b 0
theorem u32_le_of_not {x y : UInt32} (h : ¬ x < y) : y ≤ x := by
  rw [UInt32.le_iff_toNat_le]; rw [UInt32.lt_iff_toNat_lt] at h; omega
theorem u32_lt_le {x y z : UInt32} (h : x < y) (h2 : y ≤ z) : x < z := by
  rw [UInt32.lt_iff_toNat_lt] at *; rw [UInt32.le_iff_toNat_le] at h2; omega
theorem u32_le_lt {x y z : UInt32} (h : x ≤ y) (h2 : y < z) : x < z := by
  rw [UInt32.lt_iff_toNat_lt] at *; rw [UInt32.le_iff_toNat_le] at h; omega
theorem u32_not_lt {x y : UInt32} (h : y ≤ x) : ¬ x < y := by
  rw [UInt32.lt_iff_toNat_lt]; rw [UInt32.le_iff_toNat_le] at h; omega
theorem u32_lt_ne {x y : UInt32} (h : x < y) : ¬ x = y := by
  rintro rfl; rw [UInt32.lt_iff_toNat_lt] at h; omega
theorem getD_mem {l : List UInt32} {i : Nat} (h : i < l.length) : l.getD i 0 ∈ l := by
  rw [← getD_at h]; exact List.getElem_mem h
/-- What stands at the place where less and not less meet. -/
theorem ct_at (l : List UInt32) (x : UInt32) (k : Nat) (hk : k ≤ l.length) (h1 : ∀ t, t < k → l.getD t 0 < x) (h2 : ∀ t, k ≤ t → t < l.length → x ≤ l.getD t 0) : ct l x = k := by
  unfold ct
  rw [← List.take_append_drop k l, List.countP_append]
  have a : (l.take k).countP (fun y => decide (y < x)) = k := by
    have : (l.take k).countP (fun y => decide (y < x)) = (l.take k).length := by
      rw [List.countP_eq_length]
      intro y hy
      obtain ⟨i, hi, rfl⟩ := List.getElem_of_mem hy
      rw [List.length_take] at hi
      rw [List.getElem_take, getD_at (by omega : i < l.length)]
      simpa using h1 i (by omega)
    rw [this, List.length_take]; omega
  have b : (l.drop k).countP (fun y => decide (y < x)) = 0 := by
    rw [List.countP_eq_zero]
    intro y hy
    obtain ⟨i, hi, rfl⟩ := List.getElem_of_mem hy
    rw [List.length_drop] at hi
    rw [List.getElem_drop, getD_at (by omega : k + i < l.length)]
    simpa using u32_not_lt (h2 (k + i) (by omega) (by omega))
  omega
theorem mem_at (l : List UInt32) (x : UInt32) (k : Nat) (h1 : ∀ t, t < k → l.getD t 0 < x) : (x ∈ l) ↔ k < l.length ∧ l.getD k 0 = x ∨ (∃ t, k < t ∧ t < l.length ∧ l.getD t 0 = x) := by
  constructor
  · intro h
    obtain ⟨i, hi, rfl⟩ := List.getElem_of_mem h
    rcases Nat.lt_trichotomy i k with h3 | h3 | h3
    · have := h1 i h3
      rw [← getD_at hi] at this
      exact absurd rfl (u32_lt_ne this)
    · subst h3; exact .inl ⟨hi, (getD_at hi).symm⟩
    · exact .inr ⟨i, h3, hi, (getD_at hi).symm⟩
  · rintro (⟨h, rfl⟩ | ⟨t, _, h, rfl⟩)
    · exact getD_mem h
    · exact getD_mem h
theorem found_at (l : List UInt32) (x : UInt32) (k : Nat) (h1 : ∀ t, t < k → l.getD t 0 < x) (h2 : ∀ t, k ≤ t → t < l.length → x ≤ l.getD t 0) (hs : Up2 l) : decide (x ∈ l) = decide (k < l.length ∧ l.getD k 0 = x) := by
  apply decide_eq_decide.2
  rw [mem_at l x k h1]
  constructor
  · rintro (h | ⟨t, h3, h4, h5⟩)
    · exact h
    · have a := hs k t (by omega) h4
      have b := h2 k (Nat.le_refl _) (by omega)
      refine ⟨by omega, ?_⟩
      rw [h5] at a
      exact UInt32.le_antisymm a b
  · exact .inl
attribute [local irreducible] V
set_option maxRecDepth 100000 in
theorem nan_walk (w : World) (x : UInt32) : Calls Try.prog 68 #[V x] w fun e w' => e = .returned (.bool false) ∧ w = w' := by
  have g := run_guard
  have e := neF (rfl : x = x)
  go_enter Try.func68, Try.ntmps68
  go_wp2
  go_ret
  exact ⟨rfl, rfl⟩
set_option maxRecDepth 100000 in
theorem nan2_walk (w : World) (x : UInt32) : Calls Try.prog 71 #[V x] w fun e w' => e = .returned (.bool false) ∧ w = w' := by
  have g := run_guard
  have e := neF (rfl : x = x)
  go_enter Try.func71, Try.ntmps71
  go_wp2
  go_ret
  exact ⟨rfl, rfl⟩
set_option maxRecDepth 100000 in
theorem less_walk (w : World) (x y : UInt32) : Calls Try.prog 70 #[V x, V y] w fun e w' => e = .returned (.bool (decide (x < y))) ∧ w = w' := by
  have h := run_lss
  go_enter Try.func70, Try.ntmps70
  go_wp2_with (go_at_call 68; refine (nan_walk _ _).mono ?_; rintro e w' ⟨rfl, rfl⟩)
  go_ret
  exact ⟨rfl, rfl⟩
theorem less_yes (w : World) (x y : UInt32) (h : x < y) : Calls Try.prog 70 #[V x, V y] w fun e w' => e = .returned (.bool true) ∧ w = w' := by
  have := less_walk w x y
  rwa [decide_eq_true h] at this
theorem less_no (w : World) (x y : UInt32) (h : ¬ x < y) : Calls Try.prog 70 #[V x, V y] w fun e w' => e = .returned (.bool false) ∧ w = w' := by
  have := less_walk w x y
  rwa [decide_eq_false h] at this
attribute [local irreducible] wpList in
set_option maxRecDepth 100000 in
set_option maxHeartbeats 4000000 in
/-- slices.BinarySearch of a row that rises. -/
theorem bsearch_walk (w : World) (A : Option Addr) (c : Nat) (l : List UInt32) (x : UInt32) (h : Rd w A l) (hs : Up2 l) :
    Calls Try.prog 63 #[.slice A l.length c, V x] w fun e w' => e = .returned (.tuple #[.int .i64 (ct l x : Nat), .bool (decide (x ∈ l))]) ∧ Below w.heap.size w w' := by
  have H := Lib.hid h
  have S := Lib.hid hs
  have hn := h.len
  have g := run_guard
  clear h hs
  go_enter Try.func63, Try.ntmps63
  go_wp2
  go_loopg [7, 8] l.length (fun g s7 s8 wr => ∃ lo hi q : Nat, s7 = .int .i64 lo ∧ s8 = .int .i64 hi ∧ lo ≤ hi ∧ hi ≤ l.length ∧ hi - lo ≤ g ∧ wr = w.drewN q ∧ (∀ t, t < lo → l.getD t 0 < x) ∧ (∀ t, hi ≤ t → t < l.length → x ≤ l.getD t 0))
  case atStart => exact ⟨0, l.length, 0, rfl, rfl, Nat.zero_le _, Nat.le_refl _, by omega, rfl, fun t ht => absurd ht (Nat.not_lt_zero _), fun t h1 h2 => by omega⟩
  case round =>
    obtain ⟨lo, hi, q, rfl, rfl, hlh, hin, hg, rfl, h1, h2⟩ := hrel
    have I1 := Lib.hid h1
    have I2 := Lib.hid h2
    clear h1 h2
    by_cases hlt : lo < hi
    · obtain ⟨b, off, rfl, hc⟩ := H.out.spot (by omega)
      have cm := hc ((lo + hi) / 2) (by omega)
      rw [getD_at (by omega : (lo + hi) / 2 < l.length)] at cm
      clear hc
      generalize hy : l.getD ((lo + hi) / 2) 0 = y at cm
      have Y := Lib.hid hy
      clear hy
      by_cases hyx : y < x
      · have HX := Lib.hid hyx
        clear hyx
        go_wp2_with (first | (go_at_call 70; refine (less_yes _ _ _ HX.out).mono ?_; rintro e w' ⟨rfl, rfl⟩) | (go_at_call 71; refine (nan2_walk _ _).mono ?_; rintro e w' ⟨rfl, rfl⟩))
        go_roundg (hi - ((lo + hi) / 2 + 1))
        case measure => omega
        case rel =>
          refine ⟨(lo + hi) / 2 + 1, hi, _, by rw [show ((lo : Int) + (hi : Int)) / 2 + 1 = (((lo + hi) / 2 + 1 : Nat) : Int) by omega], rfl, by omega, hin, Nat.le_refl _, rfl, fun t ht => ?_, I2.out⟩
          have := S.out t ((lo + hi) / 2) (by omega) (by omega)
          rw [Y.out] at this
          exact u32_le_lt this HX.out
      · have HX := Lib.hid hyx
        clear hyx
        go_wp2_with (first | (go_at_call 70; refine (less_no _ _ _ HX.out).mono ?_; rintro e w' ⟨rfl, rfl⟩) | (go_at_call 71; refine (nan2_walk _ _).mono ?_; rintro e w' ⟨rfl, rfl⟩))
        go_roundg ((lo + hi) / 2 - lo)
        case measure => omega
        case rel =>
          refine ⟨lo, (lo + hi) / 2, _, rfl, by rw [show ((lo : Int) + (hi : Int)) / 2 = (((lo + hi) / 2 : Nat) : Int) by omega], by omega, by omega, Nat.le_refl _, rfl, I1.out, fun t ht htn => ?_⟩
          have := S.out ((lo + hi) / 2) t ht htn
          rw [Y.out] at this
          exact UInt32.le_trans (u32_le_of_not HX.out) this
    · have : hi = lo := by omega
      subst this
      have E1 := Lib.hid (ct_at l x hi hin I1.out I2.out)
      have E2 := Lib.hid (found_at l x hi I1.out I2.out S.out)
      by_cases hn2 : hi < l.length
      · obtain ⟨b, off, rfl, hc⟩ := H.out.spot (by omega)
        have cl := hc hi hn2
        rw [getD_at hn2] at cl
        clear hc
        generalize hy : l.getD hi 0 = y at cl
        have Y := Lib.hid hy
        clear hy
        by_cases hyx : y = x
        · have HX := Lib.hid hyx
          have e := eqT (x := y) (y := x) (by rw [hyx]; simp)
          clear hyx
          go_wp2_with (go_at_call 71; refine (nan2_walk _ _).mono ?_; rintro e w' ⟨rfl, rfl⟩)
          go_ret2
          refine ⟨?_, ⟨rfl, rfl, rfl, Nat.le_refl _, fun _ _ => rfl⟩⟩
          rw [E1.out, E2.out, Y.out, decide_eq_true (show hi < l.length ∧ y = x from ⟨hn2, HX.out⟩)]
          rfl
        · have HX := Lib.hid hyx
          have e := eqF (x := y) (y := x) (by simpa using hyx)
          clear hyx
          go_wp2_with (go_at_call 71; refine (nan2_walk _ _).mono ?_; rintro e w' ⟨rfl, rfl⟩)
          go_ret2
          refine ⟨?_, ⟨rfl, rfl, rfl, Nat.le_refl _, fun _ _ => rfl⟩⟩
          rw [E1.out, E2.out, Y.out, decide_eq_false (show ¬ (hi < l.length ∧ y = x) from fun h => HX.out h.2)]
          rfl
      · go_wp2_with (go_at_call 71; refine (nan2_walk _ _).mono ?_; rintro e w' ⟨rfl, rfl⟩)
        go_ret2
        refine ⟨?_, ⟨rfl, rfl, rfl, Nat.le_refl _, fun _ _ => rfl⟩⟩
        rw [E1.out, E2.out, decide_eq_false (show ¬ (hi < l.length ∧ l.getD hi 0 = x) from fun h => hn2 h.1)]
        rfl
end Go.Proofs.Ytcinbmekjlmdpaa

/-! Graphs in memory; whether a graph may be: pure. -/
namespace Go.Proofs.Ytcinbmekjlmdpaa
open Go.RowKit

/-- An edge. -/
structure Eg where
  id : UInt32
  a : UInt32
  b : UInt32
def Eg.cells (x : Eg) : Array Value := #[V x.id, V x.a, V x.b]
def e0 : Eg := ⟨0, 0, 0⟩
/-- What a row of edges reads. -/
structure RdE (w : World) (A : Option Addr) (l : List Eg) : Prop where
  len : l.length ≤ 1000000
  place : 0 < l.length → ∃ b o, A = some ⟨b, o, none⟩ ∧ b < w.heap.size ∧ ∀ i, i < l.length → w.cell? ⟨b, o + i * 3, none⟩ = some (V (l.getD i e0).id) ∧ w.cell? ⟨b, o + i * 3 + 1, none⟩ = some (V (l.getD i e0).a) ∧ w.cell? ⟨b, o + i * 3 + 2, none⟩ = some (V (l.getD i e0).b)
theorem RdE.kept {w w' : World} {A : Option Addr} {B : Nat} {l : List Eg} (h : RdE w A l) (hb : Below B w w') (hB : w.heap.size ≤ B) : RdE w' A l :=
  ⟨h.len, fun hn => by
    obtain ⟨b, o, ha, hlt, hc⟩ := h.place hn
    refine ⟨b, o, ha, Nat.lt_of_lt_of_le hlt hb.size, fun i hi => ?_⟩
    obtain ⟨h1, h2, h3⟩ := hc i hi
    exact ⟨(hb.cell (Nat.lt_of_lt_of_le hlt hB)).trans h1, (hb.cell (Nat.lt_of_lt_of_le hlt hB)).trans h2, (hb.cell (Nat.lt_of_lt_of_le hlt hB)).trans h3⟩⟩
theorem RdE.nil (w : World) (A : Option Addr) : RdE w A [] := ⟨by simp, fun h => absurd h (by simp)⟩
theorem RdE.spot {w : World} {A : Option Addr} {l : List Eg} (h : RdE w A l) (h0 : 0 < l.length) : ∃ b o, A = some ⟨b, o, none⟩ ∧ ∀ i, i < l.length → w.cell? ⟨b, o + i * 3, none⟩ = some (V (l.getD i e0).id) ∧ w.cell? ⟨b, o + i * 3 + 1, none⟩ = some (V (l.getD i e0).a) ∧ w.cell? ⟨b, o + i * 3 + 2, none⟩ = some (V (l.getD i e0).b) := by
  obtain ⟨b, o, h1, _, h3⟩ := h.place h0
  exact ⟨b, o, h1, h3⟩
/-- A graph. -/
structure Gr where
  vs : List UInt32
  es : List Eg
/-- A value that reads as a graph. -/
def RG (w : World) (v : Value) (g : Gr) : Prop := ∃ A c B d, v = .agg #[.slice A g.vs.length c, .slice B g.es.length d] ∧ g.vs.length ≤ c ∧ g.es.length ≤ d ∧ Rd w A g.vs ∧ RdE w B g.es
theorem RG.kept {w w' : World} {v : Value} {g : Gr} (h : RG w v g) (hb : Below w.heap.size w w') : RG w' v g := by
  obtain ⟨A, c, B, d, h1, h2, h3, h4, h5⟩ := h
  exact ⟨A, c, B, d, h1, h2, h3, h4.kept hb (Nat.le_refl _), h5.kept hb (Nat.le_refl _)⟩

/-! Whether it may be. -/
/-- What is wrong with a number behind another one. -/
def cn (x a : UInt32) : Int := if x < 1 ∨ (1048576 : UInt32) < x then 2 else if x ≤ a then 19 else 0
theorem cn_cases (x a : UInt32) : (x < 1 ∧ cn x a = 2) ∨ (¬ x < 1 ∧ (1048576 : UInt32) < x ∧ cn x a = 2) ∨ (¬ x < 1 ∧ ¬ (1048576 : UInt32) < x ∧ x ≤ a ∧ cn x a = 19) ∨ (¬ x < 1 ∧ ¬ (1048576 : UInt32) < x ∧ ¬ x ≤ a ∧ cn x a = 0) := by
  unfold cn
  by_cases h1 : x < 1
  · left; simp [h1]
  · by_cases h2 : (1048576 : UInt32) < x
    · right; left; simp [h1, h2]
    · by_cases h3 : x ≤ a
      · right; right; left
        exact ⟨h1, h2, h3, by rw [if_neg (fun h => h.elim h1 h2), if_pos h3]⟩
      · right; right; right
        exact ⟨h1, h2, h3, by rw [if_neg (fun h => h.elim h1 h2), if_neg h3]⟩
/-- What is wrong with an edge's ends. -/
def en (vs : List UInt32) (x : Eg) : Int := if x.a = x.b then 20 else if x.a ∈ vs ∧ x.b ∈ vs then 0 else 21
def cv : List UInt32 → UInt32 → Int
  | [], _ => 0
  | v :: r, a => if cn v a = 0 then cv r v else cn v a
def ce (vs : List UInt32) : List Eg → UInt32 → Int
  | [], _ => 0
  | x :: r, a => if cn x.id a = 0 then (if en vs x = 0 then ce vs r x.id else en vs x) else cn x.id a
def chk (g : Gr) : Int := if 64 < g.vs.length ∨ 160 < g.es.length then 6 else if cv g.vs 0 = 0 then ce g.vs g.es 0 else cv g.vs 0
/-- The one ahead of place k. -/
def pre (vs : List UInt32) (k : Nat) : UInt32 := if k = 0 then 0 else vs.getD (k - 1) 0
theorem pre_zero (vs : List UInt32) : pre vs 0 = 0 := rfl
theorem pre_succ (vs : List UInt32) (k : Nat) : pre vs (k + 1) = vs.getD k 0 := rfl
theorem drop_at {l : List UInt32} {k : Nat} (h : k < l.length) : l.drop k = l.getD k 0 :: l.drop (k + 1) := by
  rw [List.drop_eq_getElem_cons h, getD_at h]
theorem getE_at {l : List Eg} {i : Nat} (h : i < l.length) : l[i] = l.getD i e0 := by rw [List.getD_eq_getElem?_getD, List.getElem?_eq_getElem h, Option.getD_some]
theorem dropE_at {l : List Eg} {k : Nat} (h : k < l.length) : l.drop k = l.getD k e0 :: l.drop (k + 1) := by
  rw [List.drop_eq_getElem_cons h, getE_at h]
theorem getE_mem {l : List Eg} {i : Nat} (h : i < l.length) : l.getD i e0 ∈ l := by
  rw [← getE_at h]; exact List.getElem_mem h
theorem cv_go {l : List UInt32} {k : Nat} (h : k < l.length) (c : cn (l.getD k 0) (pre l k) = 0) : cv (l.drop k) (pre l k) = cv (l.drop (k + 1)) (pre l (k + 1)) := by
  rw [drop_at h, cv, if_pos c]; rfl
theorem cv_stop {l : List UInt32} {k : Nat} (h : k < l.length) (c : ¬ cn (l.getD k 0) (pre l k) = 0) : cv (l.drop k) (pre l k) = cn (l.getD k 0) (pre l k) := by
  rw [drop_at h, cv, if_neg c]
def preE (es : List Eg) (k : Nat) : UInt32 := if k = 0 then 0 else (es.getD (k - 1) e0).id
theorem preE_zero (es : List Eg) : preE es 0 = 0 := rfl
theorem preE_succ (es : List Eg) (k : Nat) : preE es (k + 1) = (es.getD k e0).id := rfl
theorem ce_go {vs : List UInt32} {l : List Eg} {k : Nat} (h : k < l.length) (c : cn (l.getD k e0).id (preE l k) = 0) (c2 : en vs (l.getD k e0) = 0) : ce vs (l.drop k) (preE l k) = ce vs (l.drop (k + 1)) (preE l (k + 1)) := by
  rw [dropE_at h, ce, if_pos c, if_pos c2]; rfl
theorem ce_stop {vs : List UInt32} {l : List Eg} {k : Nat} (h : k < l.length) (c : ¬ cn (l.getD k e0).id (preE l k) = 0) : ce vs (l.drop k) (preE l k) = cn (l.getD k e0).id (preE l k) := by
  rw [dropE_at h, ce, if_neg c]
theorem ce_stop2 {vs : List UInt32} {l : List Eg} {k : Nat} (h : k < l.length) (c : cn (l.getD k e0).id (preE l k) = 0) (c2 : ¬ en vs (l.getD k e0) = 0) : ce vs (l.drop k) (preE l k) = en vs (l.getD k e0) := by
  rw [dropE_at h, ce, if_pos c, if_neg c2]
theorem cn_zero {x a : UInt32} (h : cn x a = 0) : ¬ x < 1 ∧ ¬ (1048576 : UInt32) < x ∧ a < x := by
  rcases cn_cases x a with ⟨_, e⟩ | ⟨_, _, e⟩ | ⟨_, _, _, e⟩ | ⟨h1, h2, h3, _⟩
  · rw [e] at h; exact absurd h (by decide)
  · rw [e] at h; exact absurd h (by decide)
  · rw [e] at h; exact absurd h (by decide)
  · refine ⟨h1, h2, ?_⟩
    rw [UInt32.le_iff_toNat_le] at h3
    rw [UInt32.lt_iff_toNat_lt]
    omega
theorem cv_rises : ∀ (l : List UInt32) (a : UInt32), cv l a = 0 → (∀ x ∈ l, a < x ∧ ¬ x < 1 ∧ ¬ (1048576 : UInt32) < x) ∧ l.Pairwise (· < ·)
  | [], _, _ => ⟨by simp, List.Pairwise.nil⟩
  | v :: r, a, h => by
    have hc : cn v a = 0 := by
      by_cases c : cn v a = 0
      · exact c
      · rw [cv, if_neg c] at h; exact h
    rw [cv, if_pos hc] at h
    obtain ⟨h1, h2⟩ := cv_rises r v h
    obtain ⟨c1, c2, c3⟩ := cn_zero hc
    refine ⟨fun x hx => ?_, List.Pairwise.cons (fun x hx => (h1 x hx).1) h2⟩
    rcases List.mem_cons.1 hx with rfl | hx
    · exact ⟨c3, c1, c2⟩
    · exact ⟨u32_lt_le c3 (by have := (h1 x hx).1; rw [UInt32.lt_iff_toNat_lt] at this; rw [UInt32.le_iff_toNat_le]; omega), (h1 x hx).2⟩
theorem ce_rises (vs : List UInt32) : ∀ (l : List Eg) (a : UInt32), ce vs l a = 0 → (∀ x ∈ l, a < x.id ∧ ¬ x.id < 1 ∧ ¬ (1048576 : UInt32) < x.id ∧ ¬ x.a = x.b ∧ x.a ∈ vs ∧ x.b ∈ vs) ∧ l.Pairwise (fun x y => x.id < y.id)
  | [], _, _ => ⟨by simp, List.Pairwise.nil⟩
  | v :: r, a, h => by
    have hc : cn v.id a = 0 := by
      by_cases c : cn v.id a = 0
      · exact c
      · rw [ce, if_neg c] at h; exact h
    rw [ce, if_pos hc] at h
    have he : en vs v = 0 := by
      by_cases c : en vs v = 0
      · exact c
      · rw [if_neg c] at h; exact h
    rw [if_pos he] at h
    obtain ⟨h1, h2⟩ := ce_rises vs r v.id h
    obtain ⟨c1, c2, c3⟩ := cn_zero hc
    have hen : ¬ v.a = v.b ∧ v.a ∈ vs ∧ v.b ∈ vs := by
      unfold en at he
      by_cases q : v.a = v.b
      · rw [if_pos q] at he; exact absurd he (by decide)
      · rw [if_neg q] at he
        by_cases q2 : v.a ∈ vs ∧ v.b ∈ vs
        · exact ⟨q, q2⟩
        · rw [if_neg q2] at he; exact absurd he (by decide)
    refine ⟨fun x hx => ?_, List.Pairwise.cons (fun x hx => (h1 x hx).1) h2⟩
    rcases List.mem_cons.1 hx with rfl | hx
    · exact ⟨c3, c1, c2, hen⟩
    · exact ⟨u32_lt_le c3 (by have := (h1 x hx).1; rw [UInt32.lt_iff_toNat_lt] at this; rw [UInt32.le_iff_toNat_le]; omega), (h1 x hx).2⟩
/-- What a graph that may be has. -/
structure May (g : Gr) : Prop where
  nv : g.vs.length ≤ 64
  ne : g.es.length ≤ 160
  vr : ∀ x ∈ g.vs, ¬ x < 1 ∧ ¬ (1048576 : UInt32) < x
  vup : g.vs.Pairwise (· < ·)
  er : ∀ x ∈ g.es, ¬ x.id < 1 ∧ ¬ (1048576 : UInt32) < x.id ∧ ¬ x.a = x.b ∧ x.a ∈ g.vs ∧ x.b ∈ g.vs
  eup : g.es.Pairwise (fun x y => x.id < y.id)
theorem May.of {g : Gr} (h : chk g = 0) : May g := by
  unfold chk at h
  by_cases c : 64 < g.vs.length ∨ 160 < g.es.length
  · rw [if_pos c] at h; exact absurd h (by decide)
  · rw [if_neg c] at h
    have hv : cv g.vs 0 = 0 := by
      by_cases q : cv g.vs 0 = 0
      · exact q
      · rw [if_neg q] at h; exact h
    rw [if_pos hv] at h
    obtain ⟨a1, a2⟩ := cv_rises _ _ hv
    obtain ⟨b1, b2⟩ := ce_rises _ _ _ h
    exact ⟨by omega, by omega, fun x hx => (a1 x hx).2, a2, fun x hx => (b1 x hx).2, b2⟩
theorem up2_of {l : List UInt32} (h : l.Pairwise (· < ·)) : Up2 l := by
  intro a b hab hb
  rcases Nat.eq_or_lt_of_le hab with rfl | hlt
  · exact UInt32.le_refl _
  · have := List.pairwise_iff_getElem.1 h a b (by omega) hb hlt
    rw [← getD_at (by omega : a < l.length), ← getD_at hb]
    rw [UInt32.lt_iff_toNat_lt] at this; rw [UInt32.le_iff_toNat_le]; omega
/-- In a row that rises strictly the place is how many are less. -/
theorem ct_fst {l : List UInt32} (h : l.Pairwise (· < ·)) {x : UInt32} (hx : x ∈ l) : ct l x = fst l x := by
  have hlt := fst_lt hx
  have he : l.getD (fst l x) 0 = x := by
    have := fst_yes l x hlt
    rw [← getD_at hlt]
    exact (beq_iff_eq.1 this).symm
  refine ct_at l x _ (Nat.le_of_lt hlt) (fun t ht => ?_) (fun t ht hl => ?_)
  · have := List.pairwise_iff_getElem.1 h t (fst l x) (by omega) hlt ht
    rw [← getD_at (by omega : t < l.length)]
    rw [getD_at hlt, he] at this
    exact this
  · have := up2_of h (fst l x) t ht hl
    rwa [he] at this
theorem ix_mem {l : List UInt32} {x : UInt32} (h : x ∈ l) : ix l x = (fst l x : Int) := ix_lt (fst_lt h)
theorem ix_not {l : List UInt32} {x : UInt32} (h : ¬ x ∈ l) : ix l x = -1 := ix_ge fun hl => h (by
  have := fst_yes l x hl
  rw [beq_iff_eq] at this
  rw [this]; exact List.getElem_mem hl)
end Go.Proofs.Ytcinbmekjlmdpaa
