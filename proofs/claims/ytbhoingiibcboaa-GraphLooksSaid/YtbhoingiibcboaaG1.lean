/- Graphs in memory; whether a graph may be: pure. -/
import Derived.Test.YtbhoingiibcboaaG0
namespace Go.Proofs.Ytbhoingiibcboaa
open Go.RowKit

/-- An edge. -/
structure Eg where
  id : UInt32
  a : UInt32
  b : UInt32
def Eg.cells (x : Eg) : Array Value := #[V x.id, V x.a, V x.b]
def e0 : Eg := ⟨0, 0, 0⟩
/-- What a row of edges reads. -/
structure RdE (w : World) (A : Option Addr) (l : List Eg) : Prop where
  len : l.length ≤ 1000000
  place : 0 < l.length → ∃ b o, A = some ⟨b, o, none⟩ ∧ b < w.heap.size ∧ ∀ i, i < l.length → w.cell? ⟨b, o + i * 3, none⟩ = some (V (l.getD i e0).id) ∧ w.cell? ⟨b, o + i * 3 + 1, none⟩ = some (V (l.getD i e0).a) ∧ w.cell? ⟨b, o + i * 3 + 2, none⟩ = some (V (l.getD i e0).b)
theorem RdE.kept {w w' : World} {A : Option Addr} {B : Nat} {l : List Eg} (h : RdE w A l) (hb : Below B w w') (hB : w.heap.size ≤ B) : RdE w' A l :=
  ⟨h.len, fun hn => by
    obtain ⟨b, o, ha, hlt, hc⟩ := h.place hn
    refine ⟨b, o, ha, Nat.lt_of_lt_of_le hlt hb.size, fun i hi => ?_⟩
    obtain ⟨h1, h2, h3⟩ := hc i hi
    exact ⟨(hb.cell (Nat.lt_of_lt_of_le hlt hB)).trans h1, (hb.cell (Nat.lt_of_lt_of_le hlt hB)).trans h2, (hb.cell (Nat.lt_of_lt_of_le hlt hB)).trans h3⟩⟩
theorem RdE.nil (w : World) (A : Option Addr) : RdE w A [] := ⟨by simp, fun h => absurd h (by simp)⟩
theorem RdE.spot {w : World} {A : Option Addr} {l : List Eg} (h : RdE w A l) (h0 : 0 < l.length) : ∃ b o, A = some ⟨b, o, none⟩ ∧ ∀ i, i < l.length → w.cell? ⟨b, o + i * 3, none⟩ = some (V (l.getD i e0).id) ∧ w.cell? ⟨b, o + i * 3 + 1, none⟩ = some (V (l.getD i e0).a) ∧ w.cell? ⟨b, o + i * 3 + 2, none⟩ = some (V (l.getD i e0).b) := by
  obtain ⟨b, o, h1, _, h3⟩ := h.place h0
  exact ⟨b, o, h1, h3⟩
/-- A graph. -/
structure Gr where
  vs : List UInt32
  es : List Eg
/-- A value that reads as a graph. -/
def RG (w : World) (v : Value) (g : Gr) : Prop := ∃ A c B d, v = .agg #[.slice A g.vs.length c, .slice B g.es.length d] ∧ g.vs.length ≤ c ∧ g.es.length ≤ d ∧ Rd w A g.vs ∧ RdE w B g.es
theorem RG.kept {w w' : World} {v : Value} {g : Gr} (h : RG w v g) (hb : Below w.heap.size w w') : RG w' v g := by
  obtain ⟨A, c, B, d, h1, h2, h3, h4, h5⟩ := h
  exact ⟨A, c, B, d, h1, h2, h3, h4.kept hb (Nat.le_refl _), h5.kept hb (Nat.le_refl _)⟩

/-! Whether it may be. -/
/-- What is wrong with a number behind another one. -/
def cn (x a : UInt32) : Int := if x < 1 ∨ (1048576 : UInt32) < x then 2 else if x ≤ a then 19 else 0
theorem cn_cases (x a : UInt32) : (x < 1 ∧ cn x a = 2) ∨ (¬ x < 1 ∧ (1048576 : UInt32) < x ∧ cn x a = 2) ∨ (¬ x < 1 ∧ ¬ (1048576 : UInt32) < x ∧ x ≤ a ∧ cn x a = 19) ∨ (¬ x < 1 ∧ ¬ (1048576 : UInt32) < x ∧ ¬ x ≤ a ∧ cn x a = 0) := by
  unfold cn
  by_cases h1 : x < 1
  · left; simp [h1]
  · by_cases h2 : (1048576 : UInt32) < x
    · right; left; simp [h1, h2]
    · by_cases h3 : x ≤ a
      · right; right; left
        exact ⟨h1, h2, h3, by rw [if_neg (fun h => h.elim h1 h2), if_pos h3]⟩
      · right; right; right
        exact ⟨h1, h2, h3, by rw [if_neg (fun h => h.elim h1 h2), if_neg h3]⟩
/-- What is wrong with an edge's ends. -/
def en (vs : List UInt32) (x : Eg) : Int := if x.a = x.b then 20 else if x.a ∈ vs ∧ x.b ∈ vs then 0 else 21
def cv : List UInt32 → UInt32 → Int
  | [], _ => 0
  | v :: r, a => if cn v a = 0 then cv r v else cn v a
def ce (vs : List UInt32) : List Eg → UInt32 → Int
  | [], _ => 0
  | x :: r, a => if cn x.id a = 0 then (if en vs x = 0 then ce vs r x.id else en vs x) else cn x.id a
def chk (g : Gr) : Int := if 64 < g.vs.length ∨ 160 < g.es.length then 6 else if cv g.vs 0 = 0 then ce g.vs g.es 0 else cv g.vs 0
/-- The one ahead of place k. -/
def pre (vs : List UInt32) (k : Nat) : UInt32 := if k = 0 then 0 else vs.getD (k - 1) 0
theorem pre_zero (vs : List UInt32) : pre vs 0 = 0 := rfl
theorem pre_succ (vs : List UInt32) (k : Nat) : pre vs (k + 1) = vs.getD k 0 := rfl
theorem drop_at {l : List UInt32} {k : Nat} (h : k < l.length) : l.drop k = l.getD k 0 :: l.drop (k + 1) := by
  rw [List.drop_eq_getElem_cons h, getD_at h]
theorem getE_at {l : List Eg} {i : Nat} (h : i < l.length) : l[i] = l.getD i e0 := by rw [List.getD_eq_getElem?_getD, List.getElem?_eq_getElem h, Option.getD_some]
theorem dropE_at {l : List Eg} {k : Nat} (h : k < l.length) : l.drop k = l.getD k e0 :: l.drop (k + 1) := by
  rw [List.drop_eq_getElem_cons h, getE_at h]
theorem getE_mem {l : List Eg} {i : Nat} (h : i < l.length) : l.getD i e0 ∈ l := by
  rw [← getE_at h]; exact List.getElem_mem h
theorem cv_go {l : List UInt32} {k : Nat} (h : k < l.length) (c : cn (l.getD k 0) (pre l k) = 0) : cv (l.drop k) (pre l k) = cv (l.drop (k + 1)) (pre l (k + 1)) := by
  rw [drop_at h, cv, if_pos c]; rfl
theorem cv_stop {l : List UInt32} {k : Nat} (h : k < l.length) (c : ¬ cn (l.getD k 0) (pre l k) = 0) : cv (l.drop k) (pre l k) = cn (l.getD k 0) (pre l k) := by
  rw [drop_at h, cv, if_neg c]
def preE (es : List Eg) (k : Nat) : UInt32 := if k = 0 then 0 else (es.getD (k - 1) e0).id
theorem preE_zero (es : List Eg) : preE es 0 = 0 := rfl
theorem preE_succ (es : List Eg) (k : Nat) : preE es (k + 1) = (es.getD k e0).id := rfl
theorem ce_go {vs : List UInt32} {l : List Eg} {k : Nat} (h : k < l.length) (c : cn (l.getD k e0).id (preE l k) = 0) (c2 : en vs (l.getD k e0) = 0) : ce vs (l.drop k) (preE l k) = ce vs (l.drop (k + 1)) (preE l (k + 1)) := by
  rw [dropE_at h, ce, if_pos c, if_pos c2]; rfl
theorem ce_stop {vs : List UInt32} {l : List Eg} {k : Nat} (h : k < l.length) (c : ¬ cn (l.getD k e0).id (preE l k) = 0) : ce vs (l.drop k) (preE l k) = cn (l.getD k e0).id (preE l k) := by
  rw [dropE_at h, ce, if_neg c]
theorem ce_stop2 {vs : List UInt32} {l : List Eg} {k : Nat} (h : k < l.length) (c : cn (l.getD k e0).id (preE l k) = 0) (c2 : ¬ en vs (l.getD k e0) = 0) : ce vs (l.drop k) (preE l k) = en vs (l.getD k e0) := by
  rw [dropE_at h, ce, if_pos c, if_neg c2]
theorem cn_zero {x a : UInt32} (h : cn x a = 0) : ¬ x < 1 ∧ ¬ (1048576 : UInt32) < x ∧ a < x := by
  rcases cn_cases x a with ⟨_, e⟩ | ⟨_, _, e⟩ | ⟨_, _, _, e⟩ | ⟨h1, h2, h3, _⟩
  · rw [e] at h; exact absurd h (by decide)
  · rw [e] at h; exact absurd h (by decide)
  · rw [e] at h; exact absurd h (by decide)
  · refine ⟨h1, h2, ?_⟩
    rw [UInt32.le_iff_toNat_le] at h3
    rw [UInt32.lt_iff_toNat_lt]
    omega
theorem cv_rises : ∀ (l : List UInt32) (a : UInt32), cv l a = 0 → (∀ x ∈ l, a < x ∧ ¬ x < 1 ∧ ¬ (1048576 : UInt32) < x) ∧ l.Pairwise (· < ·)
  | [], _, _ => ⟨by simp, List.Pairwise.nil⟩
  | v :: r, a, h => by
    have hc : cn v a = 0 := by
      by_cases c : cn v a = 0
      · exact c
      · rw [cv, if_neg c] at h; exact h
    rw [cv, if_pos hc] at h
    obtain ⟨h1, h2⟩ := cv_rises r v h
    obtain ⟨c1, c2, c3⟩ := cn_zero hc
    refine ⟨fun x hx => ?_, List.Pairwise.cons (fun x hx => (h1 x hx).1) h2⟩
    rcases List.mem_cons.1 hx with rfl | hx
    · exact ⟨c3, c1, c2⟩
    · exact ⟨u32_lt_le c3 (by have := (h1 x hx).1; rw [UInt32.lt_iff_toNat_lt] at this; rw [UInt32.le_iff_toNat_le]; omega), (h1 x hx).2⟩
theorem ce_rises (vs : List UInt32) : ∀ (l : List Eg) (a : UInt32), ce vs l a = 0 → (∀ x ∈ l, a < x.id ∧ ¬ x.id < 1 ∧ ¬ (1048576 : UInt32) < x.id ∧ ¬ x.a = x.b ∧ x.a ∈ vs ∧ x.b ∈ vs) ∧ l.Pairwise (fun x y => x.id < y.id)
  | [], _, _ => ⟨by simp, List.Pairwise.nil⟩
  | v :: r, a, h => by
    have hc : cn v.id a = 0 := by
      by_cases c : cn v.id a = 0
      · exact c
      · rw [ce, if_neg c] at h; exact h
    rw [ce, if_pos hc] at h
    have he : en vs v = 0 := by
      by_cases c : en vs v = 0
      · exact c
      · rw [if_neg c] at h; exact h
    rw [if_pos he] at h
    obtain ⟨h1, h2⟩ := ce_rises vs r v.id h
    obtain ⟨c1, c2, c3⟩ := cn_zero hc
    have hen : ¬ v.a = v.b ∧ v.a ∈ vs ∧ v.b ∈ vs := by
      unfold en at he
      by_cases q : v.a = v.b
      · rw [if_pos q] at he; exact absurd he (by decide)
      · rw [if_neg q] at he
        by_cases q2 : v.a ∈ vs ∧ v.b ∈ vs
        · exact ⟨q, q2⟩
        · rw [if_neg q2] at he; exact absurd he (by decide)
    refine ⟨fun x hx => ?_, List.Pairwise.cons (fun x hx => (h1 x hx).1) h2⟩
    rcases List.mem_cons.1 hx with rfl | hx
    · exact ⟨c3, c1, c2, hen⟩
    · exact ⟨u32_lt_le c3 (by have := (h1 x hx).1; rw [UInt32.lt_iff_toNat_lt] at this; rw [UInt32.le_iff_toNat_le]; omega), (h1 x hx).2⟩
/-- What a graph that may be has. -/
structure May (g : Gr) : Prop where
  nv : g.vs.length ≤ 64
  ne : g.es.length ≤ 160
  vr : ∀ x ∈ g.vs, ¬ x < 1 ∧ ¬ (1048576 : UInt32) < x
  vup : g.vs.Pairwise (· < ·)
  er : ∀ x ∈ g.es, ¬ x.id < 1 ∧ ¬ (1048576 : UInt32) < x.id ∧ ¬ x.a = x.b ∧ x.a ∈ g.vs ∧ x.b ∈ g.vs
  eup : g.es.Pairwise (fun x y => x.id < y.id)
theorem May.of {g : Gr} (h : chk g = 0) : May g := by
  unfold chk at h
  by_cases c : 64 < g.vs.length ∨ 160 < g.es.length
  · rw [if_pos c] at h; exact absurd h (by decide)
  · rw [if_neg c] at h
    have hv : cv g.vs 0 = 0 := by
      by_cases q : cv g.vs 0 = 0
      · exact q
      · rw [if_neg q] at h; exact h
    rw [if_pos hv] at h
    obtain ⟨a1, a2⟩ := cv_rises _ _ hv
    obtain ⟨b1, b2⟩ := ce_rises _ _ _ h
    exact ⟨by omega, by omega, fun x hx => (a1 x hx).2, a2, fun x hx => (b1 x hx).2, b2⟩
theorem up2_of {l : List UInt32} (h : l.Pairwise (· < ·)) : Up2 l := by
  intro a b hab hb
  rcases Nat.eq_or_lt_of_le hab with rfl | hlt
  · exact UInt32.le_refl _
  · have := List.pairwise_iff_getElem.1 h a b (by omega) hb hlt
    rw [← getD_at (by omega : a < l.length), ← getD_at hb]
    rw [UInt32.lt_iff_toNat_lt] at this; rw [UInt32.le_iff_toNat_le]; omega
/-- In a row that rises strictly the place is how many are less. -/
theorem ct_fst {l : List UInt32} (h : l.Pairwise (· < ·)) {x : UInt32} (hx : x ∈ l) : ct l x = fst l x := by
  have hlt := fst_lt hx
  have he : l.getD (fst l x) 0 = x := by
    have := fst_yes l x hlt
    rw [← getD_at hlt]
    exact (beq_iff_eq.1 this).symm
  refine ct_at l x _ (Nat.le_of_lt hlt) (fun t ht => ?_) (fun t ht hl => ?_)
  · have := List.pairwise_iff_getElem.1 h t (fst l x) (by omega) hlt ht
    rw [← getD_at (by omega : t < l.length)]
    rw [getD_at hlt, he] at this
    exact this
  · have := up2_of h (fst l x) t ht hl
    rwa [he] at this
theorem ix_mem {l : List UInt32} {x : UInt32} (h : x ∈ l) : ix l x = (fst l x : Int) := ix_lt (fst_lt h)
theorem ix_not {l : List UInt32} {x : UInt32} (h : ¬ x ∈ l) : ix l x = -1 := ix_ge fun hl => h (by
  have := fst_yes l x hl
  rw [beq_iff_eq] at this
  rw [this]; exact List.getElem_mem hl)
end Go.Proofs.Ytbhoingiibcboaa
