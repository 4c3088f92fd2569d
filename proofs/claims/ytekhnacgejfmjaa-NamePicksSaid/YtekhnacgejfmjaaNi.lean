/- Rows of texts of one's own, rows of digests and of truths that are read; what NamePicks reckons. -/
import Derived.Test.YtekhnacgejfmjaaNh
import Derived.Deep.MidRow
namespace Go.Proofs.Ytekhnacgejfmjaa
open Go.RowKit

def OwS (w : World) (base : Nat) (v : Value) (ps : List ByteArray) : Prop := w.ownsRow base 9 1 v ps.length (ps.map Value.string)
theorem OwS.nil (w : World) (base : Nat) : OwS w base (.slice none 0 0) [] := World.ownsRow_nil _ _ _ _
theorem OwS.kept {w w' : World} {base : Nat} {v : Value} {ps : List ByteArray} (h : OwS w base v ps) (hb : Below w.heap.size w w') : OwS w' base v ps := owns_lt h hb
/-- What grows leaves rows of another type. -/
theorem owns_other {w w' : World} {base base2 size size2 : Nat} {e e2 : TypeId} {v v2 : Value} {n n2 : Nat} {xs xs2 : List Value} (h : w.ownsRow base e size v n xs) (h2 : w.ownsRow base2 e2 size2 v2 n2 xs2) (hne : e ≠ e2) (hg : w.grownBy w' v2.ownBlock) : w'.ownsRow base e size v n xs := by
  obtain ⟨h1, h3⟩ := h
  refine ⟨h1, ?_⟩
  rcases h3 with h3 | ⟨g, cap, cur, h3, h4, h5, h6⟩
  · exact .inl h3
  · refine .inr ⟨g, cap, cur, h3, h4, ?_, h6⟩
    have hlt : g < w.heap.size := by
      rcases Nat.lt_or_ge g w.heap.size with h | h
      · exact h
      · rw [Array.getElem?_eq_none h] at h5; cases h5
    refine (hg.block g hlt (fun e => ?_)).trans h5
    rcases h2.2 with ⟨rfl, _⟩ | ⟨g2, cap2, cur2, rfl, _, h7, _⟩
    · cases e
    · have e' : g = g2 := by simpa [Value.ownBlock] using e
      subst e'
      rw [h5] at h7
      injection h7 with h7
      injection h7 with _ h8 _
      exact hne h8
theorem wpList_append_txt {w : World} {ops : Array Oper} {rest : List Oper} {o : Oper} {a : Act} {Q : Exit → Act → World → Prop} (hgd : o.guard = none) (s x : Operand)
    (ho : o.op = .call { callee := .builtin .append, args := #[s, x], argTypes := #[33, 33] }) (base : Nat) (v : Value) (ps qs : List ByteArray) (b m : Nat) (hm : qs.length = m) (hs : a.eval s = v) (hx : a.eval x = .slice (some ⟨b, 0, none⟩) m m)
    (hown : OwS w base v ps) (hbk : Blk w b 9 (qs.map Value.string).toArray) (hlen : ps.length + m ≤ 1000) (hb : base ≤ w.heap.size)
    (h : ∀ v' w', OwS w' base v' (ps ++ qs) → Below base w w' → w.grownBy w' v.ownBlock → wpList Try.prog ops Q rest (a.put o.dst v') w') : wpList Try.prog ops Q (o :: rest) a w := by
  obtain ⟨ie, hie, hs1, hz, hby⟩ : ∃ ie, Try.prog.info? 9 = some ie ∧ ie.size = 1 ∧ ie.zero = some (.string ByteArray.empty) ∧ ie.bytes = 16 := ⟨_, rfl, by kernel_rfl, by kernel_rfl, by kernel_rfl⟩
  refine wpList_append_own w hgd s x 33 ho base 9 ie (.string ByteArray.empty) 1 16 Try.underlying33 hie hz hs1 hby (by kernel_rfl) (by decide) v ps.length (ps.map Value.string) hs hown ⟨b, 0, none⟩ m m (qs.map Value.string) hx (by simp [hm]) ?_ ?_ (by unfold maxLen; omega) (by omega) hb ?_
  · intro j u hu
    rw [addr_add2, Nat.zero_add, hbk.cell]
    simpa using hu
  · intro u hu
    obtain ⟨x, _, rfl⟩ := List.mem_map.1 hu
    rfl
  · intro v' w' h1 h2 _
    refine h v' w' ?_ (grown_below' hown h2 hb) h2
    unfold OwS
    rw [List.length_append, List.map_append, hm]
    exact h1
theorem wpList_append_dig2 {w : World} {ops : Array Oper} {rest : List Oper} {o : Oper} {a : Act} {Q : Exit → Act → World → Prop} (hgd : o.guard = none) (s x : Operand)
    (ho : o.op = .call { callee := .builtin .append, args := #[s, x], argTypes := #[31, 31] }) (base : Nat) (v : Value) (ds : List (List UInt8)) (D : List UInt8) (b : Nat) (hD : D.length = 32) (hs : a.eval s = v) (hx : a.eval x = .slice (some ⟨b, 0, none⟩) 1 1)
    (hown : OwD w base v ds) (hbk : Blk w b 25 (D.map U).toArray) (hlen : ds.length ≤ 1000) (hb : base ≤ w.heap.size)
    (h : ∀ v' w', OwD w' base v' (ds ++ [D]) → Below base w w' → w.grownBy w' v.ownBlock → wpList Try.prog ops Q rest (a.put o.dst v') w') : wpList Try.prog ops Q (o :: rest) a w := by
  obtain ⟨ie, hie, hs1, hz, hby⟩ : ∃ ie, Try.prog.info? 25 = some ie ∧ ie.size = 32 ∧ ie.zero = some (.agg (Array.replicate 32 (.int .u8 0))) ∧ ie.bytes = 32 := ⟨_, rfl, by kernel_rfl, by kernel_rfl, by kernel_rfl⟩
  refine wpList_append_own w hgd s x 31 ho base 25 ie (.agg (Array.replicate 32 (.int .u8 0))) 32 32 Try.underlying31 hie hz hs1 hby (by kernel_rfl) (by decide) v ds.length (flatU ds) hs hown ⟨b, 0, none⟩ 1 1 (D.map U) hx (by simp [hD]) ?_ ?_ (by unfold maxLen; omega) (by omega) hb ?_
  · intro j u hu
    rw [addr_add2, Nat.zero_add, hbk.cell]
    simpa using hu
  · intro u hu
    obtain ⟨x, _, rfl⟩ := List.mem_map.1 hu
    rfl
  · intro v' w' h1 h2 _
    refine h v' w' ?_ (grown_below' hown h2 hb) h2
    unfold OwD
    rw [List.length_append, flatU_on]
    exact h1
theorem OwS.other {w w' : World} {base : Nat} {v v2 : Value} {ps : List ByteArray} {ds : List (List UInt8)} (h : OwS w base v ps) (h2 : OwD w base v2 ds) (hg : w.grownBy w' v2.ownBlock) : OwS w' base v ps := owns_other h h2 (by decide) hg
theorem OwD.other {w w' : World} {base : Nat} {v v2 : Value} {ps : List ByteArray} {ds : List (List UInt8)} (h : OwD w base v ds) (h2 : OwS w base v2 ps) (hg : w.grownBy w' v2.ownBlock) : OwD w' base v ds := owns_other h h2 (by decide) hg
theorem OwS.rd {w : World} {base : Nat} {v : Value} {ps : List ByteArray} (h : OwS w base v ps) (hl : ps.length ≤ 1000) : ∃ A c, v = .slice A ps.length c ∧ RdS w A ps := by
  rcases h.2 with ⟨rfl, h0⟩ | ⟨b, cap, cur, rfl, _, hgc, hcap, _, hsz, htake⟩
  · exact ⟨none, 0, by rw [h0], hl, fun h => absurd h0 h⟩
  · have hblk : Blk w b 9 cur := hgc
    refine ⟨_, cap, rfl, hl, fun h0 => ⟨b, 0, rfl, hblk.lt, fun i hi => ?_⟩⟩
    rw [Nat.zero_add, hblk.cell]
    have h1 : (cur.toList.take (ps.length * 1))[i]? = (ps.map Value.string)[i]? := by rw [htake]
    rw [List.getElem?_take_of_lt (by omega)] at h1
    simpa [hi] using h1
/-- A row of digests that is read. -/
def RdD (w : World) (A : Option Addr) (ds : List (List UInt8)) : Prop := (∀ D ∈ ds, D.length = 32) ∧ (ds.length ≠ 0 → ∃ b o, A = some ⟨b, o, none⟩ ∧ b < w.heap.size ∧ ∀ i (h : i < ds.length), w.rangeAt b (o + i * 32) (ds[i].map U))
theorem RdD.kept {w w' : World} {A : Option Addr} {ds : List (List UInt8)} (h : RdD w A ds) (hb : Below w.heap.size w w') : RdD w' A ds :=
  ⟨h.1, fun h0 => by
    obtain ⟨b, o, rfl, hlt, hc⟩ := h.2 h0
    exact ⟨b, o, rfl, Nat.lt_of_lt_of_le hlt hb.size, fun i hi j v hv => (cell_kept hb hlt).trans (hc i hi j v hv)⟩⟩
theorem flat_get : ∀ (ds : List (List UInt8)), (∀ D ∈ ds, D.length = 32) → ∀ i (h : i < ds.length) j, j < 32 → (flatU ds)[i * 32 + j]? = (ds[i].map U)[j]?
  | D :: r, hl, 0, h, j, hj => by
    have hD := hl D List.mem_cons_self
    simp only [flatU, List.flatten_cons, List.map_append, Nat.zero_mul, Nat.zero_add, List.getElem_cons_zero]
    rw [List.getElem?_append_left (by simp [hD, hj])]
  | D :: r, hl, i + 1, h, j, hj => by
    have hD := hl D List.mem_cons_self
    have ih := flat_get r (fun E hE => hl E (List.mem_cons_of_mem _ hE)) i (by simpa using h) j hj
    simp only [flatU, List.flatten_cons, List.map_append, List.getElem_cons_succ] at ih ⊢
    rw [List.getElem?_append_right (by simp [hD]; omega), ← ih]
    congr 1
    simp [hD]; omega
theorem OwD.rd {w : World} {base : Nat} {v : Value} {ds : List (List UInt8)} (h : OwD w base v ds) (hl : ∀ D ∈ ds, D.length = 32) : ∃ A c, v = .slice A ds.length c ∧ RdD w A ds := by
  rcases h.2 with ⟨rfl, h0⟩ | ⟨b, cap, cur, rfl, _, hgc, hcap, _, hsz, htake⟩
  · exact ⟨none, 0, by rw [h0], hl, fun h => absurd h0 h⟩
  · have hblk : Blk w b 25 cur := hgc
    refine ⟨_, cap, rfl, hl, fun h0 => ⟨b, 0, rfl, hblk.lt, fun i hi j v hv => ?_⟩⟩
    have hj : j < 32 := by
      have := (List.getElem?_eq_some_iff.1 hv).1
      rw [List.length_map, hl _ (List.getElem_mem hi)] at this
      exact this
    rw [hblk.cell]
    have h1 : (cur.toList.take (ds.length * 32))[0 + i * 32 + j]? = (flatU ds)[i * 32 + j]? := by rw [htake, Nat.zero_add]
    rw [flat_get ds hl i hi j hj, hv, List.getElem?_take_of_lt (by omega)] at h1
    simpa using h1
/-- A row of truths that is read. -/
def RdB (w : World) (A : Option Addr) (ks : List Bool) : Prop := ks.length ≠ 0 → ∃ b o, A = some ⟨b, o, none⟩ ∧ b < w.heap.size ∧ ∀ i (h : i < ks.length), w.cell? ⟨b, o + i, none⟩ = some (.bool ks[i])
theorem RdB.kept {w w' : World} {A : Option Addr} {ks : List Bool} (h : RdB w A ks) (hb : Below w.heap.size w w') : RdB w' A ks := fun h0 => by
    obtain ⟨b, o, rfl, hlt, hc⟩ := h h0
    exact ⟨b, o, rfl, Nat.lt_of_lt_of_le hlt hb.size, fun i hi => (cell_kept hb hlt).trans (hc i hi)⟩
def ox : ByteArray := ⟨#[111, 46, 120]⟩
def all1 (k : Bool) (D : List UInt8) : List ByteArray := if k then [bstr (nmT 112 D)] else [bstr (nmT 111 D), ox]
def want1 (k : Bool) (D : List UInt8) : List (List UInt8) := if k then [] else [D]
def allN (ds : List (List UInt8)) (ks : List Bool) : Nat → List ByteArray
  | 0 => []
  | j + 1 => allN ds ks j ++ all1 (ks.getD j false) (ds.getD j [])
def wantN (ds : List (List UInt8)) (ks : List Bool) : Nat → List (List UInt8)
  | 0 => []
  | j + 1 => wantN ds ks j ++ want1 (ks.getD j false) (ds.getD j [])
theorem bstr_data (l : List UInt8) : (bstr l).data.toList = l := by unfold bstr; simp
theorem pick1_o (k : UInt8) (D : List UInt8) (h : D.length = 32) : pick1 k (bstr (nmT 111 D)) = if k = 111 then [D] else [] := by
  unfold pick1; rw [bstr_data, resN_o D h]
  by_cases e : k = 111
  · subst e; simp
  · rw [if_neg e, if_neg]; simp; exact fun h => e h.symm
theorem pick1_p (k : UInt8) (D : List UInt8) (h : D.length = 32) : pick1 k (bstr (nmT 112 D)) = if k = 112 then [D] else [] := by
  unfold pick1; rw [bstr_data, resN_p D h]
  by_cases e : k = 112
  · subst e; simp
  · rw [if_neg e, if_neg]; simp; exact fun h => e h.symm
theorem pick1_x (k : UInt8) : pick1 k ox = [] := by
  have : resN ox.data.toList = (0, zero32, false) := by decide
  unfold pick1; rw [this]; simp
theorem pick_app (k : UInt8) (a b : List ByteArray) : pick k (a ++ b) = pick k a ++ pick k b := by simp [pick]
theorem pick_all1 (c : UInt8) (k : Bool) (D : List UInt8) (h : D.length = 32) : pick c (all1 k D) = if k then (if c = 112 then [D] else []) else (if c = 111 then [D] else []) := by
  cases k
  · simp [all1, pick, pick1_o c D h, pick1_x]
  · simp [all1, pick, pick1_p c D h]
theorem getD_len {ds : List (List UInt8)} (hl : ∀ D ∈ ds, D.length = 32) {j : Nat} (h : j < ds.length) : (ds.getD j []).length = 32 := by
  rw [List.getD_eq_getElem?_getD, List.getElem?_eq_getElem h]; exact hl _ (List.getElem_mem h)
theorem picks (ds : List (List UInt8)) (ks : List Bool) (hl : ∀ D ∈ ds, D.length = 32) : ∀ j, j ≤ ds.length → pick 111 (allN ds ks j) = wantN ds ks j ∧ pick 120 (allN ds ks j) = [] ∧ (pick 112 (allN ds ks j)).length + (wantN ds ks j).length = j ∧ (allN ds ks j).length ≤ 2 * j ∧ (∀ p ∈ allN ds ks j, p.size ≤ maxLen) ∧ (∀ D ∈ wantN ds ks j, D.length = 32) ∧ (wantN ds ks j).length ≤ j
  | 0, _ => ⟨rfl, rfl, rfl, Nat.le_refl _, (fun p hp => by cases hp), (fun p hp => by cases hp), Nat.le_refl _⟩
  | j + 1, h => by
    obtain ⟨h1, h2, h3, h4, h5, h6, h7⟩ := picks ds ks hl j (by omega)
    have hD := getD_len hl (show j < ds.length by omega)
    simp only [allN, wantN, pick_app, pick_all1 _ _ _ hD, h1, h2]
    generalize ds.getD j [] = D at *
    cases ks.getD j false
    · refine ⟨by simp [want1], by simp, by simp [want1]; omega, by simp [all1]; omega, fun p hp => ?_, fun E hE => ?_, by simp [want1]; omega⟩
      · rcases List.mem_append.1 hp with hp | hp
        · exact h5 p hp
        · simp only [all1, Bool.false_eq_true, if_false, List.mem_cons, List.not_mem_nil, or_false] at hp
          rcases hp with rfl | rfl
          · rw [bstr_size, nmT_length 111 D hD]; decide
          · decide
      · rcases List.mem_append.1 hE with hE | hE
        · exact h6 E hE
        · simp only [want1, Bool.false_eq_true, if_false, List.mem_cons, List.not_mem_nil, or_false] at hE
          rw [hE]; exact hD
    · refine ⟨by simp [want1], by simp, by simp [want1]; omega, by simp [all1]; omega, fun p hp => ?_, fun E hE => ?_, by simp [want1]; omega⟩
      · rcases List.mem_append.1 hp with hp | hp
        · exact h5 p hp
        · simp only [all1, if_true, List.mem_cons, List.not_mem_nil, or_false] at hp
          rw [hp, bstr_size, nmT_length 112 D hD]; decide
      · rcases List.mem_append.1 hE with hE | hE
        · exact h6 E hE
        · simp [want1] at hE
end Go.Proofs.Ytekhnacgejfmjaa
