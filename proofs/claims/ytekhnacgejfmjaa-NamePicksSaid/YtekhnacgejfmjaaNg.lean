/- Rows of digests and of texts; name.Pick. -/
import Derived.Test.YtekhnacgejfmjaaNe
import Derived.Great.BuildSlice
import Derived.Laws.AppendOwn
namespace Go.Proofs.Ytekhnacgejfmjaa
open Go.RowKit

theorem owns_lt {w : World} {base size : Nat} {e : TypeId} {v : Value} {n : Nat} {xs : List Value} (h : w.ownsRow base e size v n xs) {w' : World} (hb : Below w.heap.size w w') : w'.ownsRow base e size v n xs := by
  obtain ⟨h1, h2⟩ := h
  refine ⟨h1, ?_⟩
  rcases h2 with h2 | ⟨g, cap, cur, h3, h4, h5, h6⟩
  · exact .inl h2
  · refine .inr ⟨g, cap, cur, h3, h4, ?_, h6⟩
    have hg : g < w.heap.size := by
      rcases Nat.lt_or_ge g w.heap.size with h | h
      · exact h
      · rw [Array.getElem?_eq_none h] at h5; cases h5
    exact (hb.block g hg).trans h5
theorem addr_add2 (b o i : Nat) : (⟨b, o, none⟩ : Addr).add i = ⟨b, o + i, none⟩ := by unfold Addr.add; split <;> simp_all
def flatU (ds : List (List UInt8)) : List Value := ds.flatten.map U
theorem flatU_on (ds : List (List UInt8)) (D : List UInt8) : flatU (ds ++ [D]) = flatU ds ++ D.map U := by simp [flatU]
/-- A row of digests of one's own. -/
def OwD (w : World) (base : Nat) (v : Value) (ds : List (List UInt8)) : Prop := w.ownsRow base 25 32 v ds.length (flatU ds)
theorem OwD.nil (w : World) (base : Nat) : OwD w base (.slice none 0 0) [] := World.ownsRow_nil _ _ _ _
theorem OwD.kept {w w' : World} {base : Nat} {v : Value} {ds : List (List UInt8)} (h : OwD w base v ds) (hb : Below w.heap.size w w') : OwD w' base v ds := owns_lt h hb
theorem grown_below' {w w' : World} {base size : Nat} {e : TypeId} {v : Value} {n : Nat} {xs : List Value} (h : w.ownsRow base e size v n xs) (hg : w.grownBy w' v.ownBlock) (hb : base ≤ w.heap.size) : Below base w w' :=
  ⟨hg.os, hg.tape, hg.output, hg.size, fun k hk => hg.block k (by omega) (fun e => by have := (h.lt k e.symm).1; omega)⟩
theorem wpList_append_dig {w : World} {ops : Array Oper} {rest : List Oper} {o : Oper} {a : Act} {Q : Exit → Act → World → Prop} (hgd : o.guard = none) (s x : Operand)
    (ho : o.op = .call { callee := .builtin .append, args := #[s, x], argTypes := #[31, 31] }) (base : Nat) (v : Value) (ds : List (List UInt8)) (D : List UInt8) (b : Nat) (hD : D.length = 32) (hs : a.eval s = v) (hx : a.eval x = .slice (some ⟨b, 0, none⟩) 1 1)
    (hown : OwD w base v ds) (hbk : Blk w b 25 (D.map U).toArray) (hlen : ds.length ≤ 1000) (hb : base ≤ w.heap.size)
    (h : ∀ v' w', OwD w' base v' (ds ++ [D]) → Below base w w' → wpList Try.prog ops Q rest (a.put o.dst v') w') : wpList Try.prog ops Q (o :: rest) a w := by
  obtain ⟨ie, hie, hs1, hz, hby⟩ : ∃ ie, Try.prog.info? 25 = some ie ∧ ie.size = 32 ∧ ie.zero = some (.agg (Array.replicate 32 (.int .u8 0))) ∧ ie.bytes = 32 := ⟨_, rfl, by kernel_rfl, by kernel_rfl, by kernel_rfl⟩
  refine wpList_append_own w hgd s x 31 ho base 25 ie (.agg (Array.replicate 32 (.int .u8 0))) 32 32 Try.underlying31 hie hz hs1 hby (by kernel_rfl) (by decide) v ds.length (flatU ds) hs hown ⟨b, 0, none⟩ 1 1 (D.map U) hx (by simp [hD]) ?_ ?_ (by unfold maxLen; omega) (by omega) hb ?_
  · intro j u hu
    rw [addr_add2, Nat.zero_add, hbk.cell]
    simpa using hu
  · intro u hu
    obtain ⟨x, _, rfl⟩ := List.mem_map.1 hu
    rfl
  · intro v' w' h1 h2 _
    refine h v' w' ?_ (grown_below' hown h2 hb)
    unfold OwD
    rw [List.length_append, flatU_on]
    exact h1
theorem foldl_get : ∀ (l : List Value) (o : Nat) (c : Array Value) (i : Nat), ((l.zipIdx o).foldl (fun (cs : Array Value) (p : Value × Nat) => cs.setIfInBounds (0 + p.2) p.1) c)[i]? = if o ≤ i ∧ i < o + l.length ∧ i < c.size then l[i - o]? else c[i]?
  | [], o, c, i => by
    rw [if_neg (by simp; omega)]; rfl
  | v :: r, o, c, i => by
    rw [List.zipIdx_cons, List.foldl_cons, foldl_get r (o + 1) _ i]
    simp only [Array.size_setIfInBounds, Nat.zero_add, List.length_cons]
    by_cases h1 : o + 1 ≤ i ∧ i < o + 1 + r.length ∧ i < c.size
    · rw [if_pos h1, if_pos (by omega), show i - o = (i - (o + 1)) + 1 by omega, List.getElem?_cons_succ]
    · rw [if_neg h1]
      by_cases h2 : o = i
      · subst h2
        by_cases h3 : o < c.size
        · rw [if_pos ⟨Nat.le_refl _, by omega, h3⟩]; simp [h3]
        · rw [if_neg (by omega)]; simp [h3]
      · rw [if_neg (by omega), Array.getElem?_setIfInBounds_ne h2]
/-- One digest laid over a row of its size. -/
theorem fill_dig (D : List UInt8) (hD : D.length = 32) (c : Array Value) (hc : c.size = 32) : Instr.fill (fun i => some (i * 32, 32)) c [(0, .agg (D.map U).toArray)] = some (D.map U).toArray := by
  have hs : ((Value.agg (D.map U).toArray).cells).size = 32 := by show (D.map U).toArray.size = 32; simp [hD]
  have hf : (((D.map U).toArray).zipIdx.foldl (fun (cs : Array Value) (p : Value × Nat) => cs.setIfInBounds (0 + p.2) p.1) c) = (D.map U).toArray := by
    rw [← Array.foldl_toList, Array.toList_zipIdx]
    apply Array.ext_getElem?
    intro i
    rw [foldl_get]
    by_cases h : i < 32
    · rw [if_pos (by simp [hD, hc, h])]; simp
    · rw [if_neg (by simp [hc]; omega), Array.getElem?_eq_none (by omega), Array.getElem?_eq_none (by simp [hD]; omega)]
  unfold Instr.fill
  simp only [hs, hc]
  show (if (¬ 32 = 32 || decide (0 * 32 + 32 > 32)) = true then none else Instr.fill _ _ []) = _
  rw [if_neg (by decide)]
  unfold Instr.fill
  exact congrArg some hf
theorem wpList_build_dig {w : World} {ops : Array Oper} {rest : List Oper} {o : Oper} {a : Act} {Q : Exit → Act → World → Prop} (hgd : o.guard = none) (x : Operand) (ho : o.op = .buildSlice 31 1 #[(0, x)]) (D : List UInt8) (hD : D.length = 32) (hx : a.eval x = .agg (D.map U).toArray)
    (h : wpList Try.prog ops Q rest (a.put o.dst (.slice (some ⟨w.heap.size, 0, none⟩) 1 1)) (w.alloc (.cells (D.map U).toArray 25))) : wpList Try.prog ops Q (o :: rest) a w := by
  obtain ⟨ie, hie, hs, hz⟩ : ∃ ie, Try.prog.info? 25 = some ie ∧ ie.size = 32 ∧ ie.zero = some (.agg (Array.replicate 32 (.int .u8 0))) := ⟨_, rfl, by kernel_rfl, by kernel_rfl⟩
  refine wpList_plain hgd fun K hK => wp_buildSlice 31 25 1 #[(0, x)] ho (D.map U).toArray ie (.agg (Array.replicate 32 (.int .u8 0))) Try.underlying31 hie hz (by rw [hs]; decide) (by rw [hs]; decide) ?_ (hK _ _ h)
  have e : (#[(0, x)].map fun (p : Nat × Operand) => (p.1, a.eval p.2)).toList = [(0, .agg (D.map U).toArray)] := by simp [hx]
  refine (congrArg _ e).trans ?_
  rw [hs]
  exact fill_dig D hD _ (by simp)
/-- A row of texts that is read. -/
def RdS (w : World) (A : Option Addr) (ps : List ByteArray) : Prop := ps.length ≤ 1000 ∧ (ps.length ≠ 0 → ∃ b o, A = some ⟨b, o, none⟩ ∧ b < w.heap.size ∧ ∀ i (h : i < ps.length), w.cell? ⟨b, o + i, none⟩ = some (.string ps[i]))
theorem cell_kept {w w' : World} (hb : Below w.heap.size w w') {b o : Nat} (h : b < w.heap.size) : w'.cell? ⟨b, o, none⟩ = w.cell? ⟨b, o, none⟩ := by
  have := hb.block b h
  unfold World.cell?
  simp only [this]
theorem RdS.kept {w w' : World} {A : Option Addr} {ps : List ByteArray} (h : RdS w A ps) (hb : Below w.heap.size w w') : RdS w' A ps :=
  ⟨h.1, fun h0 => by
    obtain ⟨b, o, rfl, hlt, hc⟩ := h.2 h0
    exact ⟨b, o, rfl, Nat.lt_of_lt_of_le hlt hb.size, fun i hi => (cell_kept hb hlt).trans (hc i hi)⟩⟩
def pick1 (k : UInt8) (s : ByteArray) : List (List UInt8) := if ((resN s.data.toList).2.2 && (resN s.data.toList).1 == k) = true then [(resN s.data.toList).2.1] else []
def pick (k : UInt8) (ps : List ByteArray) : List (List UInt8) := (ps.map (pick1 k)).flatten
theorem pick_on (k : UInt8) (ps : List ByteArray) (j : Nat) (h : j < ps.length) : pick k (ps.take (j + 1)) = pick k (ps.take j) ++ pick1 k ps[j] := by
  unfold pick
  rw [List.take_succ_eq_append_getElem h, List.map_append, List.flatten_append]
  simp only [List.map_cons, List.map_nil, List.flatten_cons, List.flatten_nil, List.append_nil]
theorem pick1_len (k : UInt8) (s : ByteArray) : (pick1 k s).length ≤ 1 := by unfold pick1; split <;> simp
theorem pick_len (k : UInt8) : ∀ ps : List ByteArray, (pick k ps).length ≤ ps.length
  | [] => by simp [pick]
  | p :: r => by
    have h1 := pick1_len k p
    have h2 := pick_len k r
    show ((pick1 k p) ++ pick k r).length ≤ _
    rw [List.length_append, List.length_cons]
    omega
end Go.Proofs.Ytekhnacgejfmjaa
