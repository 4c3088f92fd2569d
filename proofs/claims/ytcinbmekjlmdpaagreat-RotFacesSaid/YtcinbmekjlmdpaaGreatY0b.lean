/- What hangs together: pure. -/
import Derived.Test.YtcinbmekjlmdpaaGreatY0a

/-! What hangs together: pure. -/
namespace Go.Proofs.YtcinbmekjlmdpaaGreat
open Go.RowKit

/-- Two labels made one: the lesser. -/
def mrg (f : UInt32 → UInt32) (a b x : UInt32) : UInt32 := if f x = f a ∨ f x = f b then mn (f a) (f b) else f x
/-- The label of a vertex: the least one of its part. -/
def lab : List Eg → UInt32 → UInt32
  | [], x => x
  | e :: r, x => mrg (lab r) e.a e.b x
theorem mn_le (x y : UInt32) : mn x y ≤ x ∧ mn x y ≤ y := by
  unfold mn
  split
  · rename_i h
    refine ⟨?_, UInt32.le_refl _⟩
    rw [UInt32.lt_iff_toNat_lt] at h; rw [UInt32.le_iff_toNat_le]; omega
  · rename_i h
    exact ⟨UInt32.le_refl _, u32_le_of_not h⟩
theorem mrg_le {f : UInt32 → UInt32} (h : ∀ x, f x ≤ x) (a b x : UInt32) : mrg f a b x ≤ x := by
  unfold mrg
  split
  · rename_i q
    rcases q with q | q
    · exact UInt32.le_trans (mn_le _ _).1 (q ▸ h x)
    · exact UInt32.le_trans (mn_le _ _).2 (q ▸ h x)
  · exact h x
theorem lab_le : ∀ (es : List Eg) (x : UInt32), lab es x ≤ x
  | [], _ => UInt32.le_refl _
  | _ :: r, x => mrg_le (lab_le r) _ _ x
theorem mrg_idem {f : UInt32 → UInt32} (h : ∀ x, f (f x) = f x) (a b x : UInt32) : mrg f a b (mrg f a b x) = mrg f a b x := by
  have hm : f (mn (f a) (f b)) = mn (f a) (f b) := by
    rcases mn_mem (f a) (f b) with e | e
    · rw [e]; exact h a
    · rw [e]; exact h b
  unfold mrg
  by_cases q : f x = f a ∨ f x = f b
  · rw [if_pos q]
    rw [if_pos (by rw [hm]; exact mn_mem _ _)]
  · rw [if_neg q, h x, if_neg q]
theorem lab_idem : ∀ (es : List Eg) (x : UInt32), lab es (lab es x) = lab es x
  | [], _ => rfl
  | _ :: r, x => mrg_idem (lab_idem r) _ _ x
theorem mrg_eq {f : UInt32 → UInt32} (a b : UInt32) : mrg f a b a = mrg f a b b := by
  unfold mrg
  rw [if_pos (.inl rfl), if_pos (.inr rfl)]
theorem mrg_of {f : UInt32 → UInt32} (a b : UInt32) {x y : UInt32} (h : f x = f y) : mrg f a b x = mrg f a b y := by
  unfold mrg; rw [h]
theorem lab_edge : ∀ (es : List Eg) (e : Eg), e ∈ es → lab es e.a = lab es e.b
  | x :: r, e, h => by
    rcases List.mem_cons.1 h with rfl | h
    · exact mrg_eq _ _
    · exact mrg_of _ _ (lab_edge r e h)
/-- What holds at both ends of each edge or at none, holds of a vertex just if of its label. -/
theorem lab_closed (S : UInt32 → Prop) : ∀ (es : List Eg), (∀ e ∈ es, S e.a ↔ S e.b) → ∀ x, S (lab es x) ↔ S x
  | [], _, _ => Iff.rfl
  | e :: r, h, x => by
    have ih := lab_closed S r (fun e he => h e (List.mem_cons_of_mem _ he))
    have he := h e List.mem_cons_self
    show S (mrg (lab r) e.a e.b x) ↔ S x
    unfold mrg
    split
    · rename_i q
      have hm : S (mn (lab r e.a) (lab r e.b)) ↔ S e.a := by
        rcases mn_mem (lab r e.a) (lab r e.b) with q | q
        · rw [q]; exact ih _
        · rw [q]; exact (ih _).trans he.symm
      rcases q with q | q
      · exact hm.trans ((ih e.a).symm.trans (by rw [← q]; exact ih x))
      · exact hm.trans (he.trans ((ih e.b).symm.trans (by rw [← q]; exact ih x)))
    · exact ih x
theorem lab_same (S : UInt32 → Prop) (es : List Eg) (h : ∀ e ∈ es, S e.a ↔ S e.b) {x y : UInt32} (e : lab es x = lab es y) : S x ↔ S y :=
  (lab_closed S es h x).symm.trans (by rw [e]; exact lab_closed S es h y)
theorem lab_mem {es : List Eg} {vs : List UInt32} (h : ∀ e ∈ es, e.a ∈ vs ∧ e.b ∈ vs) {x : UInt32} (hx : x ∈ vs) : lab es x ∈ vs :=
  (lab_closed (· ∈ vs) es (fun e he => ⟨fun _ => (h e he).2, fun _ => (h e he).1⟩) x).2 hx
theorem nbr_mem {es : List Eg} {x y : UInt32} (h : y ∈ nbr es x) : ∃ e ∈ es, (e.a = x ∧ e.b = y) ∨ (e.b = x ∧ e.a = y) := by
  unfold nbr at h
  obtain ⟨e, he, hy⟩ := List.mem_flatMap.1 h
  refine ⟨e, he, ?_⟩
  rcases List.mem_append.1 hy with h1 | h1
  · by_cases q : e.a = x
    · rw [if_pos q, List.mem_singleton] at h1; exact .inl ⟨q, h1.symm⟩
    · rw [if_neg q] at h1; cases h1
  · by_cases q : e.b = x
    · rw [if_pos q, List.mem_singleton] at h1; exact .inr ⟨q, h1.symm⟩
    · rw [if_neg q] at h1; cases h1
theorem nbr_lab {es : List Eg} {x y : UInt32} (h : y ∈ nbr es x) : lab es y = lab es x := by
  obtain ⟨e, he, h1 | h1⟩ := nbr_mem h
  · rw [← h1.1, ← h1.2]; exact (lab_edge es e he).symm
  · rw [← h1.1, ← h1.2]; exact lab_edge es e he
theorem nbr_a {es : List Eg} {e : Eg} (h : e ∈ es) : e.b ∈ nbr es e.a := List.mem_flatMap.2 ⟨e, h, by rw [if_pos rfl]; simp⟩
theorem nbr_b {es : List Eg} {e : Eg} (h : e ∈ es) : e.a ∈ nbr es e.b := List.mem_flatMap.2 ⟨e, h, by rw [if_pos (rfl : e.b = e.b)]; simp⟩
/-- A set that has with each vertex those near it has all that hang together with one. -/
theorem lab_near (es : List Eg) (N : UInt32 → Prop) (h : ∀ x, N x → ∀ y ∈ nbr es x, N y) {x y : UInt32} (e : lab es x = lab es y) : N x ↔ N y :=
  lab_same N es (fun e he => ⟨fun q => h _ q _ (nbr_a he), fun q => h _ q _ (nbr_b he)⟩) e
/-- The parts. -/
def part (g : Gr) (v : UInt32) : List UInt32 := g.vs.filter fun x => lab g.es x == v
def parts (g : Gr) : List (List UInt32) := (g.vs.filter fun v => lab g.es v == v).map (part g)
/-- How many are not seen yet. -/
def un (vs : List UInt32) (N : UInt32 → Bool) : Nat := vs.countP fun x => !N x
theorem un_put {vs : List UInt32} {N : UInt32 → Bool} {y : UInt32} (hy : y ∈ vs) (hn : N y = false) : un vs (upd N y true) + 1 ≤ un vs N := by
  unfold un
  have := countP_less (fun x => !N x) (fun x => !(upd N y true) x) (fun x hx => by
    unfold upd at hx
    by_cases e : x = y
    · simp [e] at hx
    · simpa [e] using hx) vs y hy (by simp [hn]) (by simp [upd])
  omega
theorem upd_at {K A : Type} [DecidableEq K] (f : K → A) (k : K) (v : A) : upd f k v k = v := by simp [upd]
theorem upd_ne {K A : Type} [DecidableEq K] (f : K → A) {k y : K} (v : A) (h : ¬ y = k) : upd f k v y = f y := by simp [upd, h]
end Go.Proofs.YtcinbmekjlmdpaaGreat

/-! Laws of the walk for rows of one's own. -/
namespace Go.Proofs.YtcinbmekjlmdpaaGreat
open Go.RowKit

section
variable {ops : Array Oper} {rest : List Oper} {o : Oper} {a : Act} {w : World} {Q : Exit → Act → World → Prop}
set_option maxRecDepth 100000 in
theorem wpList_pushq (hgd : o.guard = none) (s x : Operand) (ho : o.op = .call { callee := .builtin .append, args := #[s, x], argTypes := #[22, 22] }) (base : Nat) (v : Value) (l : List UInt32) (d : UInt32) (g0 : Nat)
    (hs : a.eval s = v) (hx : a.eval x = .slice (some ⟨g0, 0, none⟩) 1 1) (h : Oq w base v l) (hl : l.length < 1000000) (hb : base ≤ w.heap.size) (hsrc : Blk w g0 34 #[V d])
    (H : ∀ v' w', Oq w' base v' (l ++ [d]) → w.grownBy w' v.ownBlock → (∃ b, v'.ownBlock = some b ∧ (v.ownBlock = some b ∨ w.heap.size ≤ b)) → wpList Tryz.prog ops Q rest (a.put o.dst v') w') : wpList Tryz.prog ops Q (o :: rest) a w := by
  obtain ⟨v', w', hr, h1, h2, h3⟩ := run_push w base o.type v l d g0 h hl hb hsrc
  exact wpList_plain hgd fun _ hK => Lib.wp_append_run w s x _ _ ho v _ hs hx v' w' hr (hK _ _ (H v' w' h1 h2 h3))
set_option maxRecDepth 100000 in
/-- All but the first. -/
theorem run_tail (w : World) (base : Nat) (v : Value) (d : UInt32) (l : List UInt32) (h : Oq w base v (d :: l)) : ∃ v', (Instr.sliceAt 22 v (some (.int .i64 1)) none none).run Tryz.prog w = .ok v' w ∧ Oq w base v' l := by
  rcases h with ⟨_, h0⟩ | ⟨g, off, cap, cur, rfl, h2, h3, h4, h5, h6, h7⟩
  · cases h0
  · have hc : 1 ≤ cap := by simp at h5; omega
    have hs4 : ∀ w, (sizeOf 34).run Tryz.prog w = .ok 1 w := fun w => by kernel_rfl
    have hrun : (Instr.sliceAt 22 (.slice (some ⟨g, off, none⟩) (l.length + 1) cap) (some (.int .i64 1)) none none).run Tryz.prog w = .ok (.slice (if cap = 1 then some ⟨g, off, none⟩ else some ⟨g, off + 1, none⟩) l.length (cap - 1)) w := by
      have hnc : l.length + 1 ≤ cap := h5
      by_cases e : cap = 1
      · simp [Instr.sliceAt, Instr.slice, Instr.sliceBounds, Instr.sliceBound, asIntOf, run_underlying Tryz.underlying22, hs4, e]
        intro h; omega
      · simp [Instr.sliceAt, Instr.slice, Instr.sliceBounds, Instr.sliceBound, asIntOf, run_underlying Tryz.underlying22, hs4, e, addr_add]
        intro h; omega
    refine ⟨_, hrun, ?_⟩
    by_cases e : cap = 1
    · have hl0 : l = [] := by
        have : (d :: l).length ≤ cap := h5
        rw [e] at this
        simp at this
        exact this
      subst hl0
      rw [if_pos e]
      exact .inr ⟨g, off, cap - 1, cur, rfl, h2, h3, by omega, by simp, by omega, fun i hi => by simp at hi⟩
    · rw [if_neg e]
      refine .inr ⟨g, off + 1, cap - 1, cur, rfl, h2, h3, by omega, by have : l.length + 1 ≤ cap := h5; omega, by omega, fun i hi => ?_⟩
      have := h7 (i + 1) (by simp; omega)
      rw [show off + 1 + i = off + (i + 1) by omega, this]
      rfl
theorem wpList_tailq (hgd : o.guard = none) (x y : Operand) (ho : o.op = .slice 22 x (some y) none none) (hy : a.eval y = .int .i64 1) (base : Nat) (v : Value) (d : UInt32) (l : List UInt32) (hx : a.eval x = v) (h : Oq w base v (d :: l))
    (H : ∀ v', Oq w base v' l → wpList Tryz.prog ops Q rest (a.put o.dst v') w) : wpList Tryz.prog ops Q (o :: rest) a w := by
  refine wpList_plain hgd fun K hK => ?_
  obtain ⟨v', hr, h1⟩ := run_tail w base v d l h
  unfold Oper.wp execOp
  simp only [ho, Option.map_some, Option.map_none, hx, hy, Sem.run_bind, hr, Result.andThen_ok, Sem.run_pure]
  exact hK _ _ (H v' h1)
end
theorem Oq.is {w : World} {base : Nat} {v : Value} {l : List UInt32} (h : Oq w base v l) : ∃ A c, v = .slice A l.length c ∧ (0 < l.length → ∃ b o, A = some ⟨b, o, none⟩ ∧ ∀ i, i < l.length → w.cell? ⟨b, o + i, none⟩ = some (V (l.getD i 0))) := by
  rcases h with ⟨rfl, rfl⟩ | ⟨g, off, cap, cur, rfl, h2, h3, h4, h5, h6, h7⟩
  · exact ⟨_, _, rfl, fun h => absurd h (by simp)⟩
  · exact ⟨_, _, rfl, fun _ => ⟨g, off, rfl, fun i hi => by rw [h3.cell]; exact h7 i hi⟩⟩
theorem NearAt.ex {w wr : World} {base nm n sm m : Nat} {f s : UInt32 → Option Value} {L : UInt32 → List UInt32} (h : NearAt w base nm n f L) (hs : Mu w sm m s) (hne : nm ≠ sm) (hx : Ex sm w wr) : NearAt wr base nm n f L :=
  ⟨h.1.kept (hx.block nm h.1.lt hne), h.2.still (Still.ex hs hx)⟩
theorem Ex.push {w wr w' : World} {sm base : Nat} {v : Value} {l : List UInt32} (h : Ex sm w wr) (ho : Oq wr base v l) (hg : wr.grownBy w' v.ownBlock) (hb : w.heap.size ≤ base) : Ex sm w w' :=
  ⟨hg.os.trans h.os, hg.tape.trans h.tape, hg.output.trans h.output, Nat.le_trans h.size hg.size, fun k hk hne => (hg.block k (Nat.lt_of_lt_of_le hk h.size) (fun e => by
    have := (ho.lt e.symm).2.1; omega)).trans (h.block k hk hne)⟩
theorem Oq.cells {w : World} {base n c : Nat} {A : Option Addr} {l : List UInt32} (h : Oq w base (.slice A n c) l) (h0 : 0 < l.length) : ∃ b o, A = some ⟨b, o, none⟩ ∧ ∀ i, i < l.length → w.cell? ⟨b, o + i, none⟩ = some (V (l.getD i 0)) := by
  rcases h with ⟨_, rfl⟩ | ⟨g, off, cap, cur, he, h2, h3, h4, h5, h6, h7⟩
  · simp at h0
  · injection he with he
    exact ⟨g, off, he, fun i hi => by rw [h3.cell]; exact h7 i hi⟩
theorem Mu.grown {w w' : World} {m n base : Nat} {s : UInt32 → Option Value} {v : Value} {l : List UInt32} (h : Mu w m n s) (ho : Oq w base v l) (hg : w.grownBy w' v.ownBlock) : Mu w' m n s :=
  h.kept (hg.block m h.lt (fun e => by
    obtain ⟨_, _, cur, hcur⟩ := ho.lt e.symm
    obtain ⟨es, c, hm⟩ := h.map
    unfold Blk at hcur
    rw [hm] at hcur
    cases hcur))
end Go.Proofs.YtcinbmekjlmdpaaGreat

/-! graph.reach. -/
namespace Go.Proofs.YtcinbmekjlmdpaaGreat
open Go.RowKit

structure RInv (es : List Eg) (fr : UInt32) (N : UInt32 → Bool) (q : List UInt32) : Prop where
  src : N fr = true
  same : ∀ x, N x = true → lab es x = lab es fr
  que : ∀ x ∈ q, N x = true
  clo : ∀ x, N x = true → x ∈ q ∨ ∀ y ∈ nbr es x, N y = true
theorem RInv.start (es : List Eg) (fr : UInt32) : RInv es fr (upd (fun _ => false) fr true) [fr] := by
  refine ⟨upd_at _ _ _, fun x hx => ?_, fun x hx => ?_, fun x hx => ?_⟩
  · by_cases e : x = fr
    · rw [e]
    · rw [upd_ne _ _ e] at hx; cases hx
  · rw [List.mem_singleton] at hx; subst hx; exact upd_at _ _ _
  · by_cases e : x = fr
    · exact .inl (by rw [e]; exact List.mem_singleton.2 rfl)
    · rw [upd_ne _ _ e] at hx; cases hx
theorem RInv.put {es : List Eg} {fr x0 y : UInt32} {N : UInt32 → Bool} {q : List UInt32} (h : RInv es fr N (x0 :: q)) (hy : y ∈ nbr es x0) : RInv es fr (upd N y true) (x0 :: q ++ [y]) := by
  have hold : ∀ x, N x = true → upd N y true x = true := fun x hx => by
    by_cases e : x = y
    · rw [e]; exact upd_at _ _ _
    · rw [upd_ne _ _ e]; exact hx
  refine ⟨hold _ h.src, fun x hx => ?_, fun x hx => ?_, fun x hx => ?_⟩
  · by_cases e : x = y
    · rw [e, nbr_lab hy]; exact h.same _ (h.que _ List.mem_cons_self)
    · rw [upd_ne _ _ e] at hx; exact h.same x hx
  · rcases List.mem_append.1 hx with hx | hx
    · exact hold _ (h.que x hx)
    · rw [List.mem_singleton] at hx; rw [hx]; exact upd_at _ _ _
  · by_cases e : x = y
    · exact .inl (by rw [e]; simp)
    · rw [upd_ne _ _ e] at hx
      rcases h.clo x hx with hx | hx
      · exact .inl (List.mem_append_left _ hx)
      · exact .inr fun z hz => hold _ (hx z hz)
theorem RInv.pop {es : List Eg} {fr x0 : UInt32} {N : UInt32 → Bool} {q : List UInt32} (h : RInv es fr N (x0 :: q)) (hd : ∀ y ∈ nbr es x0, N y = true) : RInv es fr N q :=
  ⟨h.src, h.same, fun x hx => h.que x (List.mem_cons_of_mem _ hx), fun x hx => by
    rcases h.clo x hx with hx | hx
    · rcases List.mem_cons.1 hx with rfl | hx
      · exact .inr hd
      · exact .inl hx
    · exact .inr hx⟩
theorem RInv.done {es : List Eg} {fr : UInt32} {N : UInt32 → Bool} (h : RInv es fr N []) (x : UInt32) : N x = true ↔ lab es x = lab es fr := by
  refine ⟨h.same x, fun e => ?_⟩
  refine (lab_near es (fun x => N x = true) (fun x hx => ?_) e).2 h.src
  rcases h.clo x hx with h1 | h1
  · cases h1
  · exact h1
/-- What the map of the seen ones holds. -/
def sfn (s : UInt32 → Option Value) (p : Int) (N : UInt32 → Bool) (x : UInt32) : Option Value := if N x then some (.int .i64 p) else s x
theorem sfn_put (s : UInt32 → Option Value) (p : Int) (N : UInt32 → Bool) (y : UInt32) : (fun z => if z = y then some (Value.int .i64 p) else sfn s p N z) = sfn s p (upd N y true) := by
  funext z
  unfold sfn
  by_cases e : z = y
  · subst e; rw [upd_at]; simp
  · rw [upd_ne _ _ e]; simp [e]
theorem sfn_none (s : UInt32 → Option Value) (p : Int) : sfn s p (fun _ => false) = s := by funext z; simp [sfn]
theorem sfn_is {s : UInt32 → Option Value} {p : Int} {N : UInt32 → Bool} {y : UInt32} (h : s y = none) : (sfn s p N y).isSome = N y := by
  unfold sfn
  cases N y <;> simp [h]
theorem zero3 (w : World) : (zeroValue 3).run Tryz.prog w = .ok (.int .i64 0) w := by kernel_rfl
theorem look54 {w : World} {sm m : Nat} {s : UInt32 → Option Value} (h : Mu w sm m s) (x : UInt32) : (Instr.lookup 132 (.map (some sm)) (V x) true).run Tryz.prog w = .ok (.tuple #[(s x).getD (.int .i64 0), .bool (s x).isSome]) w :=
  h.look_ok 132 3 Tryz.underlying132 _ (zero3 w) x
theorem Ex.size_eq {g : Nat} {w w' : World} (h : Ex g w w') : w.heap.size ≤ w'.heap.size := h.size
attribute [local irreducible] V
attribute [local irreducible] wpList in
set_option maxRecDepth 100000 in
set_option maxHeartbeats 4000000 in
theorem reach_walk (w : World) (base nm n sm m : Nat) (f s : UInt32 → Option Value) (vs : List UInt32) (es : List Eg) (fr : UInt32) (p : Int) (hna : NearAt w base nm n f (nbr es)) (hse : Mu w sm m s) (hne : nm ≠ sm)
    (hvs : ∀ e ∈ es, e.a ∈ vs ∧ e.b ∈ vs) (hfr : fr ∈ vs) (hs0 : ∀ y, lab es y = lab es fr → s y = none) (hvl : vs.length ≤ 1000) (hel : es.length ≤ 1000) (hm : m ≤ 100000) :
    Calls Tryz.prog 95 #[V fr, .int .i64 p, .map (some nm), .map (some sm)] w fun e w' => e = .returned (.tuple #[]) ∧ ∃ m' s', m' ≤ m + vs.length ∧ Mu w' sm m' s' ∧ (∀ x, s' x = if lab es x = lab es fr then some (.int .i64 p) else s x) ∧ Ex sm w w' := by
  have HNA := Lib.hid hna
  have HSE := Lib.hid hse
  have HVS := Lib.hid hvs
  have HFR := Lib.hid hfr
  have HS0 := Lib.hid hs0
  have HSM : Hid (sm < w.heap.size) := hse.lt
  have r6 := V_cells
  unfold Value.cells at r6
  clear hna hse hvs hfr hs0
  go_enter Tryz.func95, Tryz.ntmps95
  go_wp2_with (refine wpList_mapM rfl _ _ _ 132 3 rfl Tryz.underlying132 sm m s fr (.int .i64 p) rfl rfl rfl HSE.out (by unfold maxLen; omega) ?_; intro w2 hm2 hx2 hs2; have HM2 := Lib.hid hm2; have HX2 := Lib.hid hx2; have HS2 := Lib.hid hs2; clear hm2 hx2 hs2)
  have HQ0 : Hid (Oq (w2.alloc (.cells #[V fr] 34)) w.heap.size (.slice (some ⟨w2.heap.size, 0, none⟩) 1 1) [fr]) := by
    refine .inr ⟨w2.heap.size, 0, 1, #[V fr], rfl, HX2.out.size, Blk.fresh _ _ _, by simp, by simp, by decide, fun i hi => ?_⟩
    have : i = 0 := by simp at hi; omega
    subst this
    rfl
  have HM3 : Hid (Mu (w2.alloc (.cells #[V fr] 34)) sm (m + 1) (sfn s p (upd (fun _ => false) fr true))) := by
    have h1 := HM2.out.kept (Below.heap_alloc w2 (.cells #[V fr] 34) sm HM2.out.lt)
    have e : (fun y => if y = fr then some (Value.int .i64 p) else s y) = sfn s p (upd (fun _ => false) fr true) := by
      rw [← sfn_put, sfn_none]
    rw [e] at h1
    exact h1
  have HX3 : Hid (Ex sm w (w2.alloc (.cells #[V fr] 34))) := HX2.out.trans (Ex.alloc sm w2 _)
  have HU0 : Hid (un vs (upd (fun _ => false) fr true) + 1 ≤ vs.length) := by
    have h1 := un_put (N := fun _ => false) HFR.out rfl
    have h2 : un vs (fun _ => false) ≤ vs.length := List.countP_le_length
    show _ ≤ _
    omega
  go_loopg [8] (2 * vs.length) (fun gk v wr => ∃ (q : List UInt32) (N : UInt32 → Bool) (m' : Nat), Oq wr w.heap.size v q ∧ Mu wr sm m' (sfn s p N) ∧ Ex sm w wr ∧ RInv es fr N q ∧ q.length + un vs N ≤ vs.length ∧ m' + un vs N ≤ m + vs.length ∧ 2 * un vs N + q.length ≤ gk)
  case atStart => exact ⟨[fr], _, m + 1, HQ0.out, HM3.out, HX3.out, RInv.start es fr, by have := HU0.out; simp; omega, by have := HU0.out; omega, by have := HU0.out; simp; omega⟩
  case round =>
    obtain ⟨q, N, m', hq, hmu, hx, hinv, hql, hml, hgk⟩ := hrel
    have HQ := Lib.hid hq
    have HMU := Lib.hid hmu
    have HX := Lib.hid hx
    have HI := Lib.hid hinv
    have HGK := Lib.hid hgk
    have HQL := Lib.hid hql
    have HML := Lib.hid hml
    obtain ⟨A, c, rfl, hpl⟩ := hq.is
    clear hmu hx hinv hgk hql hml hq
    cases q with
    | nil =>
      have HF : Hid (∀ x, sfn s p N x = if lab es x = lab es fr then some (.int .i64 p) else s x) := fun x => by
        unfold sfn
        by_cases e : lab es x = lab es fr
        · rw [if_pos e, if_pos ((HI.out.done x).2 e)]
        · rw [if_neg e, if_neg (fun h => e ((HI.out.done x).1 h))]
      have HMF : Hid (m' ≤ m + vs.length) := by have := HML.out; show _ ≤ _; omega
      clear hpl
      go_wp2
      go_end0
      exact ⟨rfl, m', _, HMF.out, HMU.out, HF.out, HX.out⟩
    | cons x0 q0 =>
      obtain ⟨b, o, rfl, hc⟩ := hpl (by simp)
      have hcell : wr.cell? ⟨b, o, none⟩ = some (V x0) := hc 0 (by simp)
      have hna := HNA.out.ex HSE.out hne HX.out
      have hlk := hna.look x0
      obtain ⟨A2, c2, hfv, _⟩ := (hna.2.own x0).is
      have HOF := Lib.hid (hna.2.own x0)
      have HFV : Hid ((f x0).getD (.slice none 0 0) = .slice A2 (nbr es x0).length c2) := hfv
      have HNL : Hid ((nbr es x0).length ≤ 2000) := by have := nbr_len es x0; show _ ≤ _; omega
      have hnl : (nbr es x0).length ≤ 2000 := HNL.out
      have hql : q0.length ≤ 1000 := by have := HQL.out; simp at this; omega
      rw [hfv] at hlk
      have hlen : (x0 :: q0).length = q0.length + 1 := rfl
      rw [hlen]
      clear hc hpl hna hfv hlen
      go_wp2
      go_loopw [8, 29] (fun v i wr2 => ∃ (j : Nat) (add : List UInt32) (N2 : UInt32 → Bool) (m2 : Nat), j ≤ (nbr es x0).length ∧ i = .int .i64 j ∧ Oq wr2 w.heap.size v (x0 :: (q0 ++ add)) ∧ Mu wr2 sm m2 (sfn s p N2) ∧ Ex sm w wr2 ∧ RInv es fr N2 (x0 :: (q0 ++ add)) ∧ (∀ i, i < j → N2 ((nbr es x0).getD i 0) = true) ∧ un vs N2 + add.length ≤ un vs N ∧ m2 + un vs N2 ≤ m + vs.length) (fun _ i _ => (nbr es x0).length - (intOf i).toNat)
      case atStart => exact ⟨0, [], N, m', Nat.zero_le _, rfl, by rw [List.append_nil]; exact HQ.out, HMU.out, HX.out, by rw [List.append_nil]; exact HI.out, fun i hi => by omega, by simp, HML.out⟩
      case round =>
        obtain ⟨j, add, N2, m2, hj, rfl, hq2, hmu2, hx2, hinv2, hdn, hun, hml2⟩ := hrel
        have HQ2 := Lib.hid hq2
        have HMU2 := Lib.hid hmu2
        have HX2b := Lib.hid hx2
        have HI2 := Lib.hid hinv2
        have HD2 := Lib.hid hdn
        have HUN := Lib.hid hun
        have HML2 := Lib.hid hml2
        clear hmu2 hx2 hinv2 hun hml2 hq2 hdn
        by_cases hlt : j < (nbr es x0).length
        · have hof : Oq wr base (.slice A2 (nbr es x0).length c2) (nbr es x0) := by
            have := (HNA.out.ex HSE.out hne HX2b.out).2.own x0
            rwa [HFV.out] at this
          obtain ⟨b2, o2, rfl, hc2⟩ := hof.cells (by omega)
          have hcy := hc2 j hlt
          have HY : Hid ((nbr es x0).getD j 0 ∈ nbr es x0) := getD_mem hlt
          have hyn := HS0.out ((nbr es x0).getD j 0) ((nbr_lab HY.out).trans (HI2.out.same _ (HI2.out.que _ List.mem_cons_self)))
          have hl := look54 HMU2.out ((nbr es x0).getD j 0)
          rw [sfn_is hyn] at hl
          clear hc2 hof
          by_cases hN : N2 ((nbr es x0).getD j 0) = true
          · rw [hN] at hl
            have HN := Lib.hid hN
            clear hN hyn
            generalize (sfn s p N2 ((nbr es x0).getD j 0)).getD (.int .i64 0) = zz at *
            generalize hy : (nbr es x0).getD j 0 = y at hl hcy
            have HYE := Lib.hid hy
            clear hy
            go_wp2
            go_roundw
            case rel => exact ⟨j + 1, add, N2, m2, by omega, by go_num, HQ2.out, HMU2.out, HX2b.out, HI2.out, fun i hi => by
              by_cases e : i = j
              · rw [e]; exact HN.out
              · exact HD2.out i (by omega), HUN.out, HML2.out⟩
            case measure => simp [intOf]; omega
          · have hN' : N2 ((nbr es x0).getD j 0) = false := by simpa using hN
            rw [hN'] at hl
            have HN := Lib.hid hN'
            have HYV : Hid ((nbr es x0).getD j 0 ∈ vs) := by
              obtain ⟨e, he, h1 | h1⟩ := nbr_mem HY.out
              · rw [← h1.2]; exact (HVS.out e he).2
              · rw [← h1.2]; exact (HVS.out e he).1
            have HUP := Lib.hid (un_put HYV.out hN')
            have HIP := Lib.hid (HI2.out.put HY.out)
            have HDP : Hid (∀ i, i < j + 1 → upd N2 ((nbr es x0).getD j 0) true ((nbr es x0).getD i 0) = true) := fun i hi => by
              by_cases e : (nbr es x0).getD i 0 = (nbr es x0).getD j 0
              · rw [e]; exact upd_at _ _ _
              · rw [upd_ne _ _ e]
                exact HD2.out i (by
                  rcases Nat.lt_or_ge i j with h | h
                  · exact h
                  · exact absurd (by rw [show i = j by omega]) e)
            clear hN hN' hyn
            generalize (sfn s p N2 ((nbr es x0).getD j 0)).getD (.int .i64 0) = zz at *
            generalize (nbr es x0).getD j 0 = y at *
            go_wp2_with (first
              | (refine wpList_mapM rfl _ _ _ 132 3 rfl Tryz.underlying132 sm m2 _ y (.int .i64 p) rfl rfl rfl HMU2.out (by have := HML2.out; unfold maxLen; omega) ?_; intro w4 hm4 hx4 hs4; have HM4 := Lib.hid hm4; have HX4 := Lib.hid hx4; have HS4 := Lib.hid hs4; have HQ4 := Lib.hid ((HQ2.out.still (Still.ex HMU2.out hx4)).still (Still.below ((Below.refl _ w4).alloc (Nat.le_refl _) (.cells #[V y] 34)))); clear hm4 hx4 hs4)
              | (refine wpList_pushq rfl (.tmp 44) (.tmp 46) rfl w.heap.size _ (x0 :: (q0 ++ add)) y w4.heap.size rfl rfl HQ4.out (by have := HUN.out; have := HQL.out; simp at *; omega) (by have := (HX2b.out.trans HX4.out).size; simp; omega) (Blk.fresh _ _ _) ?_; intro v5 w5 ho5 hg5 hb5; have HO5 := Lib.hid ho5; have HG5 := Lib.hid hg5; clear ho5 hg5 hb5))
            go_roundw
            case rel =>
              refine ⟨j + 1, add ++ [y], upd N2 y true, m2 + 1, by omega, by go_num, ?_, ?_, ?_, ?_, HDP.out, ?_, ?_⟩
              · have := HO5.out
                simpa [List.append_assoc] using this
              · have h1 := (HM4.out.kept (Below.heap_alloc w4 (.cells #[V y] 34) sm HM4.out.lt)).grown HQ4.out HG5.out
                rwa [sfn_put] at h1
              · exact ((HX2b.out.trans HX4.out).trans (Ex.alloc sm w4 _)).push HQ4.out HG5.out (Nat.le_refl _)
              · have := HIP.out
                simpa [List.append_assoc] using this
              · have := HUP.out; have := HUN.out; rw [List.length_append, List.length_singleton]; omega
              · have := HUP.out; have := HML2.out; omega
            case measure => simp [intOf]; omega
        · obtain rfl : j = (nbr es x0).length := by omega
          have HP : Hid (RInv es fr N2 (q0 ++ add)) := HI2.out.pop (fun y hy => by
            obtain ⟨i, hi, rfl⟩ := List.getElem_of_mem hy
            rw [getD_at hi]
            exact HD2.out i hi)
          obtain ⟨A5, c5, hv5, _⟩ := HQ2.out.is
          go_wp2_with (refine wpList_tailq rfl (.tmp 21) (.const (.int .i64 1)) rfl rfl w.heap.size _ x0 (q0 ++ add) rfl HQ2.out ?_; intro v6 ho6; have HO6 := Lib.hid ho6; clear ho6)
          go_roundg (2 * un vs N2 + (q0 ++ add).length)
          case measure => have := HGK.out; have := HUN.out; simp at *; omega
          case rel => exact ⟨q0 ++ add, N2, m2, HO6.out, HMU2.out, HX2b.out, HP.out, by have := HQL.out; have := HUN.out; simp at *; omega, HML2.out, Nat.le_refl _⟩
end Go.Proofs.YtcinbmekjlmdpaaGreat
