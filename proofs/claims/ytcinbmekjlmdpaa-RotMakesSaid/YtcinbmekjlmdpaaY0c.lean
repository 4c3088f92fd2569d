/- Rows of rows. -/
import Derived.Test.YtcinbmekjlmdpaaY0b
import Derived.Test.YtcinbmekjlmdpaaY09
import Derived.Test.YtcinbmekjlmdpaaY0a
import Derived.Deep.QuietTactic
import Derived.BigQuiet
import Derived.IntWalk

/-! Rows of rows. -/
namespace Go.Proofs.Ytcinbmekjlmdpaa
open Go.RowKit

def nilv : Value := .slice none 0 0
/-- Rows of one's own that stand in a row of one's own. -/
def PartsAt (w : World) (B : Nat) (pv : Value) (rows : List (List UInt32)) : Prop :=
  ∃ vals : List Value, vals.length = rows.length ∧ w.ownsRow B 22 1 pv rows.length vals ∧ Fam w B (fun i : Nat => vals.getD i nilv) (fun i => rows.getD i [])
theorem PartsAt.nil (w : World) (B : Nat) : PartsAt w B (.slice none 0 0) [] := ⟨[], rfl, World.ownsRow_nil _ _ _ _, ⟨fun _ => Oq.nil w B, fun _ _ _ _ h => by simp [nilv, Value.ownBlock] at h⟩⟩
theorem owns_blk {w w' : World} {B n : Nat} {pv : Value} {vals : List Value} (h : w.ownsRow B 22 1 pv n vals) (hk : ∀ g cur, Blk w g 22 cur → Blk w' g 22 cur) : w'.ownsRow B 22 1 pv n vals := by
  obtain ⟨h1, h2⟩ := h
  refine ⟨h1, ?_⟩
  rcases h2 with h2 | ⟨g, cap, cur, h3, h4, h5, h6⟩
  · exact .inl h2
  · exact .inr ⟨g, cap, cur, h3, h4, hk g cur h5, h6⟩
theorem PartsAt.kept {w w' : World} {B : Nat} {pv : Value} {rows : List (List UInt32)} (h : PartsAt w B pv rows) (hb : Below w.heap.size w w') : PartsAt w' B pv rows := by
  obtain ⟨vals, h1, h2, h3⟩ := h
  exact ⟨vals, h1, owns_blk h2 (fun _ _ hk => hk.kept hb hk.lt), h3.still (Still.below hb)⟩
theorem PartsAt.ex {w w' : World} {B sm m : Nat} {s : UInt32 → Option Value} {pv : Value} {rows : List (List UInt32)} (h : PartsAt w B pv rows) (hs : Mu w sm m s) (hx : Ex sm w w') : PartsAt w' B pv rows := by
  obtain ⟨vals, h1, h2, h3⟩ := h
  refine ⟨vals, h1, owns_blk h2 (fun g cur hk => hx.blk hk (fun e => ?_)), h3.still (Still.ex hs hx)⟩
  subst e
  obtain ⟨es, c, hm⟩ := hs.map
  unfold Blk at hk
  rw [hm] at hk
  cases hk
theorem info22 : ∃ i, Try.prog.info? 22 = some i ∧ i.zero = some (.slice none 0 0) ∧ i.size = 1 ∧ i.bytes = 24 := by
  have h : (Try.prog.info? 22).map (fun i => (i.zero, i.size, i.bytes)) = some (some (.slice none 0 0), 1, 24) := by kernel_rfl
  cases hi : Try.prog.info? 22 with
  | none => rw [hi] at h; cases h
  | some i =>
    rw [hi] at h
    simp only [Option.map_some, Option.some.injEq, Prod.mk.injEq] at h
    exact ⟨i, rfl, h.1, h.2.1, h.2.2⟩
theorem src_val {w : World} {g0 : Nat} {t : TypeId} {u : Value} (h : Blk w g0 t #[u]) : ∀ j x, [u][j]? = some x → w.cell? ((⟨g0, 0, none⟩ : Addr).add j) = some x := by
  intro j x hj
  match j, hj with
  | 0, hj =>
    simp at hj
    subst hj
    rw [addr_add]
    exact h.cell 0
theorem getD_app {K : Type} (l : List K) (x d : K) (i : Nat) : (l ++ [x]).getD i d = if i = l.length then x else l.getD i d := by
  by_cases h : i < l.length
  · rw [if_neg (by omega), List.getD_eq_getElem?_getD, List.getD_eq_getElem?_getD, List.getElem?_append_left h]
  · by_cases e : i = l.length
    · rw [if_pos e, e]; simp
    · rw [if_neg e, List.getD_eq_getElem?_getD, List.getD_eq_getElem?_getD, List.getElem?_append_right (by omega), List.getElem?_eq_none (by simp; omega), List.getElem?_eq_none (by omega)]
/-- A row put behind the others. -/
theorem run_row (w : World) (B : Nat) (ty : TypeId) (pv u : Value) (l : List UInt32) (rows : List (List UInt32)) (g0 : Nat) (h : PartsAt w B pv rows) (hl : rows.length < 1000000) (hb : B ≤ w.heap.size) (hsrc : Blk w g0 22 #[u]) (hu : u.oneCell' = true)
    (ho : Oq w B u l) (hap : ∀ vals : List Value, vals.length = rows.length → w.ownsRow B 22 1 pv rows.length vals → ∀ i b, (vals.getD i nilv).ownBlock = some b → u.ownBlock ≠ some b) :
    ∃ v' w', (Builtin.append_ #[26, 26] ty #[pv, .slice (some ⟨g0, 0, none⟩) 1 1]).run Try.prog w = .ok v' w' ∧ PartsAt w' B v' (rows ++ [l]) ∧ w.grownBy w' pv.ownBlock := by
  obtain ⟨i, hi, hz, hs, hby⟩ := info22
  obtain ⟨vals, h1, h2, h3⟩ := h
  obtain ⟨v', w', hr, h4, h5, _, _⟩ := run_append_own_at (P := Try.prog) (w := w) B 26 ty 22 i (.slice none 0 0) 1 24 Try.underlying26 hi hz hs hby rfl (by decide) pv rows.length vals h2 ⟨g0, 0, none⟩ 1 1 [u] rfl (src_val hsrc) (by intro x hx; rw [List.mem_singleton] at hx; subst hx; exact hu) (by unfold maxLen; omega) (by omega) hb
  have hstill : Still w w' := fun g cur hk => (h5.block g hk.lt (fun e => by
    rcases h2.2 with ⟨rfl, _⟩ | ⟨g', cap, cur', rfl, _, hg', _⟩
    · cases e
    · cases e
      unfold Blk at hk
      rw [hg'] at hk
      injection hk with hk
      injection hk with _ h2
      exact absurd h2 (by decide))).trans hk
  refine ⟨v', w', hr, ⟨vals ++ [u], by simp [h1], by rw [List.length_append]; exact h4, ⟨fun j => ?_, fun j k b hjk hj hk => ?_⟩⟩, h5⟩
  · rw [getD_app, getD_app, h1]
    by_cases e : j = rows.length
    · rw [if_pos e, if_pos e]; exact ho.still hstill
    · rw [if_neg e, if_neg e]; exact (h3.own j).still hstill
  · simp only [getD_app] at hj hk
    by_cases e : j = vals.length
    · rw [if_pos e] at hj
      rw [if_neg (by omega)] at hk
      exact hap vals h1 h2 k b hk hj
    · rw [if_neg e] at hj
      by_cases e2 : k = vals.length
      · rw [if_pos e2] at hk
        exact hap vals h1 h2 j b hj hk
      · rw [if_neg e2] at hk
        exact h3.apart j k b hjk hj hk
/-- A row that reads so. -/
def RRv (w : World) (v : Value) (ls : List (List UInt32)) : Prop := ∃ A c, v = .slice A ls.length c ∧ ls.length ≤ c ∧ (0 < ls.length → ∃ b o, A = some ⟨b, o, none⟩ ∧ b < w.heap.size ∧ ∀ i, i < ls.length → ∃ u, w.cell? ⟨b, o + i, none⟩ = some u ∧ RV w u (ls.getD i []))
theorem RRv.kept {w w' : World} {v : Value} {ls : List (List UInt32)} (h : RRv w v ls) (hb : Below w.heap.size w w') : RRv w' v ls := by
  obtain ⟨A, c, h1, h2, h3⟩ := h
  refine ⟨A, c, h1, h2, fun h0 => ?_⟩
  obtain ⟨b, o, h4, h5, h6⟩ := h3 h0
  refine ⟨b, o, h4, Nat.lt_of_lt_of_le h5 hb.size, fun i hi => ?_⟩
  obtain ⟨u, h7, h8⟩ := h6 i hi
  exact ⟨u, (hb.cell h5).trans h7, h8.kept hb⟩
theorem PartsAt.rr {w : World} {B : Nat} {pv : Value} {rows : List (List UInt32)} (h : PartsAt w B pv rows) (hl : ∀ l ∈ rows, l.length ≤ 1000000) : RRv w pv rows := by
  obtain ⟨vals, h1, h2, h3⟩ := h
  rcases h2.2 with ⟨rfl, h0⟩ | ⟨g, cap, cur, rfl, hB, hg, hc, _, hsz, htake⟩
  · obtain rfl : rows = [] := List.length_eq_zero_iff.1 h0
    exact ⟨none, 0, rfl, Nat.le_refl _, fun h => absurd h (by simp)⟩
  · have hblk : Blk w g 22 cur := hg
    refine ⟨_, cap, rfl, hc, fun _ => ⟨g, 0, rfl, hblk.lt, fun i hi => ⟨vals.getD i nilv, ?_, ?_⟩⟩⟩
    · rw [Nat.zero_add, hblk.cell]
      have h4 : (cur.toList.take (rows.length * 1))[i]? = vals[i]? := by rw [htake]
      rw [List.getElem?_take_of_lt (by omega)] at h4
      rw [List.getD_eq_getElem?_getD, ← Array.getElem?_toList, h4, List.getElem?_eq_getElem (by omega)]
      rfl
    · exact (h3.own i).rv (by
        have : rows.getD i [] ∈ rows := by
          rw [List.getD_eq_getElem?_getD, List.getElem?_eq_getElem hi]; exact List.getElem_mem hi
        exact hl _ this)
/-- The cell of a row, and what becomes of all when one is put behind it. -/
theorem PartsAt.cell {w : World} {B : Nat} {pv : Value} {rows : List (List UInt32)} (h : PartsAt w B pv rows) {i : Nat} (hi : i < rows.length) :
    ∃ g cap u, pv = .slice (some ⟨g, 0, none⟩) rows.length cap ∧ w.cell? ⟨g, i, none⟩ = some u ∧ w.frozen? ⟨g, i, none⟩ = false ∧ (∃ cur, Blk w g 22 cur) ∧ Oq w B u (rows.getD i []) ∧
      ∀ w1 v' x, Below w.heap.size w w1 → ∀ w', Oq w' B v' (rows.getD i [] ++ [x]) → w1.grownBy w' u.ownBlock → (∃ b, v'.ownBlock = some b ∧ (u.ownBlock = some b ∨ w1.heap.size ≤ b)) →
        w'.cell? ⟨g, i, none⟩ = some u ∧ w'.frozen? ⟨g, i, none⟩ = false ∧ PartsAt (w'.setCell ⟨g, i, none⟩ v') B pv (rows.set i (rows.getD i [] ++ [x])) := by
  obtain ⟨vals, h1, h2, h3⟩ := h
  have h20 := h2
  rcases h2.2 with ⟨rfl, h0⟩ | ⟨g, cap, cur, rfl, hB, hg, hc, hm, hsz, htake⟩
  · omega
  · have hblk : Blk w g 22 cur := hg
    have hcur : ∀ j, j < rows.length → cur[j]? = some (vals.getD j nilv) := fun j hj => by
      have h4 : (cur.toList.take (rows.length * 1))[j]? = vals[j]? := by rw [htake]
      rw [List.getElem?_take_of_lt (by omega)] at h4
      rw [List.getD_eq_getElem?_getD, ← Array.getElem?_toList, h4, List.getElem?_eq_getElem (by omega)]
      rfl
    refine ⟨g, cap, vals.getD i nilv, rfl, by rw [hblk.cell]; exact hcur i hi, hblk.thaw _, ⟨cur, hblk⟩, h3.own i, fun w1 v' x hb1 w' ho' hg' hbk => ?_⟩
    have hblk1 := hblk.kept hb1 hblk.lt
    have h31 := h3.still (Still.below hb1)
    have hblk' : Blk w' g 22 cur := (hg'.block g hblk1.lt (fun e => by
      obtain ⟨_, _, c2, hc2⟩ := (h31.own i).lt e.symm
      unfold Blk at hc2 hblk1
      rw [hblk1] at hc2
      injection hc2 with hc2
      injection hc2 with _ h2
      exact absurd h2 (by decide))).trans hblk1
    refine ⟨by rw [hblk'.cell]; exact hcur i hi, hblk'.thaw _, ?_⟩
    have hfam := Fam.push (k := i) h31 ho' hg' hbk
    have hst : Still w' (w'.setCell ⟨g, i, none⟩ v') := Still.put hblk' (by decide) v'
    refine ⟨vals.set i v', by simp [h1], ⟨by simp [h1], .inr ⟨g, cap, cur.setIfInBounds i v', by rw [List.length_set], hB, hblk'.put i v', by rw [List.length_set]; exact hc, hm, by simp [hsz], ?_⟩⟩, ?_⟩
    · rw [List.length_set, Array.toList_setIfInBounds, List.take_set, htake]
    · have hi2 : i < vals.length := by omega
      refine ⟨fun j => ?_, fun j k b hjk hj hk => ?_⟩
      · have := (hfam.own j).still hst
        unfold upd at this
        by_cases e : j = i
        · subst e
          simpa [hi, hi2] using this
        · simpa [e, Ne.symm e, List.getElem?_set] using this
      · have := hfam.apart j k b hjk
        unfold upd at this
        refine this ?_ ?_
        · by_cases e : j = i
          · subst e; simpa [hi2] using hj
          · simpa [e, Ne.symm e, List.getElem?_set] using hj
        · by_cases e : k = i
          · subst e; simpa [hi2] using hk
          · simpa [e, Ne.symm e, List.getElem?_set] using hk
end Go.Proofs.Ytcinbmekjlmdpaa

/-! The chapter's example; Of, Edge, Twin. -/
namespace Go.Proofs.Ytcinbmekjlmdpaa
open Go.RowKit

set_option maxRecDepth 100000 in
theorem and1 (n : Int) : bits .and .i64 n 1 = n % 2 := by
  have h127 : (BitVec.ofInt 64 1).toNat = 2 ^ 1 - 1 := by decide
  have key : (BitVec.ofInt 64 n &&& BitVec.ofInt 64 1).toNat = (n % ((2 ^ 64 : Nat) : Int)).toNat % 2 ^ 1 := by
    rw [BitVec.toNat_and, BitVec.toNat_ofInt, h127, Nat.and_two_pow_sub_one_eq_mod]
  show IntKind.i64.wrap ((BitVec.ofInt 64 n &&& BitVec.ofInt 64 1).toNat : Nat) = n % 2
  rw [key, IntKind.wrap_i64]
  omega
set_option maxRecDepth 100000 in
theorem run_mul2 (x : UInt32) (w : World) : (binOp .mul 30 (.int .u32 2) (V x)).run Try.prog w = .ok (V (2 * x)) w := by
  show Result.ok (Value.int .u32 (IntKind.u32.wrap (2 * (x.toNat : Int)))) w = _
  rw [V_def, UInt32.toNat_mul, IntKind.wrap_u32]; simp
set_option maxRecDepth 100000 in
theorem run_2mul (x : UInt32) (w : World) : (binOp .mul 30 (V x) (.int .u32 2)).run Try.prog w = .ok (V (x * 2)) w := by
  show Result.ok (Value.int .u32 (IntKind.u32.wrap ((x.toNat : Int) * 2))) w = _
  rw [V_def, UInt32.toNat_mul, IntKind.wrap_u32]; simp
set_option maxRecDepth 100000 in
theorem run_addV (x y : UInt32) (w : World) : (binOp .add 30 (V x) (V y)).run Try.prog w = .ok (V (x + y)) w := by
  show Result.ok (Value.int .u32 (IntKind.u32.wrap (x.toNat + y.toNat : Int))) w = _
  rw [V_def, UInt32.toNat_add, IntKind.wrap_u32]; simp
set_option maxRecDepth 100000 in
theorem run_add1 (x : UInt32) (w : World) : (binOp .add 30 (V x) (.int .u32 1)).run Try.prog w = .ok (V (x + 1)) w := run_addV x 1 w
set_option maxRecDepth 100000 in
theorem run_quo2 (x : UInt32) (w : World) : (binOp .quo 30 (V x) (.int .u32 2)).run Try.prog w = .ok (V (x / 2)) w := by
  have h := x.toNat_lt
  show Result.ok (Value.int .u32 (IntKind.u32.wrap ((x.toNat : Int).tdiv 2))) w = _
  rw [V_def, UInt32.toNat_div, IntKind.wrap_u32, Int.tdiv_eq_ediv_of_nonneg (by omega)]
  congr 2
  show _ = (((x.toNat / 2 : Nat)) : Int)
  omega
set_option maxRecDepth 100000 in
theorem ofInt_w (x : UInt32) : BitVec.ofInt 32 (x.toNat : Int) = x.toBitVec := by
  apply BitVec.eq_of_toNat_eq
  simp
set_option maxRecDepth 100000 in
theorem run_xor1 (x : UInt32) (w : World) : (binOp .xor 30 (V x) (.int .u32 1)).run Try.prog w = .ok (V (x ^^^ 1)) w := by
  show (Op.intBits .xor .u32 x.toNat (1 : UInt32).toNat).run Try.prog w = _
  show Result.ok (Value.int .u32 (IntKind.u32.wrap ((BitVec.ofInt 32 (x.toNat : Int) ^^^ BitVec.ofInt 32 ((1 : UInt32).toNat : Int)).toNat : Int))) w = _
  rw [ofInt_w, ofInt_w, V_def]
  have h := (x ^^^ 1).toNat_lt
  have e : (x.toBitVec ^^^ (1 : UInt32).toBitVec).toNat = (x ^^^ 1).toNat := rfl
  rw [e, IntKind.wrap_u32]
  congr 2
  omega
set_option maxRecDepth 100000 in
theorem conv37 (n : Int) (x : UInt32) (h : n = (x.toNat : Int)) (w : World) : (convert 3 30 (.int .i64 n)).run Try.prog w = .ok (V x) w := by
  subst h
  have hl := x.toNat_lt
  have e : (convert 3 30 (.int .i64 (x.toNat : Int))).run Try.prog w = .ok (.int .u32 (IntKind.u32.wrap (x.toNat : Int))) w := by
    simp [convert, run_underlying Try.underlying3, run_underlying Try.underlying30, Conv.intToInt]
  rw [e, IntKind.wrap_u32, V_def]
  congr 2
  omega
set_option maxRecDepth 100000 in
theorem ins_ex : ins [2, 5, 7] 5 [9] = [2, 5, 9, 7] := by decide
set_option maxRecDepth 100000 in
theorem RV.fresh (w : World) (l : List UInt32) (n : Nat) (hn : n = l.length) (hl : l.length ≤ 1000000) : RV (w.alloc (.cells (l.map V).toArray 30)) (.slice (some ⟨w.heap.size, 0, none⟩) n n) l :=
  ⟨_, n, by rw [hn], by omega, Rd.fresh w l hl⟩
/-- The edge's dart. -/
def par (e : Int) : UInt32 := if e % 2 = 0 then 0 else 1
set_option maxRecDepth 100000 in
theorem conv_par (e : Int) : ∀ w, (convert 3 30 (.int .i64 (bits .and .i64 e 1))).run Try.prog w = .ok (V (par e)) w := conv37 (bits .and .i64 e 1) (par e) (by
    rw [and1]
    unfold par
    split
    · rename_i h; rw [h]; rfl
    · have : e % 2 = 1 := by omega
      rw [this]; rfl)
set_option maxRecDepth 100000 in
theorem awake_ins (w : World) : Calls Try.prog 61 #[.slice (some ⟨w.heap.size, 0, none⟩) 3 3, .int .u32 5, .slice (some ⟨w.heap.size + 1, 0, none⟩) 1 1] ((w.alloc (.cells #[.int .u32 2, .int .u32 5, .int .u32 7] 30)).alloc (.cells #[.int .u32 9] 30)) fun e w' => ∃ x, e = .returned x ∧ RV w' x [2, 5, 9, 7] ∧ Below (w.heap.size + 2) ((w.alloc (.cells #[.int .u32 2, .int .u32 5, .int .u32 7] 30)).alloc (.cells #[.int .u32 9] 30)) w' := by
  have h1 : RV (w.alloc (.cells #[.int .u32 2, .int .u32 5, .int .u32 7] 30)) (.slice (some ⟨w.heap.size, 0, none⟩) 3 3) [2, 5, 7] := RV.fresh w [2, 5, 7] 3 rfl (by decide)
  have h2 : RV ((w.alloc (.cells #[.int .u32 2, .int .u32 5, .int .u32 7] 30)).alloc (.cells #[.int .u32 9] 30)) (.slice (some ⟨w.heap.size + 1, 0, none⟩) 1 1) [9] := by
    have := RV.fresh (w.alloc (.cells #[.int .u32 2, .int .u32 5, .int .u32 7] 30)) [9] 1 rfl (by decide)
    rw [show (w.alloc (.cells #[.int .u32 2, .int .u32 5, .int .u32 7] 30)).heap.size = w.heap.size + 1 by simp] at this
    exact this
  have h := insert_rv _ _ _ [2, 5, 7] [9] 5 (h1.kept ((Below.refl _ _).alloc (Nat.le_refl _) (.cells #[.int .u32 9] 30))) h2 (by decide)
  refine Calls.mono h ?_
  rintro e w' ⟨x, rfl, hx, hb⟩
  rw [ins_ex] at hx
  exact ⟨x, rfl, hx, by simpa using hb⟩
set_option maxRecDepth 100000 in
theorem awake_row (w : World) : RV (w.alloc (.cells #[.int .u32 2, .int .u32 5, .int .u32 9, .int .u32 7] 30)) (.slice (some ⟨w.heap.size, 0, none⟩) 4 4) [2, 5, 9, 7] := RV.fresh w [2, 5, 9, 7] 4 rfl (by decide)
set_option maxRecDepth 100000 in
theorem V6 : V (2 * 3 + par 0) = .int .u32 6 := by kernel_rfl
set_option maxRecDepth 100000 in
theorem V7 : V (6 ^^^ 1) = .int .u32 7 := by kernel_rfl
attribute [local irreducible] V
set_option maxRecDepth 100000 in
theorem of_rv (w : World) (id : UInt32) (e : Int) : Calls Try.prog 20 #[V id, .int .i64 e] w fun e' w' => e' = .returned (V (2 * id + par e)) ∧ w = w' := by
  have h1 := run_mul2
  have h2 := run_addV
  have h3 := conv_par e
  generalize par e = p at *
  go_enter Try.func20, Try.ntmps20
  go_wp2
  go_ret
  exact ⟨rfl, rfl⟩
set_option maxRecDepth 100000 in
theorem twin_rv (w : World) (d : UInt32) : Calls Try.prog 32 #[V d] w fun e' w' => e' = .returned (V (d ^^^ 1)) ∧ w = w' := by
  have h1 := run_xor1
  go_enter Try.func32, Try.ntmps32
  go_wp2
  go_ret
  exact ⟨rfl, rfl⟩
end Go.Proofs.Ytcinbmekjlmdpaa

/-! cmp.Compare; a row that rises is left as it is by the stable sort and by CompactFunc. -/
namespace Go.Proofs.Ytcinbmekjlmdpaa
open Go.RowKit

theorem gtT {x y : UInt32} (h : y < x) (w : World) : (binOp .gtr 30 (V x) (V y)).run Try.prog w = .ok (.bool true) w := by rw [run_gtr]; simp [h]
theorem gtF {x y : UInt32} (h : ¬ y < x) (w : World) : (binOp .gtr 30 (V x) (V y)).run Try.prog w = .ok (.bool false) w := by rw [run_gtr]; simp [h]
/-- How two numbers compare. -/
def cmpv (x y : UInt32) : Int := if x < y then -1 else if y < x then 1 else 0
attribute [local irreducible] V
set_option maxRecDepth 100000 in
theorem cmp_walk (w : World) (x y : UInt32) : Calls Try.prog 54 #[V x, V y] w fun e w' => e = .returned (.int .i64 (cmpv x y)) ∧ w = w' := by
  unfold cmpv
  by_cases h1 : x < y
  · rw [if_pos h1]
    have r1 := ltT h1
    clear h1
    go_enter Try.func54, Try.ntmps54
    go_wp2_with (go_at_call 68; refine (nan_walk _ _).mono ?_; rintro e w' ⟨rfl, rfl⟩)
    go_ret
    exact ⟨rfl, rfl⟩
  · rw [if_neg h1]
    have r1 := ltF h1
    by_cases h2 : y < x
    · rw [if_pos h2]
      have r2 := gtT h2
      clear h1 h2
      go_enter Try.func54, Try.ntmps54
      go_wp2_with (go_at_call 68; refine (nan_walk _ _).mono ?_; rintro e w' ⟨rfl, rfl⟩)
      go_ret
      exact ⟨rfl, rfl⟩
    · rw [if_neg h2]
      have r2 := gtF h2
      clear h1 h2
      go_enter Try.func54, Try.ntmps54
      go_wp2_with (go_at_call 68; refine (nan_walk _ _).mono ?_; rintro e w' ⟨rfl, rfl⟩)
      go_ret
      exact ⟨rfl, rfl⟩
theorem cmpv_gt {x y : UInt32} (h : y < x) : cmpv x y = 1 := by
  unfold cmpv
  rw [if_neg (fun q => by rw [UInt32.lt_iff_toNat_lt] at *; omega), if_pos h]
set_option maxRecDepth 100000 in
theorem id_walk (w : World) (x : UInt32) : Calls Try.prog 44 #[V x] w fun e w' => e = .returned (V x) ∧ w = w' := by
  go_enter Try.func44, Try.ntmps44
  go_wp2
  go_ret
  exact ⟨rfl, rfl⟩
def Gt1 (w : World) (x y : UInt32) (e : Ending) (w' : World) : Prop := e = .returned (.int .i64 (cmpv x y)) ∧ ∃ n, w' = w.drewN n
attribute [local irreducible] wpList in
set_option maxRecDepth 100000 in
set_option maxHeartbeats 1000000 in
theorem clo1_walk (w : World) (pb : Nat) (x y : UInt32) (hp : w.cell? ⟨pb, 0, none⟩ = some (.func (.func 44) #[] #[])) :
    Calls Try.prog 53 #[V x, V y, .pointer (some ⟨pb, 0, none⟩)] w (Gt1 w x y) := by
  have hc := fun W => cmp_walk W x y
  have HC := Lib.hid hc
  clear hc
  generalize hq : cmpv x y = q at HC
  have HQ := Lib.hid hq
  clear hq
  go_enter Try.func53, Try.ntmps53
  go_wp2
  go_quiet ((first | (go_at_call 44; exact Calls.quiet_of_same ((id_walk _ _).mono fun _ _ h => ⟨h.1, h.2.symm⟩)) | (go_at_call 54; exact Calls.quiet_of_same ((HC.out _).mono fun _ _ h => ⟨h.1, h.2.symm⟩))))
  go_wp2
  go_ret
  exact ⟨by rw [HQ.out]; rfl, _, rfl⟩
end Go.Proofs.Ytcinbmekjlmdpaa

/-! graph.rising of a row that rises. -/
namespace Go.Proofs.Ytcinbmekjlmdpaa
open Go.RowKit

def Drew (w : World) (e : Ending) (w' : World) : Prop := e = .returned (.tuple #[]) ∧ ∃ n, w' = w.drewN n
/-- The closure that compares, and where what it holds lies. -/
def Cl1 (w : World) (pb : Nat) : Prop := w.cell? ⟨pb, 0, none⟩ = some (.func (.func 44) #[] #[])
theorem Cl1.dr {w : World} {pb : Nat} (h : Cl1 w pb) (a : Nat) : Cl1 (w.drewN a) pb := h
theorem quiet_sum {P : Program} {f : FuncId} {args : Array Value} {w : World} {n k : Nat} {v : Value}
    (h : Calls P f args (w.drewN (n + k)) fun e w' => e = .returned v ∧ ∃ m, w' = (w.drewN (n + k)).drewN m) : Calls P f args (w.drewN (n + k)) fun e w'' => e = .returned v ∧ ∃ m, w'' = w.drewN (n + m) :=
  h.mono fun _ _ ⟨he, m, hm⟩ => ⟨he, k + m, by rw [hm, World.drewN_drewN, Nat.add_assoc]⟩
theorem rise_at {l : List UInt32} (h : l.Pairwise (· < ·)) {k : Nat} (h0 : 0 < k) (hk : k < l.length) : l.getD (k - 1) 0 < l.getD k 0 := by
  have := List.pairwise_iff_getElem.1 h (k - 1) k (by omega) hk (by omega)
  rwa [getD_at, getD_at] at this
attribute [local irreducible] V
attribute [local irreducible] wpList in
set_option maxRecDepth 100000 in
set_option maxHeartbeats 2000000 in
theorem isort_walk (w : World) (A : Option Addr) (c pb : Nat) (l : List UInt32) (h : Rd w A l) (hs : l.Pairwise (· < ·)) (hp : Cl1 w pb) :
    Calls Try.prog 82 #[.slice A l.length c, .int .i64 0, .int .i64 l.length, .func (.func 53) #[] #[.pointer (some ⟨pb, 0, none⟩)]] w (Drew w) := by
  have H := Lib.hid h
  have S := Lib.hid hs
  have HP := Lib.hid hp
  have hn := h.len
  clear h hs hp
  go_enter Try.func82, Try.ntmps82
  go_wp2
  go_loopw [8] (fun i wr => ∃ k n : Nat, 1 ≤ k ∧ (k ≤ l.length ∨ k = 1) ∧ i = .int .i64 k ∧ wr = w.drewN n) (fun i _ => l.length - (intOf i).toNat)
  case atStart => exact ⟨1, 0, Nat.le_refl _, .inr rfl, rfl, rfl⟩
  case round =>
    obtain ⟨k, n, hk1, hk2, rfl, rfl⟩ := hrel
    by_cases hlt : k < l.length
    · obtain ⟨b, o, rfl, hc⟩ := H.out.spot (by omega)
      have HC := Lib.hid hc
      clear hc
      go_wp2
      go_loopw [9] (fun j wr => j = .int .i64 k ∧ ∃ n, wr = w.drewN n) (fun _ _ => 0)
      case atStart => exact ⟨rfl, _, rfl⟩
      case round =>
        obtain ⟨rfl, n2, rfl⟩ := hrel
        have c1 := HC.out k hlt
        have c2 := HC.out (k - 1) (by omega)
        rw [getD_at hlt] at c1
        rw [getD_at (by omega : k - 1 < l.length)] at c2
        have hr := rise_at S.out (by omega) hlt
        have HG := Lib.hid (cmpv_gt hr)
        have hq : (k : Int) - 1 = ((k - 1 : Nat) : Int) := by omega
        have q0 : (0 : Int) < (k : Int) := by omega
        have q1 : (1 : Int) ≤ (k : Int) := by omega
        have q2 : decide (0 < k) = true := decide_eq_true (by omega)
        have hjn : k - 1 < l.length := by omega
        have HCL := Lib.hid (fun W hW => clo1_walk W pb (l.getD k 0) (l.getD (k - 1) 0) hW)
        have hcl2 : ∀ W, Cl1 W pb → Calls Try.prog 53 #[V (l.getD k 0), V (l.getD (k - 1) 0), .pointer (some ⟨pb, 0, none⟩)] W fun e w' => e = .returned (.int .i64 1) ∧ ∃ m, w' = W.drewN m := fun W hW => (HCL.out W hW).mono fun e w' hh => by
          obtain ⟨h1, h2⟩ := hh
          rw [HG.out] at h1
          exact ⟨h1, h2⟩
        have HC2 := Lib.hid hcl2
        clear hr hcl2 HCL HG
        generalize l.getD k 0 = x at *
        generalize k - 1 = j at *
        generalize l.getD j 0 = y at *
        go_wp2
        have hwr : IntKind.i64.wrap ((j : Nat) : Int) = (j : Int) := IntWalk.i64_in _ (by omega)
        go_quiet ((go_at_call 53; exact quiet_sum (HC2.out _ (HP.out.dr _))))
        clear hwr hq
        go_wp2
        go_roundw
        case rel => exact ⟨k + 1, _, by omega, .inl (by omega), by go_num, rfl⟩
        case measure => simp [intOf]; omega
    · go_wp2
      go_end0
      exact ⟨rfl, _, rfl⟩
end Go.Proofs.Ytcinbmekjlmdpaa
