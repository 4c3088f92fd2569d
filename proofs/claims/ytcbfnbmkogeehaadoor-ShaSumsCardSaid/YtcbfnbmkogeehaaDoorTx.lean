/- The real Sum of one, of two and of three parts; compares of digests. -/
import Derived.Test.YtcbfnbmkogeehaaDoorX1
import Derived.Stop.BytesEq
namespace Go.Proofs.YtcbfnbmkogeehaaDoor
open Go.RowKit
theorem tmod_nat (p : Int) (n : Nat) : ∃ i : Nat, i ≤ n ∧ (IntKind.u64.wrap p).tmod ((n : Int) + 1) = (i : Int) := by
  have h : 0 ≤ IntKind.u64.wrap p := wrap_u64_nonneg p
  refine ⟨((IntKind.u64.wrap p).tmod ((n : Int) + 1)).toNat, ?_, ?_⟩
  · rw [Int.tmod_eq_emod_of_nonneg h]; have := Int.emod_lt_of_pos (IntKind.u64.wrap p) (show (0 : Int) < (n : Int) + 1 by omega); omega
  · rw [Int.tmod_eq_emod_of_nonneg h]; have := Int.emod_nonneg (IntKind.u64.wrap p) (show (n : Int) + 1 ≠ 0 by omega); omega
theorem eq25 (l : List UInt8) (hl : l.length = 32) (w : World) : (Op.equalIn 10000 25 (.agg (l.map U).toArray) (.agg (l.map U).toArray)).run Tryd.prog w = .ok true w := by
  have h := run_equalIn_bytes (P := Tryd.prog) w 9998 25 5 32 Tryd.underlying25 Tryd.underlying5 (fun w => by kernel_rfl) l l hl hl
  rw [beq_self_eq_true] at h
  exact h
theorem eqSum (l : List UInt8) : ∀ w, (Op.equalIn 10000 25 (.agg ((SUM l).map U).toArray) (.agg ((SUM l).map U).toArray)).run Tryd.prog w = .ok true w := eq25 _ (SUM_length l)
theorem wp_eq25 {o : Oper} {a : Act} {w : World} {K : Act → World → Prop} {Q : Exit → Act → World → Prop} (x y : Operand) (t2 : TypeId) (ho : o.op = .binOp .eql 25 x y t2) (l : List UInt8) (hl : l.length = 32)
    (hx : a.eval x = .agg (l.map U).toArray) (hy : a.eval y = .agg (l.map U).toArray) (h : K (a.put o.dst (.bool true)) w) : o.wp Tryd.prog a w K Q := by
  have hm : Tryd.prog.eqGuardType Tryd.prog.depth 25 = false := by kernel_rfl
  unfold Oper.wp execOp
  simp only [ho, hx, hy, Sem.run_bind, run_eqGuard_agg w .eql 25 x y _ _ hm, run_eql_struct, eq25 l hl w, Result.andThen_ok, Sem.run_pure]
  exact h
theorem sum_is (w : World) (b n : Nat) (l : List ByteArray) (t : List UInt8) (ht : joined l = t) (hb : Blk w b 9 ((l.map Value.string).toArray)) (hn : n = l.length) (hsz : ∀ p ∈ l, p.size ≤ maxLen) (hlen : l.length < 100) (hk : Kt w) :
    Calls Tryd.prog 9 #[.slice (some ⟨b, 0, none⟩) n n] w fun e w' => e = .returned (.agg ((SUM t).map U).toArray) ∧ Below w.heap.size w w' := by
  subst ht
  exact sum_row w b n l hb hn hsz hlen hk
theorem joined1 (s : ByteArray) : joined [s] = s.data.toList := by simp [joined]
theorem joined2 (s : ByteArray) : joined [s, ⟨#[]⟩] = s.data.toList := by simp [joined]
theorem joined0 : joined [⟨#[]⟩] = [] := rfl
theorem joined3 (s : ByteArray) (i j : Nat) : joined [s.extract 0 i, s.extract i (i + j), s.extract (i + j) s.size] = s.data.toList := by
  have e1 : (s.extract 0 i).data.toList = s.data.toList.take i := by rw [ByteArray.data_extract, Array.toList_extract]; simp [List.extract]
  have e2 : (s.extract i (i + j)).data.toList = (s.data.toList.drop i).take j := by rw [ByteArray.data_extract, Array.toList_extract]; simp [List.extract]
  have e3 := extract_rest s (i + j)
  simp only [joined, List.flatMap_cons, List.flatMap_nil, List.append_nil, e1, e2, e3]
  rw [← List.drop_drop, List.take_append_drop, List.take_append_drop]
theorem sum_one (W : World) (b : Nat) (s : ByteArray) (hs : s.size ≤ maxLen) (hb : Blk W b 9 ([.string s] : List Value).toArray) (hk : Kt W) :
    Calls Tryd.prog 9 #[.slice (some ⟨b, 0, none⟩) 1 1] W fun e w' => e = .returned (.agg ((SUM s.data.toList).map U).toArray) ∧ Below W.heap.size W w' := by
  refine sum_is W b 1 [s] _ (joined1 s) hb rfl ?_ ?_ hk
  · intro p hp
    rw [List.mem_singleton.1 hp]
    exact hs
  · simp
theorem sum_zero (W : World) (b : Nat) (hb : Blk W b 9 ([.string ⟨#[]⟩] : List Value).toArray) (hk : Kt W) :
    Calls Tryd.prog 9 #[.slice (some ⟨b, 0, none⟩) 1 1] W fun e w' => e = .returned (.agg ((SUM []).map U).toArray) ∧ Below W.heap.size W w' := by
  refine sum_is W b 1 [⟨#[]⟩] _ joined0 hb rfl ?_ ?_ hk
  · intro p hp
    rw [List.mem_singleton.1 hp]
    exact Nat.zero_le _
  · simp
theorem sum_two (W : World) (b : Nat) (s : ByteArray) (hs : s.size ≤ maxLen) (hb : Blk W b 9 ([.string s, .string ⟨#[]⟩] : List Value).toArray) (hk : Kt W) :
    Calls Tryd.prog 9 #[.slice (some ⟨b, 0, none⟩) 2 2] W fun e w' => e = .returned (.agg ((SUM s.data.toList).map U).toArray) ∧ Below W.heap.size W w' := by
  refine sum_is W b 2 [s, ⟨#[]⟩] _ (joined2 s) hb rfl ?_ ?_ hk
  · intro p hp
    rcases List.mem_cons.1 hp with h | h
    · rw [h]; exact hs
    · rw [List.mem_singleton.1 h]; exact Nat.zero_le _
  · simp
theorem sum_three (W : World) (b : Nat) (s : ByteArray) (i j : Nat) (h1 : (s.extract 0 i).size ≤ maxLen) (h2 : (s.extract i (i + j)).size ≤ maxLen) (h3 : (s.extract (i + j) s.size).size ≤ maxLen)
    (hb : Blk W b 9 ([.string (s.extract 0 i), .string (s.extract i (i + j)), .string (s.extract (i + j) s.size)] : List Value).toArray) (hk : Kt W) :
    Calls Tryd.prog 9 #[.slice (some ⟨b, 0, none⟩) 3 3] W fun e w' => e = .returned (.agg ((SUM s.data.toList).map U).toArray) ∧ Below W.heap.size W w' := by
  refine sum_is W b 3 [_, _, _] _ (joined3 s i j) hb rfl ?_ ?_ hk
  · intro p hp
    rcases List.mem_cons.1 hp with h | h
    · rw [h]; exact h1
    · rcases List.mem_cons.1 h with h | h
      · rw [h]; exact h2
      · rw [List.mem_singleton.1 h]; exact h3
  · simp
theorem sum_none (w : World) (hk : Kt w) : Calls Tryd.prog 9 #[.slice none 0 0] w fun e w' => e = .returned (.agg ((SUM []).map U).toArray) ∧ Below w.heap.size w w' :=
  sum_walk w none 0 0 0 [] rfl (fun h => absurd h (by decide)) (fun i h => absurd h (by simp)) (fun h => absurd h (by decide)) (by simp) (by decide) hk
end Go.Proofs.YtcbfnbmkogeehaaDoor
