/- Write. -/
import Derived.Test.YtcbfnbmkogeehaaK6
import Derived.Deep.RegionLaw
namespace Go.Proofs.Ytcbfnbmkogeehaa
open Go.RowKit
open Go.ChangeMaps Go.WideShapes
theorem own_tight {H : Type} {P : Program} {w : World} {k : TypeId} {R : Value → Option (DataW H × List MemPlace)} {b n : Nat} {D : DataW H} (h : w.ownsMap P k R b n D) : w.ownsMap P k R b (Maps.size D) D := by
  obtain ⟨es, clock, hb, F, hs, rfl⟩ := h
  exact ⟨es, clock, hb, F, by simp [Maps.size, length_sorted], rfl⟩
theorem turned_ex {w w' : World} {b : Nat} (h : w.mapTurned w' b) : Ex b w w' := by
  obtain ⟨es, clock, es', clock', hb, rfl⟩ := h
  exact ⟨rfl, rfl, rfl, by simp [setBlock], fun k _ hne => heap_setBlock_other hb _ hne⟩
/-- A sector written. -/
def Dk.wrote (s : Dk) (i : Nat) (b : List UInt8) : Dk := { s with shown := s.shown.set i b, waits := s.waits.set i true }
theorem Dk.Ok.wrote {s : Dk} (h : s.Ok) (i : Nat) (b : List UInt8) (hb : b.length = 512) : (s.wrote i b).Ok :=
  { h with
    sh := by show (s.shown.set i b).length = _; rw [List.length_set]; exact h.sh
    wt := by show (s.waits.set i true).length = _; rw [List.length_set]; exact h.wt
    bs := by
      intro l hl
      rcases List.mem_or_eq_of_mem_set hl with h1 | h1
      · exact h.bs l h1
      · rw [h1]; exact hb
    same := by
      intro j hj
      show (s.shown.set i b)[j]? = s.last[j]?
      have hj2 : (s.waits.set i true)[j]? = some false := hj
      rw [List.getElem?_set] at hj2
      split at hj2
      · split at hj2 <;> cases hj2
      · rename_i hne
        rw [List.getElem?_set, if_neg hne]
        exact h.same j hj2 }
theorem Rep.wrote {w w' : World} {g lb mb : Nat} {s : Dk} {D : DataW Value} (h : Rep w g lb mb s D) (i : Nat) (b : List UInt8) (hb : b.length = 512) (hi : i < s.last.length) (hc : (Maps.size D : Int) + 1 ≤ s.done)
    (n : Nat) (ho : w'.ownsMap Try.prog 3 RV mb n (D.put (.int .i64 (i : Int)) (.held (B b)))) (ht : w.mapTurned w' mb) : Rep w' g lb mb (s.wrote i b) (D.put (.int .i64 (i : Int)) (.held (B b))) := by
  have K := Maps.int_keyed (P := Try.prog) Try.underlying3
  have hD := h.own.tidy K
  have hx := turned_ex ht
  have hsz := Maps.size_put (k := .int .i64 (i : Int)) hD (.held (B b))
  refine { ok := h.ok.wrote i b hb, blk := hx.blk h.blk (Ne.symm h.mg), lst := hx.blk h.lst (Ne.symm h.ml), own := own_tight ho, cnt := ?_, lg := h.lg, mg := h.mg, ml := h.ml, has := ?_, val := ?_ }
  · show (Maps.size (D.put (.int .i64 (i : Int)) (.held (B b))) : Int) ≤ s.done
    rw [hsz]; split <;> omega
  · intro k hk
    show _ = (decide (0 ≤ k) && ((s.waits.set i true)[k.toNat]? == some true))
    by_cases hki : k = (i : Int)
    · subst hki
      rw [Maps.has_put_same (k := .int .i64 (i : Int)) hD.isMap trivial]
      have := h.ok.wt
      simp [show i < s.waits.length by omega]
    · rw [Maps.has_put_other (by simp; exact hki), h.has k hk]
      by_cases h0 : 0 ≤ k
      · rw [List.getElem?_set, if_neg (by omega)]
      · simp [h0]
  · intro j l hw hs z
    have hw2 : (s.waits.set i true)[j]? = some true := hw
    have hs2 : (s.shown.set i b)[j]? = some l := hs
    by_cases hji : j = i
    · subst hji
      have := h.ok.sh
      rw [List.getElem?_set, if_pos rfl, if_pos (by omega)] at hs2
      cases hs2
      exact Maps.atKey_put_same (k := .int .i64 (j : Int)) hD.isMap trivial _ _
    · rw [List.getElem?_set, if_neg (Ne.symm hji)] at hw2 hs2
      rw [Maps.atKey_put_other (by simp; omega)]
      exact h.val j l hw2 hs2 z

/-- 'm[k] = v' in a region that draws. -/
theorem step_mapUpdate {ops : Array Oper} {o : Oper} {a : Act} {w : World} {K : Act → World → Prop} {Q : Exit → Act → World → Prop} {E : Prop} (hgd : o.guard = none) (m x v : Operand)
    (ho : o.op = .mapUpdate 57 m x v) (mb n : Nat) (D : DataW Value) (i : Nat) (val : Value) (hm : a.eval m = .map (some mb)) (hx : a.eval x = .int .i64 (i : Int)) (hv : a.eval v = val)
    (hown : w.ownsMap Try.prog 3 RV mb n D) (hn : n < maxLen) (hi : i < 4096)
    (h : ∀ w', w'.ownsMap Try.prog 3 RV mb (n + 1) (D.put (.int .i64 (i : Int)) (.held val)) → w.mapTurned w' mb → K (a.put o.dst undef) w') :
    if Region.wanted o (yielded ops a.tmps) = true then Oper.wp Try.prog o a w K Q else E := by
  have hw : Region.wanted o (yielded ops a.tmps) = true := by simp [Region.wanted, hgd]
  rw [if_pos hw]
  have hk : keyOf Try.prog 3 (.int .i64 (i : Int)) = some (.int .i64 (i : Int)) := Maps.keyOf_int_mk Try.underlying3 (wf64 _ (by omega))
  obtain ⟨w', hrun, h1, h2⟩ := hown.store (Maps.int_keyed Try.underlying3) Try.underlying57 hn (val := val) (d := .held val) (ps := []) hk rfl
  unfold Oper.wp
  simp only [execOp, ho, Sem.run_bind, Sem.run_pure, Result.andThen_ok, hm, hx, hv, hrun]
  exact h w' h1 h2
theorem step_load_43 {ops : Array Oper} {o : Oper} {a : Act} {w : World} {K : Act → World → Prop} {Q : Exit → Act → World → Prop} {E : Prop} (hgd : o.guard = none) (x : Operand) (ho : o.op = .load 43 x)
    (g : Nat) (hx : a.eval x = .pointer (some ⟨g, 0, none⟩)) (b : List UInt8) (hb : b.length = 512) (hg : Blk w g 43 (b.map U).toArray)
    (h : K (a.put o.dst (B b)) w) : if Region.wanted o (yielded ops a.tmps) = true then Oper.wp Try.prog o a w K Q else E := by
  have hw : Region.wanted o (yielded ops a.tmps) = true := by simp [Region.wanted, hgd]
  rw [if_pos hw]
  exact wp_load_row 43 x ho g hx 43 _ (0, 0) _ hg Try.underlying43 rfl (BRow b hb) h

end Go.Proofs.Ytcbfnbmkogeehaa
