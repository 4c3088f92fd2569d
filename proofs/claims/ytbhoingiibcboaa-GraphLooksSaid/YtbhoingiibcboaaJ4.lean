/- slices.IndexFunc and DeleteFunc of edges, by any closure that only tells. -/
import Derived.Test.YtbhoingiibcboaaJ3
namespace Go.Proofs.Ytbhoingiibcboaa
open Go.RowKit

theorem Blk.setCells {g : Nat} {t : TypeId} : ∀ (vs : List Value) (o : Nat) (w : World) (cu : Array Value), Blk w g t cu → ∃ cu', Blk (w.setCells g o vs) g t cu' ∧ ∀ x, x < o → cu'[x]? = cu[x]?
  | [], _, _, cu, h => ⟨cu, h, fun _ _ => rfl⟩
  | v :: r, o, w, cu, h => by
    obtain ⟨cu', h1, h2⟩ := Blk.setCells r (o + 1) (w.setCell ⟨g, o, none⟩ v) _ (h.put o v)
    refine ⟨cu', h1, fun x hx => ?_⟩
    rw [h2 x (by omega), Array.getElem?_setIfInBounds_ne (by omega)]
theorem Ex.setCells (g : Nat) : ∀ (vs : List Value) (o : Nat) (w : World), Ex g w (w.setCells g o vs)
  | [], _, w => Ex.refl g w
  | v :: r, o, w => (Ex.setCell g o w v).trans (Ex.setCells g r (o + 1) _)
theorem zc_mem (z : Array Value) (n : Nat) : ∀ v ∈ (Builtin.zeroCells z n).toList, v ∈ z := by
  intro v hv
  unfold Builtin.zeroCells at hv
  simp at hv
  obtain ⟨i, hi, rfl⟩ := hv
  have hz : 0 < z.size := by
    rcases Nat.eq_zero_or_pos z.size with h | h
    · rw [h] at hi; simp at hi
    · exact h
  have hm : i % z.size < z.size := Nat.mod_lt _ hz
  rw [getElem!_pos z (i % z.size) hm]
  exact Array.getElem_mem hm
section
variable {ops : Array Oper} {rest : List Oper} {o : Oper} {a : Act} {w : World} {Q : Exit → Act → World → Prop}
theorem wpList_clre (hgd : o.guard = none) (x : Operand)
    (ho : o.op = .call { callee := .builtin .clear, args := #[x], argTypes := #[23] }) (g i n c : Nat) (hx : a.eval x = .slice (some ⟨g, i, none⟩) n c) (hn : 0 < n) (cu : Array Value) (hb : Blk w g 39 cu) (hs : i + n * 3 ≤ cu.size)
    (h : ∀ w', Ex g w w' → (∃ cu', Blk w' g 39 cu' ∧ ∀ x, x < i → cu'[x]? = cu[x]?) → wpList Try.prog ops Q rest (a.put o.dst (.tuple #[])) w') : wpList Try.prog ops Q (o :: rest) a w := by
  refine wpList_plain hgd fun K hK => ?_
  have hv := zero39
  have hlen : (Builtin.zeroCells (Value.agg #[.int .u32 0, .int .u32 0, .int .u32 0]).cells n).toList.length = n * 3 := by
    rw [Array.length_toList, size_zeroCells]; rfl
  have hst := run_storeCells_cells (P := Try.prog) g i (Builtin.zeroCells (Value.agg #[.int .u32 0, .int .u32 0, .int .u32 0]).cells n).toList 0 w (by
      intro j hj
      rw [hlen] at hj
      rw [hb.cell, Array.getElem?_eq_getElem (by omega)]; rfl) (fun j _ => hb.thaw _) (by
      intro v hv
      have := zc_mem _ _ v hv
      simp [Value.cells] at this
      rw [this]; rfl)
  obtain ⟨m, rfl⟩ : ∃ m, n = m + 1 := ⟨n - 1, by omega⟩
  have hrun : (Builtin.clear_ #[23] o.type #[.slice (some ⟨g, i, none⟩) (m + 1) c]).run Try.prog w = .ok (.tuple #[]) (w.setCells g i (Builtin.zeroCells (Value.agg #[.int .u32 0, .int .u32 0, .int .u32 0]).cells (m + 1)).toList) := by
    simp only [Nat.add_zero] at hst
    simp [Builtin.clear_, run_underlying Try.underlying23, hv, hst]
  unfold Oper.wp execOp
  simp only [ho, resolve, invoke, builtin, Sem.run_bind, Sem.run_pure, Result.andThen_ok, List.map_toArray, List.map_cons, List.map_nil, hx, hrun]
  exact hK _ _ (h _ (Ex.setCells g _ _ _) (Blk.setCells _ _ _ _ hb))
end
/-- What Keep's closure tells of an edge, in worlds that fit. -/
structure Tells (base pb : Nat) (pr : Eg → Bool) (Fit : World → Prop) : Prop where
  stays : ∀ W W', Fit W → Below base W W' → Fit W'
  tells : ∀ W (e : Eg), Fit W → Calls Try.prog 41 #[.agg #[V e.id, V e.a, V e.b], .pointer (some ⟨pb, 0, none⟩)] W fun x w' => x = .returned (.bool (pr e)) ∧ Below W.heap.size W w'
def fo (l : List Eg) (pr : Eg → Bool) : Nat := l.findIdx pr
theorem fo_le (l : List Eg) (pr : Eg → Bool) : fo l pr ≤ l.length := List.findIdx_le_length
theorem fo_no (l : List Eg) (pr : Eg → Bool) (k : Nat) (h : k < l.length) (hk : k < fo l pr) : pr (l.getD k e0) = false := by
  have := List.not_of_lt_findIdx (p := pr) (xs := l) (i := k) hk
  rw [← getE_at h]
  simpa using this
theorem fo_yes (l : List Eg) (pr : Eg → Bool) (h : fo l pr < l.length) : pr (l.getD (fo l pr) e0) = true := by
  have := List.findIdx_getElem (p := pr) (xs := l) (w := h)
  rw [← getE_at h]
  exact this
def fox (l : List Eg) (pr : Eg → Bool) : Int := if fo l pr < l.length then (fo l pr : Int) else -1
theorem fox_lt {l : List Eg} {pr : Eg → Bool} (h : fo l pr < l.length) : fox l pr = (fo l pr : Int) := if_pos h
theorem fox_ge {l : List Eg} {pr : Eg → Bool} (h : ¬ fo l pr < l.length) : fox l pr = -1 := if_neg h
/-- What is kept of the first so many. -/
def fl (l : List Eg) (pr : Eg → Bool) (j : Nat) : List Eg := (l.take j).filter (fun e => !pr e)
theorem fl_succ (l : List Eg) (pr : Eg → Bool) (k : Nat) (h : k < l.length) : fl l pr (k + 1) = fl l pr k ++ if pr (l.getD k e0) then [] else [l.getD k e0] := by
  unfold fl
  rw [List.take_succ_eq_append_getElem h, getE_at h, List.filter_append]
  congr 1
  simp only [List.filter_cons, List.filter_nil]
  cases pr (l.getD k e0) <;> rfl
theorem fl_len (l : List Eg) (pr : Eg → Bool) (k : Nat) (h : k ≤ l.length) : (fl l pr k).length ≤ k := by
  unfold fl
  have := List.length_filter_le (fun e => !pr e) (l.take k)
  rw [List.length_take] at this
  omega
theorem fl_fo (l : List Eg) (pr : Eg → Bool) : ∀ k, k ≤ fo l pr → fl l pr k = l.take k
  | 0, _ => rfl
  | k + 1, h => by
    have hl := fo_le l pr
    have hk : k < l.length := by omega
    rw [fl_succ l pr k hk, fl_fo l pr k (by omega), fo_no l pr k hk (by omega), List.take_succ_eq_append_getElem hk, getE_at hk]
    rfl
theorem fl_lt (l : List Eg) (pr : Eg → Bool) (h : fo l pr < l.length) : ∀ j, fo l pr < j → j ≤ l.length → (fl l pr j).length < j
  | 0, h1, _ => by omega
  | j + 1, h1, h2 => by
    rw [fl_succ l pr j (by omega), List.length_append]
    by_cases e : j = fo l pr
    · rw [e, fo_yes l pr h, fl_fo l pr _ (Nat.le_refl _), List.length_take]; simp; omega
    · have := fl_lt l pr h j (by omega) (by omega)
      split <;> simp <;> omega
theorem getDE_right (l : List Eg) (x : Eg) (p : Nat) (h : l.length = p) : (l ++ [x]).getD p e0 = x := by subst h; simp
theorem getDE_left (l : List Eg) (x : Eg) (p : Nat) (h : p < l.length) : (l ++ [x]).getD p e0 = l.getD p e0 := by
  rw [getD_app, if_neg (by omega)]
attribute [local irreducible] V
attribute [local irreducible] wpList in
set_option maxRecDepth 100000 in
set_option maxHeartbeats 2000000 in
theorem indexfe_walk (w : World) (A : Option Addr) (c base pb : Nat) (l : List Eg) (pr : Eg → Bool) (Fit : World → Prop) (h : RdE w A l) (ht : Tells base pb pr Fit) (hf : Fit w) (hbs : base ≤ w.heap.size) :
    Calls Try.prog 56 #[.slice A l.length c, .func (.func 41) #[] #[.pointer (some ⟨pb, 0, none⟩)]] w fun e w' => e = .returned (.int .i64 (fox l pr)) ∧ Below w.heap.size w w' := by
  have H := Lib.hid h
  have hlen := h.len
  have HH := Lib.hid (fo_le l pr)
  have HT := Lib.hid ht
  have HF := Lib.hid hf
  clear h ht hf
  go_enter Try.func56, Try.ntmps56
  go_wp2
  go_loopw [8] (fun i wr => ∃ k : Nat, k ≤ fo l pr ∧ i = .int .i64 k ∧ Below w.heap.size w wr) (fun i _ => l.length - (intOf i).toNat)
  case atStart => exact ⟨0, Nat.zero_le _, rfl, Below.refl _ _⟩
  case round =>
    obtain ⟨k, hk, rfl, hb⟩ := hrel
    have HB := Lib.hid hb
    have hle := HH.out
    clear hb
    by_cases hlt : k < l.length
    · obtain ⟨b, o, rfl, hc⟩ := (H.out.kept HB.out (Nat.le_refl _)).spot (by omega)
      obtain ⟨c1, c2, c3⟩ := hc k hlt
      clear hc
      have hw := HT.out.tells wr (l.getD k e0) (HT.out.stays _ _ HF.out (Below.mono HB.out hbs))
      by_cases hkh : k < fo l pr
      · rw [fo_no l pr k hlt hkh] at hw
        have HW := Lib.hid hw
        clear hw
        generalize l.getD k e0 = x at *
        go_wp2_with (go_at_call 41; refine HW.out.mono ?_; rintro e w1 ⟨rfl, h1⟩; have H1 := Lib.hid h1; clear h1)
        go_roundw
        case rel => exact ⟨k + 1, by omega, by go_num, HB.out.trans (Below.mono H1.out HB.out.size)⟩
        case measure => simp [intOf]; omega
      · obtain rfl : k = fo l pr := by omega
        rw [fo_yes l pr hlt] at hw
        have HW := Lib.hid hw
        have HX := Lib.hid (fox_lt hlt)
        clear hw
        generalize l.getD (fo l pr) e0 = x at *
        go_wp2_with (go_at_call 41; refine HW.out.mono ?_; rintro e w1 ⟨rfl, h1⟩; have H1 := Lib.hid h1; clear h1)
        go_ret
        exact ⟨ret_int HX.out.symm, HB.out.trans (Below.mono H1.out HB.out.size)⟩
    · have HX := Lib.hid (fox_ge (l := l) (pr := pr) (by omega))
      go_wp2
      go_ret
      exact ⟨ret_int HX.out.symm, HB.out⟩
/-- What stands at place x of a row of edges. -/
def EAt (cu : Array Value) (x : Nat) (e : Eg) : Prop := cu[x * 3]? = some (V e.id) ∧ cu[x * 3 + 1]? = some (V e.a) ∧ cu[x * 3 + 2]? = some (V e.b)
def ePut (cu : Array Value) (p : Nat) (e : Eg) : Array Value := ((cu.setIfInBounds (p * 3) (V e.id)).setIfInBounds (p * 3 + 1) (V e.a)).setIfInBounds (p * 3 + 2) (V e.b)
theorem ePut_size (cu : Array Value) (p : Nat) (e : Eg) : (ePut cu p e).size = cu.size := by simp [ePut]
theorem ePut_at (cu : Array Value) (p : Nat) (e : Eg) (h : p * 3 + 2 < cu.size) : EAt (ePut cu p e) p e := by
  unfold EAt ePut
  refine ⟨?_, ?_, ?_⟩
  · rw [Array.getElem?_setIfInBounds_ne (by omega), Array.getElem?_setIfInBounds_ne (by omega), Array.getElem?_setIfInBounds_self_of_lt (by omega)]
  · rw [Array.getElem?_setIfInBounds_ne (by omega), Array.getElem?_setIfInBounds_self_of_lt (by simp; omega)]
  · rw [Array.getElem?_setIfInBounds_self_of_lt (by simp; omega)]
theorem ePut_ne (cu : Array Value) (p y : Nat) (e x : Eg) (h : ¬ p = y) (hy : EAt cu y x) : EAt (ePut cu p e) y x := by
  unfold EAt ePut at *
  refine ⟨?_, ?_, ?_⟩
  · rw [Array.getElem?_setIfInBounds_ne (by omega), Array.getElem?_setIfInBounds_ne (by omega), Array.getElem?_setIfInBounds_ne (by omega)]; exact hy.1
  · rw [Array.getElem?_setIfInBounds_ne (by omega), Array.getElem?_setIfInBounds_ne (by omega), Array.getElem?_setIfInBounds_ne (by omega)]; exact hy.2.1
  · rw [Array.getElem?_setIfInBounds_ne (by omega), Array.getElem?_setIfInBounds_ne (by omega), Array.getElem?_setIfInBounds_ne (by omega)]; exact hy.2.2
end Go.Proofs.Ytbhoingiibcboaa
