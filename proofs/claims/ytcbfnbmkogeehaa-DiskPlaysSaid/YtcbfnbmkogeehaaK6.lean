/- Read. -/
import Derived.Test.YtcbfnbmkogeehaaK5
namespace Go.Proofs.Ytcbfnbmkogeehaa
open Go.RowKit
theorem results_pair {P : Program} {fn : Func} {p u : Tmp} {ty : TypeId} (h : fn.results = #[.cell p ty, .tmp u]) (tmps : Array Value) (w : World) (g : Nat) (t : TypeId) (cs : Array Value) (d : TypeDesc)
    (hp : tmps.getD p undef = .pointer (some ⟨g, 0, none⟩)) (hg : Blk w g t cs)
    (hu : P.underlying ty = some d) (hd : (match d with | .struct _ | .array _ _ => true | _ => false) = true) (hi : (P.info? ty).map (·.size) = some cs.size) :
    (results fn tmps).run P w = .ok (.tuple #[.agg cs, tmps.getD u undef]) w := by
  rw [results_cell_tmp h, hp]
  simp only [asAddr, Sem.run_pure, Result.andThen_ok]
  rw [run_loadVar_row w g t ty cs (0, 0) d hg hu hd hi]
  rfl
/-- What Read answers. -/
def Dk.read (s : Dk) (k : Int) : List UInt8 × Int := if s.reach k = 0 then (s.shown.getD k.toNat z512, 0) else (z512, s.reach k)
/-- A block and an error as a result. -/
def BE (r : List UInt8 × Int) : Value := .tuple #[B r.1, .int .i64 r.2]

set_option maxRecDepth 100000 in
theorem read_bad (w : World) (e0 : Int) (hne : e0 ≠ 0) (p : Value) (k : Int) (hr : Calls Try.prog 30 #[p, .int .i64 k] (w.alloc (.cells Z 43)) fun e w' => e = .returned (.int .i64 e0) ∧ w' = w.alloc (.cells Z 43)) :
    Calls Try.prog 19 #[p, .int .i64 k] w fun e w' => e = .returned (BE (z512, e0)) ∧ Below w.heap.size w w' := by
  have hz := zero43
  have ht : (e0 != 0) = true := by simpa using hne
  go_enter Try.func19, Try.ntmps19
  go_wp2_with (first | (go_at_call 30; refine hr.mono ?_; rintro e w' ⟨rfl, rfl⟩) | refine wpList_zero rfl rfl ?_ | (refine wpList_store_fresh rfl 43 _ _ rfl Z rfl rfl size43 rfl (BAll _) ?_; intro w2 hb2 hs2 hB2; have HB2 := Lib.hid hB2; have Hb2 := Lib.hid hb2; clear hb2 hs2 hB2))
  exact bodyPost_ret (results_pair rfl _ w2 w.heap.size 43 Z _ rfl HB2.out Try.underlying43 rfl size43) rfl ⟨rfl, Hb2.out⟩

set_option maxRecDepth 100000 in
theorem read_good (w : World) (g lb mb : Nat) (s : Dk) (D : DataW Value) (i : Nat) (l : List UInt8) (h : Rep w g lb mb s D) (hr0 : s.reach (i : Int) = 0) (hs : s.shown[i]? = some l) :
    Calls Try.prog 19 #[.pointer (some ⟨g, 0, none⟩), .int .i64 (i : Int)] w fun e w' => e = .returned (BE (l, 0)) ∧ Below w.heap.size w w' := by
  have hz := zero43
  have hl : l.length = 512 := h.ok.bs l (List.mem_of_getElem? hs)
  have hr := reach_walk (w.alloc (.cells Z 43)) g lb mb s (i : Int) (h.blk.more _)
  have hn := now_walk (w.alloc (.cells Z 43)) g lb mb s D i l (h.more _) hs
  rw [hr0] at hr
  have HL := Lib.hid hl
  clear h hr0 hs hl
  unfold B at hn
  go_enter Try.func19, Try.ntmps19
  go_wp2_with (first
    | (go_at_call 30; refine hr.mono ?_; rintro e w' ⟨rfl, rfl⟩)
    | (go_at_call 36; refine hn.mono ?_; rintro e w1 ⟨rfl, hb1⟩; have HB1 := Lib.hid hb1; have HR1 := Lib.hid ((Blk.fresh w 43 Z).kept hb1 (by simp)); clear hb1)
    | (refine wpList_store_blk rfl 43 _ _ rfl w.heap.size (l.map U).toArray rfl rfl 43 Z HR1.out (BRow l HL.out) (Z_size.trans (BSize l HL.out).symm) (BAll _) ?_; intro w3 hx3 hB3; have HB3 := Lib.hid hB3; have HX3 := Lib.hid hx3; clear hx3 hB3))
  refine bodyPost_ret (results_pair rfl _ w3 w.heap.size 43 _ _ rfl HB3.out Try.underlying43 rfl (BRow l HL.out)) rfl ⟨rfl, ?_⟩
  have h0 : Below w.heap.size w w1 := ((Below.refl _ w).alloc (Nat.le_refl _) _).trans (HB1.out.mono (by simp))
  exact Ex.below h0 HX3.out (Nat.le_refl _) h0.size

theorem read_walk (w : World) (g lb mb : Nat) (s : Dk) (D : DataW Value) (k : Int) (h : Rep w g lb mb s D) :
    Calls Try.prog 19 #[.pointer (some ⟨g, 0, none⟩), .int .i64 k] w fun e w' => e = .returned (BE (s.read k)) ∧ Below w.heap.size w w' := by
  unfold Dk.read
  by_cases hr : s.reach k = 0
  · rw [if_pos hr]
    have hh : s.has k = true := by
      unfold Dk.reach at hr
      split at hr
      · cases hr
      · split at hr
        · assumption
        · cases hr
    have hn := h.ok.sh
    unfold Dk.has at hh
    simp only [Bool.and_eq_true, decide_eq_true_eq] at hh
    obtain ⟨i, rfl⟩ := Int.eq_ofNat_of_zero_le hh.1
    have hi : i < s.shown.length := by omega
    rw [show ((i : Int)).toNat = i from rfl]
    exact read_good w g lb mb s D i _ h hr (by rw [List.getD_eq_getElem?_getD, List.getElem?_eq_getElem hi]; rfl)
  · rw [if_neg hr]
    exact read_bad w _ hr _ k (reach_walk _ g lb mb s k (h.blk.more _))
theorem read_nil (w : World) (k : Int) : Calls Try.prog 19 #[.pointer none, .int .i64 k] w fun e w' => e = .returned (BE (z512, 1)) ∧ Below w.heap.size w w' :=
  read_bad w 1 (by decide) _ k (reach_nil _ k)
end Go.Proofs.Ytcbfnbmkogeehaa
