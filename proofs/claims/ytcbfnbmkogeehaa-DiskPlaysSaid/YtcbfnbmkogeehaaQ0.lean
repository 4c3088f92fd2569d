/- The document's disk: how it lies in memory; a step; Read. -/
import Derived.Test.YtcbfnbmkogeehaaK23
namespace Go.Proofs.Ytcbfnbmkogeehaa
open Go.RowKit

/-- Some blocks aside, nothing has turned. -/
structure Fx (S : List Nat) (w w' : World) : Prop where
  os : w'.os = w.os
  tape : w'.tape = w.tape
  output : w'.output = w.output
  size : w.heap.size ≤ w'.heap.size
  block : ∀ k, k < w.heap.size → k ∉ S → w'.heap[k]? = w.heap[k]?
theorem Fx.refl (S : List Nat) (w : World) : Fx S w w := ⟨rfl, rfl, rfl, Nat.le_refl _, fun _ _ _ => rfl⟩
theorem Fx.trans {S : List Nat} {a b c : World} (h : Fx S a b) (k : Fx S b c) : Fx S a c :=
  ⟨k.os.trans h.os, k.tape.trans h.tape, k.output.trans h.output, Nat.le_trans h.size k.size, fun i hi h1 => (k.block i (Nat.lt_of_lt_of_le hi h.size) h1).trans (h.block i hi h1)⟩
theorem Fx.of_below {S : List Nat} {w w' : World} (h : Below w.heap.size w w') : Fx S w w' := ⟨h.os, h.tape, h.output, h.size, fun k hk _ => h.block k hk⟩
theorem Fx.of_ex {S : List Nat} {g : Nat} {w w' : World} (h : Ex g w w') (hg : g ∈ S) : Fx S w w' := ⟨h.os, h.tape, h.output, h.size, fun k hk h1 => h.block k hk fun e => h1 (e ▸ hg)⟩
theorem Fx.of_fr {S : List Nat} {g lb mb : Nat} {w w' : World} (h : Fr g lb mb w w') (h1 : g ∈ S) (h2 : lb ∈ S) (h3 : mb ∈ S) : Fx S w w' :=
  ⟨h.os, h.tape, h.output, h.size, fun k hk hn => h.block k hk (fun e => hn (e ▸ h1)) (fun e => hn (e ▸ h2)) (fun e => hn (e ▸ h3))⟩
theorem Fx.sub {S T : List Nat} {w w' : World} (h : Fx S w w') (hs : ∀ k ∈ S, k ∈ T) : Fx T w w' := ⟨h.os, h.tape, h.output, h.size, fun k hk hn => h.block k hk fun e => hn (hs k e)⟩
theorem Fx.blk {S : List Nat} {k : Nat} {w w' : World} {t : TypeId} {cs : Array Value} (h : Fx S w w') (hb : Blk w k t cs) (hk : k ∉ S) : Blk w' k t cs := (h.block k hb.lt hk).trans hb
theorem Fx.below {S : List Nat} {B : Nat} {w0 w w' : World} (h0 : Below B w0 w) (h : Fx S w w') (hS : ∀ k ∈ S, B ≤ k) (hw : B ≤ w.heap.size) : Below B w0 w' :=
  h0.trans ⟨h.os, h.tape, h.output, h.size, fun k hk => h.block k (by omega) fun e => by have := hS k e; omega⟩
theorem Fx.fresh {S : List Nat} {w0 w w' : World} (h0 : Below w0.heap.size w0 w) (h : Fx S w w') (hS : ∀ k ∈ S, w0.heap.size ≤ k) : Below w0.heap.size w0 w' := Fx.below h0 h hS h0.size

/-- The struct's cells. -/
def Cq (s : Dk) (sb lb wb : Nat) : Array Value := #[.slice (some ⟨sb, 0, none⟩) s.last.length s.last.length, .slice (some ⟨lb, 0, none⟩) s.last.length s.last.length, .slice (some ⟨wb, 0, none⟩) s.last.length s.last.length, .int .i64 s.done, .int .i64 (max s.fuse (-1)), .bool s.down]
structure Rq (w : World) (q sb lb wb : Nat) (s : Dk) : Prop where
  ok : s.Ok
  blk : Blk w q 37 (Cq s sb lb wb)
  sh : Blk w sb 43 ((s.shown.flatMap (·.map U)).toArray)
  la : Blk w lb 43 ((s.last.flatMap (·.map U)).toArray)
  wt : Blk w wb 4 ((s.waits.map Value.bool).toArray)
  sq : sb ≠ q
  lq : lb ≠ q
  wq : wb ≠ q
  ls : lb ≠ sb
  ws : wb ≠ sb
  wl : wb ≠ lb
theorem Rq.kept {w w' : World} {q sb lb wb : Nat} {s : Dk} {S : List Nat} (h : Rq w q sb lb wb s) (hx : Fx S w w') (h1 : q ∉ S) (h2 : sb ∉ S) (h3 : lb ∉ S) (h4 : wb ∉ S) : Rq w' q sb lb wb s :=
  { h with blk := hx.blk h.blk h1, sh := hx.blk h.sh h2, la := hx.blk h.la h3, wt := hx.blk h.wt h4 }
theorem Rq.up {w w' : World} {q sb lb wb : Nat} {s : Dk} (h : Rq w q sb lb wb s) (hb : Below w.heap.size w w') : Rq w' q sb lb wb s :=
  h.kept (S := []) (Fx.of_below hb) (by simp) (by simp) (by simp) (by simp)
theorem Rq.apart {w : World} {q sb lb wb : Nat} {s : Dk} (h : Rq w q sb lb wb s) : q < w.heap.size ∧ sb < w.heap.size ∧ lb < w.heap.size ∧ wb < w.heap.size := ⟨h.blk.lt, h.sh.lt, h.la.lt, h.wt.lt⟩

set_option maxRecDepth 100000 in
theorem qstep_walk (w : World) (q sb lb wb : Nat) (s : Dk) (h : s.Ok) (hb : Blk w q 37 (Cq s sb lb wb)) (hdn : s.down = false) :
    Calls Try.prog 37 #[.pointer (some ⟨q, 0, none⟩)] w fun e w' => e = .returned (.bool (!s.stop)) ∧ Ex q w w' ∧ w'.heap.size = w.heap.size ∧ Blk w' q 37 (Cq s.step sb lb wb) := by
  have h3 : w.cell? ⟨q, 3, none⟩ = some (.int .i64 s.done) := hb.cell 3
  have h4 : w.cell? ⟨q, 4, none⟩ = some (.int .i64 (max s.fuse (-1))) := hb.cell 4
  have h5 : w.cell? ⟨q, 5, none⟩ = some (.bool s.down) := hb.cell 5
  have f3 := hb.thaw 3
  have f4 := hb.thaw 4
  have f5 := hb.thaw 5
  have d0 := h.d0
  have d1 := h.d1
  have u0 := h.f0
  have u1 := h.f1
  have w0 : IntKind.i64.wrap (s.done + 1) = s.done + 1 := IntWalk.i64_in _ (by omega)
  clear h
  obtain ⟨shown, last, waits, done, fuse, down⟩ := s
  simp only at h3 h4 h5 d0 d1 u0 u1 w0 hdn
  subst hdn
  have HB := Lib.hid hb
  clear hb
  rcases Int.lt_trichotomy fuse 0 with hf | hf | hf
  · have hm : max fuse (-1) = -1 := by omega
    have t2 : ¬ (0 < fuse) := by omega
    have e1 : Dk.step ⟨shown, last, waits, done, fuse, false⟩ = ⟨shown, last, waits, done + 1, fuse, false⟩ := by simp [Dk.step, Dk.stop, t2, show ¬ fuse = 0 by omega]
    have e2 : Dk.stop ⟨shown, last, waits, done, fuse, false⟩ = false := by simp [Dk.stop, show ¬ fuse = 0 by omega]
    rw [e1, e2]
    rw [hm] at h4
    clear e1 e2 hm
    go_enter Try.func37, Try.ntmps37
    go_wp2
    go_ret
    exact ⟨rfl, Ex.setCell _ _ _ _, by simp [World.setCell], HB.out.put 3 _⟩
  · subst hf
    have e1 : Dk.step ⟨shown, last, waits, done, 0, false⟩ = ⟨shown, last, waits, done, 0, true⟩ := by simp [Dk.step, Dk.stop]
    have e2 : Dk.stop ⟨shown, last, waits, done, 0, false⟩ = true := by simp [Dk.stop]
    have hm : max (0 : Int) (-1) = 0 := by decide
    rw [e1, e2]
    rw [hm] at h4
    clear e1 e2 hm
    go_enter Try.func37, Try.ntmps37
    go_wp2
    go_ret
    exact ⟨rfl, Ex.setCell _ _ _ _, by simp [World.setCell], HB.out.put 5 _⟩
  · have hm : max fuse (-1) = fuse := by omega
    have hm2 : max (fuse - 1) (-1) = fuse - 1 := by omega
    have t1 : (fuse == 0) = false := by simp; omega
    have w1 : IntKind.i64.wrap (fuse - 1) = fuse - 1 := IntWalk.i64_in _ (by omega)
    have e1 : Dk.step ⟨shown, last, waits, done, fuse, false⟩ = ⟨shown, last, waits, done + 1, fuse - 1, false⟩ := by simp [Dk.step, Dk.stop, hf, show ¬ fuse = 0 by omega]
    have e2 : Dk.stop ⟨shown, last, waits, done, fuse, false⟩ = false := by simp [Dk.stop, show ¬ fuse = 0 by omega]
    rw [e1, e2]
    rw [hm] at h4
    clear e1 e2 hm
    go_enter Try.func37, Try.ntmps37
    go_wp2
    go_ret
    refine ⟨rfl, (Ex.setCell _ _ _ _).trans (Ex.setCell _ _ _ _), by simp [World.setCell], ?_⟩
    unfold Cq
    rw [hm2]
    exact (HB.out.put 4 _).put 3 _

set_option maxRecDepth 100000 in
theorem qread_bad (w : World) (q sb lb wb : Nat) (s : Dk) (k : Int) (h : Rq w q sb lb wb s) (hr : s.reach k ≠ 0) :
    Calls Try.prog 25 #[.pointer (some ⟨q, 0, none⟩), .int .i64 k] w fun e w' => e = .returned (BE (z512, s.reach k)) ∧ Below w.heap.size w w' := by
  have hz := zero43
  have hlt := h.blk.lt
  have hb := h.blk.more (.cells Z 43)
  have h1 : (w.alloc (.cells Z 43)).cell? ⟨q, 1, none⟩ = some (.slice (some ⟨lb, 0, none⟩) s.last.length s.last.length) := hb.cell 1
  have h5 : (w.alloc (.cells Z 43)).cell? ⟨q, 5, none⟩ = some (.bool s.down) := hb.cell 5
  clear hb h
  unfold Dk.reach at hr ⊢
  unfold Dk.has at hr ⊢
  generalize s.down = d at *
  generalize s.last.length = n at *
  cases d
  · by_cases hk : k < 0
    · have e1 : (decide (0 ≤ k) && decide (k < (n : Int))) = false := by simp; omega
      rw [e1]
      simp only [Bool.false_eq_true, if_false]
      clear e1 hr
      go_enter Try.func25, Try.ntmps25
      go_wp2_with (first | refine wpList_zero rfl rfl ?_ | (refine wpList_store_fresh rfl 43 _ _ rfl Z rfl rfl size43 rfl (BAll _) ?_; intro w2 hb2 hs2 hB2; have HB2 := Lib.hid hB2; have Hb2 := Lib.hid hb2; clear hb2 hs2 hB2))
      all_goals exact bodyPost_ret (results_pair rfl _ w2 w.heap.size 43 Z _ rfl HB2.out Try.underlying43 rfl size43) rfl ⟨rfl, Hb2.out⟩
    · have hk2 : (n : Int) ≤ k := by
        apply Int.not_lt.1
        intro hkn
        apply hr
        simp
        omega
      have e1 : (decide (0 ≤ k) && decide (k < (n : Int))) = false := by simp; omega
      rw [e1]
      simp only [Bool.false_eq_true, if_false]
      clear e1 hr
      go_enter Try.func25, Try.ntmps25
      go_wp2_with (first | refine wpList_zero rfl rfl ?_ | (refine wpList_store_fresh rfl 43 _ _ rfl Z rfl rfl size43 rfl (BAll _) ?_; intro w2 hb2 hs2 hB2; have HB2 := Lib.hid hB2; have Hb2 := Lib.hid hb2; clear hb2 hs2 hB2))
      all_goals exact bodyPost_ret (results_pair rfl _ w2 w.heap.size 43 Z _ rfl HB2.out Try.underlying43 rfl size43) rfl ⟨rfl, Hb2.out⟩
  · simp only [if_true]
    clear hr
    go_enter Try.func25, Try.ntmps25
    go_wp2_with (first | refine wpList_zero rfl rfl ?_ | (refine wpList_store_fresh rfl 43 _ _ rfl Z rfl rfl size43 rfl (BAll _) ?_; intro w2 hb2 hs2 hB2; have HB2 := Lib.hid hB2; have Hb2 := Lib.hid hb2; clear hb2 hs2 hB2))
    all_goals exact bodyPost_ret (results_pair rfl _ w2 w.heap.size 43 Z _ rfl HB2.out Try.underlying43 rfl size43) rfl ⟨rfl, Hb2.out⟩

theorem wpList_load_blk {ops : Array Oper} {rest : List Oper} {o : Oper} {a : Act} {w : World} {Q : Exit → Act → World → Prop} (hgd : o.guard = none) (x : Operand) (ho : o.op = .load 43 x)
    (g i : Nat) (hx : a.eval x = .pointer (some ⟨g, i * 512, none⟩)) (l : List (List UInt8)) (b : List UInt8) (hl : ∀ b ∈ l, b.length = 512) (hg : Blk w g 43 ((l.flatMap (·.map U)).toArray)) (hb : l[i]? = some b)
    (h : wpList Try.prog ops Q rest (a.put o.dst (.agg (b.map U).toArray)) w) : wpList Try.prog ops Q (o :: rest) a w :=
  wpList_load_at hgd 43 x ho g (i * 512) hx 43 _ (b.map U) _ hg (fun j v hv => flat_at l hl i b hb j v hv) Try.underlying43 rfl
    (by have := BRow b (hl b (List.mem_of_getElem? hb)); simpa using this) h
set_option maxRecDepth 100000 in
theorem qread_good (w : World) (q sb lb wb : Nat) (s : Dk) (i : Nat) (l : List UInt8) (h : Rq w q sb lb wb s) (hr : s.reach (i : Int) = 0) (hs : s.shown[i]? = some l) :
    Calls Try.prog 25 #[.pointer (some ⟨q, 0, none⟩), .int .i64 (i : Int)] w fun e w' => e = .returned (BE (l, 0)) ∧ Below w.heap.size w w' := by
  have hz := zero43
  have hl : l.length = 512 := h.ok.bs l (List.mem_of_getElem? hs)
  have hd : s.down = false := by
    unfold Dk.reach at hr
    cases hq : s.down with
    | false => rfl
    | true => rw [hq] at hr; simp at hr
  have hi : i < s.last.length := by rw [← h.ok.sh]; exact (List.getElem?_eq_some_iff.1 hs).1
  have hhi := h.ok.high
  have hb := h.blk.more (.cells Z 43)
  have h0 : (w.alloc (.cells Z 43)).cell? ⟨q, 0, none⟩ = some (.slice (some ⟨sb, 0, none⟩) s.last.length s.last.length) := hb.cell 0
  have h1 : (w.alloc (.cells Z 43)).cell? ⟨q, 1, none⟩ = some (.slice (some ⟨lb, 0, none⟩) s.last.length s.last.length) := hb.cell 1
  have h5 : (w.alloc (.cells Z 43)).cell? ⟨q, 5, none⟩ = some (.bool s.down) := hb.cell 5
  have hsh := h.sh.more (.cells Z 43)
  have hbs := h.ok.bs
  rw [hd] at h5
  generalize s.last.length = n at *
  have q1 : ¬ (i : Int) < 0 := by omega
  have q2 : ¬ (n : Int) ≤ (i : Int) := by omega
  have q3 : (i : Int) < (n : Int) := by omega
  have HL := Lib.hid hl
  have HSH := Lib.hid hsh
  have HBS := Lib.hid hbs
  have HS := Lib.hid hs
  clear h hr hs hl hb hsh hbs hd
  go_enter Try.func25, Try.ntmps25
  go_wp2_with (first
    | (refine wpList_load_blk rfl _ rfl sb i rfl s.shown l HBS.out HSH.out HS.out ?_)
    | (refine wpList_store_blk rfl 43 _ _ rfl w.heap.size (l.map U).toArray rfl rfl 43 Z (Blk.fresh w 43 Z) (BRow l HL.out) (Z_size.trans (BSize l HL.out).symm) (BAll _) ?_; intro w3 hx3 hB3; have HB3 := Lib.hid hB3; have HX3 := Lib.hid hx3; clear hx3 hB3))
  refine bodyPost_ret (results_pair rfl _ w3 w.heap.size 43 _ _ rfl HB3.out Try.underlying43 rfl (BRow l HL.out)) rfl ⟨rfl, ?_⟩
  have h0 : Below w.heap.size w (w.alloc (.cells Z 43)) := (Below.refl _ w).alloc (Nat.le_refl _) _
  exact Ex.below h0 HX3.out (Nat.le_refl _) h0.size
theorem Dk.reach_zero {s : Dk} {k : Int} (hr : s.reach k = 0) : ∃ i : Nat, k = i ∧ i < s.last.length ∧ s.down = false := by
  unfold Dk.reach at hr
  split at hr
  · cases hr
  · rename_i hd
    split at hr
    · rename_i hh
      unfold Dk.has at hh
      simp only [Bool.and_eq_true, decide_eq_true_eq] at hh
      obtain ⟨i, rfl⟩ := Int.eq_ofNat_of_zero_le hh.1
      exact ⟨i, rfl, by omega, by simpa using hd⟩
    · cases hr
theorem qread_walk (w : World) (q sb lb wb : Nat) (s : Dk) (k : Int) (h : Rq w q sb lb wb s) :
    Calls Try.prog 25 #[.pointer (some ⟨q, 0, none⟩), .int .i64 k] w fun e w' => e = .returned (BE (s.read k)) ∧ Below w.heap.size w w' := by
  unfold Dk.read
  by_cases hr : s.reach k = 0
  · rw [if_pos hr]
    obtain ⟨i, rfl, hi, _⟩ := Dk.reach_zero hr
    have hi2 : i < s.shown.length := by rw [h.ok.sh]; exact hi
    rw [show ((i : Int)).toNat = i from rfl]
    exact qread_good w q sb lb wb s i _ h hr (by rw [List.getD_eq_getElem?_getD, List.getElem?_eq_getElem hi2]; rfl)
  · rw [if_neg hr]
    exact qread_bad w q sb lb wb s k h hr
end Go.Proofs.Ytcbfnbmkogeehaa
