/- What is shown in a sector: now, Read. -/
import Derived.Test.YtcbfnbmkogeehaaK4
namespace Go.Proofs.Ytcbfnbmkogeehaa
open Go.RowKit
theorem Blk.fresh_at {w : World} {n : Nat} (h : n = w.heap.size) (t : TypeId) (cs : Array Value) : Blk (w.alloc (.cells cs t)) n t cs := by subst h; exact Blk.fresh w t cs
theorem Rep.kept {w w' : World} {g lb mb n : Nat} {s : Dk} {D : DataW Value} (h : Rep w g lb mb s D) (hb : Below n w w') (hg : g < n) (hl : lb < n) (hm : mb < n) : Rep w' g lb mb s D :=
  { h with
    blk := h.blk.kept hb hg
    lst := h.lst.kept hb hl
    own := by
      obtain ⟨es, clock, h1, r⟩ := h.own
      exact ⟨es, clock, (hb.block mb hm).trans h1, r⟩ }
theorem Rep.more {w : World} {g lb mb : Nat} {s : Dk} {D : DataW Value} (h : Rep w g lb mb s D) (o : Obj) : Rep (w.alloc o) g lb mb s D :=
  h.kept ((Below.refl _ w).alloc (Nat.le_refl _) o) h.blk.lt h.lst.lt h.own.lt
theorem Rep.up {w w' : World} {g lb mb : Nat} {s : Dk} {D : DataW Value} (h : Rep w g lb mb s D) (hb : Below w.heap.size w w') : Rep w' g lb mb s D :=
  h.kept hb h.blk.lt h.lst.lt h.own.lt

set_option maxRecDepth 100000 in
theorem now_yes (w : World) (g lb mb : Nat) (s : Dk) (D : DataW Value) (i : Nat) (l : List UInt8) (h : Rep w g lb mb s D) (hi : i < 4096) (hw : s.waits[i]? = some true) (hs : s.shown[i]? = some l) :
    Calls Try.prog 36 #[.pointer (some ⟨g, 3, none⟩), .int .i64 (i : Int)] w fun e w' => e = .returned (B l) ∧ Below w.heap.size w w' := by
  have hz := zero43
  have hl : l.length = 512 := h.ok.bs l (List.mem_of_getElem? hs)
  have hlk := (look_yes (h.more (.cells Z 43)) i l hi hw hs).1
  have h4 : (w.alloc (.cells Z 43)).cell? ⟨g, 4, none⟩ = some (.map (some mb)) := (h.blk.more _).cell 4
  have HL := Lib.hid hl
  clear h hi hw hs hl
  unfold B at hlk ⊢
  go_enter Try.func36, Try.ntmps36
  go_wp2_with (first
    | (refine wpList_store_blk rfl 43 _ _ rfl (w.heap.size + 1) (l.map U).toArray rfl rfl 43 Z (Blk.fresh_at (by simp) _ _) (BRow l HL.out) (Z_size.trans (BSize l HL.out).symm) (BAll _) ?_; intro w2 hx2 hB2; have hr2 : Blk w2 w.heap.size 43 Z := hx2.blk ((Blk.fresh w _ _).more _) (by omega); have HB2 := Lib.hid hB2; have HX2 := Lib.hid hx2; have HR2 := Lib.hid hr2; clear hx2 hB2 hr2)
    | refine wpList_load_row rfl 43 _ rfl (w.heap.size + 1) rfl 43 _ (0, 0) _ HB2.out Try.underlying43 rfl (BRow l HL.out) ?_
    | (refine wpList_store_blk rfl 43 _ _ rfl w.heap.size (l.map U).toArray rfl rfl 43 Z HR2.out (BRow l HL.out) (Z_size.trans (BSize l HL.out).symm) (BAll _) ?_; intro w3 hx3 hB3; have HB3 := Lib.hid hB3; have HX3 := Lib.hid hx3; clear hx3 hB3))
  refine bodyPost_ret (results_cell_row rfl _ _ w.heap.size 43 _ (0, 0) _ rfl HB3.out Try.underlying43 rfl (BRow l HL.out)) rfl ⟨rfl, ?_⟩
  have h0 : Below w.heap.size w ((w.alloc (.cells Z 43)).alloc (.cells Z 43)) := ((Below.refl _ w).alloc (Nat.le_refl _) _).alloc (by simp) _
  have h2 : Below w.heap.size w w2 := Ex.below h0 HX2.out (by omega) h0.size
  exact Ex.below h2 HX3.out (Nat.le_refl _) h2.size

set_option maxRecDepth 100000 in
theorem now_no (w : World) (g lb mb : Nat) (s : Dk) (D : DataW Value) (i : Nat) (l : List UInt8) (h : Rep w g lb mb s D) (hi : i < 4096) (hw : s.waits[i]? ≠ some true) (hs : s.last[i]? = some l) :
    Calls Try.prog 36 #[.pointer (some ⟨g, 3, none⟩), .int .i64 (i : Int)] w fun e w' => e = .returned (B l) ∧ Below w.heap.size w w' := by
  have hz := zero43
  have hl : l.length = 512 := h.ok.bl l (List.mem_of_getElem? hs)
  obtain ⟨v, hlk, rfl⟩ := look_no (h.more (.cells Z 43)) i hi hw
  have h4 : (w.alloc (.cells Z 43)).cell? ⟨g, 4, none⟩ = some (.map (some mb)) := (h.blk.more _).cell 4
  have hlt2 : (i : Int) < (s.last.length : Int) := by have := (List.getElem?_eq_some_iff.1 hs).1; omega
  have hg := h.blk.lt
  have hll := h.lst.lt
  have H3 := Lib.hid (h.blk.more (.cells Z 43) |>.more (.cells Z 43))
  have HLB := Lib.hid (h.lst.more (.cells Z 43) |>.more (.cells Z 43))
  have HF := Lib.hid (flat_at s.last h.ok.bl i l hs)
  have HL := Lib.hid hl
  clear h hi hw hs hl
  unfold B
  go_enter Try.func36, Try.ntmps36
  go_wp2_with (first
    | (refine wpList_store_blk rfl 43 _ _ rfl (w.heap.size + 1) Z rfl rfl 43 Z (Blk.fresh_at (by simp) _ _) size43 rfl (BAll _) ?_; intro w2 hx2 hB2; have hr2 : Blk w2 w.heap.size 43 Z := hx2.blk ((Blk.fresh w _ _).more _) (by omega); have h3 : w2.cell? ⟨g, 3, none⟩ = some (.slice (some ⟨lb, 0, none⟩) s.last.length s.last.length) := (hx2.blk H3.out (by omega)).cell 3; have HB2 := Lib.hid (hx2.blk HLB.out (by omega)); have HX2 := Lib.hid hx2; have HR2 := Lib.hid hr2; clear hx2 hB2 hr2)
    | refine wpList_load_at rfl 43 _ rfl lb (i * 512) rfl 43 _ (l.map U) _ HB2.out HF.out Try.underlying43 rfl (by rw [List.length_map, HL.out]; exact size43) ?_
    | (refine wpList_store_blk rfl 43 _ _ rfl w.heap.size (l.map U).toArray rfl rfl 43 Z HR2.out (BRow l HL.out) (Z_size.trans (BSize l HL.out).symm) (BAll _) ?_; intro w3 hx3 hB3; have HB3 := Lib.hid hB3; have HX3 := Lib.hid hx3; clear hx3 hB3))
  refine bodyPost_ret (results_cell_row rfl _ _ w.heap.size 43 _ (0, 0) _ rfl HB3.out Try.underlying43 rfl (BRow l HL.out)) rfl ⟨rfl, ?_⟩
  have h0 : Below w.heap.size w ((w.alloc (.cells Z 43)).alloc (.cells Z 43)) := ((Below.refl _ w).alloc (Nat.le_refl _) _).alloc (by simp) _
  have h2 : Below w.heap.size w w2 := Ex.below h0 HX2.out (by omega) h0.size
  exact Ex.below h2 HX3.out (Nat.le_refl _) h2.size
theorem now_walk (w : World) (g lb mb : Nat) (s : Dk) (D : DataW Value) (i : Nat) (l : List UInt8) (h : Rep w g lb mb s D) (hs : s.shown[i]? = some l) :
    Calls Try.prog 36 #[.pointer (some ⟨g, 3, none⟩), .int .i64 (i : Int)] w fun e w' => e = .returned (B l) ∧ Below w.heap.size w w' := by
  have hlt := (List.getElem?_eq_some_iff.1 hs).1
  have hn := h.ok.sh
  have hm := h.ok.high
  have hwl := h.ok.wt
  rcases hw : s.waits[i]? with _ | (_ | _)
  · rw [List.getElem?_eq_none_iff] at hw; omega
  · exact now_no w g lb mb s D i l h (by omega) (by rw [hw]; decide) ((h.ok.same i hw).symm.trans hs)
  · exact now_yes w g lb mb s D i l h (by omega) hw hs
end Go.Proofs.Ytcbfnbmkogeehaa
