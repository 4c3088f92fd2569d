/- String is all bytes that were laid. -/
import Derived.Test.YtjoiimhifogbhaaA7
namespace Go.Proofs.Ytjoiimhifogbhaa
open Go.RowKit

theorem join_nil (l : List (List UInt8)) : Lib.join l [] = l.flatten := by
  unfold Lib.join
  induction l with
  | nil => rfl
  | cons x r ih =>
    cases r with
    | nil => simp [List.intercalate]
    | cons y r => simp [List.intercalate, List.intersperse] at ih ⊢; exact ih
theorem joined_flat (ps : List ByteArray) : (ps.map (·.data.toList)).flatten = joined ps := by simp [joined, List.flatMap]
theorem joined_rev_length (ps : List ByteArray) : (joined ps.reverse).length = (joined ps).length := by
  simp [joined, List.length_flatMap, List.sum_reverse]
theorem Chain.short {w : World} : ∀ {a : Option Addr} {l : List ByteArray}, Chain w a l → l.length ≤ (joined l).length
  | _, [], _ => Nat.zero_le _
  | _, x :: r, ⟨_, _, _, hx, _, hr⟩ => by
    have := hr.short
    have hx' : x.data.toList.length = x.size := by simp
    simp [joined] at this ⊢
    omega
theorem Below.grown {B : Nat} {a w w' : World} (h : Below B a w) {row : Option Nat} (hg : w.grownBy w' row) (hr : ∀ k, row = some k → B ≤ k) (hB : B ≤ w.heap.size) : Below B a w' :=
  h.trans ⟨hg.os, hg.tape, hg.output, hg.size, fun k hk => hg.block k (by omega) (fun e => by have := hr k e.symm; omega)⟩

set_option maxRecDepth 100000 in
set_option maxHeartbeats 2000000 in
theorem string_walk (w : World) (o : Value) (l : List UInt8) (ho : OutIs w o l) (hl : l.length ≤ 1000000000) :
    Calls Try.prog 16 #[o] w fun e w' => e = .returned (.string (bstr l)) ∧ Below w.heap.size w w' := by
  obtain ⟨p, xs, rfl, hc, rfl⟩ := ho
  have hshort : xs.length ≤ 1000000000 := by have h1 := hc.short; rw [joined_rev_length] at hl; omega
  have HC := Lib.hid hc
  have HL := Lib.hid hl
  have HS := Lib.hid hshort
  clear hc hl hshort
  go_enter Try.func16, Try.ntmps16
  go_wp2
  go_loopg [3, 4] xs.length (fun g s3 s4 wr => ∃ done rest q, xs = done ++ rest ∧ rest.length ≤ g ∧ s4 = .pointer q ∧ Chain w q rest ∧ wr.ownsRow w.heap.size 9 1 s3 done.length (done.map Value.string) ∧ Below w.heap.size w wr)
  case atStart => exact ⟨[], xs, p, rfl, Nat.le_refl _, rfl, HC.out, World.ownsRow_nil _ _ _ _, (Below.refl _ w).alloc (Nat.le_refl _) _⟩
  case round =>
    obtain ⟨done, rest, q, hx, hg, rfl, hch, hown, hb⟩ := hrel
    have HX := Lib.hid hx
    have HB := Lib.hid hb
    have HO := Lib.hid hown
    clear hx hb hown
    cases rest with
    | nil =>
      obtain rfl : q = none := hch
      have hxd : done = xs := by rw [HX.out, List.append_nil]
      subst hxd
      rcases HO.out.2 with ⟨rfl, h0⟩ | ⟨g, cap, cur, rfl, hgb, hgc, hcap, hcapm, hsz, htake⟩
      · have hd0 : done = [] := by simpa using h0
        subst hd0
        go_wp2_with (first
          | (go_at_call 37; refine (Try.slices_Reverse_string_empty _ _ _).mono ?_; rintro e w2 ⟨rfl, rfl⟩)
          | (go_at_call 38; refine (Try.strings_Join_none _ _ _ _).mono ?_; rintro e w3 ⟨rfl, rfl⟩))
        go_ret
        exact ⟨rfl, HB.out⟩
      · have hblk : Blk wr g 9 cur := hgc
        have hgl := hblk.lt
        have hrev := reverse_walk wr g cap done (by have := HS.out; omega) (fun i hi => by
          rw [hblk.cell]
          have h : (cur.toList.take (done.length * 1))[i]? = (done.map Value.string)[i]? := by rw [htake]
          rw [List.getElem?_take_of_lt (by omega)] at h
          simpa [hi] using h) (fun i => hblk.thaw i)
        have HREV := Lib.hid hrev
        have HGL := Lib.hid hgl
        have HGB := Lib.hid hgb
        clear hblk hgl hrev hgb hgc hcapm hsz htake
        go_wp2_with (first
          | (go_at_call 37
             refine HREV.out.mono ?_
             rintro e w2 ⟨rfl, hex, hcs⟩
             have hj := Try.strings_Join g 0 cap done.reverse ⟨#[]⟩ w2 (fun j x hx => by
               obtain ⟨hj, rfl⟩ := List.getElem?_eq_some_iff.1 hx
               rw [Nat.zero_add]; exact hcs j hj) (Nat.lt_of_lt_of_le HGL.out hex.size) (by rw [List.length_reverse]; have := HS.out; omega) (by rw [List.length_reverse]; exact hcap) (by
               show (Lib.join _ []).length ≤ _
               rw [join_nil, joined_flat]; have := HL.out; omega)
             rw [List.length_reverse] at hj
             have HJ := Lib.hid hj
             have HEX := Lib.hid hex
             clear hj hex hcs)
          | (go_at_call 38; refine HJ.out.mono ?_; rintro e w3 ⟨rfl, hb3⟩; have HB3 := Lib.hid hb3; clear hb3))
        go_ret
        refine ⟨?_, (Ex.below HB.out HEX.out HGB.out HB.out.size).trans (HB3.out.mono (by have := HB.out.size; have := HEX.out.size; omega))⟩
        show Ending.returned (Value.string ⟨(Lib.join _ []).toArray⟩) = _
        rw [join_nil, ← List.map_reverse, joined_flat]; rfl
    | cons x r =>
      obtain ⟨b, q', rfl, hx0, hbk, hr⟩ := hch
      have hbl := hbk.lt
      have c0 : wr.cell? ⟨b, 0, none⟩ = some (.pointer q') := by rw [HB.out.cell hbl, hbk.cell]; rfl
      have c1 : wr.cell? ⟨b, 1, none⟩ = some (.string x) := by rw [HB.out.cell hbl, hbk.cell]; rfl
      have HBL := Lib.hid hbl
      have HR := Lib.hid hr
      have hdl : done.length + (r.length + 1) = xs.length := by rw [HX.out]; simp
      have HDL := Lib.hid hdl
      clear hbl hr hbk hx0 hdl
      go_wp2_with (refine wpList_append_own _ rfl (.tmp 13) (.tmp 18) 24 rfl w.heap.size 9 _ (.string ByteArray.empty) 1 16 Try.underlying24 rfl rfl rfl rfl rfl (by decide) _ done.length _ rfl (HO.out.alloc _) ⟨wr.heap.size, 0, none⟩ 1 1 [.string x] rfl rfl (cells_of_blk (Blk.fresh wr 9 _)) (by simp; rfl) (by have := HS.out; have := HDL.out; unfold maxLen; omega) (by have := HS.out; have := HDL.out; omega) (by have := HB.out.size; simp; omega) ?_; intro v' w1 hown1 hgrow1 hiff1; have HO1 := Lib.hid hown1; have HB1 : Hid (Below w.heap.size w w1) := Below.grown (HB.out.alloc HB.out.size _) hgrow1 (fun k hk => (HO.out.lt k hk).1) (by have := HB.out.size; simp; omega); have e0 : w1.cell? ⟨b, 0, none⟩ = some (.pointer q') := by { rw [HB1.out.cell HBL.out, ← HB.out.cell HBL.out]; exact c0 }; clear hown1 hgrow1 hiff1)
      go_roundg r.length
      case measure => simp at hg; omega
      case rel =>
        exact ⟨done ++ [x], r, q', by rw [HX.out]; simp, Nat.le_refl _, rfl, HR.out, by have h := HO1.out; simpa using h, HB1.out⟩
end Go.Proofs.Ytjoiimhifogbhaa
