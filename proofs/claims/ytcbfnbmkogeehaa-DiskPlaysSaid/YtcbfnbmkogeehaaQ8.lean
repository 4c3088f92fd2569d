/- Both disks are written. -/
import Derived.Test.YtcbfnbmkogeehaaQ7
import Derived.Test.YtcbfnbmkogeehaaK28
namespace Go.Proofs.Ytcbfnbmkogeehaa
open Go.RowKit

/-- The block that a write lays, of which the first k bytes are laid. -/
def fillB (b : UInt8) (k : Nat) : List UInt8 := (List.range 512).map fun i => if i < k then b + UInt8.ofNat i else 0
theorem fillB_length (b : UInt8) (k : Nat) : (fillB b k).length = 512 := by unfold fillB; rw [List.length_map, List.length_range]
theorem fillB_zero (b : UInt8) : fillB b 0 = z512 := by
  unfold fillB z512
  simp only [Nat.not_lt_zero, if_false, List.map_const', List.length_range]
theorem fillB_set (b : UInt8) (k : Nat) (hk : k < 512) : (fillB b k).set k (b + UInt8.ofNat k) = fillB b (k + 1) := by
  apply List.ext_getElem?
  intro j
  have hg : ∀ m, j < 512 → (fillB b m)[j]? = some (if j < m then b + UInt8.ofNat j else 0) := fun m hj => by
    unfold fillB
    rw [List.getElem?_map, List.getElem?_range hj]
    rfl
  by_cases hj : j < 512
  · by_cases e : j = k
    · subst e
      rw [List.getElem?_set_self (by rw [fillB_length]; exact hj), hg _ hj, if_pos (by omega)]
    · rw [List.getElem?_set_ne (fun h => e h.symm), hg _ hj, hg _ hj]
      by_cases h : j < k
      · rw [if_pos h, if_pos (by omega)]
      · rw [if_neg h, if_neg (by omega)]
  · rw [List.getElem?_eq_none (by rw [List.length_set, fillB_length]; omega), List.getElem?_eq_none (by rw [fillB_length]; omega)]
theorem bytes_set (l : List UInt8) (i : Nat) (x : UInt8) : (l.map U).toArray.setIfInBounds i (U x) = ((l.set i x).map U).toArray := by
  rw [List.setIfInBounds_toArray, List.map_set]
def stW (g lb mb q sb lc wb : Nat) (s s' : Dk) : Nat → World → Prop
  | 0, W => Two W g lb mb q sb lc wb s
  | 1, W => (∃ D, Rep W g lb mb s' D) ∧ Rq W q sb lc wb s
  | _, W => Two W g lb mb q sb lc wb s'
theorem stW.up {g lb mb q sb lc wb m : Nat} {s s' : Dk} {W W' : World} (h : stW g lb mb q sb lc wb s s' m W) (hb : Below W.heap.size W W') : stW g lb mb q sb lc wb s s' m W' := by
  match m, h with
  | 0, h => exact Two.up h hb
  | 1, h => obtain ⟨⟨D, hr⟩, hq⟩ := h; exact ⟨⟨D, hr.up hb⟩, hq.up hb⟩
  | m + 2, h => exact Two.up (s := s') h hb

attribute [local irreducible] wpList in
set_option maxRecDepth 100000 in
set_option maxHeartbeats 4000000 in
theorem do_write (w : World) (g lb mb q sb lc wb : Nat) (s : Dk) (h : Two w g lb mb q sb lc wb s) (hd : s.done + 1 < 1000000000) (x k : Int) (b : UInt8) (A : Option Addr) (n c : Nat) (hx : x.tmod 5 = 0) :
    Calls Try.prog 10 #[.pointer (some ⟨g, 0, none⟩), .pointer (some ⟨q, 0, none⟩), .agg #[.int .i64 x, .int .i64 k, U b, .slice A n c]] w fun e w' => e = .returned (.bool true) ∧ Fx (seven g lb mb q sb lc wb) w w' ∧ Two w' g lb mb q sb lc wb (s.write k (fillB b 512)) := by
  have hz43 := zero43
  have H := Lib.hid h
  have hap : ∀ k ∈ seven g lb mb q sb lc wb, k < w.heap.size := by
    obtain ⟨D, hr⟩ := h.real
    have a1 := hr.apart
    have a2 := h.doc.apart
    intro k hk
    simp only [seven, List.mem_cons, List.not_mem_nil, or_false] at hk
    omega
  have HAP := Lib.hid hap
  clear h hap
  go_enter Try.func10, Try.ntmps10
  go_wp2
  have hb1 : Below w.heap.size w ((boxed w x k b A n c).alloc (.cells Z 43)) := (boxed_below w x k b A n c).alloc (boxed_below w x k b A n c).size _
  have hcx : Blk ((boxed w x k b A n c).alloc (.cells Z 43)) w.heap.size 32 #[.int .i64 x, .int .i64 k, U b, .slice A n c] := (boxed_cells w x k b A n c).more _
  have hcb : Blk ((boxed w x k b A n c).alloc (.cells Z 43)) (w.heap.size + 1) 43 Z := Blk.fresh_at (by simp) 43 Z
  have hsz : ((boxed w x k b A n c).alloc (.cells Z 43)).heap.size = w.heap.size + 1 + 1 := by simp
  unfold boxed at hb1 hcx hcb hsz
  generalize (w.alloc (.cells #[.int .i64 x, .int .i64 k, U b, .slice A n c] 32)).alloc (.cells Z 43) = w1 at *
  have HB1 := Lib.hid hb1
  have HCX := Lib.hid hcx
  have HCB := Lib.hid hcb
  have HSZ := Lib.hid hsz
  clear hb1 hcx hcb hsz
  go_loopw [16] (fun i wr => ∃ j : Nat, j ≤ 512 ∧ i = .int .i64 j ∧ Ex (w.heap.size + 1) w1 wr ∧ Blk wr (w.heap.size + 1) 43 ((fillB b j).map U).toArray) (fun i _ => 512 - (intOf i).toNat)
  case atStart => exact ⟨0, Nat.zero_le _, rfl, Ex.refl _ _, by rw [fillB_zero]; exact HCB.out⟩
  case round =>
    obtain ⟨j, hj, rfl, hex, hbl⟩ := hrel
    have HEX := Lib.hid hex
    have HBK := Lib.hid hbl
    clear hex hbl
    by_cases hlt : j < 512
    · have c2 : wr.cell? ⟨w.heap.size, 2, none⟩ = some (.int .u8 (b.toNat : Int)) := (HEX.out.blk HCX.out (by omega)).cell 2
      have cj : ∃ v, wr.cell? ⟨w.heap.size + 1, j, none⟩ = some v := by
        rw [HBK.out.cell]
        have hjl : j < ((fillB b j).map U).toArray.size := by rw [List.size_toArray, List.length_map, fillB_length]; exact hlt
        exact ⟨_, Array.getElem?_eq_getElem hjl⟩
      obtain ⟨vj, cj⟩ := cj
      have fj := HBK.out.thaw j
      go_wp2
      go_roundw
      case rel =>
        have hp := HBK.out.put j (U (b + UInt8.ofNat j))
        rw [bytes_set, fillB_set b j hlt] at hp
        have e9 : Value.int .u8 (((b.toNat : Int) + (j : Int)) % 256) = U (b + UInt8.ofNat j) := by
          have h9 : (b + UInt8.ofNat j).toNat = (b.toNat + j % 256) % 256 := by
            rw [UInt8.toNat_add]
            simp [UInt8.toNat_ofNat']
          rw [U_def, h9]
          congr 1
          omega
        rw [e9]
        exact ⟨j + 1, by omega, by go_num, HEX.out.trans (Ex.setCell _ _ _ _), hp⟩
      case measure => simp [intOf]; omega
    · obtain rfl : j = 512 := by omega
      have HFA : Hid (Fx (seven g lb mb q sb lc wb) w wr.drew) := by
        have h1 : Fx (seven g lb mb q sb lc wb) w w1 := Fx.of_below HB1.out
        exact ⟨HEX.out.os.trans h1.os, HEX.out.tape.trans h1.tape, HEX.out.output.trans h1.output, Nat.le_trans h1.size HEX.out.size, fun i hi hn => (HEX.out.block i (by have := h1.size; omega) (by omega)).trans (h1.block i hi hn)⟩
      have hbw : Below w.heap.size w wr.drew := (Ex.below HB1.out HEX.out (Nat.le_succ _) HB1.out.size).drew
      have HT : Hid (Two wr.drew g lb mb q sb lc wb s) := H.out.up hbw
      have hbl := fillB_length b 512
      have HCX2 : Hid (∀ W, Fx (seven g lb mb q sb lc wb) wr.drew W → W.cell? ⟨w.heap.size, 1, none⟩ = some (.int .i64 k)) := fun W hf =>
        (hf.blk (HEX.out.blk HCX.out (by omega)).drew (fun hm => by have := HAP.out _ hm; omega)).cell 1
      have HCB2 : Hid (∀ W, Fx (seven g lb mb q sb lc wb) wr.drew W → Blk W (w.heap.size + 1) 43 ((fillB b 512).map U).toArray) := fun W hf =>
        hf.blk HBK.out.drew (fun hm => by have := HAP.out _ hm; omega)
      generalize hblq : fillB b 512 = bl at *
      have HBLQ := Lib.hid hblq
      clear hblq
      have HBL := Lib.hid hbl
      clear hbl hbw HBK HEX HCX HCB HSZ HB1 HAP hlt
      go_wp2
      refine Seq.wp_region_seq (by kernel_rfl) (R := Fx (seven g lb mb q sb lc wb)) (Fx.refl _) (fun _ _ _ h k => h.trans k) (stW g lb mb q sb lc wb s (s.write k bl)) [4, 9] [[0], [5], [28], [11], [27, 29, 30], [1], [5], [33], [11], [32, 34, 35], [31, 36], [37]] [(27, spIs (.pointer (some ⟨g, 0, none⟩))), (28, spIs (.pointer (some ⟨w.heap.size, 1, none⟩))), (29, spIs (.int .i64 k)), (30, spIs (B bl)), (31, spIs (.int .i64 (s.writeE k))), (32, spIs (.pointer (some ⟨q, 0, none⟩))), (33, spIs (.pointer (some ⟨w.heap.size, 1, none⟩))), (34, spIs (.int .i64 k)), (35, spIs (B bl)), (36, spIs (.int .i64 (s.writeE k))), (37, spIs (.bool true)), (6, spIs (.bool true))] 95 rfl (by kernel_rfl) (by kernel_rfl) (by kernel_rfl) (by kernel_rfl) ?_ ?_ ?_
      · exact HT.out
      · refine ⟨?_, ?_, ?_, ?_, ?_, ?_, ?_, ?_, ?_, ?_, ?_, ?_, trivial⟩
        · as_aux_lemma =>
          refine Seq.UpOb.plain (by decide) (fun m W W2 h hb => stW.up h hb) (fun _ _ hb => Fx.of_below hb) rfl fun a W m hR hS hl K hK => ?_
          have h0 : a.tmps.getD 0 undef = (.pointer (some ⟨g, 0, none⟩)) := hl 0 (by decide)
          replace hK : ∀ v W2, Below W.heap.size W W2 → v = (.pointer (some ⟨g, 0, none⟩)) → K (a.put (some 27) v) W2 := fun v W2 h1 h2 => hK v W2 h1 (fun d hd => by cases hd; exact h2)
          clear hl
          simp only [Array.getD_eq_getD_getElem?] at h0
          go_simp
          exact hK _ W (Below.refl _ W) rfl
        · as_aux_lemma =>
          refine Seq.UpOb.plain (by decide) (fun m W W2 h hb => stW.up h hb) (fun _ _ hb => Fx.of_below hb) rfl fun a W m hR hS hl K hK => ?_
          have h5 : a.tmps.getD 5 undef = (.pointer (some ⟨w.heap.size, 0, none⟩)) := hl 5 (by decide)
          replace hK : ∀ v W2, Below W.heap.size W W2 → v = (.pointer (some ⟨w.heap.size, 1, none⟩)) → K (a.put (some 28) v) W2 := fun v W2 h1 h2 => hK v W2 h1 (fun d hd => by cases hd; exact h2)
          clear hl
          simp only [Array.getD_eq_getD_getElem?] at h5
          go_simp
          exact hK _ W (Below.refl _ W) rfl
        · as_aux_lemma =>
          refine Seq.UpOb.plain (by decide) (fun m W W2 h hb => stW.up h hb) (fun _ _ hb => Fx.of_below hb) rfl fun a W m hR hS hl K hK => ?_
          have h28 : a.tmps.getD 28 undef = (.pointer (some ⟨w.heap.size, 1, none⟩)) := hl 28 (by decide)
          replace hK : ∀ v W2, Below W.heap.size W W2 → v = (.int .i64 k) → K (a.put (some 29) v) W2 := fun v W2 h1 h2 => hK v W2 h1 (fun d hd => by cases hd; exact h2)
          clear hl
          have hc := HCX2.out W hR
          simp only [Array.getD_eq_getD_getElem?] at h28
          go_simp
          exact hK _ W (Below.refl _ W) rfl
        · as_aux_lemma =>
          refine Seq.UpOb.plain (by decide) (fun m W W2 h hb => stW.up h hb) (fun _ _ hb => Fx.of_below hb) rfl fun a W m hR hS hl K hK => ?_
          have h11 : a.tmps.getD 11 undef = (.pointer (some ⟨w.heap.size + 1, 0, none⟩)) := hl 11 (by decide)
          replace hK : ∀ v W2, Below W.heap.size W W2 → v = (B bl) → K (a.put (some 30) v) W2 := fun v W2 h1 h2 => hK v W2 h1 (fun d hd => by cases hd; exact h2)
          clear hl
          exact wp_load_row 43 _ rfl (w.heap.size + 1) h11 43 _ (0, 0) _ (HCB2.out W hR) Try.underlying43 rfl (BRow bl HBL.out) (hK _ W (Below.refl _ W) rfl)
        · as_aux_lemma =>
          refine Seq.UpOb.turns 0 rfl rfl fun a W hl hR hS K hK => ?_
          have h27 : a.tmps.getD 27 undef = (.pointer (some ⟨g, 0, none⟩)) := hl 27 (by decide)
          have h29 : a.tmps.getD 29 undef = (.int .i64 k) := hl 29 (by decide)
          have h30 : a.tmps.getD 30 undef = (B bl) := hl 30 (by decide)
          replace hK : ∀ v W2, Fx (seven g lb mb q sb lc wb) W W2 → v = (.int .i64 (s.writeE k)) → (stW g lb mb q sb lc wb s (s.write k bl)) 1 W2 → K (a.put (some 31) v) W2 := fun v W2 h1 h2 h3 => hK v W2 h1 (fun d hd => by cases hd; exact h2) h3
          clear hl
          have hT : Two W g lb mb q sb lc wb s := hS
          obtain ⟨D1, hr1⟩ := hT.real
          have hs := write_walk W g lb mb s D1 k bl hr1 HBL.out hd
          simp only [Array.getD_eq_getD_getElem?] at h27 h29 h30
          go_simp
          refine hs.mono ?_
          rintro e w6 ⟨rfl, hx6, hr6⟩
          exact hK _ w6 (Fx.fr7 (Fr.of_ex2 hx6)) rfl ⟨hr6, hT.half (Fr.of_ex2 hx6)⟩
        · as_aux_lemma =>
          refine Seq.UpOb.plain (by decide) (fun m W W2 h hb => stW.up h hb) (fun _ _ hb => Fx.of_below hb) rfl fun a W m hR hS hl K hK => ?_
          have h1 : a.tmps.getD 1 undef = (.pointer (some ⟨q, 0, none⟩)) := hl 1 (by decide)
          replace hK : ∀ v W2, Below W.heap.size W W2 → v = (.pointer (some ⟨q, 0, none⟩)) → K (a.put (some 32) v) W2 := fun v W2 h1 h2 => hK v W2 h1 (fun d hd => by cases hd; exact h2)
          clear hl
          simp only [Array.getD_eq_getD_getElem?] at h1
          go_simp
          exact hK _ W (Below.refl _ W) rfl
        · as_aux_lemma =>
          refine Seq.UpOb.plain (by decide) (fun m W W2 h hb => stW.up h hb) (fun _ _ hb => Fx.of_below hb) rfl fun a W m hR hS hl K hK => ?_
          have h5 : a.tmps.getD 5 undef = (.pointer (some ⟨w.heap.size, 0, none⟩)) := hl 5 (by decide)
          replace hK : ∀ v W2, Below W.heap.size W W2 → v = (.pointer (some ⟨w.heap.size, 1, none⟩)) → K (a.put (some 33) v) W2 := fun v W2 h1 h2 => hK v W2 h1 (fun d hd => by cases hd; exact h2)
          clear hl
          simp only [Array.getD_eq_getD_getElem?] at h5
          go_simp
          exact hK _ W (Below.refl _ W) rfl
        · as_aux_lemma =>
          refine Seq.UpOb.plain (by decide) (fun m W W2 h hb => stW.up h hb) (fun _ _ hb => Fx.of_below hb) rfl fun a W m hR hS hl K hK => ?_
          have h33 : a.tmps.getD 33 undef = (.pointer (some ⟨w.heap.size, 1, none⟩)) := hl 33 (by decide)
          replace hK : ∀ v W2, Below W.heap.size W W2 → v = (.int .i64 k) → K (a.put (some 34) v) W2 := fun v W2 h1 h2 => hK v W2 h1 (fun d hd => by cases hd; exact h2)
          clear hl
          have hc := HCX2.out W hR
          simp only [Array.getD_eq_getD_getElem?] at h33
          go_simp
          exact hK _ W (Below.refl _ W) rfl
        · as_aux_lemma =>
          refine Seq.UpOb.plain (by decide) (fun m W W2 h hb => stW.up h hb) (fun _ _ hb => Fx.of_below hb) rfl fun a W m hR hS hl K hK => ?_
          have h11 : a.tmps.getD 11 undef = (.pointer (some ⟨w.heap.size + 1, 0, none⟩)) := hl 11 (by decide)
          replace hK : ∀ v W2, Below W.heap.size W W2 → v = (B bl) → K (a.put (some 35) v) W2 := fun v W2 h1 h2 => hK v W2 h1 (fun d hd => by cases hd; exact h2)
          clear hl
          exact wp_load_row 43 _ rfl (w.heap.size + 1) h11 43 _ (0, 0) _ (HCB2.out W hR) Try.underlying43 rfl (BRow bl HBL.out) (hK _ W (Below.refl _ W) rfl)
        · as_aux_lemma =>
          refine Seq.UpOb.turns 1 rfl rfl fun a W hl hR hS K hK => ?_
          have h32 : a.tmps.getD 32 undef = (.pointer (some ⟨q, 0, none⟩)) := hl 32 (by decide)
          have h34 : a.tmps.getD 34 undef = (.int .i64 k) := hl 34 (by decide)
          have h35 : a.tmps.getD 35 undef = (B bl) := hl 35 (by decide)
          replace hK : ∀ v W2, Fx (seven g lb mb q sb lc wb) W W2 → v = (.int .i64 (s.writeE k)) → (stW g lb mb q sb lc wb s (s.write k bl)) 2 W2 → K (a.put (some 36) v) W2 := fun v W2 h1 h2 h3 => hK v W2 h1 (fun d hd => by cases hd; exact h2) h3
          clear hl
          obtain ⟨hreal, hdoc⟩ := hS
          have hs := qwrite_walk W q sb lc wb s k bl hdoc HBL.out hd
          simp only [Array.getD_eq_getD_getElem?] at h32 h34 h35
          go_simp
          refine hs.mono ?_
          rintro e w6 ⟨rfl, hx6, hq6⟩
          exact hK _ w6 (Fx.q7 hx6) rfl (H.out.turn hreal hx6 hq6)
        · as_aux_lemma =>
          refine Seq.UpOb.plain (by decide) (fun m W W2 h hb => stW.up h hb) (fun _ _ hb => Fx.of_below hb) rfl fun a W m hR hS hl K hK => ?_
          have h31 : a.tmps.getD 31 undef = (.int .i64 (s.writeE k)) := hl 31 (by decide)
          have h36 : a.tmps.getD 36 undef = (.int .i64 (s.writeE k)) := hl 36 (by decide)
          replace hK : ∀ v W2, Below W.heap.size W W2 → v = (.bool true) → K (a.put (some 37) v) W2 := fun v W2 h1 h2 => hK v W2 h1 (fun d hd => by cases hd; exact h2)
          clear hl
          simp only [Array.getD_eq_getD_getElem?] at h31 h36
          go_simp
          exact hK _ W (Below.refl _ W) (by simp)
        · as_aux_lemma =>
          refine Seq.UpOb.plain (by decide) (fun m W W2 h hb => stW.up h hb) (fun _ _ hb => Fx.of_below hb) rfl fun a W m hR hS hl K hK => ?_
          have h37 : a.tmps.getD 37 undef = (.bool true) := hl 37 (by decide)
          replace hK : ∀ v W2, Below W.heap.size W W2 → v = (.bool true) → K (a.put (some 6) v) W2 := fun v W2 h1 h2 => hK v W2 h1 (fun d hd => by cases hd; exact h2)
          clear hl
          simp only [Array.getD_eq_getD_getElem?] at h37
          go_simp
          exact hK _ W (Below.refl _ W) rfl
      · intro a W3 hd3 hsz hR3 hl hS3
        have hl' : ∀ t, Seq.SpOf _ _ t (a.tmps.getD t undef) W3 := hl
        have htm := Seq.tmps_eq (hsz.trans rfl) [27, 28, 29, 30, 31, 32, 33, 34, 35, 36, 37, 6] [(27, .pointer (some ⟨g, 0, none⟩)), (28, .pointer (some ⟨w.heap.size, 1, none⟩)), (29, .int .i64 k), (30, B bl), (31, .int .i64 (s.writeE k)), (32, .pointer (some ⟨q, 0, none⟩)), (33, .pointer (some ⟨w.heap.size, 1, none⟩)), (34, .int .i64 k), (35, B bl), (36, .int .i64 (s.writeE k)), (37, .bool true), (6, .bool true)] rfl rfl (by decide) 95 rfl (by decide) hl' (by
          intro p hp
          simp only [List.mem_cons, List.not_mem_nil, or_false] at hp
          rcases hp with rfl | rfl | rfl | rfl | rfl | rfl | rfl | rfl | rfl | rfl | rfl | rfl
          · exact hl 27
          · exact hl 28
          · exact hl 29
          · exact hl 30
          · exact hl 31
          · exact hl 32
          · exact hl 33
          · exact hl 34
          · exact hl 35
          · exact hl 36
          · exact hl 37
          · exact hl 6
          )
        clear hl hl' hsz
        have hact : a = ⟨_, []⟩ := Seq.act_eq hd3 htm
        clear htm hd3
        rw [hact]
        clear hact
        simp only [List.foldl, List.setIfInBounds_toArray, List.set]
        go_wp2
        go_ret
        have hS4 : Two W3 g lb mb q sb lc wb (s.write k bl) := hS3
        rw [← HBLQ.out] at hS4
        exact ⟨rfl, HFA.out.trans hR3, hS4⟩
end Go.Proofs.Ytcbfnbmkogeehaa
