/- Both disks are held against each other. -/
import Derived.Test.YtcbfnbmkogeehaaQ8
namespace Go.Proofs.Ytcbfnbmkogeehaa
open Go.RowKit

theorem Ws.up {g lb mb : Nat} {s : Dk} {v : Value} {W W' : World} (h : Ws g lb mb s v W) (hb : Below W.heap.size W W') : Ws g lb mb s v W' := by
  obtain ⟨A, c, l, e, h1, h2, h3, h4⟩ := h
  refine ⟨A, c, l, e, h1, h2, h3, fun h => ?_⟩
  obtain ⟨b, e1, a1, a2, a3, a4, a5⟩ := h4 h
  exact ⟨b, e1, a1, a2, a3, Nat.lt_of_lt_of_le a4 hb.size, fun j hj => (hb.cell a4).trans (a5 j hj)⟩
theorem Wq.up {B : Nat} {s : Dk} {v : Value} {W W' : World} (h : Wq B s v W) (hb : Below W.heap.size W W') : Wq B s v W' := by
  obtain ⟨A, c, l, e, h1, h2, h3, h4⟩ := h
  refine ⟨A, c, l, e, h1, h2, h3, fun h => ?_⟩
  obtain ⟨b, e1, a1, a4, a5⟩ := h4 h
  exact ⟨b, e1, a1, Nat.lt_of_lt_of_le a4 hb.size, fun j hj => (hb.cell a4).trans (a5 j hj)⟩
theorem Wq.from0 {B : Nat} {s : Dk} {v : Value} {W : World} (h : Wq B s v W) : Wq 0 s v W := by
  obtain ⟨A, c, l, e, h1, h2, h3, h4⟩ := h
  refine ⟨A, c, l, e, h1, h2, h3, fun h => ?_⟩
  obtain ⟨b, e1, a1, a4, a5⟩ := h4 h
  exact ⟨b, e1, Nat.zero_le _, a4, a5⟩
def spWs (g lb mb : Nat) (s : Dk) : Seq.Sp (fun a b => Below a.heap.size a b) := ⟨fun x W => Ws g lb mb s x W, fun _ _ _ h hx => h.up hx⟩
def spWq (s : Dk) : Seq.Sp (fun a b => Below a.heap.size a b) := ⟨fun x W => Wq 0 s x W, fun _ _ _ h hx => h.up hx⟩

attribute [local irreducible] wpList in
set_option maxRecDepth 100000 in
set_option maxHeartbeats 4000000 in
theorem same_walk (w : World) (g lb mb q sb lc wb : Nat) (s : Dk) (h : Two w g lb mb q sb lc wb s) :
    Calls Try.prog 13 #[.pointer (some ⟨g, 0, none⟩), .pointer (some ⟨q, 0, none⟩)] w fun e w' => e = .returned (.bool true) ∧ Below w.heap.size w w' := by
  have hz43 := zero43
  obtain ⟨n, hn⟩ : ∃ n, s.last.length = n := ⟨_, rfl⟩
  have HOK := Lib.hid h.doc.ok
  have hhi := h.doc.ok.high
  rw [hn] at hhi
  have HT : Hid (∀ W, Below w.heap.size w W → Two W g lb mb q sb lc wb s) := fun W hW => h.up hW
  have HN := Lib.hid hn
  have HC1 : Hid (∀ W, Below w.heap.size w W → W.cell? ⟨q, 1, none⟩ = some (.slice (some ⟨lc, 0, none⟩) n n)) := fun W hW => by
    have hc := (HT.out W hW).doc.blk.cell 1
    rw [hc]
    show some (Value.slice (some ⟨lc, 0, none⟩) s.last.length s.last.length) = _
    rw [HN.out]
  have c1 := HC1.out w (Below.refl _ _)
  clear h hn
  go_enter Try.func13, Try.ntmps13
  go_wp2
  clear c1
  go_loopw [15] (fun i wr => ∃ k : Nat, k ≤ n ∧ i = .int .i64 k ∧ Below w.heap.size w wr) (fun i _ => n - (intOf i).toNat)
  case atStart => exact ⟨0, Nat.zero_le _, rfl, Below.refl _ _⟩
  case round =>
    obtain ⟨k, hk, rfl, hb⟩ := hrel
    have HB := Lib.hid hb
    clear hb
    by_cases hlt : k < n
    · have hkl : k < s.last.length := by rw [HN.out]; exact hlt
      obtain ⟨ll, hll⟩ : ∃ ll, s.last[k]? = some ll := ⟨_, List.getElem?_eq_getElem hkl⟩
      have hll5 : ll.length = 512 := HOK.out.bl ll (List.mem_of_getElem? hll)
      have hla : s.lasts (k : Int) = ll := by
        have hh : s.has (k : Int) = true := by
          unfold Dk.has
          simp only [Bool.and_eq_true, decide_eq_true_eq]
          omega
        unfold Dk.lasts
        rw [hh]
        simp [hll]
      have hrd : ∀ W, Below w.heap.size w W → Calls Try.prog 19 #[.pointer (some ⟨g, 0, none⟩), .int .i64 (k : Int)] W fun e w' => e = .returned (BE (s.read k)) ∧ Below W.heap.size W w' := fun W hW => by
        obtain ⟨D, hr⟩ := (HT.out W hW).real
        exact read_walk W g lb mb s D k hr
      have hqd : ∀ W, Below w.heap.size w W → Calls Try.prog 25 #[.pointer (some ⟨q, 0, none⟩), .int .i64 (k : Int)] W fun e w' => e = .returned (BE (s.read k)) ∧ Below W.heap.size W w' := fun W hW => qread_walk W q sb lc wb s k (HT.out W hW).doc
      have hlw : ∀ W, Below w.heap.size w W → Calls Try.prog 16 #[.pointer (some ⟨g, 0, none⟩), .int .i64 (k : Int)] W fun e w' => e = .returned (B ll) ∧ Below W.heap.size W w' := fun W hW => by
        obtain ⟨D, hr⟩ := (HT.out W hW).real
        rw [← hla]
        exact lasts_walk W g lb mb s k hr.ok hr.blk hr.lst
      have hl5 := Dk.read_length HOK.out k
      generalize s.read (k : Int) = re at *
      obtain ⟨l, e0⟩ := re
      simp only at hl5
      unfold BE at hrd hqd
      simp only at hrd hqd
      have hz : Z.size = (l.map U).toArray.size := by rw [Z_size, BSize _ hl5]
      have HZ := Lib.hid hz
      have HL5 := Lib.hid hl5
      have HRD := Lib.hid hrd
      have HQD := Lib.hid hqd
      have HLW0 := Lib.hid hlw
      have HLL := Lib.hid hll
      have HLL5 := Lib.hid hll5
      have HLT2 : Hid ((k : Int) < (n : Int)) := by show (k : Int) < (n : Int); omega
      clear hkl hll hll5 hla hrd hqd hlw hl5 hz
      go_wp2_with (first
        | (go_at_call 19; refine (HRD.out _ HB.out).mono ?_; rintro e w1 ⟨rfl, hb1⟩; have HB1 := Lib.hid (HB.out.trans (hb1.mono HB.out.size)); clear hb1)
        | (go_at_call 25; refine (HQD.out w2 HB2.out).mono ?_; rintro e w3 ⟨rfl, hb3⟩; have HK3 := Lib.hid (HK2.out.kept hb3 HK2.out.lt); have HB3 := Lib.hid (HB2.out.trans (hb3.mono HB2.out.size)); clear hb3)
        | (refine wpList_store_fresh rfl 43 (.tmp 6) _ rfl (l.map U).toArray rfl rfl (BRow l HL5.out) HZ.out (BAll _) ?_; intro w2 hb2 hs2 hB2; have HK2 := Lib.hid hB2; have HB2 := Lib.hid (HB1.out.trans (hb2.mono HB1.out.size)); clear hb2 hs2 hB2)
        | (refine wpList_store_fresh rfl 43 (.tmp 8) _ rfl (l.map U).toArray rfl rfl (BRow l HL5.out) HZ.out (BAll _) ?_; intro w4 hb4 hs4 hB4; have HJ4 := Lib.hid hB4; have HK4 := Lib.hid (HK3.out.kept hb4 HK3.out.lt); have HB4 := Lib.hid (HB3.out.trans (hb4.mono HB3.out.size)); clear hb4 hs4 hB4))
      have HB8 : Hid (Below w.heap.size w w4.drew) := HB4.out.drew
      have hu : ∀ W, Below w4.drew.heap.size w4.drew W → Below w.heap.size w W := fun W h => HB8.out.trans (h.mono HB8.out.size)
      have HC1' : Hid (∀ W, Below w4.drew.heap.size w4.drew W → W.cell? ⟨q, 1, none⟩ = some (.slice (some ⟨lc, 0, none⟩) n n)) := fun W h => HC1.out W (hu W h)
      have HLW : Hid (∀ W, Below w4.drew.heap.size w4.drew W → Calls Try.prog 16 #[.pointer (some ⟨g, 0, none⟩), .int .i64 (k : Int)] W fun e w' => e = .returned (B ll) ∧ Below W.heap.size W w') := fun W h => HLW0.out W (hu W h)
      have HLC : Hid (∀ W, Below w4.drew.heap.size w4.drew W → Blk W lc 43 ((s.last.flatMap (·.map U)).toArray)) := fun W h => (HT.out W (hu W h)).doc.la
      have HK6 : Hid (∀ W, Below w4.drew.heap.size w4.drew W → Blk W w1.heap.size 43 (l.map U).toArray) := fun W h => HK4.out.drew.kept h HK4.out.lt
      have HK8 : Hid (∀ W, Below w4.drew.heap.size w4.drew W → Blk W w3.heap.size 43 (l.map U).toArray) := fun W h => HJ4.out.drew.kept h HJ4.out.lt
      clear hu HK4 HJ4 HB4 HK3 HB3 HK2 HB2 HB1 HRD HQD HLW0 HB HZ
      generalize w1.heap.size = b6 at *
      generalize w3.heap.size = b8 at *
      refine Seq.wp_region_seq (by kernel_rfl) (R := (fun a b => Below a.heap.size a b)) (fun a => Below.refl _ a) (fun _ _ _ h k => h.trans (k.mono h.size)) (fun _ _ => True) [] [[0], [5], [30, 31], [1], [33], [34], [35], [5], [36, 37], [38], [32, 39], [40], [6, 41], [8, 41], [42, 43, 41], [41, 44], [45], [7, 46], [9, 46], [47, 48, 46], [46, 49]] [(30, spIs (.pointer (some ⟨g, 0, none⟩))), (31, spIs (.int .i64 (k : Int))), (32, spIs (B ll)), (33, spIs (.pointer (some ⟨q, 0, none⟩))), (34, spIs (.pointer (some ⟨q, 0, none⟩))), (35, spIs (.pointer (some ⟨q, 1, none⟩))), (36, spIs (.slice (some ⟨lc, 0, none⟩) n n)), (37, spIs (.int .i64 (k : Int))), (38, spIs (.pointer (some ⟨lc, k * 512, none⟩))), (39, spIs (B ll)), (40, spIs (.bool false)), (41, spIs (.bool false)), (42, spIs (B l)), (43, spIs (B l)), (44, spIs (.bool false)), (45, spIs (.bool false)), (46, spIs (.bool false)), (47, spIs (.int .i64 e0)), (48, spIs (.int .i64 e0)), (49, spIs (.bool false)), (50, spIs (.bool false))] 85 rfl (by kernel_rfl) (by kernel_rfl) (by kernel_rfl) (by kernel_rfl) ?_ ?_ ?_
      · trivial
      · refine ⟨?_, ?_, ?_, ?_, ?_, ?_, ?_, ?_, ?_, ?_, ?_, ?_, ?_, ?_, ?_, ?_, ?_, ?_, ?_, ?_, ?_, trivial⟩
        · as_aux_lemma =>
          refine Seq.UpOb.plain (by decide) (fun _ _ _ _ _ => trivial) (fun _ _ h => h) rfl fun a W m hR hS hl K hK => ?_
          have h0 : a.tmps.getD 0 undef = (.pointer (some ⟨g, 0, none⟩)) := hl 0 (by decide)
          replace hK : ∀ v W2, Below W.heap.size W W2 → v = (.pointer (some ⟨g, 0, none⟩)) → K (a.put (some 30) v) W2 := fun v W2 h1 h2 => hK v W2 h1 (fun d hd => by cases hd; exact h2)
          clear hl
          simp only [Array.getD_eq_getD_getElem?] at h0
          go_simp
          exact hK _ W (Below.refl _ W) rfl
        · as_aux_lemma =>
          refine Seq.UpOb.plain (by decide) (fun _ _ _ _ _ => trivial) (fun _ _ h => h) rfl fun a W m hR hS hl K hK => ?_
          have h5 : a.tmps.getD 5 undef = (.int .i64 (k : Int)) := hl 5 (by decide)
          replace hK : ∀ v W2, Below W.heap.size W W2 → v = (.int .i64 (k : Int)) → K (a.put (some 31) v) W2 := fun v W2 h1 h2 => hK v W2 h1 (fun d hd => by cases hd; exact h2)
          clear hl
          simp only [Array.getD_eq_getD_getElem?] at h5
          go_simp
          exact hK _ W (Below.refl _ W) rfl
        · as_aux_lemma =>
          refine Seq.UpOb.plain (by decide) (fun _ _ _ _ _ => trivial) (fun _ _ h => h) rfl fun a W m hR hS hl K hK => ?_
          have h30 : a.tmps.getD 30 undef = (.pointer (some ⟨g, 0, none⟩)) := hl 30 (by decide)
          have h31 : a.tmps.getD 31 undef = (.int .i64 (k : Int)) := hl 31 (by decide)
          replace hK : ∀ v W2, Below W.heap.size W W2 → v = (B ll) → K (a.put (some 32) v) W2 := fun v W2 h1 h2 => hK v W2 h1 (fun d hd => by cases hd; exact h2)
          clear hl
          have hs := HLW.out W hR
          simp only [Array.getD_eq_getD_getElem?] at h30 h31
          go_simp
          refine hs.mono ?_
          rintro e w6 ⟨rfl, hb6⟩
          exact hK _ w6 hb6 rfl
        · as_aux_lemma =>
          refine Seq.UpOb.plain (by decide) (fun _ _ _ _ _ => trivial) (fun _ _ h => h) rfl fun a W m hR hS hl K hK => ?_
          have h1 : a.tmps.getD 1 undef = (.pointer (some ⟨q, 0, none⟩)) := hl 1 (by decide)
          replace hK : ∀ v W2, Below W.heap.size W W2 → v = (.pointer (some ⟨q, 0, none⟩)) → K (a.put (some 33) v) W2 := fun v W2 h1 h2 => hK v W2 h1 (fun d hd => by cases hd; exact h2)
          clear hl
          simp only [Array.getD_eq_getD_getElem?] at h1
          go_simp
          exact hK _ W (Below.refl _ W) rfl
        · as_aux_lemma =>
          refine Seq.UpOb.plain (by decide) (fun _ _ _ _ _ => trivial) (fun _ _ h => h) rfl fun a W m hR hS hl K hK => ?_
          have h33 : a.tmps.getD 33 undef = (.pointer (some ⟨q, 0, none⟩)) := hl 33 (by decide)
          replace hK : ∀ v W2, Below W.heap.size W W2 → v = (.pointer (some ⟨q, 0, none⟩)) → K (a.put (some 34) v) W2 := fun v W2 h1 h2 => hK v W2 h1 (fun d hd => by cases hd; exact h2)
          clear hl
          simp only [Array.getD_eq_getD_getElem?] at h33
          go_simp
          exact hK _ W (Below.refl _ W) rfl
        · as_aux_lemma =>
          refine Seq.UpOb.plain (by decide) (fun _ _ _ _ _ => trivial) (fun _ _ h => h) rfl fun a W m hR hS hl K hK => ?_
          have h34 : a.tmps.getD 34 undef = (.pointer (some ⟨q, 0, none⟩)) := hl 34 (by decide)
          replace hK : ∀ v W2, Below W.heap.size W W2 → v = (.pointer (some ⟨q, 1, none⟩)) → K (a.put (some 35) v) W2 := fun v W2 h1 h2 => hK v W2 h1 (fun d hd => by cases hd; exact h2)
          clear hl
          simp only [Array.getD_eq_getD_getElem?] at h34
          go_simp
          exact hK _ W (Below.refl _ W) rfl
        · as_aux_lemma =>
          refine Seq.UpOb.plain (by decide) (fun _ _ _ _ _ => trivial) (fun _ _ h => h) rfl fun a W m hR hS hl K hK => ?_
          have h35 : a.tmps.getD 35 undef = (.pointer (some ⟨q, 1, none⟩)) := hl 35 (by decide)
          replace hK : ∀ v W2, Below W.heap.size W W2 → v = (.slice (some ⟨lc, 0, none⟩) n n) → K (a.put (some 36) v) W2 := fun v W2 h1 h2 => hK v W2 h1 (fun d hd => by cases hd; exact h2)
          clear hl
          have hc := HC1'.out W hR
          simp only [Array.getD_eq_getD_getElem?] at h35
          go_simp
          exact hK _ W (Below.refl _ W) rfl
        · as_aux_lemma =>
          refine Seq.UpOb.plain (by decide) (fun _ _ _ _ _ => trivial) (fun _ _ h => h) rfl fun a W m hR hS hl K hK => ?_
          have h5 : a.tmps.getD 5 undef = (.int .i64 (k : Int)) := hl 5 (by decide)
          replace hK : ∀ v W2, Below W.heap.size W W2 → v = (.int .i64 (k : Int)) → K (a.put (some 37) v) W2 := fun v W2 h1 h2 => hK v W2 h1 (fun d hd => by cases hd; exact h2)
          clear hl
          simp only [Array.getD_eq_getD_getElem?] at h5
          go_simp
          exact hK _ W (Below.refl _ W) rfl
        · as_aux_lemma =>
          refine Seq.UpOb.plain (by decide) (fun _ _ _ _ _ => trivial) (fun _ _ h => h) rfl fun a W m hR hS hl K hK => ?_
          have h36 : a.tmps.getD 36 undef = (.slice (some ⟨lc, 0, none⟩) n n) := hl 36 (by decide)
          have h37 : a.tmps.getD 37 undef = (.int .i64 (k : Int)) := hl 37 (by decide)
          replace hK : ∀ v W2, Below W.heap.size W W2 → v = (.pointer (some ⟨lc, k * 512, none⟩)) → K (a.put (some 38) v) W2 := fun v W2 h1 h2 => hK v W2 h1 (fun d hd => by cases hd; exact h2)
          clear hl
          have hlt2 := HLT2.out
          simp only [Array.getD_eq_getD_getElem?] at h36 h37
          go_simp
          exact hK _ W (Below.refl _ W) rfl
        · as_aux_lemma =>
          refine Seq.UpOb.plain (by decide) (fun _ _ _ _ _ => trivial) (fun _ _ h => h) rfl fun a W m hR hS hl K hK => ?_
          have h38 : a.tmps.getD 38 undef = (.pointer (some ⟨lc, k * 512, none⟩)) := hl 38 (by decide)
          replace hK : ∀ v W2, Below W.heap.size W W2 → v = (B ll) → K (a.put (some 39) v) W2 := fun v W2 h1 h2 => hK v W2 h1 (fun d hd => by cases hd; exact h2)
          clear hl
          exact wp_load_blk _ rfl lc k h38 s.last ll HOK.out.bl (HLC.out W hR) HLL.out (hK _ W (Below.refl _ W) rfl)
        · as_aux_lemma =>
          refine Seq.UpOb.plain (by decide) (fun _ _ _ _ _ => trivial) (fun _ _ h => h) rfl fun a W m hR hS hl K hK => ?_
          have h32 : a.tmps.getD 32 undef = (B ll) := hl 32 (by decide)
          have h39 : a.tmps.getD 39 undef = (B ll) := hl 39 (by decide)
          replace hK : ∀ v W2, Below W.heap.size W W2 → v = (.bool false) → K (a.put (some 40) v) W2 := fun v W2 h1 h2 => hK v W2 h1 (fun d hd => by cases hd; exact h2)
          clear hl
          exact wp_ne43 _ _ _ rfl ll HLL5.out h32 h39 (hK _ W (Below.refl _ W) rfl)
        · as_aux_lemma =>
          refine Seq.UpOb.plain (by decide) (fun _ _ _ _ _ => trivial) (fun _ _ h => h) rfl fun a W m hR hS hl K hK => ?_
          have h40 : a.tmps.getD 40 undef = (.bool false) := hl 40 (by decide)
          replace hK : ∀ v W2, Below W.heap.size W W2 → v = (.bool false) → K (a.put (some 41) v) W2 := fun v W2 h1 h2 => hK v W2 h1 (fun d hd => by cases hd; exact h2)
          clear hl
          simp only [Array.getD_eq_getD_getElem?] at h40
          go_simp
          exact hK _ W (Below.refl _ W) rfl
        · as_aux_lemma =>
          refine Seq.UpOb.guarded (d := 41) (by decide) (fun _ _ _ _ _ => trivial) (fun _ _ h => h) rfl rfl (fun a W hl => hl 41 (by decide)) fun a W m hR hS hl K hK => ?_
          have h6 : a.tmps.getD 6 undef = (.pointer (some ⟨b6, 0, none⟩)) := hl 6 (by decide)
          have h41 : a.tmps.getD 41 undef = (.bool false) := hl 41 (by decide)
          replace hK : ∀ v W2, Below W.heap.size W W2 → v = (B l) → K (a.put (some 42) v) W2 := fun v W2 h1 h2 => hK v W2 h1 (fun d hd => by cases hd; exact h2)
          clear hl
          exact wp_load_row 43 _ rfl b6 h6 43 _ (0, 0) _ (HK6.out W hR) Try.underlying43 rfl (BRow l HL5.out) (hK _ W (Below.refl _ W) rfl)
        · as_aux_lemma =>
          refine Seq.UpOb.guarded (d := 41) (by decide) (fun _ _ _ _ _ => trivial) (fun _ _ h => h) rfl rfl (fun a W hl => hl 41 (by decide)) fun a W m hR hS hl K hK => ?_
          have h8 : a.tmps.getD 8 undef = (.pointer (some ⟨b8, 0, none⟩)) := hl 8 (by decide)
          have h41 : a.tmps.getD 41 undef = (.bool false) := hl 41 (by decide)
          replace hK : ∀ v W2, Below W.heap.size W W2 → v = (B l) → K (a.put (some 43) v) W2 := fun v W2 h1 h2 => hK v W2 h1 (fun d hd => by cases hd; exact h2)
          clear hl
          exact wp_load_row 43 _ rfl b8 h8 43 _ (0, 0) _ (HK8.out W hR) Try.underlying43 rfl (BRow l HL5.out) (hK _ W (Below.refl _ W) rfl)
        · as_aux_lemma =>
          refine Seq.UpOb.guarded (d := 41) (by decide) (fun _ _ _ _ _ => trivial) (fun _ _ h => h) rfl rfl (fun a W hl => hl 41 (by decide)) fun a W m hR hS hl K hK => ?_
          have h42 : a.tmps.getD 42 undef = (B l) := hl 42 (by decide)
          have h43 : a.tmps.getD 43 undef = (B l) := hl 43 (by decide)
          have h41 : a.tmps.getD 41 undef = (.bool false) := hl 41 (by decide)
          replace hK : ∀ v W2, Below W.heap.size W W2 → v = (.bool false) → K (a.put (some 44) v) W2 := fun v W2 h1 h2 => hK v W2 h1 (fun d hd => by cases hd; exact h2)
          clear hl
          exact wp_ne43 _ _ _ rfl l HL5.out h42 h43 (hK _ W (Below.refl _ W) rfl)
        · as_aux_lemma =>
          refine Seq.UpOb.plain (by decide) (fun _ _ _ _ _ => trivial) (fun _ _ h => h) rfl fun a W m hR hS hl K hK => ?_
          have h41 : a.tmps.getD 41 undef = (.bool false) := hl 41 (by decide)
          have h44 : a.tmps.getD 44 undef = (.bool false) := hl 44 (by decide)
          replace hK : ∀ v W2, Below W.heap.size W W2 → v = (.bool false) → K (a.put (some 45) v) W2 := fun v W2 h1 h2 => hK v W2 h1 (fun d hd => by cases hd; exact h2)
          clear hl
          simp only [Array.getD_eq_getD_getElem?] at h41 h44
          go_simp
          exact hK _ W (Below.refl _ W) rfl
        · as_aux_lemma =>
          refine Seq.UpOb.plain (by decide) (fun _ _ _ _ _ => trivial) (fun _ _ h => h) rfl fun a W m hR hS hl K hK => ?_
          have h45 : a.tmps.getD 45 undef = (.bool false) := hl 45 (by decide)
          replace hK : ∀ v W2, Below W.heap.size W W2 → v = (.bool false) → K (a.put (some 46) v) W2 := fun v W2 h1 h2 => hK v W2 h1 (fun d hd => by cases hd; exact h2)
          clear hl
          simp only [Array.getD_eq_getD_getElem?] at h45
          go_simp
          exact hK _ W (Below.refl _ W) rfl
        · as_aux_lemma =>
          refine Seq.UpOb.guarded (d := 46) (by decide) (fun _ _ _ _ _ => trivial) (fun _ _ h => h) rfl rfl (fun a W hl => hl 46 (by decide)) fun a W m hR hS hl K hK => ?_
          have h7 : a.tmps.getD 7 undef = (.int .i64 e0) := hl 7 (by decide)
          have h46 : a.tmps.getD 46 undef = (.bool false) := hl 46 (by decide)
          replace hK : ∀ v W2, Below W.heap.size W W2 → v = (.int .i64 e0) → K (a.put (some 47) v) W2 := fun v W2 h1 h2 => hK v W2 h1 (fun d hd => by cases hd; exact h2)
          clear hl
          simp only [Array.getD_eq_getD_getElem?] at h7 h46
          go_simp
          exact hK _ W (Below.refl _ W) rfl
        · as_aux_lemma =>
          refine Seq.UpOb.guarded (d := 46) (by decide) (fun _ _ _ _ _ => trivial) (fun _ _ h => h) rfl rfl (fun a W hl => hl 46 (by decide)) fun a W m hR hS hl K hK => ?_
          have h9 : a.tmps.getD 9 undef = (.int .i64 e0) := hl 9 (by decide)
          have h46 : a.tmps.getD 46 undef = (.bool false) := hl 46 (by decide)
          replace hK : ∀ v W2, Below W.heap.size W W2 → v = (.int .i64 e0) → K (a.put (some 48) v) W2 := fun v W2 h1 h2 => hK v W2 h1 (fun d hd => by cases hd; exact h2)
          clear hl
          simp only [Array.getD_eq_getD_getElem?] at h9 h46
          go_simp
          exact hK _ W (Below.refl _ W) rfl
        · as_aux_lemma =>
          refine Seq.UpOb.guarded (d := 46) (by decide) (fun _ _ _ _ _ => trivial) (fun _ _ h => h) rfl rfl (fun a W hl => hl 46 (by decide)) fun a W m hR hS hl K hK => ?_
          have h47 : a.tmps.getD 47 undef = (.int .i64 e0) := hl 47 (by decide)
          have h48 : a.tmps.getD 48 undef = (.int .i64 e0) := hl 48 (by decide)
          have h46 : a.tmps.getD 46 undef = (.bool false) := hl 46 (by decide)
          replace hK : ∀ v W2, Below W.heap.size W W2 → v = (.bool false) → K (a.put (some 49) v) W2 := fun v W2 h1 h2 => hK v W2 h1 (fun d hd => by cases hd; exact h2)
          clear hl
          simp only [Array.getD_eq_getD_getElem?] at h47 h48 h46
          go_simp
          exact hK _ W (Below.refl _ W) (by simp)
        · as_aux_lemma =>
          refine Seq.UpOb.plain (by decide) (fun _ _ _ _ _ => trivial) (fun _ _ h => h) rfl fun a W m hR hS hl K hK => ?_
          have h46 : a.tmps.getD 46 undef = (.bool false) := hl 46 (by decide)
          have h49 : a.tmps.getD 49 undef = (.bool false) := hl 49 (by decide)
          replace hK : ∀ v W2, Below W.heap.size W W2 → v = (.bool false) → K (a.put (some 50) v) W2 := fun v W2 h1 h2 => hK v W2 h1 (fun d hd => by cases hd; exact h2)
          clear hl
          simp only [Array.getD_eq_getD_getElem?] at h46 h49
          go_simp
          exact hK _ W (Below.refl _ W) rfl
      · intro a W3 hd hsz hR3 hl _
        have hl' : ∀ t, Seq.SpOf _ _ t (a.tmps.getD t undef) W3 := hl
        have htm := Seq.tmps_eq (hsz.trans rfl) [30, 31, 32, 33, 34, 35, 36, 37, 38, 39, 40, 41, 42, 43, 44, 45, 46, 47, 48, 49, 50] [(30, .pointer (some ⟨g, 0, none⟩)), (31, .int .i64 (k : Int)), (32, B ll), (33, .pointer (some ⟨q, 0, none⟩)), (34, .pointer (some ⟨q, 0, none⟩)), (35, .pointer (some ⟨q, 1, none⟩)), (36, .slice (some ⟨lc, 0, none⟩) n n), (37, .int .i64 (k : Int)), (38, .pointer (some ⟨lc, k * 512, none⟩)), (39, B ll), (40, .bool false), (41, .bool false), (42, B l), (43, B l), (44, .bool false), (45, .bool false), (46, .bool false), (47, .int .i64 e0), (48, .int .i64 e0), (49, .bool false), (50, .bool false)] rfl rfl (by decide) 85 rfl (by decide) hl' (by
          intro p hp
          simp only [List.mem_cons, List.not_mem_nil, or_false] at hp
          rcases hp with rfl | rfl | rfl | rfl | rfl | rfl | rfl | rfl | rfl | rfl | rfl | rfl | rfl | rfl | rfl | rfl | rfl | rfl | rfl | rfl | rfl
          · exact hl 30
          · exact hl 31
          · exact hl 32
          · exact hl 33
          · exact hl 34
          · exact hl 35
          · exact hl 36
          · exact hl 37
          · exact hl 38
          · exact hl 39
          · exact hl 40
          · exact hl 41
          · exact hl 42
          · exact hl 43
          · exact hl 44
          · exact hl 45
          · exact hl 46
          · exact hl 47
          · exact hl 48
          · exact hl 49
          · exact hl 50
          )
        clear hl hl' hsz 
        have hact : a = ⟨_, []⟩ := Seq.act_eq hd htm
        clear htm hd
        rw [hact]
        clear hact
        simp only [List.foldl, List.setIfInBounds_toArray, List.set]
        go_wp2
        go_roundw
        case rel => exact ⟨k + 1, by omega, by go_num, HB8.out.trans (hR3.mono HB8.out.size)⟩
        case measure => simp [intOf]; omega
    · obtain rfl : n = k := by omega
      go_wp2
      have HU : Hid (∀ W, Below wr.drew.heap.size wr.drew W → Below w.heap.size w W) := fun W h => HB.out.drew.trans (h.mono HB.out.drew.size)
      have HC1' : Hid (∀ W, Below wr.drew.heap.size wr.drew W → W.cell? ⟨q, 1, none⟩ = some (.slice (some ⟨lc, 0, none⟩) n n)) := fun W h => HC1.out W (HU.out W h)
      have HT' : Hid (∀ W, Below wr.drew.heap.size wr.drew W → Two W g lb mb q sb lc wb s) := fun W h => HT.out W (HU.out W h)
      clear HU
      refine Seq.wp_region_seq (by kernel_rfl) (R := (fun a b => Below a.heap.size a b)) (fun a => Below.refl _ a) (fun _ _ _ h k => h.trans (k.mono h.size)) (fun _ _ => True) [] [[0], [52], [1], [54], [55], [56], [57], [53, 58], [59], [0, 60], [61, 60], [1, 60], [63, 60], [64, 60], [65, 60], [62, 66, 60], [60, 67], [68], [0, 69], [70, 69], [1, 69], [72, 69], [73, 69], [74, 69], [71, 75, 69], [69, 76], [77], [0, 78], [79, 78], [1, 78], [81, 78], [80, 82, 78], [78, 83], [84]] [(52, spIs (.pointer (some ⟨g, 0, none⟩))), (53, spIs (.int .i64 (n : Int))), (54, spIs (.pointer (some ⟨q, 0, none⟩))), (55, spIs (.pointer (some ⟨q, 0, none⟩))), (56, spIs (.pointer (some ⟨q, 1, none⟩))), (57, spIs (.slice (some ⟨lc, 0, none⟩) n n)), (58, spIs (.int .i64 (n : Int))), (59, spIs (.bool true)), (60, spIs (.bool true)), (61, spIs (.pointer (some ⟨g, 0, none⟩))), (62, spIs (.bool s.down)), (63, spIs (.pointer (some ⟨q, 0, none⟩))), (64, spIs (.pointer (some ⟨q, 0, none⟩))), (65, spIs (.pointer (some ⟨q, 5, none⟩))), (66, spIs (.bool s.down)), (67, spIs (.bool true)), (68, spIs (.bool true)), (69, spIs (.bool true)), (70, spIs (.pointer (some ⟨g, 0, none⟩))), (71, spIs (.int .i64 s.done)), (72, spIs (.pointer (some ⟨q, 0, none⟩))), (73, spIs (.pointer (some ⟨q, 0, none⟩))), (74, spIs (.pointer (some ⟨q, 3, none⟩))), (75, spIs (.int .i64 s.done)), (76, spIs (.bool true)), (77, spIs (.bool true)), (78, spIs (.bool true)), (79, spIs (.pointer (some ⟨g, 0, none⟩))), (80, spWs g lb mb s), (81, spIs (.pointer (some ⟨q, 0, none⟩))), (82, spWq s), (83, spIs (.bool true)), (84, spIs (.bool true)), (4, spIs (.bool true))] 85 rfl (by kernel_rfl) (by kernel_rfl) (by kernel_rfl) (by kernel_rfl) ?_ ?_ ?_
      · trivial
      · refine ⟨?_, ?_, ?_, ?_, ?_, ?_, ?_, ?_, ?_, ?_, ?_, ?_, ?_, ?_, ?_, ?_, ?_, ?_, ?_, ?_, ?_, ?_, ?_, ?_, ?_, ?_, ?_, ?_, ?_, ?_, ?_, ?_, ?_, ?_, trivial⟩
        · as_aux_lemma =>
          refine Seq.UpOb.plain (by decide) (fun _ _ _ _ _ => trivial) (fun _ _ h => h) rfl fun a W m hR hS hl K hK => ?_
          have h0 : a.tmps.getD 0 undef = (.pointer (some ⟨g, 0, none⟩)) := hl 0 (by decide)
          replace hK : ∀ v W2, Below W.heap.size W W2 → v = (.pointer (some ⟨g, 0, none⟩)) → K (a.put (some 52) v) W2 := fun v W2 h1 h2 => hK v W2 h1 (fun d hd => by cases hd; exact h2)
          clear hl
          simp only [Array.getD_eq_getD_getElem?] at h0
          go_simp
          exact hK _ W (Below.refl _ W) rfl
        · as_aux_lemma =>
          refine Seq.UpOb.plain (by decide) (fun _ _ _ _ _ => trivial) (fun _ _ h => h) rfl fun a W m hR hS hl K hK => ?_
          have h52 : a.tmps.getD 52 undef = (.pointer (some ⟨g, 0, none⟩)) := hl 52 (by decide)
          replace hK : ∀ v W2, Below W.heap.size W W2 → v = (.int .i64 (n : Int)) → K (a.put (some 53) v) W2 := fun v W2 h1 h2 => hK v W2 h1 (fun d hd => by cases hd; exact h2)
          clear hl
          obtain ⟨D1, hr1⟩ := (HT'.out W hR).real
          have hs := sectors_walk W g lb mb s D1 hr1
          rw [HN.out] at hs
          simp only [Array.getD_eq_getD_getElem?] at h52
          go_simp
          refine hs.mono ?_
          rintro e w6 ⟨rfl, rfl⟩
          exact hK _ _ (Below.refl _ _) rfl
        · as_aux_lemma =>
          refine Seq.UpOb.plain (by decide) (fun _ _ _ _ _ => trivial) (fun _ _ h => h) rfl fun a W m hR hS hl K hK => ?_
          have h1 : a.tmps.getD 1 undef = (.pointer (some ⟨q, 0, none⟩)) := hl 1 (by decide)
          replace hK : ∀ v W2, Below W.heap.size W W2 → v = (.pointer (some ⟨q, 0, none⟩)) → K (a.put (some 54) v) W2 := fun v W2 h1 h2 => hK v W2 h1 (fun d hd => by cases hd; exact h2)
          clear hl
          simp only [Array.getD_eq_getD_getElem?] at h1
          go_simp
          exact hK _ W (Below.refl _ W) rfl
        · as_aux_lemma =>
          refine Seq.UpOb.plain (by decide) (fun _ _ _ _ _ => trivial) (fun _ _ h => h) rfl fun a W m hR hS hl K hK => ?_
          have h54 : a.tmps.getD 54 undef = (.pointer (some ⟨q, 0, none⟩)) := hl 54 (by decide)
          replace hK : ∀ v W2, Below W.heap.size W W2 → v = (.pointer (some ⟨q, 0, none⟩)) → K (a.put (some 55) v) W2 := fun v W2 h1 h2 => hK v W2 h1 (fun d hd => by cases hd; exact h2)
          clear hl
          simp only [Array.getD_eq_getD_getElem?] at h54
          go_simp
          exact hK _ W (Below.refl _ W) rfl
        · as_aux_lemma =>
          refine Seq.UpOb.plain (by decide) (fun _ _ _ _ _ => trivial) (fun _ _ h => h) rfl fun a W m hR hS hl K hK => ?_
          have h55 : a.tmps.getD 55 undef = (.pointer (some ⟨q, 0, none⟩)) := hl 55 (by decide)
          replace hK : ∀ v W2, Below W.heap.size W W2 → v = (.pointer (some ⟨q, 1, none⟩)) → K (a.put (some 56) v) W2 := fun v W2 h1 h2 => hK v W2 h1 (fun d hd => by cases hd; exact h2)
          clear hl
          simp only [Array.getD_eq_getD_getElem?] at h55
          go_simp
          exact hK _ W (Below.refl _ W) rfl
        · as_aux_lemma =>
          refine Seq.UpOb.plain (by decide) (fun _ _ _ _ _ => trivial) (fun _ _ h => h) rfl fun a W m hR hS hl K hK => ?_
          have h56 : a.tmps.getD 56 undef = (.pointer (some ⟨q, 1, none⟩)) := hl 56 (by decide)
          replace hK : ∀ v W2, Below W.heap.size W W2 → v = (.slice (some ⟨lc, 0, none⟩) n n) → K (a.put (some 57) v) W2 := fun v W2 h1 h2 => hK v W2 h1 (fun d hd => by cases hd; exact h2)
          clear hl
          have hc := HC1'.out W hR
          simp only [Array.getD_eq_getD_getElem?] at h56
          go_simp
          exact hK _ W (Below.refl _ W) rfl
        · as_aux_lemma =>
          refine Seq.UpOb.plain (by decide) (fun _ _ _ _ _ => trivial) (fun _ _ h => h) rfl fun a W m hR hS hl K hK => ?_
          have h57 : a.tmps.getD 57 undef = (.slice (some ⟨lc, 0, none⟩) n n) := hl 57 (by decide)
          replace hK : ∀ v W2, Below W.heap.size W W2 → v = (.int .i64 (n : Int)) → K (a.put (some 58) v) W2 := fun v W2 h1 h2 => hK v W2 h1 (fun d hd => by cases hd; exact h2)
          clear hl
          simp only [Array.getD_eq_getD_getElem?] at h57
          go_simp
          exact hK _ W (Below.refl _ W) rfl
        · as_aux_lemma =>
          refine Seq.UpOb.plain (by decide) (fun _ _ _ _ _ => trivial) (fun _ _ h => h) rfl fun a W m hR hS hl K hK => ?_
          have h53 : a.tmps.getD 53 undef = (.int .i64 (n : Int)) := hl 53 (by decide)
          have h58 : a.tmps.getD 58 undef = (.int .i64 (n : Int)) := hl 58 (by decide)
          replace hK : ∀ v W2, Below W.heap.size W W2 → v = (.bool true) → K (a.put (some 59) v) W2 := fun v W2 h1 h2 => hK v W2 h1 (fun d hd => by cases hd; exact h2)
          clear hl
          simp only [Array.getD_eq_getD_getElem?] at h53 h58
          go_simp
          exact hK _ W (Below.refl _ W) (by simp)
        · as_aux_lemma =>
          refine Seq.UpOb.plain (by decide) (fun _ _ _ _ _ => trivial) (fun _ _ h => h) rfl fun a W m hR hS hl K hK => ?_
          have h59 : a.tmps.getD 59 undef = (.bool true) := hl 59 (by decide)
          replace hK : ∀ v W2, Below W.heap.size W W2 → v = (.bool true) → K (a.put (some 60) v) W2 := fun v W2 h1 h2 => hK v W2 h1 (fun d hd => by cases hd; exact h2)
          clear hl
          simp only [Array.getD_eq_getD_getElem?] at h59
          go_simp
          exact hK _ W (Below.refl _ W) rfl
        · as_aux_lemma =>
          refine Seq.UpOb.guarded (d := 60) (by decide) (fun _ _ _ _ _ => trivial) (fun _ _ h => h) rfl rfl (fun a W hl => hl 60 (by decide)) fun a W m hR hS hl K hK => ?_
          have h0 : a.tmps.getD 0 undef = (.pointer (some ⟨g, 0, none⟩)) := hl 0 (by decide)
          have h60 : a.tmps.getD 60 undef = (.bool true) := hl 60 (by decide)
          replace hK : ∀ v W2, Below W.heap.size W W2 → v = (.pointer (some ⟨g, 0, none⟩)) → K (a.put (some 61) v) W2 := fun v W2 h1 h2 => hK v W2 h1 (fun d hd => by cases hd; exact h2)
          clear hl
          simp only [Array.getD_eq_getD_getElem?] at h0 h60
          go_simp
          exact hK _ W (Below.refl _ W) rfl
        · as_aux_lemma =>
          refine Seq.UpOb.guarded (d := 60) (by decide) (fun _ _ _ _ _ => trivial) (fun _ _ h => h) rfl rfl (fun a W hl => hl 60 (by decide)) fun a W m hR hS hl K hK => ?_
          have h61 : a.tmps.getD 61 undef = (.pointer (some ⟨g, 0, none⟩)) := hl 61 (by decide)
          have h60 : a.tmps.getD 60 undef = (.bool true) := hl 60 (by decide)
          replace hK : ∀ v W2, Below W.heap.size W W2 → v = (.bool s.down) → K (a.put (some 62) v) W2 := fun v W2 h1 h2 => hK v W2 h1 (fun d hd => by cases hd; exact h2)
          clear hl
          obtain ⟨D1, hr1⟩ := (HT'.out W hR).real
          have hs := down_walk W g lb mb s D1 hr1
          simp only [Array.getD_eq_getD_getElem?] at h61 h60
          go_simp
          refine hs.mono ?_
          rintro e w6 ⟨rfl, rfl⟩
          exact hK _ _ (Below.refl _ _) rfl
        · as_aux_lemma =>
          refine Seq.UpOb.guarded (d := 60) (by decide) (fun _ _ _ _ _ => trivial) (fun _ _ h => h) rfl rfl (fun a W hl => hl 60 (by decide)) fun a W m hR hS hl K hK => ?_
          have h1 : a.tmps.getD 1 undef = (.pointer (some ⟨q, 0, none⟩)) := hl 1 (by decide)
          have h60 : a.tmps.getD 60 undef = (.bool true) := hl 60 (by decide)
          replace hK : ∀ v W2, Below W.heap.size W W2 → v = (.pointer (some ⟨q, 0, none⟩)) → K (a.put (some 63) v) W2 := fun v W2 h1 h2 => hK v W2 h1 (fun d hd => by cases hd; exact h2)
          clear hl
          simp only [Array.getD_eq_getD_getElem?] at h1 h60
          go_simp
          exact hK _ W (Below.refl _ W) rfl
        · as_aux_lemma =>
          refine Seq.UpOb.guarded (d := 60) (by decide) (fun _ _ _ _ _ => trivial) (fun _ _ h => h) rfl rfl (fun a W hl => hl 60 (by decide)) fun a W m hR hS hl K hK => ?_
          have h63 : a.tmps.getD 63 undef = (.pointer (some ⟨q, 0, none⟩)) := hl 63 (by decide)
          have h60 : a.tmps.getD 60 undef = (.bool true) := hl 60 (by decide)
          replace hK : ∀ v W2, Below W.heap.size W W2 → v = (.pointer (some ⟨q, 0, none⟩)) → K (a.put (some 64) v) W2 := fun v W2 h1 h2 => hK v W2 h1 (fun d hd => by cases hd; exact h2)
          clear hl
          simp only [Array.getD_eq_getD_getElem?] at h63 h60
          go_simp
          exact hK _ W (Below.refl _ W) rfl
        · as_aux_lemma =>
          refine Seq.UpOb.guarded (d := 60) (by decide) (fun _ _ _ _ _ => trivial) (fun _ _ h => h) rfl rfl (fun a W hl => hl 60 (by decide)) fun a W m hR hS hl K hK => ?_
          have h64 : a.tmps.getD 64 undef = (.pointer (some ⟨q, 0, none⟩)) := hl 64 (by decide)
          have h60 : a.tmps.getD 60 undef = (.bool true) := hl 60 (by decide)
          replace hK : ∀ v W2, Below W.heap.size W W2 → v = (.pointer (some ⟨q, 5, none⟩)) → K (a.put (some 65) v) W2 := fun v W2 h1 h2 => hK v W2 h1 (fun d hd => by cases hd; exact h2)
          clear hl
          simp only [Array.getD_eq_getD_getElem?] at h64 h60
          go_simp
          exact hK _ W (Below.refl _ W) rfl
        · as_aux_lemma =>
          refine Seq.UpOb.guarded (d := 60) (by decide) (fun _ _ _ _ _ => trivial) (fun _ _ h => h) rfl rfl (fun a W hl => hl 60 (by decide)) fun a W m hR hS hl K hK => ?_
          have h65 : a.tmps.getD 65 undef = (.pointer (some ⟨q, 5, none⟩)) := hl 65 (by decide)
          have h60 : a.tmps.getD 60 undef = (.bool true) := hl 60 (by decide)
          replace hK : ∀ v W2, Below W.heap.size W W2 → v = (.bool s.down) → K (a.put (some 66) v) W2 := fun v W2 h1 h2 => hK v W2 h1 (fun d hd => by cases hd; exact h2)
          clear hl
          have hc : W.cell? ⟨q, 5, none⟩ = some (.bool s.down) := (HT'.out W hR).doc.blk.cell 5
          simp only [Array.getD_eq_getD_getElem?] at h65 h60
          go_simp
          exact hK _ W (Below.refl _ W) rfl
        · as_aux_lemma =>
          refine Seq.UpOb.guarded (d := 60) (by decide) (fun _ _ _ _ _ => trivial) (fun _ _ h => h) rfl rfl (fun a W hl => hl 60 (by decide)) fun a W m hR hS hl K hK => ?_
          have h62 : a.tmps.getD 62 undef = (.bool s.down) := hl 62 (by decide)
          have h66 : a.tmps.getD 66 undef = (.bool s.down) := hl 66 (by decide)
          have h60 : a.tmps.getD 60 undef = (.bool true) := hl 60 (by decide)
          replace hK : ∀ v W2, Below W.heap.size W W2 → v = (.bool true) → K (a.put (some 67) v) W2 := fun v W2 h1 h2 => hK v W2 h1 (fun d hd => by cases hd; exact h2)
          clear hl
          simp only [Array.getD_eq_getD_getElem?] at h62 h66 h60
          go_simp
          exact hK _ W (Below.refl _ W) (by simp)
        · as_aux_lemma =>
          refine Seq.UpOb.plain (by decide) (fun _ _ _ _ _ => trivial) (fun _ _ h => h) rfl fun a W m hR hS hl K hK => ?_
          have h60 : a.tmps.getD 60 undef = (.bool true) := hl 60 (by decide)
          have h67 : a.tmps.getD 67 undef = (.bool true) := hl 67 (by decide)
          replace hK : ∀ v W2, Below W.heap.size W W2 → v = (.bool true) → K (a.put (some 68) v) W2 := fun v W2 h1 h2 => hK v W2 h1 (fun d hd => by cases hd; exact h2)
          clear hl
          simp only [Array.getD_eq_getD_getElem?] at h60 h67
          go_simp
          exact hK _ W (Below.refl _ W) rfl
        · as_aux_lemma =>
          refine Seq.UpOb.plain (by decide) (fun _ _ _ _ _ => trivial) (fun _ _ h => h) rfl fun a W m hR hS hl K hK => ?_
          have h68 : a.tmps.getD 68 undef = (.bool true) := hl 68 (by decide)
          replace hK : ∀ v W2, Below W.heap.size W W2 → v = (.bool true) → K (a.put (some 69) v) W2 := fun v W2 h1 h2 => hK v W2 h1 (fun d hd => by cases hd; exact h2)
          clear hl
          simp only [Array.getD_eq_getD_getElem?] at h68
          go_simp
          exact hK _ W (Below.refl _ W) rfl
        · as_aux_lemma =>
          refine Seq.UpOb.guarded (d := 69) (by decide) (fun _ _ _ _ _ => trivial) (fun _ _ h => h) rfl rfl (fun a W hl => hl 69 (by decide)) fun a W m hR hS hl K hK => ?_
          have h0 : a.tmps.getD 0 undef = (.pointer (some ⟨g, 0, none⟩)) := hl 0 (by decide)
          have h69 : a.tmps.getD 69 undef = (.bool true) := hl 69 (by decide)
          replace hK : ∀ v W2, Below W.heap.size W W2 → v = (.pointer (some ⟨g, 0, none⟩)) → K (a.put (some 70) v) W2 := fun v W2 h1 h2 => hK v W2 h1 (fun d hd => by cases hd; exact h2)
          clear hl
          simp only [Array.getD_eq_getD_getElem?] at h0 h69
          go_simp
          exact hK _ W (Below.refl _ W) rfl
        · as_aux_lemma =>
          refine Seq.UpOb.guarded (d := 69) (by decide) (fun _ _ _ _ _ => trivial) (fun _ _ h => h) rfl rfl (fun a W hl => hl 69 (by decide)) fun a W m hR hS hl K hK => ?_
          have h70 : a.tmps.getD 70 undef = (.pointer (some ⟨g, 0, none⟩)) := hl 70 (by decide)
          have h69 : a.tmps.getD 69 undef = (.bool true) := hl 69 (by decide)
          replace hK : ∀ v W2, Below W.heap.size W W2 → v = (.int .i64 s.done) → K (a.put (some 71) v) W2 := fun v W2 h1 h2 => hK v W2 h1 (fun d hd => by cases hd; exact h2)
          clear hl
          obtain ⟨D1, hr1⟩ := (HT'.out W hR).real
          have hs := steps_walk W g lb mb s D1 hr1
          simp only [Array.getD_eq_getD_getElem?] at h70 h69
          go_simp
          refine hs.mono ?_
          rintro e w6 ⟨rfl, rfl⟩
          exact hK _ _ (Below.refl _ _) rfl
        · as_aux_lemma =>
          refine Seq.UpOb.guarded (d := 69) (by decide) (fun _ _ _ _ _ => trivial) (fun _ _ h => h) rfl rfl (fun a W hl => hl 69 (by decide)) fun a W m hR hS hl K hK => ?_
          have h1 : a.tmps.getD 1 undef = (.pointer (some ⟨q, 0, none⟩)) := hl 1 (by decide)
          have h69 : a.tmps.getD 69 undef = (.bool true) := hl 69 (by decide)
          replace hK : ∀ v W2, Below W.heap.size W W2 → v = (.pointer (some ⟨q, 0, none⟩)) → K (a.put (some 72) v) W2 := fun v W2 h1 h2 => hK v W2 h1 (fun d hd => by cases hd; exact h2)
          clear hl
          simp only [Array.getD_eq_getD_getElem?] at h1 h69
          go_simp
          exact hK _ W (Below.refl _ W) rfl
        · as_aux_lemma =>
          refine Seq.UpOb.guarded (d := 69) (by decide) (fun _ _ _ _ _ => trivial) (fun _ _ h => h) rfl rfl (fun a W hl => hl 69 (by decide)) fun a W m hR hS hl K hK => ?_
          have h72 : a.tmps.getD 72 undef = (.pointer (some ⟨q, 0, none⟩)) := hl 72 (by decide)
          have h69 : a.tmps.getD 69 undef = (.bool true) := hl 69 (by decide)
          replace hK : ∀ v W2, Below W.heap.size W W2 → v = (.pointer (some ⟨q, 0, none⟩)) → K (a.put (some 73) v) W2 := fun v W2 h1 h2 => hK v W2 h1 (fun d hd => by cases hd; exact h2)
          clear hl
          simp only [Array.getD_eq_getD_getElem?] at h72 h69
          go_simp
          exact hK _ W (Below.refl _ W) rfl
        · as_aux_lemma =>
          refine Seq.UpOb.guarded (d := 69) (by decide) (fun _ _ _ _ _ => trivial) (fun _ _ h => h) rfl rfl (fun a W hl => hl 69 (by decide)) fun a W m hR hS hl K hK => ?_
          have h73 : a.tmps.getD 73 undef = (.pointer (some ⟨q, 0, none⟩)) := hl 73 (by decide)
          have h69 : a.tmps.getD 69 undef = (.bool true) := hl 69 (by decide)
          replace hK : ∀ v W2, Below W.heap.size W W2 → v = (.pointer (some ⟨q, 3, none⟩)) → K (a.put (some 74) v) W2 := fun v W2 h1 h2 => hK v W2 h1 (fun d hd => by cases hd; exact h2)
          clear hl
          simp only [Array.getD_eq_getD_getElem?] at h73 h69
          go_simp
          exact hK _ W (Below.refl _ W) rfl
        · as_aux_lemma =>
          refine Seq.UpOb.guarded (d := 69) (by decide) (fun _ _ _ _ _ => trivial) (fun _ _ h => h) rfl rfl (fun a W hl => hl 69 (by decide)) fun a W m hR hS hl K hK => ?_
          have h74 : a.tmps.getD 74 undef = (.pointer (some ⟨q, 3, none⟩)) := hl 74 (by decide)
          have h69 : a.tmps.getD 69 undef = (.bool true) := hl 69 (by decide)
          replace hK : ∀ v W2, Below W.heap.size W W2 → v = (.int .i64 s.done) → K (a.put (some 75) v) W2 := fun v W2 h1 h2 => hK v W2 h1 (fun d hd => by cases hd; exact h2)
          clear hl
          have hc : W.cell? ⟨q, 3, none⟩ = some (.int .i64 s.done) := (HT'.out W hR).doc.blk.cell 3
          simp only [Array.getD_eq_getD_getElem?] at h74 h69
          go_simp
          exact hK _ W (Below.refl _ W) rfl
        · as_aux_lemma =>
          refine Seq.UpOb.guarded (d := 69) (by decide) (fun _ _ _ _ _ => trivial) (fun _ _ h => h) rfl rfl (fun a W hl => hl 69 (by decide)) fun a W m hR hS hl K hK => ?_
          have h71 : a.tmps.getD 71 undef = (.int .i64 s.done) := hl 71 (by decide)
          have h75 : a.tmps.getD 75 undef = (.int .i64 s.done) := hl 75 (by decide)
          have h69 : a.tmps.getD 69 undef = (.bool true) := hl 69 (by decide)
          replace hK : ∀ v W2, Below W.heap.size W W2 → v = (.bool true) → K (a.put (some 76) v) W2 := fun v W2 h1 h2 => hK v W2 h1 (fun d hd => by cases hd; exact h2)
          clear hl
          simp only [Array.getD_eq_getD_getElem?] at h71 h75 h69
          go_simp
          exact hK _ W (Below.refl _ W) (by simp)
        · as_aux_lemma =>
          refine Seq.UpOb.plain (by decide) (fun _ _ _ _ _ => trivial) (fun _ _ h => h) rfl fun a W m hR hS hl K hK => ?_
          have h69 : a.tmps.getD 69 undef = (.bool true) := hl 69 (by decide)
          have h76 : a.tmps.getD 76 undef = (.bool true) := hl 76 (by decide)
          replace hK : ∀ v W2, Below W.heap.size W W2 → v = (.bool true) → K (a.put (some 77) v) W2 := fun v W2 h1 h2 => hK v W2 h1 (fun d hd => by cases hd; exact h2)
          clear hl
          simp only [Array.getD_eq_getD_getElem?] at h69 h76
          go_simp
          exact hK _ W (Below.refl _ W) rfl
        · as_aux_lemma =>
          refine Seq.UpOb.plain (by decide) (fun _ _ _ _ _ => trivial) (fun _ _ h => h) rfl fun a W m hR hS hl K hK => ?_
          have h77 : a.tmps.getD 77 undef = (.bool true) := hl 77 (by decide)
          replace hK : ∀ v W2, Below W.heap.size W W2 → v = (.bool true) → K (a.put (some 78) v) W2 := fun v W2 h1 h2 => hK v W2 h1 (fun d hd => by cases hd; exact h2)
          clear hl
          simp only [Array.getD_eq_getD_getElem?] at h77
          go_simp
          exact hK _ W (Below.refl _ W) rfl
        · as_aux_lemma =>
          refine Seq.UpOb.guarded (d := 78) (by decide) (fun _ _ _ _ _ => trivial) (fun _ _ h => h) rfl rfl (fun a W hl => hl 78 (by decide)) fun a W m hR hS hl K hK => ?_
          have h0 : a.tmps.getD 0 undef = (.pointer (some ⟨g, 0, none⟩)) := hl 0 (by decide)
          have h78 : a.tmps.getD 78 undef = (.bool true) := hl 78 (by decide)
          replace hK : ∀ v W2, Below W.heap.size W W2 → v = (.pointer (some ⟨g, 0, none⟩)) → K (a.put (some 79) v) W2 := fun v W2 h1 h2 => hK v W2 h1 (fun d hd => by cases hd; exact h2)
          clear hl
          simp only [Array.getD_eq_getD_getElem?] at h0 h78
          go_simp
          exact hK _ W (Below.refl _ W) rfl
        · as_aux_lemma =>
          refine Seq.UpOb.guarded (d := 78) (by decide) (fun _ _ _ _ _ => trivial) (fun _ _ h => h) rfl rfl (fun a W hl => hl 78 (by decide)) fun a W m hR hS hl K hK => ?_
          have h79 : a.tmps.getD 79 undef = (.pointer (some ⟨g, 0, none⟩)) := hl 79 (by decide)
          have h78 : a.tmps.getD 78 undef = (.bool true) := hl 78 (by decide)
          replace hK : ∀ v W2, Below W.heap.size W W2 → Ws g lb mb s v W2 → K (a.put (some 80) v) W2 := fun v W2 h1 h2 => hK v W2 h1 (fun d hd => by cases hd; exact h2)
          clear hl
          obtain ⟨D1, hr1⟩ := (HT'.out W hR).real
          have hs := Waits_walk W g lb mb s D1 hr1
          simp only [Array.getD_eq_getD_getElem?] at h79 h78
          go_simp
          refine hs.mono ?_
          rintro e w6 ⟨v6, rfl, hw6, hb6⟩
          exact hK _ w6 hb6 hw6
        · as_aux_lemma =>
          refine Seq.UpOb.guarded (d := 78) (by decide) (fun _ _ _ _ _ => trivial) (fun _ _ h => h) rfl rfl (fun a W hl => hl 78 (by decide)) fun a W m hR hS hl K hK => ?_
          have h1 : a.tmps.getD 1 undef = (.pointer (some ⟨q, 0, none⟩)) := hl 1 (by decide)
          have h78 : a.tmps.getD 78 undef = (.bool true) := hl 78 (by decide)
          replace hK : ∀ v W2, Below W.heap.size W W2 → v = (.pointer (some ⟨q, 0, none⟩)) → K (a.put (some 81) v) W2 := fun v W2 h1 h2 => hK v W2 h1 (fun d hd => by cases hd; exact h2)
          clear hl
          simp only [Array.getD_eq_getD_getElem?] at h1 h78
          go_simp
          exact hK _ W (Below.refl _ W) rfl
        · as_aux_lemma =>
          refine Seq.UpOb.guarded (d := 78) (by decide) (fun _ _ _ _ _ => trivial) (fun _ _ h => h) rfl rfl (fun a W hl => hl 78 (by decide)) fun a W m hR hS hl K hK => ?_
          have h81 : a.tmps.getD 81 undef = (.pointer (some ⟨q, 0, none⟩)) := hl 81 (by decide)
          have h78 : a.tmps.getD 78 undef = (.bool true) := hl 78 (by decide)
          replace hK : ∀ v W2, Below W.heap.size W W2 → Wq 0 s v W2 → K (a.put (some 82) v) W2 := fun v W2 h1 h2 => hK v W2 h1 (fun d hd => by cases hd; exact h2)
          clear hl
          have hs := qlist_walk W q sb lc wb s (HT'.out W hR).doc
          simp only [Array.getD_eq_getD_getElem?] at h81 h78
          go_simp
          refine hs.mono ?_
          rintro e w6 ⟨v6, rfl, hw6, hb6⟩
          exact hK _ w6 hb6 (Wq.from0 hw6)
        · as_aux_lemma =>
          refine Seq.UpOb.guarded (d := 78) (by decide) (fun _ _ _ _ _ => trivial) (fun _ _ h => h) rfl rfl (fun a W hl => hl 78 (by decide)) fun a W m hR hS hl K hK => ?_
          have h80 : Ws g lb mb s (a.tmps.getD 80 undef) W := hl 80 (by decide)
          generalize hv80 : a.tmps.getD 80 undef = v80 at h80
          have h82 : Wq 0 s (a.tmps.getD 82 undef) W := hl 82 (by decide)
          generalize hv82 : a.tmps.getD 82 undef = v82 at h82
          have h78 : a.tmps.getD 78 undef = (.bool true) := hl 78 (by decide)
          replace hK : ∀ v W2, Below W.heap.size W W2 → v = (.bool true) → K (a.put (some 83) v) W2 := fun v W2 h1 h2 => hK v W2 h1 (fun d hd => by cases hd; exact h2)
          clear hl
          obtain ⟨A1, c1, l1, rfl, _, hm1, hp1, hc1⟩ := h80
          obtain ⟨A2, c2, l2, rfl, hl2, hm2, hp2, hc2⟩ := h82
          obtain rfl : l2 = l1 := rising_one l2 l1 hp2 hp1 fun i => (hm2 i).trans (hm1 i).symm
          have hs := ieq_walk W A1 A2 c1 c2 l2 (fun h => by obtain ⟨b, e, _, _, _, _, hc⟩ := hc1 h; exact ⟨b, e, hc⟩) (fun h => by obtain ⟨b, e, _, _, hc⟩ := hc2 h; exact ⟨b, e, hc⟩) hl2
          simp only [Array.getD_eq_getD_getElem?] at hv80 hv82 h78
          go_simp
          refine hs.mono ?_
          rintro e w6 ⟨rfl, hb6⟩
          exact hK _ w6 hb6 rfl
        · as_aux_lemma =>
          refine Seq.UpOb.plain (by decide) (fun _ _ _ _ _ => trivial) (fun _ _ h => h) rfl fun a W m hR hS hl K hK => ?_
          have h78 : a.tmps.getD 78 undef = (.bool true) := hl 78 (by decide)
          have h83 : a.tmps.getD 83 undef = (.bool true) := hl 83 (by decide)
          replace hK : ∀ v W2, Below W.heap.size W W2 → v = (.bool true) → K (a.put (some 84) v) W2 := fun v W2 h1 h2 => hK v W2 h1 (fun d hd => by cases hd; exact h2)
          clear hl
          simp only [Array.getD_eq_getD_getElem?] at h78 h83
          go_simp
          exact hK _ W (Below.refl _ W) rfl
        · as_aux_lemma =>
          refine Seq.UpOb.plain (by decide) (fun _ _ _ _ _ => trivial) (fun _ _ h => h) rfl fun a W m hR hS hl K hK => ?_
          have h84 : a.tmps.getD 84 undef = (.bool true) := hl 84 (by decide)
          replace hK : ∀ v W2, Below W.heap.size W W2 → v = (.bool true) → K (a.put (some 4) v) W2 := fun v W2 h1 h2 => hK v W2 h1 (fun d hd => by cases hd; exact h2)
          clear hl
          simp only [Array.getD_eq_getD_getElem?] at h84
          go_simp
          exact hK _ W (Below.refl _ W) rfl
      · intro a W3 hd hsz hR3 hl _
        have hl' : ∀ t, Seq.SpOf _ _ t (a.tmps.getD t undef) W3 := hl
        obtain ⟨x80, e80⟩ : ∃ x, a.tmps.getD 80 undef = x := ⟨_, rfl⟩
        obtain ⟨x82, e82⟩ : ∃ x, a.tmps.getD 82 undef = x := ⟨_, rfl⟩
        have htm := Seq.tmps_eq (hsz.trans rfl) [52, 53, 54, 55, 56, 57, 58, 59, 60, 61, 62, 63, 64, 65, 66, 67, 68, 69, 70, 71, 72, 73, 74, 75, 76, 77, 78, 79, 80, 81, 82, 83, 84, 4] [(52, .pointer (some ⟨g, 0, none⟩)), (53, .int .i64 (n : Int)), (54, .pointer (some ⟨q, 0, none⟩)), (55, .pointer (some ⟨q, 0, none⟩)), (56, .pointer (some ⟨q, 1, none⟩)), (57, .slice (some ⟨lc, 0, none⟩) n n), (58, .int .i64 (n : Int)), (59, .bool true), (60, .bool true), (61, .pointer (some ⟨g, 0, none⟩)), (62, .bool s.down), (63, .pointer (some ⟨q, 0, none⟩)), (64, .pointer (some ⟨q, 0, none⟩)), (65, .pointer (some ⟨q, 5, none⟩)), (66, .bool s.down), (67, .bool true), (68, .bool true), (69, .bool true), (70, .pointer (some ⟨g, 0, none⟩)), (71, .int .i64 s.done), (72, .pointer (some ⟨q, 0, none⟩)), (73, .pointer (some ⟨q, 0, none⟩)), (74, .pointer (some ⟨q, 3, none⟩)), (75, .int .i64 s.done), (76, .bool true), (77, .bool true), (78, .bool true), (79, .pointer (some ⟨g, 0, none⟩)), (80, x80), (81, .pointer (some ⟨q, 0, none⟩)), (82, x82), (83, .bool true), (84, .bool true), (4, .bool true)] rfl rfl (by decide) 85 rfl (by decide) hl' (by
          intro p hp
          simp only [List.mem_cons, List.not_mem_nil, or_false] at hp
          rcases hp with rfl | rfl | rfl | rfl | rfl | rfl | rfl | rfl | rfl | rfl | rfl | rfl | rfl | rfl | rfl | rfl | rfl | rfl | rfl | rfl | rfl | rfl | rfl | rfl | rfl | rfl | rfl | rfl | rfl | rfl | rfl | rfl | rfl | rfl
          · exact hl 52
          · exact hl 53
          · exact hl 54
          · exact hl 55
          · exact hl 56
          · exact hl 57
          · exact hl 58
          · exact hl 59
          · exact hl 60
          · exact hl 61
          · exact hl 62
          · exact hl 63
          · exact hl 64
          · exact hl 65
          · exact hl 66
          · exact hl 67
          · exact hl 68
          · exact hl 69
          · exact hl 70
          · exact hl 71
          · exact hl 72
          · exact hl 73
          · exact hl 74
          · exact hl 75
          · exact hl 76
          · exact hl 77
          · exact hl 78
          · exact hl 79
          · exact e80
          · exact hl 81
          · exact e82
          · exact hl 83
          · exact hl 84
          · exact hl 4
          )
        clear hl hl' hsz e80 e82
        have hact : a = ⟨_, []⟩ := Seq.act_eq hd htm
        clear htm hd
        rw [hact]
        clear hact
        simp only [List.foldl, List.setIfInBounds_toArray, List.set]
        go_wp2
        go_ret
        exact ⟨rfl, HB.out.drew.trans (hR3.mono HB.out.drew.size)⟩
end Go.Proofs.Ytcbfnbmkogeehaa
