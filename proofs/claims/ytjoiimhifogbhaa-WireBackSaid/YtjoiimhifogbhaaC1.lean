/- What is laid is taken as it was: the statement's walk. -/
import Derived.Test.YtjoiimhifogbhaaR4
namespace Go.Proofs.Ytjoiimhifogbhaa
open Go.RowKit

theorem Digs.of_blk {w : World} {b : Nat} {d : List UInt8} (h : Blk w b 33 (d.map U).toArray) (hd : d.length = 32) : Digs w (some ⟨b, 0, none⟩) 1 [d] :=
  ⟨rfl, by intro x hx; obtain rfl := List.mem_singleton.1 hx; exact hd, fun _ => ⟨b, 0, rfl, h.lt, fun i hi j v hv => by
    obtain rfl : i = 0 := by simpa using hi
    rw [show 0 + 0 * 32 + j = j by omega, h.cell]
    simpa using hv⟩⟩
theorem Made.fresh {W W' : World} {g : Nat} {v : Value} {ps : List ByteArray} (h : Made W g v ps) (hb : Below W.heap.size W W') : Made W' W.heap.size v ps := by
  obtain ⟨A, c, rfl, h⟩ := h
  refine ⟨A, c, rfl, fun h0 => ?_⟩
  obtain ⟨b, ha, _, hlt, hc⟩ := h h0
  exact ⟨b, ha, by omega, Nat.lt_of_lt_of_le hlt hb.size, fun i hi => (hb.cell hlt).trans (hc i hi)⟩
theorem texts_small (ps : List ByteArray) (h : ∀ x ∈ ps, x.size ≤ 300) : (texts ps).length ≤ 304 * ps.length := by
  induction ps with
  | nil => exact Nat.le_refl _
  | cons x r ih =>
    have h1 := ih (fun y hy => h y (List.mem_cons_of_mem _ hy))
    have h2 := h x (List.mem_cons_self)
    have h3 : x.data.toList.length = x.size := by simp
    simp only [texts, List.flatMap_cons, List.length_append, List.length_cons, textOf, be_length] at h1 ⊢
    omega
theorem mem_take_300 {ps : List ByteArray} {k : Nat} (hk : k < ps.length) (h : ∀ x ∈ ps.take k, x.size ≤ 300) (hx : ps[k].size ≤ 300) : ∀ x ∈ ps.take (k + 1), x.size ≤ 300 := by
  rw [List.take_succ_eq_append_getElem hk]
  intro x hx'
  rcases List.mem_append.1 hx' with h1 | h1
  · exact h x h1
  · obtain rfl := List.mem_singleton.1 h1; exact hx

set_option maxRecDepth 100000 in
set_option maxHeartbeats 4000000 in
theorem back_walk (w : World) (A : Option Addr) (n c : Nat) (ps : List ByteArray) (N : Nat) (D : List UInt8) (m : UInt8)
    (hn : n ≤ 100) (h1 : Row w A n (ps.map Value.string)) (hN : N < 18446744073709551616) (hD : D.length = 32) :
    Calls Try.prog 4 #[.slice A n c, V8 N, digV D, U m] w fun e w' => e = .returned (.bool true) ∧ Below w.heap.size w w' := by
  have hlen : ps.length = n := by have := h1.len; simpa using this.symm
  have HN := Lib.hid hn
  have HR := Lib.hid h1
  have HNN := Lib.hid hN
  have HD := Lib.hid hD
  have HLN := Lib.hid hlen
  have hn' : ¬ (100 : Int) < (n : Int) := by omega
  have HDS : Hid ((D.map U).toArray.size = 32) := by show (D.map U).toArray.size = 32; simp [hD]
  clear hn h1 hN hD hlen
  unfold digV
  go_enter Try.func4, Try.ntmps4
  go_wp2_with (go_at_call 6; refine (awake_walk _).mono ?_; rintro e w1 ⟨rfl, hb1⟩; have HB : Hid (Below w.heap.size w w1) := ((Below.refl _ w).alloc (Nat.le_refl _) _).trans (hb1.mono (by simp)); have HDB : Hid (Blk w1 w.heap.size 33 (D.map U).toArray) := (Blk.fresh w 33 _).kept hb1 (by simp); clear hb1)
  clear hn'
  go_loopw [23] (fun i wr => wr = w1 ∧ ∃ k : Nat, k ≤ n ∧ i = .int .i64 k ∧ ∀ x ∈ ps.take k, x.size ≤ 300) (fun i _ => n - (intOf i).toNat)
  case atStart => exact ⟨rfl, 0, Nat.zero_le _, rfl, by simp⟩
  case round =>
    obtain ⟨rfl, k, hk, rfl, hall⟩ := hrel
    have HALL := Lib.hid hall
    have HN' := HN.out
    clear hall
    by_cases hlt : k < n
    · obtain ⟨b, off, rfl, hbl, hcs⟩ := HR.out.place (by omega)
      have hkp : k < ps.length := by rw [HLN.out]; exact hlt
      have c0 : wr.cell? ⟨b, off + k, none⟩ = some (.string ps[k]) := by
        rw [HB.out.cell hbl, hcs k (by simpa using hkp)]; simp
      have hmem := fun h => mem_take_300 hkp HALL.out h
      clear hcs hbl
      generalize ps[k] = x at *
      by_cases hx : x.size ≤ 300
      · have hx' : ¬ (300 : Int) < (x.size : Int) := by omega
        have HMEM := Lib.hid (hmem hx)
        clear hmem hkp hx
        go_wp2
        go_roundw
        case rel => exact ⟨trivial, k + 1, by omega, by go_num, HMEM.out⟩
        case measure => simp [intOf]; omega
      · have hx' : (300 : Int) < (x.size : Int) := by omega
        clear hmem hkp hx
        go_wp2
        go_ret
        exact ⟨rfl, HB.out⟩
    · obtain rfl : n = k := by omega
      have hall := HALL.out
      rw [List.take_of_length_le (by rw [HLN.out]; omega)] at hall
      have hts := texts_small ps hall
      rw [HLN.out] at hts
      clear HALL
      have HALL := Lib.hid hall
      obtain ⟨L, hL⟩ : ∃ L, L = [] ++ all8 [N] ++ be 4 ps.length ++ texts ps ++ [D].flatten := ⟨_, rfl⟩
      have HL2 := Lib.hid hL.symm
      have HLL : Hid (L.length ≤ 100000) := by
        show _ ≤ _
        rw [hL]
        have h1 : (all8 [N]).length = 8 := by rw [all8_length]; rfl
        have h2 := be_length 4 ps.length
        have h3 := HD.out
        simp only [List.length_append, List.length_nil, h1, h2, List.flatten_singleton]
        omega
      have HLS : Hid (L = be 8 N ++ (be 4 ps.length ++ (texts ps ++ (D ++ [])))) := by
        show _ = _
        rw [hL]; simp [all8]
      clear hall hts hL hlt hk
      go_wp2_with fail
      refine wp_region_seq (by kernel_rfl) (R := Up) Up.refl Up.trans (fun _ W => Blk W w.heap.size 33 (D.map U).toArray ∧ Below w.heap.size w W) [] [[], [1], [32], [31, 33], [0], [11], [34, 35, 36], [6], [38], [37, 39], [40], [41]] [(31, spIs (.agg #[.pointer none])), (32, spIs (V8 N)), (33, spBuilt 30 1 #[V8 N]), (34, spOut ([] ++ all8 [N])), (35, spIs (.slice A n c)), (36, spIs (.func (.func 19) #[] #[])), (37, spOut ([] ++ all8 [N] ++ be 4 ps.length ++ texts ps)), (38, spIs (.agg (D.map U).toArray)), (39, spBuilt 33 1 (D.map U).toArray), (40, spOut L), (41, spIs (.string (bstr L))), (13, spIs (.string (bstr L)))] 112 rfl (by kernel_rfl) (by kernel_rfl) (by kernel_rfl) (by kernel_rfl) ?_ ?_ ?_
      · exact ⟨HDB.out.drew, HB.out.drew⟩
      · refine ⟨?_, ?_, ?_, ?_, ?_, ?_, ?_, ?_, ?_, ?_, ?_, ?_, trivial⟩
        · as_aux_lemma =>
          refine UpOb.plain (by decide) (fun _ W W' ⟨h1, h2⟩ hb => ⟨h1.kept hb h1.lt, h2.trans (hb.mono h2.size)⟩) (fun W W' hb => hb) rfl fun a W m hR hS hl K hK => ?_
          replace hK : ∀ v W2, Below W.heap.size W W2 → v = (.agg #[.pointer none]) → K (a.put (some 31) v) W2 := fun v W2 h1 h2 => hK v W2 h1 (fun d hd => by cases hd; exact h2)
          clear hl
          go_simp
          exact hK _ W (Below.refl _ W) rfl
        · as_aux_lemma =>
          refine UpOb.plain (by decide) (fun _ W W' ⟨h1, h2⟩ hb => ⟨h1.kept hb h1.lt, h2.trans (hb.mono h2.size)⟩) (fun W W' hb => hb) rfl fun a W m hR hS hl K hK => ?_
          have h1 : a.tmps.getD 1 undef = (V8 N) := hl 1 (by decide)
          replace hK : ∀ v W2, Below W.heap.size W W2 → v = (V8 N) → K (a.put (some 32) v) W2 := fun v W2 h1 h2 => hK v W2 h1 (fun d hd => by cases hd; exact h2)
          clear hl
          simp only [Array.getD_eq_getD_getElem?] at h1
          go_simp
          exact hK _ W (Below.refl _ W) rfl
        · as_aux_lemma =>
          refine UpOb.plain (by decide) (fun _ W W' ⟨h1, h2⟩ hb => ⟨h1.kept hb h1.lt, h2.trans (hb.mono h2.size)⟩) (fun W W' hb => hb) rfl fun a W m hR hS hl K hK => ?_
          have h32 : a.tmps.getD 32 undef = (V8 N) := hl 32 (by decide)
          replace hK : ∀ v W2, Below W.heap.size W W2 → Built W2 v 30 1 #[V8 N] → K (a.put (some 33) v) W2 := fun v W2 h1 h2 => hK v W2 h1 (fun d hd => by cases hd; exact h2)
          clear hl
          have rV : ∀ x, (V8 x).cells = #[V8 x] := fun _ => rfl
          unfold Value.cells at rV
          simp only [Array.getD_eq_getD_getElem?] at h32
          go_simp
          exact hK _ _ ((Below.refl _ W).alloc (Nat.le_refl _) _) ⟨W.heap.size, rfl, Blk.fresh W 30 _⟩
        · as_aux_lemma =>
          refine UpOb.plain (by decide) (fun _ W W' ⟨h1, h2⟩ hb => ⟨h1.kept hb h1.lt, h2.trans (hb.mono h2.size)⟩) (fun W W' hb => hb) rfl fun a W m hR hS hl K hK => ?_
          have h31 : a.tmps.getD 31 undef = (.agg #[.pointer none]) := hl 31 (by decide)
          have h33 : Built W (a.tmps.getD 33 undef) 30 1 #[V8 N] := hl 33 (by decide)
          generalize hv33 : a.tmps.getD 33 undef = v33 at h33
          replace hK : ∀ v W2, Below W.heap.size W W2 → OutIs W2 v ([] ++ all8 [N]) → K (a.put (some 34) v) W2 := fun v W2 h1 h2 => hK v W2 h1 (fun d hd => by cases hd; exact h2)
          clear hl
          obtain ⟨b33, rfl, hb33⟩ := h33
          simp only [Array.getD_eq_getD_getElem?] at h31 hv33
          go_simp
          refine (eight_walk W (.agg #[.pointer none]) [] (some ⟨b33, 0, none⟩) 1 1 [N] (OutIs.nil W) (Row.of_blk hb33) (by decide)).mono ?_
          rintro e w6 ⟨v6, rfl, hv6, hb6⟩
          exact hK _ w6 hb6 hv6
        · as_aux_lemma =>
          refine UpOb.plain (by decide) (fun _ W W' ⟨h1, h2⟩ hb => ⟨h1.kept hb h1.lt, h2.trans (hb.mono h2.size)⟩) (fun W W' hb => hb) rfl fun a W m hR hS hl K hK => ?_
          have h0 : a.tmps.getD 0 undef = (.slice A n c) := hl 0 (by decide)
          replace hK : ∀ v W2, Below W.heap.size W W2 → v = (.slice A n c) → K (a.put (some 35) v) W2 := fun v W2 h1 h2 => hK v W2 h1 (fun d hd => by cases hd; exact h2)
          clear hl
          simp only [Array.getD_eq_getD_getElem?] at h0
          go_simp
          exact hK _ W (Below.refl _ W) rfl
        · as_aux_lemma =>
          refine UpOb.plain (by decide) (fun _ W W' ⟨h1, h2⟩ hb => ⟨h1.kept hb h1.lt, h2.trans (hb.mono h2.size)⟩) (fun W W' hb => hb) rfl fun a W m hR hS hl K hK => ?_
          have h11 : a.tmps.getD 11 undef = (.func (.func 19) #[] #[]) := hl 11 (by decide)
          replace hK : ∀ v W2, Below W.heap.size W W2 → v = (.func (.func 19) #[] #[]) → K (a.put (some 36) v) W2 := fun v W2 h1 h2 => hK v W2 h1 (fun d hd => by cases hd; exact h2)
          clear hl
          simp only [Array.getD_eq_getD_getElem?] at h11
          go_simp
          exact hK _ W (Below.refl _ W) rfl
        · as_aux_lemma =>
          refine UpOb.plain (by decide) (fun _ W W' ⟨h1, h2⟩ hb => ⟨h1.kept hb h1.lt, h2.trans (hb.mono h2.size)⟩) (fun W W' hb => hb) rfl fun a W m hR hS hl K hK => ?_
          have h34 : OutIs W (a.tmps.getD 34 undef) ([] ++ all8 [N]) := hl 34 (by decide)
          generalize hv34 : a.tmps.getD 34 undef = v34 at h34
          have h35 : a.tmps.getD 35 undef = (.slice A n c) := hl 35 (by decide)
          have h36 : a.tmps.getD 36 undef = (.func (.func 19) #[] #[]) := hl 36 (by decide)
          replace hK : ∀ v W2, Below W.heap.size W W2 → OutIs W2 v ([] ++ all8 [N] ++ be 4 ps.length ++ texts ps) → K (a.put (some 37) v) W2 := fun v W2 h1 h2 => hK v W2 h1 (fun d hd => by cases hd; exact h2)
          clear hl
          have hs := row19_walk W v34 _ A n c ps h34 (HR.out.kept hS.2 (Nat.le_refl _)) (by have := HN.out; omega) (fun x hx => by have := HALL.out x hx; omega)
          simp only [Array.getD_eq_getD_getElem?] at hv34 h35 h36
          go_simp
          refine hs.mono ?_
          rintro e w6 ⟨v6, rfl, hv6, hb6⟩
          exact hK _ w6 hb6 hv6
        · as_aux_lemma =>
          refine UpOb.plain (by decide) (fun _ W W' ⟨h1, h2⟩ hb => ⟨h1.kept hb h1.lt, h2.trans (hb.mono h2.size)⟩) (fun W W' hb => hb) rfl fun a W m hR hS hl K hK => ?_
          have h6 : a.tmps.getD 6 undef = (.pointer (some ⟨w.heap.size, 0, none⟩)) := hl 6 (by decide)
          replace hK : ∀ v W2, Below W.heap.size W W2 → v = (.agg (D.map U).toArray) → K (a.put (some 38) v) W2 := fun v W2 h1 h2 => hK v W2 h1 (fun d hd => by cases hd; exact h2)
          clear hl
          exact wp_load_row 33 _ rfl w.heap.size h6 33 _ (0, 0) _ hS.1 Try.underlying33 rfl (Row32 _ HDS.out) (hK _ W (Below.refl _ W) rfl)
        · as_aux_lemma =>
          refine UpOb.plain (by decide) (fun _ W W' ⟨h1, h2⟩ hb => ⟨h1.kept hb h1.lt, h2.trans (hb.mono h2.size)⟩) (fun W W' hb => hb) rfl fun a W m hR hS hl K hK => ?_
          have h38 : a.tmps.getD 38 undef = (.agg (D.map U).toArray) := hl 38 (by decide)
          replace hK : ∀ v W2, Below W.heap.size W W2 → Built W2 v 33 1 (D.map U).toArray → K (a.put (some 39) v) W2 := fun v W2 h1 h2 => hK v W2 h1 (fun d hd => by cases hd; exact h2)
          clear hl
          exact wp_build_dig _ rfl D HD.out h38 (hK _ _ ((Below.refl _ W).alloc (Nat.le_refl _) _) ⟨W.heap.size, rfl, Blk.fresh W 33 _⟩)
        · as_aux_lemma =>
          refine UpOb.plain (by decide) (fun _ W W' ⟨h1, h2⟩ hb => ⟨h1.kept hb h1.lt, h2.trans (hb.mono h2.size)⟩) (fun W W' hb => hb) rfl fun a W m hR hS hl K hK => ?_
          have h37 : OutIs W (a.tmps.getD 37 undef) ([] ++ all8 [N] ++ be 4 ps.length ++ texts ps) := hl 37 (by decide)
          generalize hv37 : a.tmps.getD 37 undef = v37 at h37
          have h39 : Built W (a.tmps.getD 39 undef) 33 1 (D.map U).toArray := hl 39 (by decide)
          generalize hv39 : a.tmps.getD 39 undef = v39 at h39
          replace hK : ∀ v W2, Below W.heap.size W W2 → OutIs W2 v L → K (a.put (some 40) v) W2 := fun v W2 h1 h2 => hK v W2 h1 (fun d hd => by cases hd; exact h2)
          clear hl
          obtain ⟨b39, rfl, hb39⟩ := h39
          have hs := dig_walk W v37 _ (some ⟨b39, 0, none⟩) 1 1 [D] h37 (Digs.of_blk hb39 HD.out) (by decide)
          rw [HL2.out] at hs
          simp only [Array.getD_eq_getD_getElem?] at hv37 hv39
          go_simp
          refine hs.mono ?_
          rintro e w6 ⟨v6, rfl, hv6, hb6⟩
          exact hK _ w6 hb6 hv6
        · as_aux_lemma =>
          refine UpOb.plain (by decide) (fun _ W W' ⟨h1, h2⟩ hb => ⟨h1.kept hb h1.lt, h2.trans (hb.mono h2.size)⟩) (fun W W' hb => hb) rfl fun a W m hR hS hl K hK => ?_
          have h40 : OutIs W (a.tmps.getD 40 undef) L := hl 40 (by decide)
          generalize hv40 : a.tmps.getD 40 undef = v40 at h40
          replace hK : ∀ v W2, Below W.heap.size W W2 → v = (.string (bstr L)) → K (a.put (some 41) v) W2 := fun v W2 h1 h2 => hK v W2 h1 (fun d hd => by cases hd; exact h2)
          clear hl
          have hs := string_walk W v40 L h40 (by have := HLL.out; omega)
          simp only [Array.getD_eq_getD_getElem?] at hv40
          go_simp
          refine hs.mono ?_
          rintro e w6 ⟨rfl, hb6⟩
          exact hK _ w6 hb6 rfl
        · as_aux_lemma =>
          refine UpOb.plain (by decide) (fun _ W W' ⟨h1, h2⟩ hb => ⟨h1.kept hb h1.lt, h2.trans (hb.mono h2.size)⟩) (fun W W' hb => hb) rfl fun a W m hR hS hl K hK => ?_
          have h41 : a.tmps.getD 41 undef = (.string (bstr L)) := hl 41 (by decide)
          replace hK : ∀ v W2, Below W.heap.size W W2 → v = (.string (bstr L)) → K (a.put (some 13) v) W2 := fun v W2 h1 h2 => hK v W2 h1 (fun d hd => by cases hd; exact h2)
          clear hl
          simp only [Array.getD_eq_getD_getElem?] at h41
          go_simp
          exact hK _ W (Below.refl _ W) rfl
      · intro a W hd hsz hR hl hS
        have hl' : ∀ t, SpOf _ _ t (a.tmps.getD t undef) W := hl
        obtain ⟨x33, e33⟩ : ∃ x, a.tmps.getD 33 undef = x := ⟨_, rfl⟩
        obtain ⟨x34, e34⟩ : ∃ x, a.tmps.getD 34 undef = x := ⟨_, rfl⟩
        obtain ⟨x37, e37⟩ : ∃ x, a.tmps.getD 37 undef = x := ⟨_, rfl⟩
        obtain ⟨x39, e39⟩ : ∃ x, a.tmps.getD 39 undef = x := ⟨_, rfl⟩
        obtain ⟨x40, e40⟩ : ∃ x, a.tmps.getD 40 undef = x := ⟨_, rfl⟩
        have htm := tmps_eq (hsz.trans rfl) [31, 32, 33, 34, 35, 36, 37, 38, 39, 40, 41, 13] [(31, .agg #[.pointer none]), (32, V8 N), (33, x33), (34, x34), (35, .slice A n c), (36, .func (.func 19) #[] #[]), (37, x37), (38, .agg (D.map U).toArray), (39, x39), (40, x40), (41, .string (bstr L)), (13, .string (bstr L))] rfl rfl (by decide) 112 rfl (by decide) hl' (by
          intro p hp
          simp only [List.mem_cons, List.not_mem_nil, or_false] at hp
          rcases hp with rfl | rfl | rfl | rfl | rfl | rfl | rfl | rfl | rfl | rfl | rfl | rfl
          · exact hl 31
          · exact hl 32
          · exact e33
          · exact e34
          · exact hl 35
          · exact hl 36
          · exact e37
          · exact hl 38
          · exact e39
          · exact e40
          · exact hl 41
          · exact hl 13
          )
        clear hl hl' hsz e33 e34 e37 e39 e40
        have hact : a = ⟨_, []⟩ := act_eq hd htm
        clear htm hd
        rw [hact]
        clear hact
        simp only [List.foldl, List.setIfInBounds_toArray, List.set]
        have hWl : w.heap.size < W.heap.size := hS.1.lt
        have HBW := Lib.hid hS.2
        have HDW := Lib.hid hS.1
        have HWL := Lib.hid hWl
        have HNB : Hid (num (be 8 N) = N) := by show _ = _; rw [num_be]; exact Nat.mod_eq_of_lt HNN.out
        clear hS hR hWl
        go_wp2_with (go_at_call 22; have ho := of_walk W L; unfold inP at ho; refine ho.mono ?_; rintro e w2 ⟨rfl, hi2, hb2⟩; rw [HLS.out] at hi2; have HI2 := Lib.hid hi2; have HB2 := Lib.hid (HBW.out.trans (hb2.mono HBW.out.size)); have HDB2 := Lib.hid (HDW.out.kept hb2 HDW.out.lt); clear ho hi2 hb2)
        have HG : Hid (w.heap.size ≤ W.heap.size) := Nat.le_of_lt HWL.out
        have HGL : Hid (w.heap.size < W.heap.size) := HWL.out
        generalize hg : W.heap.size = g at *
        clear hg HBW HDW HWL
        refine wp_region_seq (by kernel_rfl) (R := Ex g) (Ex.refl g) (fun _ _ _ h k => h.trans k) (fun m W => InIs W g 0 (sts (be 8 N ++ (be 4 ps.length ++ (texts ps ++ (D ++ [])))) (be 4 ps.length ++ (texts ps ++ (D ++ []))) (D ++ []) m)) [1, 4, 7, 9, 12, 14, 18, 20] [[14], [44], [1], [45, 46], [47], [14, 48], [12, 48], [49, 50, 48], [0, 48], [51, 52, 48], [53, 48], [48, 54], [55], [14, 56], [57, 56], [6, 56], [58, 59, 56], [56, 60], [61], [14, 62], [63, 62], [64, 62], [62, 65]] [(44, spIs (.pointer (some ⟨g, 0, none⟩))), (45, spIs (V8 N)), (46, spIs (V8 N)), (47, spIs (.bool false)), (48, spIs (.bool false)), (49, spIs (.pointer (some ⟨g, 0, none⟩))), (50, spIs (.func (.func 20) #[] #[])), (51, spMade g ps), (52, spIs (.slice A n c)), (53, spIs (.bool true)), (54, spIs (.bool false)), (55, spIs (.bool false)), (56, spIs (.bool false)), (57, spIs (.pointer (some ⟨g, 0, none⟩))), (58, spIs (.agg (D.map U).toArray)), (59, spIs (.agg (D.map U).toArray)), (60, spIs (.bool false)), (61, spIs (.bool false)), (62, spIs (.bool false)), (63, spIs (.pointer (some ⟨g, 0, none⟩))), (64, spIs (.int .i64 0)), (65, spIs (.bool false)), (66, spIs (.bool false))] 112 rfl (by kernel_rfl) (by kernel_rfl) (by kernel_rfl) (by kernel_rfl) ?_ ?_ ?_
        · exact HI2.out
        · refine ⟨?_, ?_, ?_, ?_, ?_, ?_, ?_, ?_, ?_, ?_, ?_, ?_, ?_, ?_, ?_, ?_, ?_, ?_, ?_, ?_, ?_, ?_, ?_, trivial⟩
          · as_aux_lemma =>
            refine UpOb.plain (by decide) (fun _ _ _ h hb => InIs.more h hb) (fun _ _ hb => Ex.of_below hb) rfl fun a W m hR hS hl K hK => ?_
            have h14 : a.tmps.getD 14 undef = (.pointer (some ⟨g, 0, none⟩)) := hl 14 (by decide)
            replace hK : ∀ v W2, Below W.heap.size W W2 → v = (.pointer (some ⟨g, 0, none⟩)) → K (a.put (some 44) v) W2 := fun v W2 h1 h2 => hK v W2 h1 (fun d hd => by cases hd; exact h2)
            clear hl
            simp only [Array.getD_eq_getD_getElem?] at h14
            go_simp
            exact hK _ W (Below.refl _ W) rfl
          · as_aux_lemma =>
            refine UpOb.turns 0 rfl rfl fun a W hl hR hS K hK => ?_
            have h44 : a.tmps.getD 44 undef = (.pointer (some ⟨g, 0, none⟩)) := hl 44 (by decide)
            replace hK : ∀ v W2, Ex g W W2 → v = (V8 N) → (fun m W => InIs W g 0 (sts (be 8 N ++ (be 4 ps.length ++ (texts ps ++ (D ++ [])))) (be 4 ps.length ++ (texts ps ++ (D ++ []))) (D ++ []) m)) 1 W2 → K (a.put (some 45) v) W2 := fun v W2 h1 h2 h3 => hK v W2 h1 (fun d hd => by cases hd; exact h2) h3
            clear hl
            have hs := eight_take W g (be 8 N) (be 4 ps.length ++ (texts ps ++ (D ++ []))) (be_length _ _) hS
            rw [HNB.out] at hs
            unfold inP at hs
            simp only [Array.getD_eq_getD_getElem?] at h44
            go_simp
            refine hs.mono ?_
            rintro e w6 ⟨rfl, hi6, hx6⟩
            exact hK _ w6 hx6 rfl hi6
          · as_aux_lemma =>
            refine UpOb.plain (by decide) (fun _ _ _ h hb => InIs.more h hb) (fun _ _ hb => Ex.of_below hb) rfl fun a W m hR hS hl K hK => ?_
            have h1 : a.tmps.getD 1 undef = (V8 N) := hl 1 (by decide)
            replace hK : ∀ v W2, Below W.heap.size W W2 → v = (V8 N) → K (a.put (some 46) v) W2 := fun v W2 h1 h2 => hK v W2 h1 (fun d hd => by cases hd; exact h2)
            clear hl
            simp only [Array.getD_eq_getD_getElem?] at h1
            go_simp
            exact hK _ W (Below.refl _ W) rfl
          · as_aux_lemma =>
            refine UpOb.plain (by decide) (fun _ _ _ h hb => InIs.more h hb) (fun _ _ hb => Ex.of_below hb) rfl fun a W m hR hS hl K hK => ?_
            have h45 : a.tmps.getD 45 undef = (V8 N) := hl 45 (by decide)
            have h46 : a.tmps.getD 46 undef = (V8 N) := hl 46 (by decide)
            replace hK : ∀ v W2, Below W.heap.size W W2 → v = (.bool false) → K (a.put (some 47) v) W2 := fun v W2 h1 h2 => hK v W2 h1 (fun d hd => by cases hd; exact h2)
            clear hl
            exact wp_ne8 _ _ _ rfl N h45 h46 (hK _ W (Below.refl _ W) rfl)
          · as_aux_lemma =>
            refine UpOb.turns 1 rfl rfl fun a W hl hR hS K hK => ?_
            have h47 : a.tmps.getD 47 undef = (.bool false) := hl 47 (by decide)
            replace hK : ∀ v W2, Ex g W W2 → v = (.bool false) → (fun m W => InIs W g 0 (sts (be 8 N ++ (be 4 ps.length ++ (texts ps ++ (D ++ [])))) (be 4 ps.length ++ (texts ps ++ (D ++ []))) (D ++ []) m)) 2 W2 → K (a.put (some 48) v) W2 := fun v W2 h1 h2 h3 => hK v W2 h1 (fun d hd => by cases hd; exact h2) h3
            clear hl
            simp only [Array.getD_eq_getD_getElem?] at h47
            go_simp
            exact hK _ W (Ex.refl g W) rfl hS
          · as_aux_lemma =>
            refine UpOb.guarded (d := 48) (by decide) (fun _ _ _ h hb => InIs.more h hb) (fun _ _ hb => Ex.of_below hb) rfl rfl (fun a W hl => hl 48 (by decide)) fun a W m hR hS hl K hK => ?_
            have h14 : a.tmps.getD 14 undef = (.pointer (some ⟨g, 0, none⟩)) := hl 14 (by decide)
            have h48 : a.tmps.getD 48 undef = (.bool false) := hl 48 (by decide)
            replace hK : ∀ v W2, Below W.heap.size W W2 → v = (.pointer (some ⟨g, 0, none⟩)) → K (a.put (some 49) v) W2 := fun v W2 h1 h2 => hK v W2 h1 (fun d hd => by cases hd; exact h2)
            clear hl
            simp only [Array.getD_eq_getD_getElem?] at h14 h48
            go_simp
            exact hK _ W (Below.refl _ W) rfl
          · as_aux_lemma =>
            refine UpOb.guarded (d := 48) (by decide) (fun _ _ _ h hb => InIs.more h hb) (fun _ _ hb => Ex.of_below hb) rfl rfl (fun a W hl => hl 48 (by decide)) fun a W m hR hS hl K hK => ?_
            have h12 : a.tmps.getD 12 undef = (.func (.func 20) #[] #[]) := hl 12 (by decide)
            have h48 : a.tmps.getD 48 undef = (.bool false) := hl 48 (by decide)
            replace hK : ∀ v W2, Below W.heap.size W W2 → v = (.func (.func 20) #[] #[]) → K (a.put (some 50) v) W2 := fun v W2 h1 h2 => hK v W2 h1 (fun d hd => by cases hd; exact h2)
            clear hl
            simp only [Array.getD_eq_getD_getElem?] at h12 h48
            go_simp
            exact hK _ W (Below.refl _ W) rfl
          · as_aux_lemma =>
            refine UpOb.turns_guarded (d := 48) 2 rfl rfl rfl (fun a W hl => hl 48 (by decide)) fun a W hl hR hS K hK => ?_
            have h49 : a.tmps.getD 49 undef = (.pointer (some ⟨g, 0, none⟩)) := hl 49 (by decide)
            have h50 : a.tmps.getD 50 undef = (.func (.func 20) #[] #[]) := hl 50 (by decide)
            have h48 : a.tmps.getD 48 undef = (.bool false) := hl 48 (by decide)
            replace hK : ∀ v W2, Ex g W W2 → Made W2 g v ps → (fun m W => InIs W g 0 (sts (be 8 N ++ (be 4 ps.length ++ (texts ps ++ (D ++ [])))) (be 4 ps.length ++ (texts ps ++ (D ++ []))) (D ++ []) m)) 3 W2 → K (a.put (some 51) v) W2 := fun v W2 h1 h2 h3 => hK v W2 h1 (fun d hd => by cases hd; exact h2) h3
            clear hl
            have hs := rows_ok W g 100 ps (D ++ []) HALL.out (by have := HLN.out; omega) (by decide) hS
            unfold inP at hs
            simp only [Array.getD_eq_getD_getElem?] at h49 h50 h48
            go_simp
            refine hs.mono ?_
            rintro e w6 ⟨v6, rfl, hm6, hi6, hx6⟩
            exact hK _ w6 hx6 hm6 hi6
          · as_aux_lemma =>
            refine UpOb.guarded (d := 48) (by decide) (fun _ _ _ h hb => InIs.more h hb) (fun _ _ hb => Ex.of_below hb) rfl rfl (fun a W hl => hl 48 (by decide)) fun a W m hR hS hl K hK => ?_
            have h0 : a.tmps.getD 0 undef = (.slice A n c) := hl 0 (by decide)
            have h48 : a.tmps.getD 48 undef = (.bool false) := hl 48 (by decide)
            replace hK : ∀ v W2, Below W.heap.size W W2 → v = (.slice A n c) → K (a.put (some 52) v) W2 := fun v W2 h1 h2 => hK v W2 h1 (fun d hd => by cases hd; exact h2)
            clear hl
            simp only [Array.getD_eq_getD_getElem?] at h0 h48
            go_simp
            exact hK _ W (Below.refl _ W) rfl
          · as_aux_lemma =>
            refine UpOb.turns_guarded (d := 48) 3 rfl rfl rfl (fun a W hl => hl 48 (by decide)) fun a W hl hR hS K hK => ?_
            have h51 : Made W g (a.tmps.getD 51 undef) ps := hl 51 (by decide)
            generalize hv51 : a.tmps.getD 51 undef = v51 at h51
            have h52 : a.tmps.getD 52 undef = (.slice A n c) := hl 52 (by decide)
            have h48 : a.tmps.getD 48 undef = (.bool false) := hl 48 (by decide)
            replace hK : ∀ v W2, Ex g W W2 → v = (.bool true) → (fun m W => InIs W g 0 (sts (be 8 N ++ (be 4 ps.length ++ (texts ps ++ (D ++ [])))) (be 4 ps.length ++ (texts ps ++ (D ++ []))) (D ++ []) m)) 4 W2 → K (a.put (some 53) v) W2 := fun v W2 h1 h2 h3 => hK v W2 h1 (fun d hd => by cases hd; exact h2) h3
            clear hl
            have hs := equal_walk W g v51 A n c ps h51 (HR.out.kept (Ex.below HB2.out.drew hR HG.out HB2.out.size) (Nat.le_refl _)) (by omega)
            simp only [Array.getD_eq_getD_getElem?] at hv51 h52 h48
            go_simp
            refine hs.mono ?_
            rintro e w6 ⟨rfl, hb6⟩
            exact hK _ w6 (Ex.of_below hb6) rfl (InIs.more hS hb6)
          · as_aux_lemma =>
            refine UpOb.guarded (d := 48) (by decide) (fun _ _ _ h hb => InIs.more h hb) (fun _ _ hb => Ex.of_below hb) rfl rfl (fun a W hl => hl 48 (by decide)) fun a W m hR hS hl K hK => ?_
            have h53 : a.tmps.getD 53 undef = (.bool true) := hl 53 (by decide)
            have h48 : a.tmps.getD 48 undef = (.bool false) := hl 48 (by decide)
            replace hK : ∀ v W2, Below W.heap.size W W2 → v = (.bool false) → K (a.put (some 54) v) W2 := fun v W2 h1 h2 => hK v W2 h1 (fun d hd => by cases hd; exact h2)
            clear hl
            simp only [Array.getD_eq_getD_getElem?] at h53 h48
            go_simp
            exact hK _ W (Below.refl _ W) rfl
          · as_aux_lemma =>
            refine UpOb.plain (by decide) (fun _ _ _ h hb => InIs.more h hb) (fun _ _ hb => Ex.of_below hb) rfl fun a W m hR hS hl K hK => ?_
            have h48 : a.tmps.getD 48 undef = (.bool false) := hl 48 (by decide)
            have h54 : a.tmps.getD 54 undef = (.bool false) := hl 54 (by decide)
            replace hK : ∀ v W2, Below W.heap.size W W2 → v = (.bool false) → K (a.put (some 55) v) W2 := fun v W2 h1 h2 => hK v W2 h1 (fun d hd => by cases hd; exact h2)
            clear hl
            simp only [Array.getD_eq_getD_getElem?] at h48 h54
            go_simp
            exact hK _ W (Below.refl _ W) rfl
          · as_aux_lemma =>
            refine UpOb.turns 4 rfl rfl fun a W hl hR hS K hK => ?_
            have h55 : a.tmps.getD 55 undef = (.bool false) := hl 55 (by decide)
            replace hK : ∀ v W2, Ex g W W2 → v = (.bool false) → (fun m W => InIs W g 0 (sts (be 8 N ++ (be 4 ps.length ++ (texts ps ++ (D ++ [])))) (be 4 ps.length ++ (texts ps ++ (D ++ []))) (D ++ []) m)) 5 W2 → K (a.put (some 56) v) W2 := fun v W2 h1 h2 h3 => hK v W2 h1 (fun d hd => by cases hd; exact h2) h3
            clear hl
            simp only [Array.getD_eq_getD_getElem?] at h55
            go_simp
            exact hK _ W (Ex.refl g W) rfl hS
          · as_aux_lemma =>
            refine UpOb.guarded (d := 56) (by decide) (fun _ _ _ h hb => InIs.more h hb) (fun _ _ hb => Ex.of_below hb) rfl rfl (fun a W hl => hl 56 (by decide)) fun a W m hR hS hl K hK => ?_
            have h14 : a.tmps.getD 14 undef = (.pointer (some ⟨g, 0, none⟩)) := hl 14 (by decide)
            have h56 : a.tmps.getD 56 undef = (.bool false) := hl 56 (by decide)
            replace hK : ∀ v W2, Below W.heap.size W W2 → v = (.pointer (some ⟨g, 0, none⟩)) → K (a.put (some 57) v) W2 := fun v W2 h1 h2 => hK v W2 h1 (fun d hd => by cases hd; exact h2)
            clear hl
            simp only [Array.getD_eq_getD_getElem?] at h14 h56
            go_simp
            exact hK _ W (Below.refl _ W) rfl
          · as_aux_lemma =>
            refine UpOb.turns_guarded (d := 56) 5 rfl rfl rfl (fun a W hl => hl 56 (by decide)) fun a W hl hR hS K hK => ?_
            have h57 : a.tmps.getD 57 undef = (.pointer (some ⟨g, 0, none⟩)) := hl 57 (by decide)
            have h56 : a.tmps.getD 56 undef = (.bool false) := hl 56 (by decide)
            replace hK : ∀ v W2, Ex g W W2 → v = (.agg (D.map U).toArray) → (fun m W => InIs W g 0 (sts (be 8 N ++ (be 4 ps.length ++ (texts ps ++ (D ++ [])))) (be 4 ps.length ++ (texts ps ++ (D ++ []))) (D ++ []) m)) 6 W2 → K (a.put (some 58) v) W2 := fun v W2 h1 h2 h3 => hK v W2 h1 (fun d hd => by cases hd; exact h2) h3
            clear hl
            have hs := digest_take W g D [] HD.out hS
            unfold inP at hs
            simp only [Array.getD_eq_getD_getElem?] at h57 h56
            go_simp
            refine hs.mono ?_
            rintro e w6 ⟨rfl, hi6, hx6⟩
            exact hK _ w6 hx6 rfl hi6
          · as_aux_lemma =>
            refine UpOb.guarded (d := 56) (by decide) (fun _ _ _ h hb => InIs.more h hb) (fun _ _ hb => Ex.of_below hb) rfl rfl (fun a W hl => hl 56 (by decide)) fun a W m hR hS hl K hK => ?_
            have h6 : a.tmps.getD 6 undef = (.pointer (some ⟨w.heap.size, 0, none⟩)) := hl 6 (by decide)
            have h56 : a.tmps.getD 56 undef = (.bool false) := hl 56 (by decide)
            replace hK : ∀ v W2, Below W.heap.size W W2 → v = (.agg (D.map U).toArray) → K (a.put (some 59) v) W2 := fun v W2 h1 h2 => hK v W2 h1 (fun d hd => by cases hd; exact h2)
            clear hl
            exact wp_load_row 33 _ rfl w.heap.size h6 33 _ (0, 0) _ (hR.blk HDB2.out.drew (Nat.ne_of_lt HGL.out)) Try.underlying33 rfl (Row32 _ HDS.out) (hK _ W (Below.refl _ W) rfl)
          · as_aux_lemma =>
            refine UpOb.guarded (d := 56) (by decide) (fun _ _ _ h hb => InIs.more h hb) (fun _ _ hb => Ex.of_below hb) rfl rfl (fun a W hl => hl 56 (by decide)) fun a W m hR hS hl K hK => ?_
            have h58 : a.tmps.getD 58 undef = (.agg (D.map U).toArray) := hl 58 (by decide)
            have h59 : a.tmps.getD 59 undef = (.agg (D.map U).toArray) := hl 59 (by decide)
            have h56 : a.tmps.getD 56 undef = (.bool false) := hl 56 (by decide)
            replace hK : ∀ v W2, Below W.heap.size W W2 → v = (.bool false) → K (a.put (some 60) v) W2 := fun v W2 h1 h2 => hK v W2 h1 (fun d hd => by cases hd; exact h2)
            clear hl
            exact wp_ne33 _ _ _ rfl D HD.out h58 h59 (hK _ W (Below.refl _ W) rfl)
          · as_aux_lemma =>
            refine UpOb.plain (by decide) (fun _ _ _ h hb => InIs.more h hb) (fun _ _ hb => Ex.of_below hb) rfl fun a W m hR hS hl K hK => ?_
            have h56 : a.tmps.getD 56 undef = (.bool false) := hl 56 (by decide)
            have h60 : a.tmps.getD 60 undef = (.bool false) := hl 60 (by decide)
            replace hK : ∀ v W2, Below W.heap.size W W2 → v = (.bool false) → K (a.put (some 61) v) W2 := fun v W2 h1 h2 => hK v W2 h1 (fun d hd => by cases hd; exact h2)
            clear hl
            simp only [Array.getD_eq_getD_getElem?] at h56 h60
            go_simp
            exact hK _ W (Below.refl _ W) rfl
          · as_aux_lemma =>
            refine UpOb.turns 6 rfl rfl fun a W hl hR hS K hK => ?_
            have h61 : a.tmps.getD 61 undef = (.bool false) := hl 61 (by decide)
            replace hK : ∀ v W2, Ex g W W2 → v = (.bool false) → (fun m W => InIs W g 0 (sts (be 8 N ++ (be 4 ps.length ++ (texts ps ++ (D ++ [])))) (be 4 ps.length ++ (texts ps ++ (D ++ []))) (D ++ []) m)) 7 W2 → K (a.put (some 62) v) W2 := fun v W2 h1 h2 h3 => hK v W2 h1 (fun d hd => by cases hd; exact h2) h3
            clear hl
            simp only [Array.getD_eq_getD_getElem?] at h61
            go_simp
            exact hK _ W (Ex.refl g W) rfl hS
          · as_aux_lemma =>
            refine UpOb.guarded (d := 62) (by decide) (fun _ _ _ h hb => InIs.more h hb) (fun _ _ hb => Ex.of_below hb) rfl rfl (fun a W hl => hl 62 (by decide)) fun a W m hR hS hl K hK => ?_
            have h14 : a.tmps.getD 14 undef = (.pointer (some ⟨g, 0, none⟩)) := hl 14 (by decide)
            have h62 : a.tmps.getD 62 undef = (.bool false) := hl 62 (by decide)
            replace hK : ∀ v W2, Below W.heap.size W W2 → v = (.pointer (some ⟨g, 0, none⟩)) → K (a.put (some 63) v) W2 := fun v W2 h1 h2 => hK v W2 h1 (fun d hd => by cases hd; exact h2)
            clear hl
            simp only [Array.getD_eq_getD_getElem?] at h14 h62
            go_simp
            exact hK _ W (Below.refl _ W) rfl
          · as_aux_lemma =>
            refine UpOb.turns_guarded (d := 62) 7 rfl rfl rfl (fun a W hl => hl 62 (by decide)) fun a W hl hR hS K hK => ?_
            have h63 : a.tmps.getD 63 undef = (.pointer (some ⟨g, 0, none⟩)) := hl 63 (by decide)
            have h62 : a.tmps.getD 62 undef = (.bool false) := hl 62 (by decide)
            replace hK : ∀ v W2, Ex g W W2 → v = (.int .i64 0) → (fun m W => InIs W g 0 (sts (be 8 N ++ (be 4 ps.length ++ (texts ps ++ (D ++ [])))) (be 4 ps.length ++ (texts ps ++ (D ++ []))) (D ++ []) m)) 8 W2 → K (a.put (some 64) v) W2 := fun v W2 h1 h2 h3 => hK v W2 h1 (fun d hd => by cases hd; exact h2) h3
            clear hl
            have hs := end_walk W g hS
            unfold inP at hs
            simp only [Array.getD_eq_getD_getElem?] at h63 h62
            go_simp
            refine hs.mono ?_
            rintro e w6 ⟨rfl, rfl⟩
            exact hK _ _ (Ex.refl g _) rfl hS
          · as_aux_lemma =>
            refine UpOb.guarded (d := 62) (by decide) (fun _ _ _ h hb => InIs.more h hb) (fun _ _ hb => Ex.of_below hb) rfl rfl (fun a W hl => hl 62 (by decide)) fun a W m hR hS hl K hK => ?_
            have h64 : a.tmps.getD 64 undef = (.int .i64 0) := hl 64 (by decide)
            have h62 : a.tmps.getD 62 undef = (.bool false) := hl 62 (by decide)
            replace hK : ∀ v W2, Below W.heap.size W W2 → v = (.bool false) → K (a.put (some 65) v) W2 := fun v W2 h1 h2 => hK v W2 h1 (fun d hd => by cases hd; exact h2)
            clear hl
            simp only [Array.getD_eq_getD_getElem?] at h64 h62
            go_simp
            exact hK _ W (Below.refl _ W) rfl
          · as_aux_lemma =>
            refine UpOb.plain (by decide) (fun _ _ _ h hb => InIs.more h hb) (fun _ _ hb => Ex.of_below hb) rfl fun a W m hR hS hl K hK => ?_
            have h62 : a.tmps.getD 62 undef = (.bool false) := hl 62 (by decide)
            have h65 : a.tmps.getD 65 undef = (.bool false) := hl 65 (by decide)
            replace hK : ∀ v W2, Below W.heap.size W W2 → v = (.bool false) → K (a.put (some 66) v) W2 := fun v W2 h1 h2 => hK v W2 h1 (fun d hd => by cases hd; exact h2)
            clear hl
            simp only [Array.getD_eq_getD_getElem?] at h62 h65
            go_simp
            exact hK _ W (Below.refl _ W) rfl
        · intro a W3 hd hsz hR3 hl hS3
          have hl' : ∀ t, SpOf _ _ t (a.tmps.getD t undef) W3 := hl
          obtain ⟨x51, e51⟩ : ∃ x, a.tmps.getD 51 undef = x := ⟨_, rfl⟩
          have htm := tmps_eq (hsz.trans rfl) [44, 45, 46, 47, 48, 49, 50, 51, 52, 53, 54, 55, 56, 57, 58, 59, 60, 61, 62, 63, 64, 65, 66] [(44, .pointer (some ⟨g, 0, none⟩)), (45, V8 N), (46, V8 N), (47, .bool false), (48, .bool false), (49, .pointer (some ⟨g, 0, none⟩)), (50, .func (.func 20) #[] #[]), (51, x51), (52, .slice A n c), (53, .bool true), (54, .bool false), (55, .bool false), (56, .bool false), (57, .pointer (some ⟨g, 0, none⟩)), (58, .agg (D.map U).toArray), (59, .agg (D.map U).toArray), (60, .bool false), (61, .bool false), (62, .bool false), (63, .pointer (some ⟨g, 0, none⟩)), (64, .int .i64 0), (65, .bool false), (66, .bool false)] rfl rfl (by decide) 112 rfl (by decide) hl' (by
            intro p hp
            simp only [List.mem_cons, List.not_mem_nil, or_false] at hp
            rcases hp with rfl | rfl | rfl | rfl | rfl | rfl | rfl | rfl | rfl | rfl | rfl | rfl | rfl | rfl | rfl | rfl | rfl | rfl | rfl | rfl | rfl | rfl | rfl
            · exact hl 44
            · exact hl 45
            · exact hl 46
            · exact hl 47
            · exact hl 48
            · exact hl 49
            · exact hl 50
            · exact e51
            · exact hl 52
            · exact hl 53
            · exact hl 54
            · exact hl 55
            · exact hl 56
            · exact hl 57
            · exact hl 58
            · exact hl 59
            · exact hl 60
            · exact hl 61
            · exact hl 62
            · exact hl 63
            · exact hl 64
            · exact hl 65
            · exact hl 66
            )
          clear hl hl' hsz e51
          have hact : a = ⟨_, []⟩ := act_eq hd htm
          clear htm hd
          rw [hact]
          clear hact
          simp only [List.foldl, List.setIfInBounds_toArray, List.set]
          have HB3 : Hid (Below w.heap.size w W3) := Ex.below HB2.out.drew hR3 HG.out HB2.out.size
          clear hR3 hS3 HI2 HB2 HDB2 HG HGL
          have q1 : (convert 5 3 (U m)).run Try.prog = fun w => .ok (.int .i64 (m.toNat : Int)) w := by
            funext w
            have h := show (convert 5 3 (U m)).run Try.prog w = .ok (.int .i64 (IntKind.i64.wrap (m.toNat : Int))) w from rfl
            have hm := m.toNat_lt
            rw [h, IntWalk.i64_in]; omega
          have q2 : ∀ w, (convert 5 3 (U m)).run Try.prog w = .ok (.int .i64 (m.toNat : Int)) w := fun w => by rw [q1]
          clear q1
          have hm := m.toNat_lt
          have hn100 := HN.out
          by_cases hmost : n ≤ m.toNat
          · have hcmp : ¬ (m.toNat : Int) < (n : Int) := by omega
            obtain ⟨L1, hL1⟩ : ∃ L1, L1 = be 8 N ++ (be 4 ps.length ++ (texts ps ++ [])) := ⟨_, rfl⟩
            have HL1 := Lib.hid hL1
            have hLq : L = L1 ++ D := by rw [hL1, HLS.out]; simp [List.append_assoc]
            clear hL1
            have HLQ := Lib.hid hLq
            have hz : (bstr (L1 ++ D)).size = (L1 ++ D).length := bstr_size _
            have hl : (L1 ++ D).length = L1.length + 32 := by rw [List.length_append, HD.out]
            have hl1 : L1.length ≤ 100000 := by have := HLL.out; rw [hLq] at this; omega
            have hwr : IntKind.i64.wrap ((L1.length : Int) + 32 - 32) = (L1.length : Int) := by rw [IntWalk.i64_in] <;> omega
            have hwr2 : IntKind.i64.wrap (L1.length : Int) = (L1.length : Int) := by rw [IntWalk.i64_in]; omega
            rw [hLq]
            clear hLq
            go_wp2_with (first
              | (go_at_call 22; first
                  | (have ho := of_walk w6 L1; rw [← extract_head L1 D] at ho; unfold inP at ho; refine ho.mono ?_; rintro e w7 ⟨rfl, hi7, hb7⟩; rw [HL1.out] at hi7; have HI7 := Lib.hid hi7; have HB6 : Hid (Below w.heap.size w w6) := Ex.below HB4.out (HX5.out.trans HX6.out) HB3.out.size HB4.out.size; have HB7 := Lib.hid (HB6.out.trans (hb7.mono HB6.out.size)); have HM7 := Lib.hid (HM6.out.fresh hb7); clear ho hi7 hb7)
                  | (have ho := of_walk W3 L; rw [HLQ.out] at ho; unfold inP at ho; refine ho.mono ?_; rintro e w4 ⟨rfl, hi4, hb4⟩; rw [← HLQ.out, HLS.out] at hi4; have HI4 := Lib.hid hi4; have HB4 := Lib.hid (HB3.out.trans (hb4.mono HB3.out.size)); clear ho hi4 hb4))
              | (go_at_call 23; first
                  | (have hs := eight_take w7 w6.heap.size (be 8 N) _ (be_length _ _) HI7.out; unfold inP at hs; refine hs.mono ?_; rintro e w8 ⟨rfl, hi8, hx8⟩; have HI8 := Lib.hid hi8; have HX8 := Lib.hid hx8; have HM8 := Lib.hid (HM7.out.kept hx8); have HB8 : Hid (Below w.heap.size w w8) := Ex.below HB7.out hx8 HB6.out.size HB7.out.size; clear hs hi8 hx8)
                  | (have hs := eight_take w4 W3.heap.size (be 8 N) _ (be_length _ _) HI4.out; unfold inP at hs; refine hs.mono ?_; rintro e w5 ⟨rfl, hi5, hx5⟩; have HI5 := Lib.hid hi5; have HX5 := Lib.hid hx5; clear hs hi5 hx5))
              | (go_at_call 25; first
                  | (have hs := rows_ok w9 w6.heap.size 100 ps [] HALL.out (by rw [HLN.out]; omega) (by decide) HI9.out; unfold inP at hs; refine hs.mono ?_; rintro e wa ⟨va, rfl, hma, hia, hxa⟩; have HMA := Lib.hid hma; have HIA := Lib.hid hia; have HBA : Hid (Below w.heap.size w wa) := Ex.below HB9.out hxa HB6.out.size HB9.out.size; clear hs hma hia hxa)
                  | (have hs := rows_ok w5 W3.heap.size m.toNat ps (D ++ []) HALL.out (by rw [HLN.out]; exact hmost) (by omega) HI5.out; unfold inP at hs; refine hs.mono ?_; rintro e w6 ⟨v6, rfl, hm6, hi6, hx6⟩; have HM6 := Lib.hid hm6; have HX6 := Lib.hid hx6; have hm6' := hm6; obtain ⟨A6, c6, rfl, -⟩ := hm6'; clear hs hm6 hi6 hx6))
              | (go_at_call 24; first
                  | (have hs := equal_walk wa w6.heap.size va A n c ps HMA.out (HR.out.kept HBA.out (Nat.le_refl _)) (by omega); refine hs.mono ?_; rintro e wb ⟨rfl, hbb⟩; have HIB := Lib.hid (InIs.more HIA.out hbb); have HBB := Lib.hid (HBA.out.trans (hbb.mono HBA.out.size)); clear hs hbb)
                  | (have hs := equal_walk w8 w6.heap.size _ A n c ps HM8.out (HR.out.kept HB8.out (Nat.le_refl _)) (by omega); refine hs.mono ?_; rintro e w9 ⟨rfl, hb9⟩; have HI9 := Lib.hid (InIs.more HI8.out hb9); have HB9 := Lib.hid (HB8.out.trans (hb9.mono HB8.out.size)); clear hs hb9))
              | (go_at_call 27; have hs := end_walk wb w6.heap.size HIB.out; unfold inP at hs; refine hs.mono ?_; rintro e wc ⟨rfl, rfl⟩; clear hs))
            go_ret
            exact ⟨rfl, HBB.out⟩
          · have hcmp : (m.toNat : Int) < (n : Int) := by omega
            go_wp2_with (first
              | (go_at_call 22; have ho := of_walk W3 L; unfold inP at ho; refine ho.mono ?_; rintro e w4 ⟨rfl, hi4, hb4⟩; rw [HLS.out] at hi4; have HI4 := Lib.hid hi4; have HB4 := Lib.hid (HB3.out.trans (hb4.mono HB3.out.size)); clear ho hi4 hb4)
              | (go_at_call 23; have hs := eight_take w4 W3.heap.size (be 8 N) _ (be_length _ _) HI4.out; unfold inP at hs; refine hs.mono ?_; rintro e w5 ⟨rfl, hi5, hx5⟩; have HI5 := Lib.hid hi5; have HX5 := Lib.hid hx5; clear hs hi5 hx5)
              | (go_at_call 25; have hs := rows_over w5 W3.heap.size m.toNat ps.length _ (by rw [HLN.out]; omega) (by rw [HLN.out]; omega) HI5.out; unfold inP at hs; refine hs.mono ?_; rintro e w6 ⟨rfl, hi6, hx6⟩; have HI6 := Lib.hid hi6; have HX6 := Lib.hid hx6; clear hs hi6 hx6)
              | (go_at_call 28; have hs := err_walk w6 W3.heap.size 6 _ HI6.out; unfold inP at hs; refine hs.mono ?_; rintro e w7 ⟨rfl, rfl⟩; clear hs))
            go_ret
            exact ⟨rfl, Ex.below HB4.out (HX5.out.trans HX6.out) HB3.out.size HB4.out.size⟩
end Go.Proofs.Ytjoiimhifogbhaa
