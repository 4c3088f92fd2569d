/- The statement's walk: behind any acts both disks are the same. -/
import Derived.Test.YtcbfnbmkogeehaaQa
namespace Go.Proofs.Ytcbfnbmkogeehaa
open Go.RowKit

/-- An act of the script. -/
structure Sact where
  x : Int
  k : Int
  b : UInt8
  A : Option Addr
  n : Nat
  c : Nat
  kb : List Bool
structure Scr (w : World) (A : Option Addr) (n : Nat) (l : List Sact) : Prop where
  len : n = l.length
  wf : ∀ a ∈ l, -9223372036854775808 ≤ a.k ∧ a.k ≤ 9223372036854775807
  place : 0 < n → ∃ b o, A = some ⟨b, o, none⟩ ∧ b < w.heap.size ∧ ∀ i (h : i < l.length) j v, [.int .i64 l[i].x, .int .i64 l[i].k, U l[i].b, .slice l[i].A l[i].n l[i].c][j]? = some v → w.cell? ⟨b, o + i * 4 + j, none⟩ = some v
  kept : ∀ a ∈ l, a.n = a.kb.length ∧ (0 < a.n → ∃ b o, a.A = some ⟨b, o, none⟩ ∧ b < w.heap.size ∧ ∀ i (h : i < a.kb.length), w.cell? ⟨b, o + i, none⟩ = some (.bool a.kb[i]))

/-- What an operation amid the acts leaves. -/
def RA (g lb mb q sb lc wb : Nat) (s2 : Dk) (a b : World) : Prop := Fx (seven g lb mb q sb lc wb) a b ∧ (Two a g lb mb q sb lc wb s2 → Two b g lb mb q sb lc wb s2)
theorem RA.refl {g lb mb q sb lc wb : Nat} {s2 : Dk} (a : World) : RA g lb mb q sb lc wb s2 a a := ⟨Fx.refl _ _, id⟩
theorem RA.trans {g lb mb q sb lc wb : Nat} {s2 : Dk} {a b c : World} (h : RA g lb mb q sb lc wb s2 a b) (k : RA g lb mb q sb lc wb s2 b c) : RA g lb mb q sb lc wb s2 a c := ⟨h.1.trans k.1, fun x => k.2 (h.2 x)⟩
theorem RA.of_below {g lb mb q sb lc wb : Nat} {s2 : Dk} {a b : World} (h : Below a.heap.size a b) : RA g lb mb q sb lc wb s2 a b := ⟨Fx.of_below h, fun x => x.up h⟩
def spR {g lb mb q sb lc wb : Nat} {s2 : Dk} (v : Value) : Seq.Sp (RA g lb mb q sb lc wb s2) := ⟨fun x _ => x = v, fun _ _ _ h _ => h⟩
def spV {g lb mb q sb lc wb : Nat} {s2 : Dk} (v : Value) : Seq.Sp (RA g lb mb q sb lc wb s2) := ⟨fun x W => x = v ∧ Two W g lb mb q sb lc wb s2, fun _ _ _ h hx => ⟨h.1, hx.2 h.2⟩⟩
def stA (g lb mb q sb lc wb : Nat) (s s2 : Dk) : Nat → World → Prop
  | 0, W => Two W g lb mb q sb lc wb s
  | _, W => Two W g lb mb q sb lc wb s2
theorem stA.up {g lb mb q sb lc wb m : Nat} {s s2 : Dk} {W W' : World} (h : stA g lb mb q sb lc wb s s2 m W) (hb : Below W.heap.size W W') : stA g lb mb q sb lc wb s s2 m W' := by
  match m, h with
  | 0, h => exact Two.up h hb
  | m + 1, h => exact Two.up (s := s2) h hb

attribute [local irreducible] wpList in
set_option maxRecDepth 100000 in
set_option maxHeartbeats 4000000 in
theorem plays_walk (w : World) (m : Nat) (hm1 : 64 ≤ m) (hm2 : m ≤ 4096) (A1 : Option Addr) (n1 c1 : Nat) (l : List Sact) (h1 : Scr w A1 n1 l) (hn : n1 ≤ 40) :
    Calls Try.prog 3 #[.int .i64 (m : Int), .slice A1 n1 c1] w fun e w' => e = .returned (.bool true) ∧ Below w.heap.size w w' := by
  have q1 : ¬ (40 : Int) < (n1 : Int) := by omega
  have H1 := Lib.hid h1
  have HNN := Lib.hid hn
  clear h1 hn
  go_enter Try.func3, Try.ntmps3
  go_wp2_with (first
    | (go_at_call 6; refine (awake_walk _).mono ?_; rintro e w0 ⟨rfl, hb0⟩; have HB0 := Lib.hid hb0; clear hb0)
    | (go_at_call 7; refine (new_walk _ m hm1 hm2).mono ?_; rintro e w1 ⟨g, lb, mb, rfl, hB1, hg, hlb, hmb, hr0⟩; have hs0 := HB0.out.size; have HB1 := Lib.hid (HB0.out.trans (hB1.mono hs0)); have HG : Hid (w.heap.size ≤ g) := Nat.le_trans hs0 hg; have HLB : Hid (w.heap.size ≤ lb) := Nat.le_trans hs0 hlb; have HMB : Hid (w.heap.size ≤ mb) := Nat.le_trans hs0 hmb; have HR1 := Lib.hid hr0; clear hB1 hg hlb hmb hs0 hr0)
    | (go_at_call 8; refine (qnew_walk w1 m hm1 hm2).mono ?_; rintro e w2 ⟨q, sb, lc, wb, rfl, hB2, hq, hsb, hlc, hwb, hq0⟩; have ha1 := HR1.out.apart; have HAPT : Hid (∀ x ∈ [g, lb, mb], x ∉ [q, sb, lc, wb]) := (fun x hx => by
        simp only [List.mem_cons, List.not_mem_nil, or_false, not_or] at hx ⊢
        omega); have HT2 : Hid (Two w2 g lb mb q sb lc wb (Dk.new m)) := ⟨⟨_, HR1.out.up hB2⟩, hq0, HAPT.out⟩; have hs1 := HB1.out.size; have HSEV : Hid (∀ x ∈ seven g lb mb q sb lc wb, w.heap.size ≤ x) := (fun x hx => by
        have a1 := HG.out
        have a2 := HLB.out
        have a3 := HMB.out
        simp only [seven, List.mem_cons, List.not_mem_nil, or_false] at hx
        omega); have HB2 := Lib.hid (HB1.out.trans (hB2.mono hs1)); clear hB2 hq hsb hlc hwb hq0 ha1 hs1))
  clear q1 HAPT HG HLB HMB HR1 HB1
  go_loopw [48] (fun i wr => ∃ j : Nat, j ≤ n1 ∧ i = .int .i64 j ∧ Below w.heap.size w wr ∧ ∃ s, Two wr g lb mb q sb lc wb s ∧ s.done ≤ j) (fun i _ => n1 - (intOf i).toNat)
  case atStart => exact ⟨0, Nat.zero_le _, rfl, HB2.out, Dk.new m, HT2.out, Int.le_refl _⟩
  case round =>
    obtain ⟨j, hj, rfl, hb, s, ht, hdn⟩ := hrel
    have HB := Lib.hid hb
    have HT := Lib.hid ht
    have hn40 := HNN.out
    clear hb ht
    by_cases hlt : j < n1
    · obtain ⟨bo, off, rfl, hbl, hcs⟩ := H1.out.place (by omega)
      have hjl : j < l.length := by rw [← H1.out.len]; exact hlt
      have hc := hcs j hjl
      have hwf := H1.out.wf l[j] (List.getElem_mem hjl)
      have hkp := H1.out.kept l[j] (List.getElem_mem hjl)
      generalize l[j] = a0 at *
      obtain ⟨x, k, b, A, n, c, kb⟩ := a0
      simp only at hc hwf hkp
      obtain ⟨hk1, hk2⟩ := hwf
      have hc2 : ∀ i v, [Value.int .i64 x, .int .i64 k, U b, .slice A n c][i]? = some v → wr.cell? ⟨bo, off + j * 4 + i, none⟩ = some v := fun i v hv => (HB.out.cell hbl).trans (hc i v hv)
      have HC := Lib.hid hc2
      have hone : (#[Value.int .i64 x, .int .i64 k, U b, .slice A n c] : Array Value).all (·.oneCell') = true := by
        simp
        exact ⟨rfl, rfl, rfl, rfl⟩
      have HONE := Lib.hid hone
      have HKP0 : Hid (∀ W, Below w.heap.size w W → Kept W A n kb (seven g lb mb q sb lc wb)) := fun W hW => ⟨hkp.1, fun h0 => by
        obtain ⟨b1, o1, e1, hl1, hc1⟩ := hkp.2 h0
        exact ⟨b1, o1, e1, Nat.lt_of_lt_of_le hl1 hW.size, fun hm => by have := HSEV.out b1 hm; omega, fun i hi => (hW.cell hl1).trans (hc1 i hi)⟩⟩
      have hnd := hdn
      have hdd : s.done + 1 < 1000000000 := by omega
      have HDN := Lib.hid hdn
      clear hc hcs hbl hc2 hkp hjl hnd hdn hone
      go_wp2_with (first
        | (refine wpList_load_cells rfl 32 (.tmp 50) rfl bo (off + j * 4) rfl [.int .i64 x, .int .i64 k, U b, .slice A n c] _ HC.out Try.underlying32 rfl rfl ?_)
        | (refine wpList_load_row rfl 32 (.tmp 9) rfl _ rfl 32 #[.int .i64 x, .int .i64 k, U b, .slice A n c] (0, 0) _ HK3.out Try.underlying32 rfl rfl ?_)
        | (refine wpList_store_fresh rfl 32 (.tmp 9) (.tmp 51) rfl #[.int .i64 x, .int .i64 k, U b, .slice A n c] rfl rfl rfl rfl HONE.out ?_; intro w3 hb3 hs3 hB3; have HK3 := Lib.hid hB3; have HB3 := Lib.hid hb3; clear hb3 hs3 hB3)
        | (go_at_call 9; refine (light_walk w3 (.int .i64 x) (.int .i64 k) (U b) A n c rfl rfl rfl).mono ?_; rintro e w4 ⟨rfl, hb4⟩; have HK4 := Lib.hid (HK3.out.kept hb4 HK3.out.lt); have HB4 := Lib.hid (HB3.out.trans (hb4.mono HB3.out.size)); clear hb4))
      · go_ret
        exact ⟨rfl, HB.out.trans (HB4.out.mono HB.out.size)⟩
      · have HB9' : Hid (Below w.heap.size w w4.drew) := (HB.out.trans (HB4.out.mono HB.out.size)).drew
        have HT9 : Hid (Two w4.drew g lb mb q sb lc wb s) := HT.out.up HB4.out.drew
        have hap7 : ∀ y ∈ seven g lb mb q sb lc wb, y < wr.heap.size := by
          obtain ⟨D, hr⟩ := HT.out.real
          have a1 := hr.apart
          have a2 := HT.out.doc.apart
          intro y hy
          simp only [seven, List.mem_cons, List.not_mem_nil, or_false] at hy
          omega
        have HB9 : Hid (∀ W, Fx (seven g lb mb q sb lc wb) w4.drew W → Blk W wr.heap.size 32 #[.int .i64 x, .int .i64 k, U b, .slice A n c]) := fun W hf => hf.blk HK4.out.drew (fun hm => by have := hap7 _ hm; omega)
        have HKP : Hid (∀ W, Fx (seven g lb mb q sb lc wb) w4.drew W → Kept W A n kb (seven g lb mb q sb lc wb)) := fun W hf => by
          obtain ⟨e0, hk⟩ := HKP0.out _ HB9'.out
          refine ⟨e0, fun h0 => ?_⟩
          obtain ⟨b1, o1, e1, hl1, hm1, hc1⟩ := hk h0
          exact ⟨b1, o1, e1, Nat.lt_of_lt_of_le hl1 hf.size, hm1, fun i hi => (World.cell?_of_block (hf.block b1 hl1 hm1)).trans (hc1 i hi)⟩
        obtain ⟨s2, hs2⟩ : ∃ s2, s.act x k b kb = s2 := ⟨_, rfl⟩
        have hd2 := Dk.act_done s HT.out.doc.ok.d0 x k b kb
        rw [hs2] at hd2
        have HS2 := Lib.hid hs2
        have hd := hdd
        have HD2 : Hid (s2.done ≤ (j : Int) + 1) := by
          have := HDN.out
          show s2.done ≤ (j : Int) + 1
          omega
        clear hs2 hd2 hap7 HKP0 HC HONE HK4 HB4 HK3 HB3 HT HB HT2 HB2 hdd HDN
        generalize wr.heap.size = b9 at *
        refine Seq.wp_region_seq (by kernel_rfl) (R := RA g lb mb q sb lc wb s2) RA.refl (fun _ _ _ h k => h.trans k) (stA g lb mb q sb lc wb s s2) [3] [[5], [7], [9], [55, 56, 57], [58], [59], [5, 60], [61, 60], [7, 60], [63, 60], [64, 60], [65, 60], [62, 66, 60], [60, 67], [68], [5, 69], [70, 69], [7, 69], [72, 69], [73, 69], [74, 69], [71, 75, 69], [69, 76]] [(55, spR (.pointer (some ⟨g, 0, none⟩))), (56, spR (.pointer (some ⟨q, 0, none⟩))), (57, spR (.agg #[.int .i64 x, .int .i64 k, U b, .slice A n c])), (58, spV (.bool true)), (59, spV (.bool false)), (60, spV (.bool false)), (61, spR (.pointer (some ⟨g, 0, none⟩))), (62, spR (.bool s2.down)), (63, spR (.pointer (some ⟨q, 0, none⟩))), (64, spR (.pointer (some ⟨q, 0, none⟩))), (65, spR (.pointer (some ⟨q, 5, none⟩))), (66, spR (.bool s2.down)), (67, spR (.bool false)), (68, spV (.bool false)), (69, spV (.bool false)), (70, spR (.pointer (some ⟨g, 0, none⟩))), (71, spR (.int .i64 s2.done)), (72, spR (.pointer (some ⟨q, 0, none⟩))), (73, spR (.pointer (some ⟨q, 0, none⟩))), (74, spR (.pointer (some ⟨q, 3, none⟩))), (75, spR (.int .i64 s2.done)), (76, spR (.bool false)), (77, spR (.bool false))] 82 rfl (by kernel_rfl) (by kernel_rfl) (by kernel_rfl) (by kernel_rfl) ?_ ?_ ?_
        · exact HT9.out
        · refine ⟨?_, ?_, ?_, ?_, ?_, ?_, ?_, ?_, ?_, ?_, ?_, ?_, ?_, ?_, ?_, ?_, ?_, ?_, ?_, ?_, ?_, ?_, ?_, trivial⟩
          · as_aux_lemma =>
            refine Seq.UpOb.plain (by decide) (fun m W W2 h hb => stA.up h hb) (fun _ _ hb => RA.of_below hb) rfl fun a W m hR hS hl K hK => ?_
            have h5 : a.tmps.getD 5 undef = (.pointer (some ⟨g, 0, none⟩)) := hl 5 (by decide)
            replace hK : ∀ v W2, Below W.heap.size W W2 → v = (.pointer (some ⟨g, 0, none⟩)) → K (a.put (some 55) v) W2 := fun v W2 h1 h2 => hK v W2 h1 (fun d hd => by cases hd; exact h2)
            clear hl
            simp only [Array.getD_eq_getD_getElem?] at h5
            go_simp
            exact hK _ W (Below.refl _ W) rfl
          · as_aux_lemma =>
            refine Seq.UpOb.plain (by decide) (fun m W W2 h hb => stA.up h hb) (fun _ _ hb => RA.of_below hb) rfl fun a W m hR hS hl K hK => ?_
            have h7 : a.tmps.getD 7 undef = (.pointer (some ⟨q, 0, none⟩)) := hl 7 (by decide)
            replace hK : ∀ v W2, Below W.heap.size W W2 → v = (.pointer (some ⟨q, 0, none⟩)) → K (a.put (some 56) v) W2 := fun v W2 h1 h2 => hK v W2 h1 (fun d hd => by cases hd; exact h2)
            clear hl
            simp only [Array.getD_eq_getD_getElem?] at h7
            go_simp
            exact hK _ W (Below.refl _ W) rfl
          · as_aux_lemma =>
            refine Seq.UpOb.plain (by decide) (fun m W W2 h hb => stA.up h hb) (fun _ _ hb => RA.of_below hb) rfl fun a W m hR hS hl K hK => ?_
            have h9 : a.tmps.getD 9 undef = (.pointer (some ⟨b9, 0, none⟩)) := hl 9 (by decide)
            replace hK : ∀ v W2, Below W.heap.size W W2 → v = (.agg #[.int .i64 x, .int .i64 k, U b, .slice A n c]) → K (a.put (some 57) v) W2 := fun v W2 h1 h2 => hK v W2 h1 (fun d hd => by cases hd; exact h2)
            clear hl
            exact wp_load_row 32 _ rfl b9 h9 32 _ (0, 0) _ (HB9.out W hR.1) Try.underlying32 rfl rfl (hK _ W (Below.refl _ W) rfl)
          · as_aux_lemma =>
            refine Seq.UpOb.turns 0 rfl rfl fun a W hl hR hS K hK => ?_
            have h55 : a.tmps.getD 55 undef = (.pointer (some ⟨g, 0, none⟩)) := hl 55 (by decide)
            have h56 : a.tmps.getD 56 undef = (.pointer (some ⟨q, 0, none⟩)) := hl 56 (by decide)
            have h57 : a.tmps.getD 57 undef = (.agg #[.int .i64 x, .int .i64 k, U b, .slice A n c]) := hl 57 (by decide)
            replace hK : ∀ v W2, RA g lb mb q sb lc wb s2 W W2 → (v = (.bool true) ∧ Two W2 g lb mb q sb lc wb s2) → Two W2 g lb mb q sb lc wb s2 → K (a.put (some 58) v) W2 := fun v W2 h1 h2 h3 => hK v W2 h1 (fun d hd => by cases hd; exact h2) h3
            clear hl
            have hT : Two W g lb mb q sb lc wb s := hS
            have hs := do_walk W g lb mb q sb lc wb s hT hd x k hk1 hk2 b A n c kb (HKP.out W hR.1)
            rw [HS2.out] at hs
            simp only [Array.getD_eq_getD_getElem?] at h55 h56 h57
            go_simp
            refine hs.mono ?_
            rintro e w6 ⟨rfl, hx6, ht6⟩
            exact hK _ w6 ⟨hx6, fun _ => ht6⟩ ⟨rfl, ht6⟩ ht6
          · as_aux_lemma =>
            refine Seq.UpOb.plain (by decide) (fun m W W2 h hb => stA.up h hb) (fun _ _ hb => RA.of_below hb) rfl fun a W m hR hS hl K hK => ?_
            have h58 : a.tmps.getD 58 undef = (.bool true) := (hl 58 (by decide)).1
            have t58 : Two W g lb mb q sb lc wb s2 := (hl 58 (by decide)).2
            replace hK : ∀ v W2, Below W.heap.size W W2 → (v = (.bool false) ∧ Two W2 g lb mb q sb lc wb s2) → K (a.put (some 59) v) W2 := fun v W2 h1 h2 => hK v W2 h1 (fun d hd => by cases hd; exact h2)
            clear hl
            simp only [Array.getD_eq_getD_getElem?] at h58
            go_simp
            exact hK _ W (Below.refl _ W) ⟨rfl, t58⟩
          · as_aux_lemma =>
            refine Seq.UpOb.plain (by decide) (fun m W W2 h hb => stA.up h hb) (fun _ _ hb => RA.of_below hb) rfl fun a W m hR hS hl K hK => ?_
            have h59 : a.tmps.getD 59 undef = (.bool false) := (hl 59 (by decide)).1
            have t59 : Two W g lb mb q sb lc wb s2 := (hl 59 (by decide)).2
            replace hK : ∀ v W2, Below W.heap.size W W2 → (v = (.bool false) ∧ Two W2 g lb mb q sb lc wb s2) → K (a.put (some 60) v) W2 := fun v W2 h1 h2 => hK v W2 h1 (fun d hd => by cases hd; exact h2)
            clear hl
            simp only [Array.getD_eq_getD_getElem?] at h59
            go_simp
            exact hK _ W (Below.refl _ W) ⟨rfl, t59⟩
          · as_aux_lemma =>
            refine Seq.UpOb.guarded (d := 60) (by decide) (fun m W W2 h hb => stA.up h hb) (fun _ _ hb => RA.of_below hb) rfl rfl (fun a W hl => (hl 60 (by decide)).1) fun a W m hR hS hl K hK => ?_
            have h5 : a.tmps.getD 5 undef = (.pointer (some ⟨g, 0, none⟩)) := hl 5 (by decide)
            have h60 : a.tmps.getD 60 undef = (.bool false) := (hl 60 (by decide)).1
            have t60 : Two W g lb mb q sb lc wb s2 := (hl 60 (by decide)).2
            replace hK : ∀ v W2, Below W.heap.size W W2 → v = (.pointer (some ⟨g, 0, none⟩)) → K (a.put (some 61) v) W2 := fun v W2 h1 h2 => hK v W2 h1 (fun d hd => by cases hd; exact h2)
            clear hl
            simp only [Array.getD_eq_getD_getElem?] at h5 h60
            go_simp
            exact hK _ W (Below.refl _ W) rfl
          · as_aux_lemma =>
            refine Seq.UpOb.guarded (d := 60) (by decide) (fun m W W2 h hb => stA.up h hb) (fun _ _ hb => RA.of_below hb) rfl rfl (fun a W hl => (hl 60 (by decide)).1) fun a W m hR hS hl K hK => ?_
            have h61 : a.tmps.getD 61 undef = (.pointer (some ⟨g, 0, none⟩)) := hl 61 (by decide)
            have h60 : a.tmps.getD 60 undef = (.bool false) := (hl 60 (by decide)).1
            have t60 : Two W g lb mb q sb lc wb s2 := (hl 60 (by decide)).2
            replace hK : ∀ v W2, Below W.heap.size W W2 → v = (.bool s2.down) → K (a.put (some 62) v) W2 := fun v W2 h1 h2 => hK v W2 h1 (fun d hd => by cases hd; exact h2)
            clear hl
            obtain ⟨D1, hr1⟩ := t60.real
            have hs := down_walk W g lb mb s2 D1 hr1
            simp only [Array.getD_eq_getD_getElem?] at h61 h60
            go_simp
            refine hs.mono ?_
            rintro e w6 ⟨rfl, rfl⟩
            exact hK _ _ (Below.refl _ _) rfl
          · as_aux_lemma =>
            refine Seq.UpOb.guarded (d := 60) (by decide) (fun m W W2 h hb => stA.up h hb) (fun _ _ hb => RA.of_below hb) rfl rfl (fun a W hl => (hl 60 (by decide)).1) fun a W m hR hS hl K hK => ?_
            have h7 : a.tmps.getD 7 undef = (.pointer (some ⟨q, 0, none⟩)) := hl 7 (by decide)
            have h60 : a.tmps.getD 60 undef = (.bool false) := (hl 60 (by decide)).1
            have t60 : Two W g lb mb q sb lc wb s2 := (hl 60 (by decide)).2
            replace hK : ∀ v W2, Below W.heap.size W W2 → v = (.pointer (some ⟨q, 0, none⟩)) → K (a.put (some 63) v) W2 := fun v W2 h1 h2 => hK v W2 h1 (fun d hd => by cases hd; exact h2)
            clear hl
            simp only [Array.getD_eq_getD_getElem?] at h7 h60
            go_simp
            exact hK _ W (Below.refl _ W) rfl
          · as_aux_lemma =>
            refine Seq.UpOb.guarded (d := 60) (by decide) (fun m W W2 h hb => stA.up h hb) (fun _ _ hb => RA.of_below hb) rfl rfl (fun a W hl => (hl 60 (by decide)).1) fun a W m hR hS hl K hK => ?_
            have h63 : a.tmps.getD 63 undef = (.pointer (some ⟨q, 0, none⟩)) := hl 63 (by decide)
            have h60 : a.tmps.getD 60 undef = (.bool false) := (hl 60 (by decide)).1
            have t60 : Two W g lb mb q sb lc wb s2 := (hl 60 (by decide)).2
            replace hK : ∀ v W2, Below W.heap.size W W2 → v = (.pointer (some ⟨q, 0, none⟩)) → K (a.put (some 64) v) W2 := fun v W2 h1 h2 => hK v W2 h1 (fun d hd => by cases hd; exact h2)
            clear hl
            simp only [Array.getD_eq_getD_getElem?] at h63 h60
            go_simp
            exact hK _ W (Below.refl _ W) rfl
          · as_aux_lemma =>
            refine Seq.UpOb.guarded (d := 60) (by decide) (fun m W W2 h hb => stA.up h hb) (fun _ _ hb => RA.of_below hb) rfl rfl (fun a W hl => (hl 60 (by decide)).1) fun a W m hR hS hl K hK => ?_
            have h64 : a.tmps.getD 64 undef = (.pointer (some ⟨q, 0, none⟩)) := hl 64 (by decide)
            have h60 : a.tmps.getD 60 undef = (.bool false) := (hl 60 (by decide)).1
            have t60 : Two W g lb mb q sb lc wb s2 := (hl 60 (by decide)).2
            replace hK : ∀ v W2, Below W.heap.size W W2 → v = (.pointer (some ⟨q, 5, none⟩)) → K (a.put (some 65) v) W2 := fun v W2 h1 h2 => hK v W2 h1 (fun d hd => by cases hd; exact h2)
            clear hl
            simp only [Array.getD_eq_getD_getElem?] at h64 h60
            go_simp
            exact hK _ W (Below.refl _ W) rfl
          · as_aux_lemma =>
            refine Seq.UpOb.guarded (d := 60) (by decide) (fun m W W2 h hb => stA.up h hb) (fun _ _ hb => RA.of_below hb) rfl rfl (fun a W hl => (hl 60 (by decide)).1) fun a W m hR hS hl K hK => ?_
            have h65 : a.tmps.getD 65 undef = (.pointer (some ⟨q, 5, none⟩)) := hl 65 (by decide)
            have h60 : a.tmps.getD 60 undef = (.bool false) := (hl 60 (by decide)).1
            have t60 : Two W g lb mb q sb lc wb s2 := (hl 60 (by decide)).2
            replace hK : ∀ v W2, Below W.heap.size W W2 → v = (.bool s2.down) → K (a.put (some 66) v) W2 := fun v W2 h1 h2 => hK v W2 h1 (fun d hd => by cases hd; exact h2)
            clear hl
            have hc : W.cell? ⟨q, 5, none⟩ = some (.bool s2.down) := t60.doc.blk.cell 5
            simp only [Array.getD_eq_getD_getElem?] at h65 h60
            go_simp
            exact hK _ W (Below.refl _ W) rfl
          · as_aux_lemma =>
            refine Seq.UpOb.guarded (d := 60) (by decide) (fun m W W2 h hb => stA.up h hb) (fun _ _ hb => RA.of_below hb) rfl rfl (fun a W hl => (hl 60 (by decide)).1) fun a W m hR hS hl K hK => ?_
            have h62 : a.tmps.getD 62 undef = (.bool s2.down) := hl 62 (by decide)
            have h66 : a.tmps.getD 66 undef = (.bool s2.down) := hl 66 (by decide)
            have h60 : a.tmps.getD 60 undef = (.bool false) := (hl 60 (by decide)).1
            have t60 : Two W g lb mb q sb lc wb s2 := (hl 60 (by decide)).2
            replace hK : ∀ v W2, Below W.heap.size W W2 → v = (.bool false) → K (a.put (some 67) v) W2 := fun v W2 h1 h2 => hK v W2 h1 (fun d hd => by cases hd; exact h2)
            clear hl
            simp only [Array.getD_eq_getD_getElem?] at h62 h66 h60
            go_simp
            exact hK _ W (Below.refl _ W) (by simp)
          · as_aux_lemma =>
            refine Seq.UpOb.plain (by decide) (fun m W W2 h hb => stA.up h hb) (fun _ _ hb => RA.of_below hb) rfl fun a W m hR hS hl K hK => ?_
            have h60 : a.tmps.getD 60 undef = (.bool false) := (hl 60 (by decide)).1
            have t60 : Two W g lb mb q sb lc wb s2 := (hl 60 (by decide)).2
            have h67 : a.tmps.getD 67 undef = (.bool false) := hl 67 (by decide)
            replace hK : ∀ v W2, Below W.heap.size W W2 → (v = (.bool false) ∧ Two W2 g lb mb q sb lc wb s2) → K (a.put (some 68) v) W2 := fun v W2 h1 h2 => hK v W2 h1 (fun d hd => by cases hd; exact h2)
            clear hl
            simp only [Array.getD_eq_getD_getElem?] at h60 h67
            go_simp
            exact hK _ W (Below.refl _ W) ⟨rfl, t60⟩
          · as_aux_lemma =>
            refine Seq.UpOb.plain (by decide) (fun m W W2 h hb => stA.up h hb) (fun _ _ hb => RA.of_below hb) rfl fun a W m hR hS hl K hK => ?_
            have h68 : a.tmps.getD 68 undef = (.bool false) := (hl 68 (by decide)).1
            have t68 : Two W g lb mb q sb lc wb s2 := (hl 68 (by decide)).2
            replace hK : ∀ v W2, Below W.heap.size W W2 → (v = (.bool false) ∧ Two W2 g lb mb q sb lc wb s2) → K (a.put (some 69) v) W2 := fun v W2 h1 h2 => hK v W2 h1 (fun d hd => by cases hd; exact h2)
            clear hl
            simp only [Array.getD_eq_getD_getElem?] at h68
            go_simp
            exact hK _ W (Below.refl _ W) ⟨rfl, t68⟩
          · as_aux_lemma =>
            refine Seq.UpOb.guarded (d := 69) (by decide) (fun m W W2 h hb => stA.up h hb) (fun _ _ hb => RA.of_below hb) rfl rfl (fun a W hl => (hl 69 (by decide)).1) fun a W m hR hS hl K hK => ?_
            have h5 : a.tmps.getD 5 undef = (.pointer (some ⟨g, 0, none⟩)) := hl 5 (by decide)
            have h69 : a.tmps.getD 69 undef = (.bool false) := (hl 69 (by decide)).1
            have t69 : Two W g lb mb q sb lc wb s2 := (hl 69 (by decide)).2
            replace hK : ∀ v W2, Below W.heap.size W W2 → v = (.pointer (some ⟨g, 0, none⟩)) → K (a.put (some 70) v) W2 := fun v W2 h1 h2 => hK v W2 h1 (fun d hd => by cases hd; exact h2)
            clear hl
            simp only [Array.getD_eq_getD_getElem?] at h5 h69
            go_simp
            exact hK _ W (Below.refl _ W) rfl
          · as_aux_lemma =>
            refine Seq.UpOb.guarded (d := 69) (by decide) (fun m W W2 h hb => stA.up h hb) (fun _ _ hb => RA.of_below hb) rfl rfl (fun a W hl => (hl 69 (by decide)).1) fun a W m hR hS hl K hK => ?_
            have h70 : a.tmps.getD 70 undef = (.pointer (some ⟨g, 0, none⟩)) := hl 70 (by decide)
            have h69 : a.tmps.getD 69 undef = (.bool false) := (hl 69 (by decide)).1
            have t69 : Two W g lb mb q sb lc wb s2 := (hl 69 (by decide)).2
            replace hK : ∀ v W2, Below W.heap.size W W2 → v = (.int .i64 s2.done) → K (a.put (some 71) v) W2 := fun v W2 h1 h2 => hK v W2 h1 (fun d hd => by cases hd; exact h2)
            clear hl
            obtain ⟨D1, hr1⟩ := t69.real
            have hs := steps_walk W g lb mb s2 D1 hr1
            simp only [Array.getD_eq_getD_getElem?] at h70 h69
            go_simp
            refine hs.mono ?_
            rintro e w6 ⟨rfl, rfl⟩
            exact hK _ _ (Below.refl _ _) rfl
          · as_aux_lemma =>
            refine Seq.UpOb.guarded (d := 69) (by decide) (fun m W W2 h hb => stA.up h hb) (fun _ _ hb => RA.of_below hb) rfl rfl (fun a W hl => (hl 69 (by decide)).1) fun a W m hR hS hl K hK => ?_
            have h7 : a.tmps.getD 7 undef = (.pointer (some ⟨q, 0, none⟩)) := hl 7 (by decide)
            have h69 : a.tmps.getD 69 undef = (.bool false) := (hl 69 (by decide)).1
            have t69 : Two W g lb mb q sb lc wb s2 := (hl 69 (by decide)).2
            replace hK : ∀ v W2, Below W.heap.size W W2 → v = (.pointer (some ⟨q, 0, none⟩)) → K (a.put (some 72) v) W2 := fun v W2 h1 h2 => hK v W2 h1 (fun d hd => by cases hd; exact h2)
            clear hl
            simp only [Array.getD_eq_getD_getElem?] at h7 h69
            go_simp
            exact hK _ W (Below.refl _ W) rfl
          · as_aux_lemma =>
            refine Seq.UpOb.guarded (d := 69) (by decide) (fun m W W2 h hb => stA.up h hb) (fun _ _ hb => RA.of_below hb) rfl rfl (fun a W hl => (hl 69 (by decide)).1) fun a W m hR hS hl K hK => ?_
            have h72 : a.tmps.getD 72 undef = (.pointer (some ⟨q, 0, none⟩)) := hl 72 (by decide)
            have h69 : a.tmps.getD 69 undef = (.bool false) := (hl 69 (by decide)).1
            have t69 : Two W g lb mb q sb lc wb s2 := (hl 69 (by decide)).2
            replace hK : ∀ v W2, Below W.heap.size W W2 → v = (.pointer (some ⟨q, 0, none⟩)) → K (a.put (some 73) v) W2 := fun v W2 h1 h2 => hK v W2 h1 (fun d hd => by cases hd; exact h2)
            clear hl
            simp only [Array.getD_eq_getD_getElem?] at h72 h69
            go_simp
            exact hK _ W (Below.refl _ W) rfl
          · as_aux_lemma =>
            refine Seq.UpOb.guarded (d := 69) (by decide) (fun m W W2 h hb => stA.up h hb) (fun _ _ hb => RA.of_below hb) rfl rfl (fun a W hl => (hl 69 (by decide)).1) fun a W m hR hS hl K hK => ?_
            have h73 : a.tmps.getD 73 undef = (.pointer (some ⟨q, 0, none⟩)) := hl 73 (by decide)
            have h69 : a.tmps.getD 69 undef = (.bool false) := (hl 69 (by decide)).1
            have t69 : Two W g lb mb q sb lc wb s2 := (hl 69 (by decide)).2
            replace hK : ∀ v W2, Below W.heap.size W W2 → v = (.pointer (some ⟨q, 3, none⟩)) → K (a.put (some 74) v) W2 := fun v W2 h1 h2 => hK v W2 h1 (fun d hd => by cases hd; exact h2)
            clear hl
            simp only [Array.getD_eq_getD_getElem?] at h73 h69
            go_simp
            exact hK _ W (Below.refl _ W) rfl
          · as_aux_lemma =>
            refine Seq.UpOb.guarded (d := 69) (by decide) (fun m W W2 h hb => stA.up h hb) (fun _ _ hb => RA.of_below hb) rfl rfl (fun a W hl => (hl 69 (by decide)).1) fun a W m hR hS hl K hK => ?_
            have h74 : a.tmps.getD 74 undef = (.pointer (some ⟨q, 3, none⟩)) := hl 74 (by decide)
            have h69 : a.tmps.getD 69 undef = (.bool false) := (hl 69 (by decide)).1
            have t69 : Two W g lb mb q sb lc wb s2 := (hl 69 (by decide)).2
            replace hK : ∀ v W2, Below W.heap.size W W2 → v = (.int .i64 s2.done) → K (a.put (some 75) v) W2 := fun v W2 h1 h2 => hK v W2 h1 (fun d hd => by cases hd; exact h2)
            clear hl
            have hc : W.cell? ⟨q, 3, none⟩ = some (.int .i64 s2.done) := t69.doc.blk.cell 3
            simp only [Array.getD_eq_getD_getElem?] at h74 h69
            go_simp
            exact hK _ W (Below.refl _ W) rfl
          · as_aux_lemma =>
            refine Seq.UpOb.guarded (d := 69) (by decide) (fun m W W2 h hb => stA.up h hb) (fun _ _ hb => RA.of_below hb) rfl rfl (fun a W hl => (hl 69 (by decide)).1) fun a W m hR hS hl K hK => ?_
            have h71 : a.tmps.getD 71 undef = (.int .i64 s2.done) := hl 71 (by decide)
            have h75 : a.tmps.getD 75 undef = (.int .i64 s2.done) := hl 75 (by decide)
            have h69 : a.tmps.getD 69 undef = (.bool false) := (hl 69 (by decide)).1
            have t69 : Two W g lb mb q sb lc wb s2 := (hl 69 (by decide)).2
            replace hK : ∀ v W2, Below W.heap.size W W2 → v = (.bool false) → K (a.put (some 76) v) W2 := fun v W2 h1 h2 => hK v W2 h1 (fun d hd => by cases hd; exact h2)
            clear hl
            simp only [Array.getD_eq_getD_getElem?] at h71 h75 h69
            go_simp
            exact hK _ W (Below.refl _ W) (by simp)
          · as_aux_lemma =>
            refine Seq.UpOb.plain (by decide) (fun m W W2 h hb => stA.up h hb) (fun _ _ hb => RA.of_below hb) rfl fun a W m hR hS hl K hK => ?_
            have h69 : a.tmps.getD 69 undef = (.bool false) := (hl 69 (by decide)).1
            have t69 : Two W g lb mb q sb lc wb s2 := (hl 69 (by decide)).2
            have h76 : a.tmps.getD 76 undef = (.bool false) := hl 76 (by decide)
            replace hK : ∀ v W2, Below W.heap.size W W2 → v = (.bool false) → K (a.put (some 77) v) W2 := fun v W2 h1 h2 => hK v W2 h1 (fun d hd => by cases hd; exact h2)
            clear hl
            simp only [Array.getD_eq_getD_getElem?] at h69 h76
            go_simp
            exact hK _ W (Below.refl _ W) rfl
        · intro a W3 hd3 hsz hR3 hl hS3
          have hl' : ∀ t, Seq.SpOf _ _ t (a.tmps.getD t undef) W3 := hl
          have htm := Seq.tmps_eq (hsz.trans rfl) [55, 56, 57, 58, 59, 60, 61, 62, 63, 64, 65, 66, 67, 68, 69, 70, 71, 72, 73, 74, 75, 76, 77] [(55, .pointer (some ⟨g, 0, none⟩)), (56, .pointer (some ⟨q, 0, none⟩)), (57, .agg #[.int .i64 x, .int .i64 k, U b, .slice A n c]), (58, .bool true), (59, .bool false), (60, .bool false), (61, .pointer (some ⟨g, 0, none⟩)), (62, .bool s2.down), (63, .pointer (some ⟨q, 0, none⟩)), (64, .pointer (some ⟨q, 0, none⟩)), (65, .pointer (some ⟨q, 5, none⟩)), (66, .bool s2.down), (67, .bool false), (68, .bool false), (69, .bool false), (70, .pointer (some ⟨g, 0, none⟩)), (71, .int .i64 s2.done), (72, .pointer (some ⟨q, 0, none⟩)), (73, .pointer (some ⟨q, 0, none⟩)), (74, .pointer (some ⟨q, 3, none⟩)), (75, .int .i64 s2.done), (76, .bool false), (77, .bool false)] rfl rfl (by decide) 82 rfl (by decide) hl' (by
            intro p hp
            simp only [List.mem_cons, List.not_mem_nil, or_false] at hp
            rcases hp with rfl | rfl | rfl | rfl | rfl | rfl | rfl | rfl | rfl | rfl | rfl | rfl | rfl | rfl | rfl | rfl | rfl | rfl | rfl | rfl | rfl | rfl | rfl
            · exact hl 55
            · exact hl 56
            · exact hl 57
            · exact (hl 58).1
            · exact (hl 59).1
            · exact (hl 60).1
            · exact hl 61
            · exact hl 62
            · exact hl 63
            · exact hl 64
            · exact hl 65
            · exact hl 66
            · exact hl 67
            · exact (hl 68).1
            · exact (hl 69).1
            · exact hl 70
            · exact hl 71
            · exact hl 72
            · exact hl 73
            · exact hl 74
            · exact hl 75
            · exact hl 76
            · exact hl 77
            )
          clear hl hl' hsz
          have hact : a = ⟨_, []⟩ := Seq.act_eq hd3 htm
          clear htm hd3
          rw [hact]
          clear hact
          simp only [List.foldl, List.setIfInBounds_toArray, List.set]
          have hT3 : Two W3 g lb mb q sb lc wb s2 := hS3
          go_wp2
          go_roundw
          case rel => exact ⟨j + 1, by omega, by go_num, Fx.below HB9'.out hR3.1 HSEV.out HB9'.out.size, s2, hT3, by have := HD2.out; omega⟩
          case measure => simp [intOf]; omega
    · obtain rfl : n1 = j := by omega
      go_wp2_with (go_at_call 13; refine (same_walk wr g lb mb q sb lc wb s HT.out).mono ?_; rintro e w5 ⟨rfl, hb5⟩; have HB5 := Lib.hid (HB.out.trans (hb5.mono HB.out.size)); clear hb5)
      go_ret
      exact ⟨rfl, HB5.out⟩
end Go.Proofs.Ytcbfnbmkogeehaa
