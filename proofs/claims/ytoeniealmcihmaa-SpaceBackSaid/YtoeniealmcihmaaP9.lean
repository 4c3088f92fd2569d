/- Claim, Give. -/
import Derived.Test.YtoeniealmcihmaaP8
namespace Go.Proofs.Ytoeniealmcihmaa
open Go.RowKit

/-- A row of runs, as it lies. -/
def RunsAt (w : World) (P : Option Addr) (n : Nat) (l : List (Int × Int)) : Prop :=
  n = l.length ∧ (∀ r ∈ l, r.2 ≤ 9223372036854775807) ∧ (0 < n → ∃ b o, P = some ⟨b, o, none⟩ ∧ b < w.heap.size ∧ ∀ i (h : i < l.length), w.cell? ⟨b, o + i * 2, none⟩ = some (.int .i64 l[i].1) ∧ w.cell? ⟨b, o + i * 2 + 1, none⟩ = some (.int .i64 l[i].2))

/-- What Claim and Give answer and leave. -/
def TurnsPost (g lb : Nat) (fr : Int) (p : Option Addr) (mr : List Value) (f : List Bool) (w : World) (r : Int × List Bool) (e : Ending) (w' : World) : Prop :=
  e = .returned (.int .i64 r.1) ∧ Ex g w w' ∧ ((r.1 ≠ 0 ∧ Spc w' g lb fr p mr f) ∨ (r.1 = 0 ∧ ∃ lb' p' mr', Spc w' g lb' fr p' mr' r.2 ∧ (0 < f.length → w.heap.size ≤ lb')))

set_option maxHeartbeats 2000000 in
theorem turn_walk (w : World) (g lb : Nat) (fr : Int) (p : Option Addr) (mr : List Value) (f : List Bool) (P : Option Addr) (n c : Nat) (l : List (Int × Int)) (b : Bool) (hn : n ≤ 1000000) (h : Spc w g lb fr p mr f) (hl : RunsAt w P n l) :
    Calls Try.prog 17 #[.pointer (some ⟨g, 0, none⟩), .slice P n c, .bool b] w (TurnsPost g lb fr p mr f w (truns fr b l f)) := by
  have HS := Lib.hid h
  have HL := Lib.hid hl
  have hcp := copy_walk w g lb fr p mr f h
  have hgl := h.blk.lt
  clear h hl
  go_enter Try.func17, Try.ntmps17
  go_wp2_with (go_at_call 8; refine hcp.mono ?_; rintro e w1 ⟨g', lb', p', mr', rfl, hs, hg', hl', hb1⟩; have HS1 := Lib.hid hs; have HB1 := Lib.hid hb1; have HL' := Lib.hid hl'; clear hs hb1 hl')
  go_loopw [17] (fun i wr => ∃ (k : Nat) (f' : List Bool), i = .int .i64 k ∧ k ≤ n ∧ f'.length = f.length ∧ Spc wr g' lb' fr p' mr' f' ∧ truns fr b (l.take k) f = (0, f') ∧ Exm f.length lb' w1 wr) (fun i _ => n - (intOf i).toNat)
  case atStart => exact ⟨0, f, rfl, by omega, rfl, HS1.out, rfl, Exm.refl _ _ _⟩
  case round =>
    obtain ⟨k, f', rfl, hk, hfl, hs, ht, hx⟩ := hrel
    have HSr := Lib.hid hs
    have HT := Lib.hid ht
    have HX := Lib.hid hx
    have HF := Lib.hid hfl
    have hrow := hs.cell1
    have hrow0 := hs.cell0
    have hfz := hs.blk.thaw 1
    have hg1 : wr.cell? ⟨g, 1, none⟩ = some (.slice p f.length (f.length + mr.length)) := by
      rw [hx.cell (by have := HB1.out.size; omega) (by rintro ⟨h0, e⟩; have := HL'.out h0; omega), HB1.out.cell hgl]
      exact HS.out.cell1
    have hgf : wr.frozen? ⟨g, 1, none⟩ = false := by
      rw [World.frozen?_of_block (w := w) ((hx.block g (by have := HB1.out.size; omega) (by rintro ⟨h0, e⟩; have := HL'.out h0; omega)).trans (HB1.out.block g hgl))]
      exact HS.out.blk.thaw 1
    clear hs ht hx hfl
    by_cases hlt : k < n
    · obtain ⟨bb, o, rfl, hbb, hc⟩ := HL.out.2.2 (by omega)
      have hkl : k < l.length := by have := HL.out.1; omega
      have hcell : ∀ j, wr.cell? ⟨bb, j, none⟩ = w.cell? ⟨bb, j, none⟩ := fun j => by
        rw [HX.out.cell (by have := HB1.out.size; omega) (by rintro ⟨h0, e⟩; have := HL'.out h0; omega), HB1.out.cell hbb]
      have hA := (hcell (o + k * 2)).trans (hc k hkl).1
      have hL := (hcell (o + k * 2 + 1)).trans (hc k hkl).2
      have hmem := HL.out.2.1 l[k] (List.getElem_mem hkl)
      have htk : l.take (k + 1) = l.take k ++ [l[k]] := List.take_succ_eq_append_getElem hkl
      have hdr : l = l.take k ++ l[k] :: l.drop (k + 1) := by rw [← List.drop_eq_getElem_cons hkl, List.take_append_drop]
      have HTK := Lib.hid htk
      have HDR := Lib.hid hdr
      generalize l[k] = r at *
      obtain ⟨A, L⟩ := r
      simp only at hA hL hmem
      have htr := turnRun_walk (wr.alloc (.cells #[.int .i64 A, .int .i64 L] 33)) g' lb' fr p' mr' f' A L b hmem (HSr.out.more _)
      have HTR := Lib.hid htr
      clear htr hc hcell htk hdr
      by_cases h0 : (trun fr b (A, L) f').1 = 0
      · go_wp2_with (go_at_call 22; refine HTR.out.mono ?_; rintro e w2 ⟨he, hsp, hex⟩; rw [h0] at he; subst he; have HSP := Lib.hid hsp; have HEX := Lib.hid hex; clear hsp hex)
        go_roundw
        case rel =>
          refine ⟨k + 1, (trun fr b (A, L) f').2, by go_num, by omega, by rw [trun_length]; exact HF.out, HSP.out, ?_, ?_⟩
          · rw [HTK.out, truns_snoc _ _ _ _ _ (by rw [HT.out]), HT.out]
            exact Prod.ext h0 rfl
          · have := HEX.out
            rw [HF.out] at this
            exact HX.out.trans ((Exm.alloc _ _ _ _).trans this)
        case measure => simp [intOf]; omega
      · have hne : ((trun fr b (A, L) f').1 != 0) = true := by simpa using h0
        have hr : truns fr b l f = trun fr b (A, L) f' := by
          rw [HDR.out, truns_stop _ _ _ _ _ _ (by rw [HT.out]) (by rw [HT.out]; exact h0), HT.out]
        have HR := Lib.hid hr
        have H0 := Lib.hid h0
        clear hr h0
        generalize trun fr b (A, L) f' = tr at *
        go_wp2_with (go_at_call 22; refine HTR.out.mono ?_; rintro e w2 ⟨rfl, hsp, hex⟩; have HSP := Lib.hid hsp; have HEX := Lib.hid hex; clear hsp hex)
        go_ret
        have hx1 : Exm f.length lb' w1 w2 := by
          have := HEX.out
          rw [HF.out] at this
          exact HX.out.trans ((Exm.alloc _ _ _ _).trans this)
        have hb2 : Below w.heap.size w w2 := Exm.below HB1.out hx1 HL'.out HB1.out.size
        rw [HR.out]
        exact ⟨rfl, Ex.of_below hb2, .inl ⟨H0.out, HS.out.up hb2⟩⟩
    · obtain rfl : k = n := by omega
      have hr : (0, f') = truns fr b l f := by
        have := HT.out
        rw [List.take_of_length_le (by have := HL.out.1; omega)] at this
        exact this.symm
      have HR := Lib.hid hr
      clear hr
      go_wp2
      go_ret
      rw [← HR.out]
      have hb2 : Below w.heap.size w wr := Exm.below HB1.out HX.out HL'.out HB1.out.size
      refine ⟨rfl, (Ex.of_below hb2).trans (Ex.setCell _ _ _ _), .inr ⟨rfl, lb', p', mr', ?_, HL'.out⟩⟩
      have hbg := (HS.out.blk.kept hb2 hgl).put 1 (.slice p' f'.length (f'.length + mr'.length))
      exact { blk := hbg, nil := HSr.out.nil, pos := fun h0 => ⟨(HSr.out.pos h0).1, (HSr.out.pos h0).2.off (by have h1 : 0 < f'.length := h0; have := HF.out; have := HL'.out (by omega); simp only; omega) _⟩,
              ne := fun h0 => by have h1 : 0 < f'.length := h0; have := HF.out; have := HL'.out (by omega); omega,
              cap := HSr.out.cap, hi := HSr.out.hi, lo := HSr.out.lo, end' := HSr.out.end' }
theorem turn_nil (w : World) (P : Option Addr) (n c : Nat) (b : Bool) : Calls Try.prog 17 #[.pointer none, .slice P n c, .bool b] w fun e w' => e = .returned (.int .i64 1) ∧ w' = w := by
  go_enter Try.func17, Try.ntmps17
  go_wp2
  go_ret
  exact ⟨rfl, rfl⟩
theorem claim_walk (w : World) (g lb : Nat) (fr : Int) (p : Option Addr) (mr : List Value) (f : List Bool) (P : Option Addr) (n c : Nat) (l : List (Int × Int)) (hn : n ≤ 1000000) (h : Spc w g lb fr p mr f) (hl : RunsAt w P n l) :
    Calls Try.prog 13 #[.pointer (some ⟨g, 0, none⟩), .slice P n c] w (TurnsPost g lb fr p mr f w (truns fr false l f)) := by
  have ht := turn_walk w g lb fr p mr f P n c l false hn h hl
  clear h hl
  go_enter Try.func13, Try.ntmps13
  go_wp2_with (go_at_call 17; refine ht.mono ?_; rintro e w' ⟨rfl, hx, hs⟩; have HX := Lib.hid hx; have HS := Lib.hid hs; clear hx hs)
  go_ret
  exact ⟨rfl, HX.out, HS.out⟩
theorem give_walk (w : World) (g lb : Nat) (fr : Int) (p : Option Addr) (mr : List Value) (f : List Bool) (P : Option Addr) (n c : Nat) (l : List (Int × Int)) (hn : n ≤ 1000000) (h : Spc w g lb fr p mr f) (hl : RunsAt w P n l) :
    Calls Try.prog 11 #[.pointer (some ⟨g, 0, none⟩), .slice P n c] w (TurnsPost g lb fr p mr f w (truns fr true l f)) := by
  have ht := turn_walk w g lb fr p mr f P n c l true hn h hl
  clear h hl
  go_enter Try.func11, Try.ntmps11
  go_wp2_with (go_at_call 17; refine ht.mono ?_; rintro e w' ⟨rfl, hx, hs⟩; have HX := Lib.hid hx; have HS := Lib.hid hs; clear hx hs)
  go_ret
  exact ⟨rfl, HX.out, HS.out⟩
theorem claim_nil (w : World) (P : Option Addr) (n c : Nat) : Calls Try.prog 13 #[.pointer none, .slice P n c] w fun e w' => e = .returned (.int .i64 1) ∧ w' = w := by
  go_enter Try.func13, Try.ntmps13
  go_wp2_with (go_at_call 17; refine (turn_nil _ _ _ _ _).mono ?_; rintro e w' ⟨rfl, rfl⟩)
  go_ret
  exact ⟨rfl, rfl⟩
theorem give_nil (w : World) (P : Option Addr) (n c : Nat) : Calls Try.prog 11 #[.pointer none, .slice P n c] w fun e w' => e = .returned (.int .i64 1) ∧ w' = w := by
  go_enter Try.func11, Try.ntmps11
  go_wp2_with (go_at_call 17; refine (turn_nil _ _ _ _ _).mono ?_; rintro e w' ⟨rfl, rfl⟩)
  go_ret
  exact ⟨rfl, rfl⟩
end Go.Proofs.Ytoeniealmcihmaa
