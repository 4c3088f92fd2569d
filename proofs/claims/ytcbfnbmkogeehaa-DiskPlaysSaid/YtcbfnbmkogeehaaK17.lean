/- Crash without anything kept, of any disk. -/
import Derived.Test.YtcbfnbmkogeehaaK16
namespace Go.Proofs.Ytcbfnbmkogeehaa
open Go.RowKit

theorem Rep.restored {w w' : World} {g lb mb : Nat} {s : Dk} {D : DataW Value} (h : Rep w g lb mb s D) (hx : Ex g w w') (hb : Blk w' g 62 (Cs s.restored lb mb)) : Rep w' g lb mb s.restored D := by
  refine { ok := { h.ok with f0 := by show (-9223372036854775808 : Int) ≤ -1; decide, f1 := by show (-1 : Int) ≤ 9223372036854775807; decide }, blk := hb, lst := hx.blk h.lst h.lg, own := ?_, cnt := h.cnt, lg := h.lg, mg := h.mg, ml := h.ml, has := h.has, val := h.val }
  obtain ⟨es, clock, h1, r⟩ := h.own
  exact ⟨es, clock, (hx.block mb h.own.lt h.mg).trans h1, r⟩
theorem settle_none (w : World) (g lb mb : Nat) (s : Dk) (D : DataW Value) (h : Rep w g lb mb s D) :
    Calls Try.prog 32 #[.pointer (some ⟨g, 3, none⟩), .slice none 0 0] w fun e w' => e = .returned (.tuple #[]) ∧ Fr g lb mb w w' ∧ Rep w' g lb mb (s.settled []) (.map []) := by
  refine (settle_walk w g lb mb s D [] none (lb + 1) 0 0 h rfl (fun h => absurd h (by decide)) (fun j hj => absurd hj (by simp)) (by omega) (fun h => absurd h (by decide)) (fun i hi => by cases hi) (by decide)).mono ?_
  rintro e w' ⟨rfl, _, w1, hx1, ht1, hr⟩
  exact ⟨rfl, (Fr.of_exl hx1).trans (Fr.of_exm (turned_ex ht1)), hr⟩

set_option maxRecDepth 100000 in
set_option maxHeartbeats 2000000 in
theorem crash_walk (w : World) (g lb mb : Nat) (s : Dk) (D : DataW Value) (h : Rep w g lb mb s D) :
    Calls Try.prog 18 #[.pointer (some ⟨g, 0, none⟩), .slice none 0 0] w fun e w' => e = .returned (.tuple #[]) ∧ Fr g lb mb w w' ∧ Rep w' g lb mb (s.settled []).restored (.map []) := by
  have hw := waits_walk w g lb mb s D h
  have HW := Lib.hid hw
  have H := Lib.hid h
  clear hw h
  go_enter Try.func18, Try.ntmps18
  go_wp2_with (go_at_call 33; refine HW.out.mono ?_; rintro e w1 ⟨v, rfl, ⟨A, c, l, rfl, hl, hm, hp⟩, hb1⟩; have HP := Lib.hid hp; have HR1 := Lib.hid (H.out.up hb1); have HB1 := Lib.hid hb1; have HL := Lib.hid hl; clear hp hm hb1 hl)
  go_loopw [4, 14] (fun v i wr => v = .slice none 0 0 ∧ wr = w1 ∧ ∃ k : Nat, k ≤ l.length ∧ i = .int .i64 k) (fun _ i _ => l.length - (intOf i).toNat)
  case atStart => exact ⟨rfl, rfl, 0, Nat.zero_le _, rfl⟩
  case round =>
    obtain ⟨rfl, rfl, k, hk, rfl⟩ := hrel
    have hl9 := HL.out
    by_cases hlt : k < l.length
    · obtain ⟨sb, rfl, _, _, _, _, hc⟩ := HP.out (by omega)
      have c0 := hc k hlt
      have hk0 : ¬ ((k : Int) < 0) := by omega
      clear hc
      go_wp2
      go_roundw
      case rel => exact ⟨rfl, trivial, k + 1, by omega, by go_num⟩
      case measure => simp [intOf]; omega
    · obtain rfl : k = l.length := by omega
      go_wp2_with (first
        | (go_at_call 32; refine (settle_none _ g lb mb s D HR1.out).mono ?_; rintro e w2 ⟨rfl, hf2, hr2⟩; have HF2 := Lib.hid hf2; have HR2 := Lib.hid hr2; clear hf2 hr2)
        | (go_at_call 35; refine (restore_walk _ g lb mb (s.settled []) HR2.out.blk).mono ?_; rintro e w3 ⟨rfl, hx3, _, hb3⟩; have HF3 : Hid (Fr g lb mb w2 w3) := Fr.of_ex hx3; have HR3 := Lib.hid (HR2.out.restored hx3 hb3); clear hx3 hb3))
      go_end0
      exact ⟨rfl, ((Fr.of_below HB1.out).trans HF2.out).trans HF3.out, HR3.out⟩
end Go.Proofs.Ytcbfnbmkogeehaa
