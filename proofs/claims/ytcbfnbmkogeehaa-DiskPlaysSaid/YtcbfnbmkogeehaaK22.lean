/- A Crash that keeps some of what waits. -/
import Derived.Test.YtcbfnbmkogeehaaK21
namespace Go.Proofs.Ytcbfnbmkogeehaa
open Go.RowKit

/-- Of these sectors those that are kept. -/
def stay : List Nat → List Bool → List Nat
  | i :: l, b :: r => if b then i :: stay l r else stay l r
  | _, _ => []
theorem stay_none : ∀ l : List Nat, stay l [] = []
  | [] => rfl
  | _ :: _ => rfl
theorem stay_take : ∀ (l : List Nat) (kb : List Bool) (k : Nat) (h : k < l.length), stay (l.take (k + 1)) kb = stay (l.take k) kb ++ (if kb.getD k false then [l[k]] else [])
  | i :: l, [], k, h => by rw [stay_none, stay_none]; simp
  | i :: l, b :: r, 0, h => by cases b <;> simp [stay]
  | i :: l, b :: r, k + 1, h => by
    have ih := stay_take l r k (by simpa using h)
    simp only [List.take_succ_cons, stay]
    cases b
    · simpa using ih
    · simpa using ih
theorem stay_length : ∀ (l : List Nat) (kb : List Bool), (stay l kb).length ≤ l.length
  | [], kb => by cases kb <;> exact Nat.le_refl _
  | i :: l, [] => Nat.zero_le _
  | i :: l, b :: r => by
    have ih := stay_length l r
    cases b
    · simp [stay]; omega
    · simp [stay]; omega
theorem stay_mem : ∀ (l : List Nat) (kb : List Bool) (i : Nat), i ∈ stay l kb → i ∈ l
  | [], kb, i, h => by cases kb <;> cases h
  | j :: l, [], i, h => by cases h
  | j :: l, b :: r, i, h => by
    cases b
    · exact List.mem_cons_of_mem _ (stay_mem l r i (by simpa [stay] using h))
    · rcases List.mem_cons.1 (show i ∈ j :: stay l r by simpa [stay] using h) with rfl | h
      · exact List.mem_cons_self
      · exact List.mem_cons_of_mem _ (stay_mem l r i h)
def iv (i : Nat) : Value := .int .i64 (i : Int)
theorem Below.grown {B : Nat} {a w w' : World} (h : Below B a w) {row : Option Nat} (hg : w.grownBy w' row) (hr : ∀ k, row = some k → B ≤ k) (hB : B ≤ w.heap.size) : Below B a w' :=
  h.trans ⟨hg.os, hg.tape, hg.output, hg.size, fun k hk => hg.block k (by omega) (fun e => by have := hr k e.symm; omega)⟩
theorem cells_of_row {w : World} {b : Nat} {t : TypeId} {l : List Value} (h : Blk w b t l.toArray) : ∀ j u, l[j]? = some u → w.cell? ((⟨b, 0, none⟩ : Addr).add j) = some u := by
  intro j u hu
  rw [show (⟨b, 0, none⟩ : Addr).add j = ⟨b, j, none⟩ from by unfold Addr.add; split <;> simp_all, h.cell]
  simpa using hu

set_option maxRecDepth 100000 in
set_option maxHeartbeats 2000000 in
theorem crash_any (w : World) (g lb mb : Nat) (s : Dk) (D : DataW Value) (h : Rep w g lb mb s D) (A2 : Option Addr) (n2 c2 : Nat) (kb : List Bool) (hn2 : n2 = kb.length)
    (hk2 : 0 < n2 → ∃ b o, A2 = some ⟨b, o, none⟩ ∧ b < w.heap.size ∧ ∀ i (h : i < kb.length), w.cell? ⟨b, o + i, none⟩ = some (.bool kb[i])) :
    Calls Try.prog 18 #[.pointer (some ⟨g, 0, none⟩), .slice A2 n2 c2] w fun e w' => e = .returned (.tuple #[]) ∧ Fr g lb mb w w' ∧
      ∃ l : List Nat, (∀ i, i ∈ l ↔ s.waits[i]? = some true) ∧ l.Pairwise (· < ·) ∧ Rep w' g lb mb (s.settled (stay l kb)).restored (.map []) := by
  have hw := waits_rising w g lb mb s D h
  have HW := Lib.hid hw
  have H := Lib.hid h
  have HN2 := Lib.hid hn2
  have HK2 := Lib.hid hk2
  have HAP := Lib.hid (show g < w.heap.size ∧ lb < w.heap.size ∧ mb < w.heap.size from ⟨h.blk.lt, h.lst.lt, h.own.lt⟩)
  clear hw h hn2 hk2
  go_enter Try.func18, Try.ntmps18
  go_wp2_with (go_at_call 33; refine HW.out.mono ?_; rintro e w1 ⟨v, rfl, ⟨A, c, l, rfl, hl, hm, hso, hp⟩, hb1⟩; have HP := Lib.hid hp; have HR1 := Lib.hid (H.out.up hb1); have HB1 := Lib.hid hb1; have HL := Lib.hid hl; have HM := Lib.hid hm; have HSO := Lib.hid hso; clear hp hm hb1 hl hso)
  go_loopw [4, 14] (fun v i wr => ∃ k : Nat, k ≤ l.length ∧ i = .int .i64 k ∧ wr.ownsRow w1.heap.size 3 1 v (stay (l.take k) kb).length ((stay (l.take k) kb).map iv) ∧ Below w1.heap.size w1 wr) (fun _ i _ => l.length - (intOf i).toNat)
  case atStart => exact ⟨0, Nat.zero_le _, rfl, by rw [List.take_zero, show stay [] kb = [] by cases kb <;> rfl]; exact World.ownsRow_nil _ _ _ _, Below.refl _ _⟩
  case round =>
    obtain ⟨k, hk, rfl, hown, hb⟩ := hrel
    have HO := Lib.hid hown
    have HB := Lib.hid hb
    have hl9 := HL.out
    clear hown hb
    by_cases hlt : k < l.length
    · obtain ⟨sb, rfl, _, _, _, hsl, hc⟩ := HP.out (by omega)
      have c0 : wr.cell? ⟨sb, k, none⟩ = some (iv l[k]) := by rw [HB.out.cell hsl]; exact hc k hlt
      have hst := stay_take l kb k hlt
      have hlen : (stay (l.take k) kb).length ≤ k := by have := stay_length (l.take k) kb; rw [List.length_take] at this; omega
      generalize l[k] = x at *
      clear hc hsl
      by_cases hkn : k < n2
      · have hkb : k < kb.length := by rw [← HN2.out]; exact hkn
        obtain ⟨b2, o2, rfl, hbl2, hc2⟩ := HK2.out (by omega)
        have c2' : wr.cell? ⟨b2, o2 + k, none⟩ = some (.bool kb[k]) := by
          rw [HB.out.cell (Nat.lt_of_lt_of_le hbl2 HB1.out.size), HB1.out.cell hbl2]; exact hc2 k hkb
        have hgd : kb.getD k false = kb[k] := by simp [List.getD, hkb]
        rw [hgd] at hst
        clear hbl2 hc2 hgd
        generalize kb[k] = q at *
        cases q
        · have HST := Lib.hid hst
          clear hst hkb
          go_wp2
          go_roundw
          case rel => exact ⟨k + 1, by omega, by go_num, by rw [HST.out]; simpa using HO.out, HB.out⟩
          case measure => simp [intOf]; omega
        · have HST := Lib.hid hst
          have rI : ∀ i, (iv i).cells = #[iv i] := fun _ => rfl
          unfold Value.cells at rI
          clear hst hkb
          go_wp2_with (refine wpList_append_own _ rfl (.tmp 29) (.tmp 31) 47 rfl w1.heap.size 3 _ (.int .i64 0) 1 8 Try.underlying47 rfl rfl rfl rfl rfl (by decide) u4 (stay (l.take k) kb).length _ rfl (HO.out.alloc _) ⟨wr.heap.size, 0, none⟩ 1 1 [iv x] rfl rfl (cells_of_row (Blk.fresh wr 3 _)) (by simp; rfl) (by unfold maxLen; omega) (by omega) (by have := HB.out.size; simp; omega) ?_; intro v' w4 hown4 hgrow4 hiff4; have HO4 := Lib.hid hown4; have HB4 := Lib.hid (Below.grown (HB.out.alloc HB.out.size _) hgrow4 (fun j hj => (HO.out.lt j hj).1) (by have := HB.out.size; simp; omega)); clear hown4 hgrow4 hiff4)
          go_roundw
          case rel => exact ⟨k + 1, by omega, by go_num, by rw [HST.out]; simpa using HO4.out, HB4.out⟩
          case measure => simp [intOf]; omega
      · have hgd : kb.getD k false = false := by
          have := HN2.out
          simp [List.getD, show ¬ k < kb.length by omega]
        rw [hgd] at hst
        have HST := Lib.hid hst
        have hkn' : ¬ ((k : Int) < (n2 : Int)) := by omega
        clear hst hgd
        go_wp2
        go_roundw
        case rel => exact ⟨k + 1, by omega, by go_num, by rw [HST.out]; simpa using HO.out, HB.out⟩
        case measure => simp [intOf]; omega
    · obtain rfl : k = l.length := by omega
      have ho := HO.out
      rw [List.take_length] at ho
      have HO' := Lib.hid ho
      have hsl := stay_length l kb
      obtain ⟨S, hS⟩ : ∃ S, S = stay l kb := ⟨_, rfl⟩
      rw [← hS] at ho hsl
      have hws : ∀ i ∈ S, s.waits[i]? = some true := fun i hi => (HM.out i).1 (stay_mem l kb i (by rw [← hS]; exact hi))
      have hset : Calls Try.prog 32 #[.pointer (some ⟨g, 3, none⟩), u4] wr fun e w' => e = .returned (.tuple #[]) ∧ Fr g lb mb wr w' ∧ Rep w' g lb mb (s.settled S) (.map []) := by
        have hap := HAP.out
        have hz1 := HB1.out.size
        rcases ho.2 with ⟨rfl, h0⟩ | ⟨sb, cap, cur, rfl, hbase, hgc, hcap, _, hsz2, htake⟩
        · have hS0 : S = [] := List.eq_nil_of_length_eq_zero h0
          subst hS0
          exact settle_none wr g lb mb s D (HR1.out.kept HB.out (by omega) (by omega) (by omega))
        · have hblk : Blk wr sb 3 cur := hgc
          refine (settle_walk wr g lb mb s D S _ sb S.length cap (HR1.out.kept HB.out (by omega) (by omega) (by omega)) rfl (fun _ => rfl) (fun j hj => ?_) (by omega) (fun _ => hblk.lt) hws (by omega)).mono ?_
          · rw [hblk.cell]
            have h1 : (cur.toList.take (S.length * 1))[j]? = (S.map iv)[j]? := by rw [htake]
            rw [List.getElem?_take_of_lt (by omega)] at h1
            simpa [hj, iv] using h1
          · rintro e w' ⟨rfl, _, w2, hx1, ht1, hr⟩
            exact ⟨rfl, (Fr.of_exl hx1).trans (Fr.of_exm (turned_ex ht1)), hr⟩
      rw [hS] at hset
      have HSET := Lib.hid hset
      clear ho hset hws hS hsl HO' HO
      go_wp2_with (first
        | (go_at_call 32; refine HSET.out.mono ?_; rintro e w2 ⟨rfl, hf2, hr2⟩; have HF2 := Lib.hid hf2; have HR2 := Lib.hid hr2; clear hf2 hr2)
        | (go_at_call 35; refine (restore_walk _ g lb mb (s.settled (stay l kb)) HR2.out.blk).mono ?_; rintro e w3 ⟨rfl, hx3, _, hb3⟩; have HF3 : Hid (Fr g lb mb w2 w3) := Fr.of_ex hx3; have HR3 := Lib.hid (HR2.out.restored hx3 hb3); clear hx3 hb3))
      go_end0
      exact ⟨rfl, (((Fr.of_below HB1.out).trans (Fr.of_below HB.out)).trans HF2.out).trans HF3.out, l, HM.out, HSO.out, HR3.out⟩
end Go.Proofs.Ytcbfnbmkogeehaa
