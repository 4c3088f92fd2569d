/- Barrier, of any disk. -/
import Derived.Test.YtcbfnbmkogeehaaK15
namespace Go.Proofs.Ytcbfnbmkogeehaa
open Go.RowKit Go.Proofs.Ytcbfnbmkogeehaa.Seq

def spIs {R : World → World → Prop} (v : Value) : Sp R := ⟨fun x _ => x = v, fun _ _ _ h _ => h⟩
def spW (g lb mb : Nat) (s : Dk) : Sp (Fr g lb mb) := ⟨fun x W => Wl g lb mb s x W, fun _ _ _ h hx => h.kept hx⟩
/-- The state in which all lasts. -/
def Dk.synced (s : Dk) : Dk := { s with last := s.shown, waits := List.replicate s.last.length false }
theorem fold_get (s : Dk) (i : Nat) : ∀ (l : List Nat) (r : List (List UInt8)), i < r.length → i < s.shown.length → (l.foldl (fun r i => r.set i (s.shown.getD i z512)) r)[i]? = if i ∈ l then s.shown[i]? else r[i]?
  | [], r, _, _ => by simp
  | j :: t, r, hi, hs => by
    rw [List.foldl_cons, fold_get s i t (r.set j _) (by simpa using hi) hs]
    by_cases ht : i ∈ t
    · rw [if_pos ht, if_pos (List.mem_cons_of_mem _ ht)]
    · rw [if_neg ht]
      by_cases he : j = i
      · subst he
        rw [if_pos List.mem_cons_self]
        simp [hi, List.getD, hs]
      · rw [if_neg (by simp [ht]; exact fun h => he h.symm)]
        simp [List.getElem?_set_ne he]
theorem settled_synced {s : Dk} (h : s.Ok) (l : List Nat) (hl : ∀ i, i ∈ l ↔ s.waits[i]? = some true) : s.settled l = s.synced := by
  have e : l.foldl (fun r i => r.set i (s.shown.getD i z512)) s.last = s.shown := by
    apply List.ext_getElem?
    intro i
    by_cases hi : i < s.last.length
    · rw [fold_get s i l s.last hi (by rw [h.sh]; exact hi)]
      by_cases hm : i ∈ l
      · rw [if_pos hm]
      · rw [if_neg hm]
        have hw : s.waits[i]? = some false := by
          have hwl : i < s.waits.length := by rw [h.wt]; exact hi
          have h1 : s.waits[i]? ≠ some true := fun e => hm ((hl i).2 e)
          rw [List.getElem?_eq_getElem hwl] at h1 ⊢
          cases hb : s.waits[i] with
          | false => rfl
          | true => rw [hb] at h1; exact absurd rfl h1
        exact (h.same i hw).symm
    · rw [List.getElem?_eq_none (by rw [settled_length]; omega), List.getElem?_eq_none (by rw [h.sh]; omega)]
  unfold Dk.settled Dk.synced
  rw [e]
def stB (g lb mb : Nat) (s : Dk) : Nat → World → Prop
  | 0, W => ∃ D, Rep W g lb mb s D
  | 1, W => ∃ D, Rep W g lb mb s D
  | _, W => ∃ D, Rep W g lb mb s.synced D
theorem stB.up {g lb mb m : Nat} {s : Dk} {W W' : World} (h : stB g lb mb s m W) (hb : Below W.heap.size W W') : stB g lb mb s m W' := by
  match m, h with
  | 0, h => obtain ⟨D, h⟩ := h; exact ⟨D, h.up hb⟩
  | 1, h => obtain ⟨D, h⟩ := h; exact ⟨D, h.up hb⟩
  | m + 2, h => obtain ⟨D, h⟩ := h; exact ⟨D, h.up hb⟩
theorem settle_any (w : World) (g lb mb : Nat) (s : Dk) (D : DataW Value) (l : List Nat) (A : Option Addr) (c : Nat) (h : Rep w g lb mb s D) (hn : l.length ≤ 1000000000) (hl : ∀ i, i ∈ l ↔ s.waits[i]? = some true)
    (hp : 0 < l.length → ∃ sb, A = some ⟨sb, 0, none⟩ ∧ sb ≠ g ∧ sb ≠ lb ∧ sb ≠ mb ∧ sb < w.heap.size ∧ ∀ j (h : j < l.length), w.cell? ⟨sb, j, none⟩ = some (.int .i64 (l[j] : Int))) :
    Calls Try.prog 32 #[.pointer (some ⟨g, 3, none⟩), .slice A l.length c] w fun e w' => e = .returned (.tuple #[]) ∧ Fr g lb mb w w' ∧ Rep w' g lb mb s.synced (.map []) := by
  have hs := settled_synced h.ok l hl
  by_cases h0 : 0 < l.length
  · obtain ⟨sb, rfl, h1, h2, h3, hlt, hc⟩ := hp h0
    refine (settle_walk w g lb mb s D l _ sb l.length c h rfl (fun _ => rfl) hc h2 (fun _ => hlt) (fun i hi => (hl i).1 hi) hn).mono ?_
    rintro e w' ⟨rfl, _, w1, hx1, ht1, hr⟩
    rw [hs] at hr
    exact ⟨rfl, (Fr.of_exl hx1).trans (Fr.of_exm (turned_ex ht1)), hr⟩
  · refine (settle_walk w g lb mb s D l A (lb + 1) l.length c h rfl (fun h => absurd h h0) (fun j hj => absurd hj (by omega)) (by omega) (fun h => absurd h h0) (fun i hi => (hl i).1 hi) hn).mono ?_
    rintro e w' ⟨rfl, _, w1, hx1, ht1, hr⟩
    rw [hs] at hr
    exact ⟨rfl, (Fr.of_exl hx1).trans (Fr.of_exm (turned_ex ht1)), hr⟩

set_option maxRecDepth 100000 in
set_option maxHeartbeats 2000000 in
theorem barrier_good (w : World) (g lb mb : Nat) (s : Dk) (D : DataW Value) (h : Rep w g lb mb s D) (hd : s.done + 1 < 1000000000) (hst : s.stop = false) :
    Calls Try.prog 15 #[.pointer (some ⟨g, 0, none⟩)] w fun e w' => e = .returned (.int .i64 0) ∧ Fr g lb mb w w' ∧ ∃ D', Rep w' g lb mb s.step.synced D' := by
  have hstep := step_walk w g lb mb s h.ok h.blk
  have he : s.stepE = 0 := by simp [Dk.stepE, hst]
  rw [he] at hstep
  have HSTEP := Lib.hid hstep
  have H := Lib.hid h
  clear hstep h he
  obtain ⟨s1, hs1⟩ : ∃ s1, s1 = s.step := ⟨_, rfl⟩
  rw [← hs1]
  go_enter Try.func15, Try.ntmps15
  go_wp2_with (go_at_call 31; refine HSTEP.out.mono ?_; rintro e w1 ⟨rfl, hx1, hs1', hb1⟩; have HR1 : Hid (Rep w1 g lb mb s1 D) := (by rw [hs1]; exact H.out.stepped hd hx1 hb1); have HF1 : Hid (Fr g lb mb w w1) := Fr.of_ex hx1; clear hx1 hs1' hb1)
  clear hs1
  refine wp_region_seq (by kernel_rfl) (R := Fr g lb mb) (Fr.refl g lb mb) (fun _ _ _ h k => h.trans k) (stB g lb mb s1) [6, 7] [[0], [13], [14], [0], [16], [17], [18], [15, 19]] [(13, spIs (.pointer (some ⟨g, 0, none⟩))), (14, spIs (.pointer (some ⟨g, 0, none⟩))), (15, spIs (.pointer (some ⟨g, 3, none⟩))), (16, spIs (.pointer (some ⟨g, 0, none⟩))), (17, spIs (.pointer (some ⟨g, 0, none⟩))), (18, spIs (.pointer (some ⟨g, 3, none⟩))), (19, spW g lb mb s1), (20, spIs (.tuple #[]))] 21 rfl (by kernel_rfl) (by kernel_rfl) (by kernel_rfl) (by kernel_rfl) ?_ ?_ ?_
  · exact ⟨D, HR1.out.drew⟩
  · refine ⟨?_, ?_, ?_, ?_, ?_, ?_, ?_, ?_, trivial⟩
    · as_aux_lemma =>
      refine Seq.UpOb.plain (by decide) (fun m W W' h hb => stB.up h hb) (fun _ _ hb => Fr.of_below hb) rfl fun a W m hR hS hl K hK => ?_
      have h0 : a.tmps.getD 0 undef = (.pointer (some ⟨g, 0, none⟩)) := hl 0 (by decide)
      replace hK : ∀ v W2, Below W.heap.size W W2 → v = (.pointer (some ⟨g, 0, none⟩)) → K (a.put (some 13) v) W2 := fun v W2 h1 h2 => hK v W2 h1 (fun d hd => by cases hd; exact h2)
      clear hl
      simp only [Array.getD_eq_getD_getElem?] at h0
      go_simp
      exact hK _ W (Below.refl _ W) rfl
    · as_aux_lemma =>
      refine Seq.UpOb.plain (by decide) (fun m W W' h hb => stB.up h hb) (fun _ _ hb => Fr.of_below hb) rfl fun a W m hR hS hl K hK => ?_
      have h13 : a.tmps.getD 13 undef = (.pointer (some ⟨g, 0, none⟩)) := hl 13 (by decide)
      replace hK : ∀ v W2, Below W.heap.size W W2 → v = (.pointer (some ⟨g, 0, none⟩)) → K (a.put (some 14) v) W2 := fun v W2 h1 h2 => hK v W2 h1 (fun d hd => by cases hd; exact h2)
      clear hl
      simp only [Array.getD_eq_getD_getElem?] at h13
      go_simp
      exact hK _ W (Below.refl _ W) rfl
    · as_aux_lemma =>
      refine Seq.UpOb.plain (by decide) (fun m W W' h hb => stB.up h hb) (fun _ _ hb => Fr.of_below hb) rfl fun a W m hR hS hl K hK => ?_
      have h14 : a.tmps.getD 14 undef = (.pointer (some ⟨g, 0, none⟩)) := hl 14 (by decide)
      replace hK : ∀ v W2, Below W.heap.size W W2 → v = (.pointer (some ⟨g, 3, none⟩)) → K (a.put (some 15) v) W2 := fun v W2 h1 h2 => hK v W2 h1 (fun d hd => by cases hd; exact h2)
      clear hl
      simp only [Array.getD_eq_getD_getElem?] at h14
      go_simp
      exact hK _ W (Below.refl _ W) rfl
    · as_aux_lemma =>
      refine Seq.UpOb.plain (by decide) (fun m W W' h hb => stB.up h hb) (fun _ _ hb => Fr.of_below hb) rfl fun a W m hR hS hl K hK => ?_
      have h0 : a.tmps.getD 0 undef = (.pointer (some ⟨g, 0, none⟩)) := hl 0 (by decide)
      replace hK : ∀ v W2, Below W.heap.size W W2 → v = (.pointer (some ⟨g, 0, none⟩)) → K (a.put (some 16) v) W2 := fun v W2 h1 h2 => hK v W2 h1 (fun d hd => by cases hd; exact h2)
      clear hl
      simp only [Array.getD_eq_getD_getElem?] at h0
      go_simp
      exact hK _ W (Below.refl _ W) rfl
    · as_aux_lemma =>
      refine Seq.UpOb.plain (by decide) (fun m W W' h hb => stB.up h hb) (fun _ _ hb => Fr.of_below hb) rfl fun a W m hR hS hl K hK => ?_
      have h16 : a.tmps.getD 16 undef = (.pointer (some ⟨g, 0, none⟩)) := hl 16 (by decide)
      replace hK : ∀ v W2, Below W.heap.size W W2 → v = (.pointer (some ⟨g, 0, none⟩)) → K (a.put (some 17) v) W2 := fun v W2 h1 h2 => hK v W2 h1 (fun d hd => by cases hd; exact h2)
      clear hl
      simp only [Array.getD_eq_getD_getElem?] at h16
      go_simp
      exact hK _ W (Below.refl _ W) rfl
    · as_aux_lemma =>
      refine Seq.UpOb.plain (by decide) (fun m W W' h hb => stB.up h hb) (fun _ _ hb => Fr.of_below hb) rfl fun a W m hR hS hl K hK => ?_
      have h17 : a.tmps.getD 17 undef = (.pointer (some ⟨g, 0, none⟩)) := hl 17 (by decide)
      replace hK : ∀ v W2, Below W.heap.size W W2 → v = (.pointer (some ⟨g, 3, none⟩)) → K (a.put (some 18) v) W2 := fun v W2 h1 h2 => hK v W2 h1 (fun d hd => by cases hd; exact h2)
      clear hl
      simp only [Array.getD_eq_getD_getElem?] at h17
      go_simp
      exact hK _ W (Below.refl _ W) rfl
    · as_aux_lemma =>
      refine Seq.UpOb.turns 0 rfl rfl fun a W hl hR hS K hK => ?_
      have h18 : a.tmps.getD 18 undef = (.pointer (some ⟨g, 3, none⟩)) := hl 18 (by decide)
      replace hK : ∀ v W2, Fr g lb mb W W2 → Wl g lb mb s1 v W2 → (stB g lb mb s1) 1 W2 → K (a.put (some 19) v) W2 := fun v W2 h1 h2 h3 => hK v W2 h1 (fun d hd => by cases hd; exact h2) h3
      clear hl
      obtain ⟨D1, hr1⟩ := hS
      have hs := waits_walk W g lb mb s1 D1 hr1
      simp only [Array.getD_eq_getD_getElem?] at h18
      go_simp
      refine hs.mono ?_
      rintro e w6 ⟨v6, rfl, hw6, hb6⟩
      exact hK _ w6 (Fr.of_below hb6) hw6 ⟨D1, hr1.up hb6⟩
    · as_aux_lemma =>
      refine Seq.UpOb.turns 1 rfl rfl fun a W hl hR hS K hK => ?_
      have h15 : a.tmps.getD 15 undef = (.pointer (some ⟨g, 3, none⟩)) := hl 15 (by decide)
      have h19 : Wl g lb mb s1 (a.tmps.getD 19 undef) W := hl 19 (by decide)
      generalize hv19 : a.tmps.getD 19 undef = v19 at h19
      replace hK : ∀ v W2, Fr g lb mb W W2 → v = (.tuple #[]) → (stB g lb mb s1) 2 W2 → K (a.put (some 20) v) W2 := fun v W2 h1 h2 h3 => hK v W2 h1 (fun d hd => by cases hd; exact h2) h3
      clear hl
      obtain ⟨D1, hr1⟩ := hS
      obtain ⟨A, c, l, rfl, hl9, hmem, hpl⟩ := h19
      have hs := settle_any W g lb mb s1 D1 l A c hr1 (by omega) hmem hpl
      simp only [Array.getD_eq_getD_getElem?] at h15 hv19
      go_simp
      refine hs.mono ?_
      rintro e w6 ⟨rfl, hf6, hr6⟩
      exact hK _ w6 hf6 rfl ⟨_, hr6⟩
  · intro a W3 hd hsz hR3 hl hS3
    have hl' : ∀ t, SpOf _ _ t (a.tmps.getD t undef) W3 := hl
    obtain ⟨x19, e19⟩ : ∃ x, a.tmps.getD 19 undef = x := ⟨_, rfl⟩
    have htm := tmps_eq (hsz.trans rfl) [13, 14, 15, 16, 17, 18, 19, 20] [(13, .pointer (some ⟨g, 0, none⟩)), (14, .pointer (some ⟨g, 0, none⟩)), (15, .pointer (some ⟨g, 3, none⟩)), (16, .pointer (some ⟨g, 0, none⟩)), (17, .pointer (some ⟨g, 0, none⟩)), (18, .pointer (some ⟨g, 3, none⟩)), (19, x19), (20, .tuple #[])] rfl rfl (by decide) 21 rfl (by decide) hl' (by
      intro p hp
      simp only [List.mem_cons, List.not_mem_nil, or_false] at hp
      rcases hp with rfl | rfl | rfl | rfl | rfl | rfl | rfl | rfl
      · exact hl 13
      · exact hl 14
      · exact hl 15
      · exact hl 16
      · exact hl 17
      · exact hl 18
      · exact e19
      · exact hl 20
      )
    clear hl hl' hsz e19
    have hact : a = ⟨_, []⟩ := act_eq hd htm
    clear htm hd
    rw [hact]
    clear hact
    simp only [List.foldl, List.setIfInBounds_toArray, List.set]
    go_wp2
    go_ret
    exact ⟨rfl, (HF1.out.trans (Fr.of_below (Below.refl _ _).drew)).trans hR3, hS3⟩
end Go.Proofs.Ytcbfnbmkogeehaa
