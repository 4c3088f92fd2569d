/- The sectors that wait, rising; a Barrier that stops; a Crash that keeps some. -/
import Derived.Test.YtcbfnbmkogeehaaK17
namespace Go.Proofs.Ytcbfnbmkogeehaa
open Go.RowKit Go.Maps

set_option maxRecDepth 100000 in
set_option maxHeartbeats 2000000 in
theorem barrier_stop (w : World) (g lb mb : Nat) (s : Dk) (D : DataW Value) (h : Rep w g lb mb s D) (hd : s.done + 1 < 1000000000) (hst : s.stop = true) :
    Calls Try.prog 15 #[.pointer (some ⟨g, 0, none⟩)] w fun e w' => e = .returned (.int .i64 13) ∧ Fr g lb mb w w' ∧ Rep w' g lb mb s.step D := by
  have hstep := step_walk w g lb mb s h.ok h.blk
  have he : s.stepE = 13 := by simp [Dk.stepE, hst]
  rw [he] at hstep
  have HSTEP := Lib.hid hstep
  have H := Lib.hid h
  clear hstep h he
  go_enter Try.func15, Try.ntmps15
  go_wp2_with (go_at_call 31; refine HSTEP.out.mono ?_; rintro e w1 ⟨rfl, hx1, hs1', hb1⟩; have HR1 := Lib.hid (H.out.stepped hd hx1 hb1); have HF1 : Hid (Fr g lb mb w w1) := Fr.of_ex hx1; clear hx1 hs1' hb1)
  go_ret
  exact ⟨rfl, HF1.out, HR1.out⟩

/-- The state behind Barrier, and what it answers. -/
def Dk.barrier (s : Dk) : Dk := if s.stop then s.step else s.step.synced
theorem barrier_walk (w : World) (g lb mb : Nat) (s : Dk) (D : DataW Value) (h : Rep w g lb mb s D) (hd : s.done + 1 < 1000000000) :
    Calls Try.prog 15 #[.pointer (some ⟨g, 0, none⟩)] w fun e w' => e = .returned (.int .i64 s.stepE) ∧ Fr g lb mb w w' ∧ ∃ D', Rep w' g lb mb s.barrier D' := by
  unfold Dk.barrier Dk.stepE
  cases hst : s.stop with
  | true => exact (barrier_stop w g lb mb s D h hd hst).mono (by rintro e w' ⟨rfl, h1, h2⟩; exact ⟨rfl, h1, D, h2⟩)
  | false => exact barrier_good w g lb mb s D h hd hst

theorem keys_nodup {w : World} {mb n : Nat} {D : DataW Value} (hown : w.ownsMap Try.prog 3 RV mb n D) (K : Keyed Try.prog 3) : (intKeys D).Nodup := by
  obtain ⟨es, rfl, hpw, _⟩ := hown.entries K
  obtain ⟨es', hD', hko⟩ := hown.keysOf
  obtain rfl : es = es' := by simpa using hD'
  unfold intKeys
  refine List.pairwise_map.2 (hpw.imp_of_mem fun {p q} hp' hq' hne e => hne ?_)
  obtain ⟨v, hv⟩ := hko p hp'
  obtain ⟨a, _, ha, _⟩ := Maps.keyOf_i64 Try.underlying3 hv
  obtain ⟨u, hu⟩ := hko q hq'
  obtain ⟨b, _, hb, _⟩ := Maps.keyOf_i64 Try.underlying3 hu
  rw [ha, hb] at e ⊢
  exact congrArg _ e
/-- A slice of the sectors that wait, rising. -/
def Ws (g lb mb : Nat) (s : Dk) (v : Value) (W : World) : Prop := ∃ A c, ∃ l : List Nat, v = .slice A l.length c ∧ l.length < 1000000000 ∧ (∀ i, i ∈ l ↔ s.waits[i]? = some true) ∧ l.Pairwise (· < ·) ∧
  (0 < l.length → ∃ sb, A = some ⟨sb, 0, none⟩ ∧ sb ≠ g ∧ sb ≠ lb ∧ sb ≠ mb ∧ sb < W.heap.size ∧ ∀ j (h : j < l.length), W.cell? ⟨sb, j, none⟩ = some (.int .i64 (l[j] : Int)))
theorem rising (ss : List Int) (hn : ss.Nodup) (hpos : ∀ x ∈ ss, 0 ≤ x) : ((ss.mergeSort (fun x y => decide (x ≤ y))).map Int.toNat).Pairwise (· < ·) := by
  have hs : (ss.mergeSort (fun x y => decide (x ≤ y))).Pairwise (fun x y => decide (x ≤ y) = true) := List.pairwise_mergeSort (fun a b c h1 h2 => by simp at *; omega) (fun a b => by simp; omega) ss
  have hd : (ss.mergeSort (fun x y => decide (x ≤ y))).Nodup := (List.mergeSort_perm ss _).nodup_iff.2 hn
  have hp : ∀ x ∈ ss.mergeSort (fun x y => decide (x ≤ y)), 0 ≤ x := fun x hx => hpos x (List.mem_mergeSort.1 hx)
  rw [List.pairwise_map]
  refine (hs.and hd).imp_of_mem fun {a b} ha hb h => ?_
  have h1 := hp a ha
  have h2 := hp b hb
  obtain ⟨h3, h4⟩ := h
  simp at h3
  have : a ≠ b := h4
  omega
theorem keyed3 : Keyed Try.prog 3 := int_keyed Try.underlying3
theorem waits_rising (w : World) (g lb mb : Nat) (s : Dk) (D : DataW Value) (h : Rep w g lb mb s D) :
    Calls Try.prog 33 #[.pointer (some ⟨g, 3, none⟩)] w fun e w' => ∃ v, e = .returned v ∧ Ws g lb mb s v w' ∧ Below w.heap.size w w' := by
  have hcnt := h.cnt
  have hd1 := h.ok.d1
  have hsz : Maps.size D < 1000000000 := by omega
  have hc4 : w.cell? ⟨g, 4, none⟩ = some (.map (some mb)) := h.blk.cell 4
  refine (waits_keys mb (Maps.size D) D w g hc4 h.own (by unfold maxLen; omega) (by omega)).mono ?_
  rintro e w' ⟨v, ss, rfl, hperm, hrow, hnil, hb⟩
  refine ⟨v, rfl, ?_, hb⟩
  have hmem : ∀ x, x ∈ ss ↔ Maps.has D (.int .i64 x) = true := fun x => (hperm.mem_iff).trans (mem_keys h.own x)
  have hwf : ∀ x ∈ ss, (Lit.int .i64 x).wf = true := fun x hx => intKeys_wf h.own Try.underlying3 x ((hperm.mem_iff).1 hx)
  have hpos : ∀ x ∈ ss, 0 ≤ x ∧ s.waits[x.toNat]? = some true := by
    intro x hx
    have h1 := (hmem x).1 hx
    rw [h.has x (hwf x hx)] at h1
    simpa using h1
  have hlen : ss.length = Maps.size D := by
    rw [hperm.length_eq]
    obtain ⟨es, hD, _⟩ := h.own.keysOf
    rw [hD]; simp [intKeys, Maps.size]
  have hris := rising ss (hperm.nodup_iff.2 (keys_nodup h.own keyed3)) (fun x hx => (hpos x hx).1)
  have hml : (ss.mergeSort (fun x y => decide (x ≤ y))).length = ss.length := List.length_mergeSort _
  have hmm : ∀ x, x ∈ ss.mergeSort (fun x y => decide (x ≤ y)) ↔ x ∈ ss := fun x => List.mem_mergeSort
  generalize ss.mergeSort (fun x y => decide (x ≤ y)) = ms at *
  have hin : ∀ i : Nat, i ∈ ms.map Int.toNat ↔ s.waits[i]? = some true := by
    intro i
    rw [List.mem_map]
    constructor
    · rintro ⟨x, hx, rfl⟩
      exact (hpos x ((hmm x).1 hx)).2
    · intro hi
      refine ⟨(i : Int), (hmm _).2 ((hmem _).2 ?_), by simp⟩
      have hil : i < s.waits.length := (List.getElem?_eq_some_iff.1 hi).1
      have hh := h.ok.wt
      have hhi := h.ok.high
      rw [h.has (i : Int) (wf64 _ (by omega))]
      simpa using hi
  have hgl := h.blk.lt
  have hll := h.lst.lt
  have hmlt := h.own.lt
  rcases hrow.2 with ⟨rfl, h0⟩ | ⟨sb, cap, cur, rfl, hbase, hgc, hcap, _, hsz2, htake⟩
  · have hms : ms = [] := by apply List.eq_nil_of_length_eq_zero; omega
    subst hms
    exact ⟨none, 0, [], rfl, by decide, hin, List.Pairwise.nil, fun h => absurd h (by decide)⟩
  · have hblk : Blk w' sb 3 cur := hgc
    have hl2 : (ms.map Int.toNat).length = ss.length := by rw [List.length_map, hml]
    refine ⟨some ⟨sb, 0, none⟩, cap, ms.map Int.toNat, by rw [hl2], by omega, hin, hris, fun _ => ⟨sb, rfl, by omega, by omega, by omega, hblk.lt, fun j hj => ?_⟩⟩
    have hjm : j < ms.length := by simpa using hj
    rw [hblk.cell]
    have h1 : (cur.toList.take (ss.length * 1))[j]? = (ms.map encZ)[j]? := by rw [htake]
    rw [List.getElem?_take_of_lt (by omega)] at h1
    have hp := (hpos ms[j] ((hmm _).1 (List.getElem_mem hjm))).1
    have h2 : cur[j]? = some (.int .i64 ms[j]) := by simpa [hjm, encZ] using h1
    rw [h2]
    simp
    omega
end Go.Proofs.Ytcbfnbmkogeehaa
