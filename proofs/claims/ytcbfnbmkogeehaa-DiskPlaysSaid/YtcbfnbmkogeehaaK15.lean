/- The sectors that wait, as a list; what settles them all. -/
import Derived.Test.YtcbfnbmkogeehaaK14
import Derived.Test.YtcbfnbmkogeehaaK2
import Derived.Test.YtcbfnbmkogeehaaR2
namespace Go.Proofs.Ytcbfnbmkogeehaa
open Go.RowKit Go.Maps

/-- All is as it was but for three blocks. -/
structure Fr (g lb mb : Nat) (w w' : World) : Prop where
  os : w'.os = w.os
  tape : w'.tape = w.tape
  output : w'.output = w.output
  size : w.heap.size ≤ w'.heap.size
  block : ∀ k, k < w.heap.size → k ≠ g → k ≠ lb → k ≠ mb → w'.heap[k]? = w.heap[k]?
theorem Fr.refl (g lb mb : Nat) (w : World) : Fr g lb mb w w := ⟨rfl, rfl, rfl, Nat.le_refl _, fun _ _ _ _ _ => rfl⟩
theorem Fr.trans {g lb mb : Nat} {a b c : World} (h : Fr g lb mb a b) (k : Fr g lb mb b c) : Fr g lb mb a c :=
  ⟨k.os.trans h.os, k.tape.trans h.tape, k.output.trans h.output, Nat.le_trans h.size k.size, fun i hi h1 h2 h3 => (k.block i (Nat.lt_of_lt_of_le hi h.size) h1 h2 h3).trans (h.block i hi h1 h2 h3)⟩
theorem Fr.of_below {g lb mb : Nat} {w w' : World} (h : Below w.heap.size w w') : Fr g lb mb w w' := ⟨h.os, h.tape, h.output, h.size, fun k hk _ _ _ => h.block k hk⟩
theorem Fr.of_ex2 {g lb mb : Nat} {w w' : World} (h : Ex2 g mb w w') : Fr g lb mb w w' := ⟨h.os, h.tape, h.output, h.size, fun k hk h1 _ h3 => h.block k hk h1 h3⟩
theorem Fr.of_ex {g lb mb : Nat} {w w' : World} (h : Ex g w w') : Fr g lb mb w w' := ⟨h.os, h.tape, h.output, h.size, fun k hk h1 _ _ => h.block k hk h1⟩
theorem Fr.of_exl {g lb mb : Nat} {w w' : World} (h : Ex lb w w') : Fr g lb mb w w' := ⟨h.os, h.tape, h.output, h.size, fun k hk _ h1 _ => h.block k hk h1⟩
theorem Fr.of_exm {g lb mb : Nat} {w w' : World} (h : Ex mb w w') : Fr g lb mb w w' := ⟨h.os, h.tape, h.output, h.size, fun k hk _ _ h1 => h.block k hk h1⟩
theorem Fr.blk {g lb mb k : Nat} {w w' : World} {t : TypeId} {cs : Array Value} (h : Fr g lb mb w w') (hb : Blk w k t cs) (h1 : k ≠ g) (h2 : k ≠ lb) (h3 : k ≠ mb) : Blk w' k t cs := (h.block k hb.lt h1 h2 h3).trans hb

theorem mem_keys {w : World} {mb n : Nat} {D : DataW Value} (hown : w.ownsMap Try.prog 3 RV mb n D) (x : Int) : x ∈ intKeys D ↔ Maps.has D (.int .i64 x) = true := by
  obtain ⟨es, rfl, hko⟩ := hown.keysOf
  have hk : ∀ p ∈ es, ∃ x, p.1 = .int .i64 x := fun p hp => by obtain ⟨v, hv⟩ := hko p hp; obtain ⟨x, _, hx, _⟩ := Maps.keyOf_i64 Try.underlying3 hv; exact ⟨x, hx⟩
  rw [has_eq, List.any_eq_true]
  unfold intKeys
  rw [List.mem_map]
  constructor
  · rintro ⟨p, hp', rfl⟩
    obtain ⟨a, ha⟩ := hk p hp'
    exact ⟨p, hp', by rw [ha]; simp [Lit.sameKey, Go.intOf]⟩
  · rintro ⟨p, hp', hs⟩
    obtain ⟨a, ha⟩ := hk p hp'
    rw [ha] at hs
    exact ⟨p, hp', by rw [ha]; simpa [Lit.sameKey, Go.intOf] using hs⟩

/-- A slice of the sectors that wait: of a block that is none of the disk's. -/
def Wl (g lb mb : Nat) (s : Dk) (v : Value) (W : World) : Prop := ∃ A c, ∃ l : List Nat, v = .slice A l.length c ∧ l.length < 1000000000 ∧ (∀ i, i ∈ l ↔ s.waits[i]? = some true) ∧
  (0 < l.length → ∃ sb, A = some ⟨sb, 0, none⟩ ∧ sb ≠ g ∧ sb ≠ lb ∧ sb ≠ mb ∧ sb < W.heap.size ∧ ∀ j (h : j < l.length), W.cell? ⟨sb, j, none⟩ = some (.int .i64 (l[j] : Int)))
theorem Wl.kept {g lb mb : Nat} {s : Dk} {v : Value} {W W' : World} (h : Wl g lb mb s v W) (hx : Fr g lb mb W W') : Wl g lb mb s v W' := by
  obtain ⟨A, c, l, rfl, hl, hm, h⟩ := h
  refine ⟨A, c, l, rfl, hl, hm, fun h0 => ?_⟩
  obtain ⟨sb, ha, h1, h2, h3, hlt, hc⟩ := h h0
  exact ⟨sb, ha, h1, h2, h3, Nat.lt_of_lt_of_le hlt hx.size, fun j hj => (World.cell?_of_block (hx.block sb hlt h1 h2 h3)).trans (hc j hj)⟩

theorem waits_walk (w : World) (g lb mb : Nat) (s : Dk) (D : DataW Value) (h : Rep w g lb mb s D) :
    Calls Try.prog 33 #[.pointer (some ⟨g, 3, none⟩)] w fun e w' => ∃ v, e = .returned v ∧ Wl g lb mb s v w' ∧ Below w.heap.size w w' := by
  have hcnt := h.cnt
  have hd1 := h.ok.d1
  have hsz : Maps.size D < 1000000000 := by omega
  have hc4 : w.cell? ⟨g, 4, none⟩ = some (.map (some mb)) := h.blk.cell 4
  refine (waits_keys mb (Maps.size D) D w g hc4 h.own (by unfold maxLen; omega) (by omega)).mono ?_
  rintro e w' ⟨v, ss, rfl, hperm, hrow, hnil, hb⟩
  refine ⟨v, rfl, ?_, hb⟩
  have hmem : ∀ x, x ∈ ss ↔ Maps.has D (.int .i64 x) = true := fun x => (hperm.mem_iff).trans (mem_keys h.own x)
  have hwf : ∀ x ∈ ss, (Lit.int .i64 x).wf = true := fun x hx => intKeys_wf h.own Try.underlying3 x ((hperm.mem_iff).1 hx)
  have hpos : ∀ x ∈ ss, 0 ≤ x ∧ s.waits[x.toNat]? = some true := by
    intro x hx
    have h1 := (hmem x).1 hx
    rw [h.has x (hwf x hx)] at h1
    simpa using h1
  have hlen : ss.length = Maps.size D := by
    rw [hperm.length_eq]
    obtain ⟨es, hD, _⟩ := h.own.keysOf
    rw [hD]; simp [intKeys, Maps.size]
  have hml : (ss.mergeSort (fun x y => decide (x ≤ y))).length = ss.length := List.length_mergeSort _
  have hmm : ∀ x, x ∈ ss.mergeSort (fun x y => decide (x ≤ y)) ↔ x ∈ ss := fun x => List.mem_mergeSort
  generalize ss.mergeSort (fun x y => decide (x ≤ y)) = ms at *
  have hin : ∀ i : Nat, i ∈ ms.map Int.toNat ↔ s.waits[i]? = some true := by
    intro i
    rw [List.mem_map]
    constructor
    · rintro ⟨x, hx, rfl⟩
      exact (hpos x ((hmm x).1 hx)).2
    · intro hi
      refine ⟨(i : Int), (hmm _).2 ((hmem _).2 ?_), by simp⟩
      have hil : i < s.waits.length := (List.getElem?_eq_some_iff.1 hi).1
      have hh := h.ok.wt
      have hhi := h.ok.high
      rw [h.has (i : Int) (wf64 _ (by omega))]
      simpa using hi
  have hgl := h.blk.lt
  have hll := h.lst.lt
  have hmlt := h.own.lt
  rcases hrow.2 with ⟨rfl, h0⟩ | ⟨sb, cap, cur, rfl, hbase, hgc, hcap, _, hsz2, htake⟩
  · have hms : ms = [] := by apply List.eq_nil_of_length_eq_zero; omega
    subst hms
    exact ⟨none, 0, [], rfl, by decide, hin, fun h => absurd h (by decide)⟩
  · have hblk : Blk w' sb 3 cur := hgc
    have hl2 : (ms.map Int.toNat).length = ss.length := by rw [List.length_map, hml]
    refine ⟨some ⟨sb, 0, none⟩, cap, ms.map Int.toNat, by rw [hl2], by omega, hin, fun _ => ⟨sb, rfl, by omega, by omega, by omega, hblk.lt, fun j hj => ?_⟩⟩
    have hjm : j < ms.length := by simpa using hj
    rw [hblk.cell]
    have h1 : (cur.toList.take (ss.length * 1))[j]? = (ms.map encZ)[j]? := by rw [htake]
    rw [List.getElem?_take_of_lt (by omega)] at h1
    have hp := (hpos ms[j] ((hmm _).1 (List.getElem_mem hjm))).1
    have h2 : cur[j]? = some (.int .i64 ms[j]) := by simpa [hjm, encZ] using h1
    rw [h2]
    simp
    omega
end Go.Proofs.Ytcbfnbmkogeehaa
