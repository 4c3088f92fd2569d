/- Behind a crash: what each sector is, and how many wait. -/
import Derived.Test.YtcbfnbmkogeehaaK26
namespace Go.Proofs.Ytcbfnbmkogeehaa
open Go.RowKit

/-- A disk whose power is on. -/
structure Live (s : Dk) : Prop where
  dn : s.down = false
  fu : s.fuse = -1
theorem Live.stop {s : Dk} (h : Live s) : s.stop = false := by simp [Dk.stop, h.dn, h.fu]
theorem Live.step_eq {s : Dk} (h : Live s) : s.step = { s with done := s.done + 1 } := by
  unfold Dk.step
  rw [h.stop]
  have := h.fu
  obtain ⟨a, b, c, d, f, g⟩ := s
  simp only at this
  subst this
  rfl
theorem Live.step {s : Dk} (h : Live s) : Live s.step := by
  rw [h.step_eq]
  exact ⟨h.dn, h.fu⟩
theorem Live.reach {s : Dk} (h : Live s) (k : Int) : s.reach k = if s.has k then 0 else 2 := by
  unfold Dk.reach
  rw [h.dn]
  rfl
theorem Live.write {s : Dk} (h : Live s) (k : Int) (b : List UInt8) : Live (s.write k b) := by
  unfold Dk.write
  rw [h.stop]
  split
  · exact ⟨h.step.dn, h.step.fu⟩
  · exact h
theorem Live.wrt {s : Dk} (h : Live s) (l : List (Int × UInt8)) : Live (wrt s l) := by
  induction l generalizing s with
  | nil => exact h
  | cons a l ih => exact ih (h.write a.1 (blkOf a.2))
theorem write_last (s : Dk) (k : Int) (b : List UInt8) : (s.write k b).last = s.last := by
  have e : s.step.last = s.last := by unfold Dk.step; split <;> rfl
  unfold Dk.write
  split
  · split
    · exact e
    · exact e
  · rfl
theorem wrt_last (s : Dk) (l : List (Int × UInt8)) : (wrt s l).last = s.last := by
  induction l generalizing s with
  | nil => rfl
  | cons a l ih => exact (ih (s.write a.1 (blkOf a.2))).trans (write_last s a.1 (blkOf a.2))
theorem barrier_last (s : Dk) (h : s.Ok) : s.barrier.last.length = s.last.length := by
  have e : s.step.last = s.last := by unfold Dk.step; split <;> rfl
  have e2 : s.step.shown = s.shown := by unfold Dk.step; split <;> rfl
  unfold Dk.barrier
  split
  · rw [e]
  · show s.step.shown.length = _
    rw [e2, h.sh]

/-- Behind writes: what is shown by the last map, what lasts, which can wait. -/
structure Cur (s0 : Dk) (l : List (Int × UInt8)) (t : Dk) (f : Int → Option UInt8) : Prop where
  live : Live t
  last : t.last = s0.last
  sl : t.shown.length = s0.last.length
  wl : t.waits.length = s0.last.length
  hd : ∀ i : Nat, i < s0.last.length → (t.shown.getD i z512).headD 0 = (f i).getD 0
  wt : ∀ i : Nat, t.waits[i]? = some true → i ∈ l.map fun a => a.1.toNat
theorem Cur.write {s0 t : Dk} {l : List (Int × UInt8)} {f : Int → Option UInt8} (h : Cur s0 l t f) (a : Int × UInt8) :
    Cur s0 (l ++ [a]) (t.write a.1 (blkOf a.2)) (if t.writeE a.1 = 0 then (fun j => if j = a.1 then some a.2 else f j) else f) := by
  have hr := h.live.reach a.1
  have hwe : t.writeE a.1 = if t.has a.1 then 0 else 2 := by
    unfold Dk.writeE Dk.stepE
    rw [h.live.stop, hr]
    cases t.has a.1 <;> rfl
  have hw : t.write a.1 (blkOf a.2) = if t.has a.1 then t.step.wrote a.1.toNat (blkOf a.2) else t := by
    unfold Dk.write
    rw [h.live.stop, hr]
    cases t.has a.1 <;> rfl
  have hlive := h.live.write a.1 (blkOf a.2)
  cases hh : t.has a.1 with
  | false =>
    rw [hh] at hwe hw
    rw [hwe, hw]
    exact ⟨h.live, h.last, h.sl, h.wl, h.hd, fun i hi => by rw [List.map_append]; exact List.mem_append_left _ (h.wt i hi)⟩
  | true =>
    rw [hh] at hwe hw
    unfold Dk.has at hh
    simp only [Bool.and_eq_true, decide_eq_true_eq] at hh
    obtain ⟨h0, h1⟩ := hh
    obtain ⟨n, hn⟩ := Int.eq_ofNat_of_zero_le h0
    have hlt := h.last
    rw [hlt, hn] at h1
    have hn1 : n < s0.last.length := by omega
    rw [hw] at hlive
    rw [hwe, hw]
    simp only [if_true] at hlive ⊢
    have hst := h.live.step_eq
    refine ⟨hlive, ?_, ?_, ?_, ?_, ?_⟩
    · show t.step.last = _
      rw [hst]; exact h.last
    · show (t.step.shown.set _ _).length = _
      rw [hst, List.length_set]; exact h.sl
    · show (t.step.waits.set _ _).length = _
      rw [hst, List.length_set]; exact h.wl
    · intro i hi
      show ((t.step.shown.set a.1.toNat (blkOf a.2)).getD i z512).headD 0 = _
      rw [hst, hn]
      show ((t.shown.set n (blkOf a.2)).getD i z512).headD 0 = _
      by_cases e : i = n
      · subst e
        rw [List.getD_eq_getElem?_getD, List.getElem?_set_self (by rw [h.sl]; exact hi)]
        rw [if_pos rfl]
        rfl
      · have e2 : ¬ ((i : Int) = (n : Int)) := by omega
        rw [List.getD_eq_getElem?_getD, List.getElem?_set_ne (fun x => e x.symm), ← List.getD_eq_getElem?_getD, h.hd i hi, if_neg e2]
    · intro i hi
      have hi2 : (t.step.waits.set a.1.toNat true)[i]? = some true := hi
      rw [hst] at hi2
      rw [List.map_append]
      by_cases e : i = a.1.toNat
      · exact List.mem_append_right _ (by rw [e]; exact List.mem_singleton.2 rfl)
      · refine List.mem_append_left _ (h.wt i ?_)
        rw [← hi2]
        exact (List.getElem?_set_ne (fun x => e x.symm)).symm
theorem Cur.wrt {s0 : Dk} (l : List (Int × UInt8)) : ∀ {t : Dk} {p : List (Int × UInt8)} {f : Int → Option UInt8}, Cur s0 p t f → Cur s0 (p ++ l) (wrt t l) (lm t f l) := by
  induction l with
  | nil => intro t p f h; rw [List.append_nil]; exact h
  | cons a l ih =>
    intro t p f h
    have h2 := ih (h.write a)
    rw [List.append_assoc] at h2
    exact h2
theorem Cur.start {s : Dk} (h : s.Ok) (hl : Live s) (h64 : s.last.length = 64) : Cur s.barrier [] s.barrier (fst64 s.barrier 64) := by
  have hst := hl.step_eq
  have hb : s.barrier = s.step.synced := by unfold Dk.barrier; rw [hl.stop]; rfl
  have hla : s.barrier.last = s.shown := by rw [hb, hst]; rfl
  have hsh : s.barrier.shown = s.shown := by rw [hb, hst]; rfl
  have hwa : s.barrier.waits = List.replicate s.last.length false := by rw [hb, hst]; rfl
  have hlen : s.shown.length = 64 := by rw [h.sh, h64]
  refine ⟨?_, rfl, by rw [hsh, hla], by rw [hwa, hla, List.length_replicate, h.sh], ?_, ?_⟩
  · rw [hb, hst]; exact ⟨hl.dn, hl.fu⟩
  · intro i hi
    rw [hla, hlen] at hi
    have h2 : (0 : Int) ≤ (i : Int) ∧ (i : Int) < ((64 : Nat) : Int) := by omega
    have h3 : s.barrier.has i = true := by
      unfold Dk.has
      rw [hla, hlen]
      simp only [Bool.and_eq_true, decide_eq_true_eq]
      exact h2
    simp only [fst64]
    rw [if_pos h2]
    unfold Dk.lasts
    rw [h3, hla, hsh]
    simp
  · intro i hi
    rw [hwa, List.getElem?_replicate] at hi
    split at hi <;> simp at hi

theorem nodup_short : ∀ (l m : List Nat), l.Nodup → (∀ x ∈ l, x ∈ m) → l.length ≤ m.length
  | [], m, _, _ => Nat.zero_le _
  | a :: l, m, hn, hs => by
    have ha := hs a (List.mem_cons_self ..)
    have hn2 := List.nodup_cons.1 hn
    have hle := nodup_short l (m.erase a) hn2.2 fun x hx => by
      have hne : x ≠ a := fun e => hn2.1 (e ▸ hx)
      exact (List.mem_erase_of_ne hne).2 (hs x (List.mem_cons_of_mem _ hx))
    rw [List.length_erase_of_mem ha] at hle
    have hp : 0 < m.length := List.length_pos_of_mem ha
    rw [List.length_cons]
    omega
theorem Cur.count {s0 t : Dk} {l : List (Int × UInt8)} {f : Int → Option UInt8} (h : Cur s0 l t f) (r : List Nat) (hr : ∀ i, i ∈ r ↔ t.waits[i]? = some true) (hp : r.Pairwise (· < ·)) : r.length ≤ l.length := by
  have h2 := nodup_short r (l.map fun a => a.1.toNat) (hp.imp fun {a b} h => Nat.ne_of_lt h) fun x hx => h.wt x ((hr x).1 hx)
  rw [List.length_map] at h2
  exact h2
/-- Behind a crash. -/
theorem Cur.crash {s0 t : Dk} {l : List (Int × UInt8)} {f : Int → Option UInt8} (h : Cur s0 l t f) (h64 : s0.last.length = 64) (S : List Nat) (i : Nat) (hi : i < 64) :
    (t.settled S).restored.read i = ((t.settled S).restored.lasts i, 0) ∧
      (((t.settled S).restored.lasts i).headD 0 = (fst64 s0 64 i).getD 0 ∨ ((t.settled S).restored.lasts i).headD 0 = (f i).getD 0) := by
  have hl1 : (t.settled S).restored.last = S.foldl (fun r i => r.set i (t.shown.getD i z512)) t.last := rfl
  have hl2 : (t.settled S).restored.shown = (t.settled S).restored.last := rfl
  have hlen : (t.settled S).restored.last.length = 64 := by rw [hl1, settled_length, h.last, h64]
  have h2 : (0 : Int) ≤ (i : Int) ∧ (i : Int) < ((64 : Nat) : Int) := by omega
  have hhas : (t.settled S).restored.has i = true := by
    unfold Dk.has
    rw [hlen]
    simp only [Bool.and_eq_true, decide_eq_true_eq]
    exact h2
  have hre : (t.settled S).restored.reach i = 0 := by
    unfold Dk.reach
    rw [hhas]
    rfl
  have hla : (t.settled S).restored.lasts i = (t.settled S).restored.last.getD i z512 := by
    unfold Dk.lasts
    rw [hhas]
    simp
  have hrd : (t.settled S).restored.read i = ((t.settled S).restored.last.getD i z512, 0) := by
    unfold Dk.read
    rw [hre, hl2]
    simp
  refine ⟨by rw [hrd, hla], ?_⟩
  rw [hla, hl1, List.getD_eq_getElem?_getD, fold_get t i S t.last (by rw [h.last, h64]; exact hi) (by rw [h.sl, h64]; exact hi)]
  split
  · right
    rw [← List.getD_eq_getElem?_getD]
    exact h.hd i (by rw [h64]; exact hi)
  · left
    have h3 : s0.has i = true := by
      unfold Dk.has
      rw [h64]
      simp only [Bool.and_eq_true, decide_eq_true_eq]
      exact h2
    simp only [fst64]
    rw [if_pos h2]
    unfold Dk.lasts
    rw [h3, h.last]
    simp [List.getD_eq_getElem?_getD]
theorem crash_none (t : Dk) (S r : List Nat) (hr : ∀ i, i ∈ r ↔ (t.settled S).restored.waits[i]? = some true) : r = [] := by
  have hw : (t.settled S).restored.waits = List.replicate t.last.length false := rfl
  rw [hw] at hr
  cases r with
  | nil => rfl
  | cons a r =>
    have h := (hr a).1 (List.mem_cons_self ..)
    rw [List.getElem?_replicate] at h
    split at h <;> simp at h
end Go.Proofs.Ytcbfnbmkogeehaa
