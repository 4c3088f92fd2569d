/- Turns don't hang on where they begin: lists alone. -/
import Derived.Test.YtekhnacgejfmjaaD9
namespace Go.Proofs.Ytekhnacgejfmjaa

theorem mod_mid (k a p n : Nat) : (k + (a % n + p)) % n = (k + a + p) % n := by
  rw [show k + (a % n + p) = (k + p) + a % n by omega, Nat.add_mod_mod]
  congr 1
  omega
theorem rot_getD (l : List UInt32) (a i : Nat) (ha : a ≤ l.length) (hi : i < l.length) : (rot l a).getD i 0 = l.getD ((a + i) % l.length) 0 := by
  have hl := rot_length l a ha
  rw [← getD_at (by omega : i < (rot l a).length)]
  unfold rot
  rw [List.getElem_append]
  split
  · rename_i q
    rw [List.length_drop] at q
    rw [Nat.mod_eq_of_lt (by omega), List.getElem_drop, ← getD_at]
  · rename_i q
    rw [List.length_drop] at q
    have e : (a + i) % l.length = i - (l.length - a) := by
      rw [show a + i = (i - (l.length - a)) + l.length by omega, Nat.add_mod_right]
      exact Nat.mod_eq_of_lt (by omega)
    rw [e, List.getElem_take, ← getD_at (by omega)]
    simp only [List.length_drop]
theorem ext_getD {l m : List UInt32} (h : l.length = m.length) (he : ∀ i, i < l.length → l.getD i 0 = m.getD i 0) : l = m := by
  apply List.ext_getElem h
  intro i h1 h2
  rw [getD_at h1, getD_at h2]
  exact he i h1
theorem rot_zero (l : List UInt32) : rot l 0 = l := by unfold rot; simp
theorem rot_full (l : List UInt32) : rot l l.length = l := by unfold rot; simp
theorem rot_rot (l : List UInt32) (k b : Nat) (hk : k ≤ l.length) (hb : b ≤ l.length) (h0 : 0 < l.length) : rot (rot l k) b = rot l ((k + b) % l.length) := by
  have hm : (k + b) % l.length < l.length := Nat.mod_lt _ h0
  have hl := rot_length l k hk
  have hl2 := rot_length (rot l k) b (by omega)
  apply ext_getD (by rw [hl2, hl, rot_length l _ (by omega)])
  intro i hi
  rw [hl2, hl] at hi
  rw [rot_getD _ b i (by omega) (by omega), hl, rot_getD l k _ hk (Nat.mod_lt _ h0), rot_getD l _ i (by omega) hi]
  congr 1
  rw [Nat.add_mod_mod, Nat.mod_add_mod, Nat.add_assoc]
theorem perm_rot (l : List UInt32) (k : Nat) : (rot l k).Perm l := by
  unfold rot
  have := List.perm_append_comm (l₁ := l.drop k) (l₂ := l.take k)
  rwa [List.take_append_drop] at this
theorem mem_rot (l : List UInt32) (k : Nat) (x : UInt32) : x ∈ rot l k ↔ x ∈ l := (perm_rot l k).mem_iff
theorem nodup_rot (l : List UInt32) (k : Nat) : (rot l k).Nodup ↔ l.Nodup := (perm_rot l k).nodup_iff
/-- The least one is there, and none is less. -/
theorem mnl_le (l : List UInt32) : ∀ y ∈ l, (mnl l).toNat ≤ y.toNat := by
  cases l with
  | nil => intro y h; cases h
  | cons x r =>
    have : ∀ (r : List UInt32) (x : UInt32), ∀ y ∈ x :: r, (r.foldl mn x).toNat ≤ y.toNat := by
      intro r
      induction r with
      | nil => intro x y hy; rw [List.mem_singleton.1 hy]; exact Nat.le_refl _
      | cons z r ih =>
        intro x y hy
        rw [List.foldl_cons]
        have hz : (mn x z).toNat ≤ x.toNat ∧ (mn x z).toNat ≤ z.toNat := by
          rw [mn_eq]
          split
          · rename_i q; rw [lt_nat] at q; omega
          · rename_i q; rw [lt_nat] at q; omega
        have h0 := ih (mn x z) (mn x z) List.mem_cons_self
        rcases List.mem_cons.1 hy with rfl | hy
        · omega
        · rcases List.mem_cons.1 hy with rfl | hy
          · omega
          · exact ih _ y (List.mem_cons_of_mem _ hy)
    exact this r x
theorem mnl_rot (l : List UInt32) (k : Nat) (h0 : 0 < l.length) : mnl (rot l k) = mnl l := by
  have hp := (perm_rot l k).length_eq
  have h1 := mnl_le l _ ((mem_rot l k _).1 (mnl_mem (rot l k) (by omega)))
  have h2 := mnl_le (rot l k) _ ((mem_rot l k _).2 (mnl_mem l h0))
  exact UInt32.toNat_inj.1 (by omega)
theorem fst_mem {l : List UInt32} {x : UInt32} (h : fst l x < l.length) : l.getD (fst l x) 0 = x := by
  have := fst_yes l x h
  rw [beq_iff_eq] at this
  rw [← getD_at h]; exact this.symm
theorem fst_at {l : List UInt32} (hn : l.Nodup) {j : Nat} (hj : j < l.length) : fst l (l.getD j 0) = j := by
  have hm : l.getD j 0 ∈ l := by rw [← getD_at hj]; exact List.getElem_mem hj
  have h1 := fst_lt hm
  have h2 := fst_mem h1
  have h3 : l[fst l (l.getD j 0)] = l[j] := by rw [getD_at h1, h2, getD_at hj]
  exact (List.getElem_inj hn).1 h3
theorem fst_rot (l : List UInt32) (hn : l.Nodup) (k j : Nat) (hk : k ≤ l.length) (hj : j < l.length) : fst (rot l k) (l.getD j 0) = (j + (l.length - k)) % l.length := by
  have h0 : 0 < l.length := by omega
  have hl := rot_length l k hk
  have hm := Nat.mod_lt (j + (l.length - k)) h0
  have e : (rot l k).getD ((j + (l.length - k)) % l.length) 0 = l.getD j 0 := by
    rw [rot_getD l k _ hk hm]
    congr 1
    rw [Nat.add_mod_mod, show k + (j + (l.length - k)) = j + l.length by omega, Nat.add_mod_right]
    exact Nat.mod_eq_of_lt hj
  rw [← e]
  exact fst_at ((nodup_rot l k).2 hn) (by omega)
theorem norm_rot (l : List UInt32) (hn : l.Nodup) (k : Nat) (hk : k ≤ l.length) : norm (rot l k) = norm l := by
  by_cases h0 : 0 < l.length
  · have hl := rot_length l k hk
    have hf := fst_lt (mnl_mem l h0)
    have e1 : norm (rot l k) = rot (rot l k) (fst (rot l k) (mnl (rot l k))) := rfl
    have e2 : norm l = rot l (fst l (mnl l)) := rfl
    have e3 := fst_mem hf
    have e4 := fst_rot l hn k _ hk hf
    rw [e3] at e4
    have hm := Nat.mod_lt (fst l (mnl l) + (l.length - k)) h0
    rw [e1, e2, mnl_rot l k h0, e4, rot_rot l k _ hk (by omega) h0]
    congr 1
    rw [Nat.add_mod_mod, show k + (fst l (mnl l) + (l.length - k)) = fst l (mnl l) + l.length by omega, Nat.add_mod_right]
    exact Nat.mod_eq_of_lt hf
  · obtain rfl : l = [] := List.length_eq_zero_iff.1 (by omega)
    unfold rot; simp
theorem norm_swap (a b : List UInt32) (hn : (a ++ b).Nodup) : norm (b ++ a) = norm (a ++ b) := by
  have e : b ++ a = rot (a ++ b) a.length := by unfold rot; simp
  rw [e]
  exact norm_rot _ hn _ (by simp)
theorem atp_rot (l : List UInt32) (hn : l.Nodup) (k j p : Nat) (hk : k ≤ l.length) (hj : j < l.length) : atp (rot l k) (l.getD j 0) p = l.getD ((j + p) % l.length) 0 := by
  have h0 : 0 < l.length := by omega
  have hl := rot_length l k hk
  have hf := fst_rot l hn k j hk hj
  have hm := Nat.mod_lt (j + (l.length - k)) h0
  rw [atp_lt (by omega), hf, hl, rot_getD l k _ hk (Nat.mod_lt _ h0)]
  congr 1
  rw [Nat.add_mod_mod, mod_mid, show k + (j + (l.length - k)) + p = j + p + l.length by omega, Nat.add_mod_right]
theorem nxt_rot (l : List UInt32) (hn : l.Nodup) (k j : Nat) (hk : k ≤ l.length) (hj : j < l.length) : nxt (rot l k) (l.getD j 0) = l.getD ((j + 1) % l.length) 0 := atp_rot l hn k j 1 hk hj
theorem prv_rot (l : List UInt32) (hn : l.Nodup) (k j : Nat) (hk : k ≤ l.length) (hj : j < l.length) : prv (rot l k) (l.getD j 0) = l.getD ((j + (l.length - 1)) % l.length) 0 := by
  unfold prv
  rw [rot_length l k hk]
  exact atp_rot l hn k j _ hk hj
theorem ip_at (l : List UInt32) (hn : l.Nodup) (j : Nat) (hj : j < l.length) : ip l (l.getD j 0) = j + 1 := by
  rw [ip_lt (by rw [fst_at hn hj]; exact hj), fst_at hn hj]
theorem nodup_put (l : List UInt32) (x : UInt32) (hn : l.Nodup) (hx : x ∉ l) (a : Nat) : (l.take a ++ ([x] ++ l.drop a)).Nodup := by
  have hp : (l.take a ++ ([x] ++ l.drop a)).Perm (x :: l) := by
    have h1 := List.perm_middle (a := x) (l₁ := l.take a) (l₂ := l.drop a)
    rw [List.take_append_drop] at h1
    exact h1
  rw [hp.nodup_iff, List.nodup_cons]
  exact ⟨hx, hn⟩
/-- What is put in, told from behind it on. -/
theorem ins_at (l : List UInt32) (x : UInt32) (hn : l.Nodup) (hx : x ∉ l) (j : Nat) (hj : j < l.length) : ins l (l.getD j 0) [x] = norm (rot l (j + 1) ++ [x]) := by
  unfold ins
  rw [ip_at l hn j hj]
  have h := norm_swap (l.take (j + 1) ++ [x]) (l.drop (j + 1)) (by rw [List.append_assoc]; exact nodup_put l x hn hx (j + 1))
  rw [← List.append_assoc, ← h]
  unfold rot
  rw [List.append_assoc]
theorem ins_rot (l : List UInt32) (x : UInt32) (hn : l.Nodup) (hx : x ∉ l) (k j : Nat) (hk : k ≤ l.length) (hj : j < l.length) : ins (rot l k) (l.getD j 0) [x] = ins l (l.getD j 0) [x] := by
  have h0 : 0 < l.length := by omega
  have hl := rot_length l k hk
  have hf := fst_rot l hn k j hk hj
  have hm := Nat.mod_lt (j + (l.length - k)) h0
  have e : (rot l k).getD ((j + (l.length - k)) % l.length) 0 = l.getD j 0 := by
    have h := fst_mem (l := rot l k) (x := l.getD j 0) (by omega)
    rw [hf] at h; exact h
  rw [ins_at l x hn hx j hj]
  have h2 := ins_at (rot l k) x ((nodup_rot l k).2 hn) (fun h => hx ((mem_rot l k x).1 h)) ((j + (l.length - k)) % l.length) (by omega)
  rw [e] at h2
  rw [h2]
  congr 2
  rw [rot_rot l k _ hk (by omega) h0]
  have e2 : (k + ((j + (l.length - k)) % l.length + 1)) % l.length = (j + 1) % l.length := by
    rw [mod_mid, show k + (j + (l.length - k)) + 1 = j + 1 + l.length by omega, Nat.add_mod_right]
  rw [e2]
  by_cases h1 : j + 1 = l.length
  · rw [h1, Nat.mod_self, rot_zero, rot_full]
  · rw [Nat.mod_eq_of_lt (by omega)]
theorem mir_rot (l : List UInt32) (hn : l.Nodup) (k : Nat) (_hk : k ≤ l.length) : mir (rot l k) = mir l := by
  unfold mir rot
  rw [List.reverse_append]
  have h := norm_swap ((l.drop k).reverse) ((l.take k).reverse) (by
    rw [← List.reverse_append, List.take_append_drop]
    exact (List.reverse_perm l).nodup_iff.2 hn)
  rw [h, ← List.reverse_append, List.take_append_drop]
theorem out_one (x y : UInt32) : out [x] y = !(y == x) := by
  unfold out
  congr 1
  rw [Bool.eq_iff_iff]
  simp [fst]
theorem wo_ins (l : List UInt32) (x : UInt32) (hn : l.Nodup) (hx : x ∉ l) (d : UInt32) : wo (ins l d [x]) [x] = norm l := by
  have hf : ∀ a, (l.take a ++ ([x] ++ l.drop a)).filter (out [x]) = l := by
    intro a
    have hkeep : ∀ m : List UInt32, (∀ y ∈ m, y ∈ l) → m.filter (out [x]) = m := fun m hm => by
      rw [List.filter_eq_self]
      intro y hy
      rw [out_one]
      have : y ≠ x := fun e => hx (e ▸ hm y hy)
      simp [this]
    have h1 : [x].filter (out [x]) = [] := by simp [out_one]
    rw [List.filter_append, List.filter_append, h1, hkeep _ (fun y hy => List.mem_of_mem_take hy), hkeep _ (fun y hy => List.mem_of_mem_drop hy), List.nil_append, List.take_append_drop]
  unfold wo ins
  generalize hL : l.take (ip l d) ++ ([x] ++ l.drop (ip l d)) = L
  have hfl := hf (ip l d)
  rw [hL] at hfl
  have hsp : L.take (fst L (mnl L)) ++ L.drop (fst L (mnl L)) = L := List.take_append_drop _ _
  unfold norm
  rw [List.filter_append]
  have h2 : (L.take (fst L (mnl L))).filter (out [x]) ++ (L.drop (fst L (mnl L))).filter (out [x]) = l := by rw [← List.filter_append, hsp, hfl]
  have h := norm_swap ((L.take (fst L (mnl L))).filter (out [x])) ((L.drop (fst L (mnl L))).filter (out [x])) (by rw [h2]; exact hn)
  rw [h2] at h
  exact h
theorem prv_nxt (l : List UInt32) (hn : l.Nodup) (j : Nat) (hj : j < l.length) : prv l (nxt l (l.getD j 0)) = l.getD j 0 := by
  have h0 : 0 < l.length := by omega
  have h1 := nxt_rot l hn 0 j (by omega) hj
  rw [rot_zero] at h1
  rw [h1]
  have h2 := prv_rot l hn 0 ((j + 1) % l.length) (by omega) (Nat.mod_lt _ h0)
  rw [rot_zero] at h2
  rw [h2]
  congr 1
  rw [Nat.mod_add_mod, show j + 1 + (l.length - 1) = j + l.length by omega, Nat.add_mod_right]
  exact Nat.mod_eq_of_lt hj
theorem nxt_ins (l : List UInt32) (x : UInt32) (hn : l.Nodup) (hx : x ∉ l) (j : Nat) (hj : j < l.length) : nxt (ins l (l.getD j 0) [x]) (l.getD j 0) = x := by
  have hd := nodup_put l x hn hx (j + 1)
  unfold ins
  rw [ip_at l hn j hj]
  have hlen : (l.take (j + 1) ++ ([x] ++ l.drop (j + 1))).length = l.length + 1 := by simp; omega
  have ej : (l.take (j + 1) ++ ([x] ++ l.drop (j + 1))).getD j 0 = l.getD j 0 := by
    rw [← getD_at (by omega), ← getD_at hj, List.getElem_append_left (by rw [List.length_take]; omega), List.getElem_take]
  have ex : (l.take (j + 1) ++ ([x] ++ l.drop (j + 1))).getD (j + 1) 0 = x := by
    rw [← getD_at (by omega), List.getElem_append_right (by rw [List.length_take]; omega)]
    simp [List.length_take, show min (j + 1) l.length = j + 1 by omega]
  generalize l.take (j + 1) ++ ([x] ++ l.drop (j + 1)) = L at *
  have e1 : norm L = rot L (fst L (mnl L)) := rfl
  have h := nxt_rot L hd (fst L (mnl L)) j (fst_le _ _) (by omega)
  rw [e1, ← ej, h, Nat.mod_eq_of_lt (by omega), ex]
end Go.Proofs.Ytekhnacgejfmjaa
