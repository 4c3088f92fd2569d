/- Pure: turns as a permutation; the one behind a dart round its face. -/
import Derived.Test.YtcinbmekjlmdpaaY0i
import Derived.Test.YtcinbmekjlmdpaaY0e
import Derived.Test.YtcinbmekjlmdpaaY0g

/-! Pure: turns as a permutation; the one behind a dart round its face. -/
namespace Go.Proofs.Ytcinbmekjlmdpaa
open Cyc

theorem nodup_at {l : List UInt32} (hn : l.Nodup) {i j : Nat} (hi : i < l.length) (hj : j < l.length) (h : l[i] = l[j]) : i = j := by
  rcases Nat.lt_trichotomy i j with q | q | q
  · exact absurd h (List.pairwise_iff_getElem.1 hn i j hi hj q)
  · exact q
  · exact absurd h.symm (List.pairwise_iff_getElem.1 hn j i hj hi q)
theorem fst_nodup {l : List UInt32} (hn : l.Nodup) {i : Nat} (hi : i < l.length) : fst l l[i] = i := by
  have hm : l[i] ∈ l := List.getElem_mem hi
  have hlt := fst_lt hm
  refine nodup_at hn hlt hi ?_
  have := fst_at hm
  rwa [← getD_at hlt] at this
theorem nxt_cy {l : List UInt32} (hn : l.Nodup) (h0 : l ≠ []) : Cy (nxt l) l := by
  refine ⟨h0, ?_⟩
  have hp := List.length_pos_iff.2 h0
  refine List.ext_getElem (by simp; omega) fun i h1 h2 => ?_
  have hi : i < l.length := by simpa using h1
  rw [List.getElem_map, nxt_lt (by rw [fst_nodup hn hi]; exact hi), fst_nodup hn hi]
  by_cases q : i + 1 < l.length
  · rw [Nat.mod_eq_of_lt q, ← getD_at q, List.getElem_append_left (by simp; omega), List.getElem_drop]
    congr 1
    omega
  · have e : i + 1 = l.length := by omega
    rw [e, Nat.mod_self, ← getD_at hp, List.getElem_append_right (by simp; omega), List.getElem_take]
    congr 1
    simp
    omega
/-- The next one in the turn that has it. -/
def nx : List (List UInt32) → UInt32 → UInt32
  | [], d => d
  | t :: r, d => if d ∈ t then nxt t d else nx r d
theorem nx_in : ∀ {rots : List (List UInt32)}, rots.flatten.Nodup → ∀ {t : List UInt32}, t ∈ rots → ∀ {d : UInt32}, d ∈ t → nx rots d = nxt t d
  | [], _, _, ht, _, _ => by cases ht
  | s :: r, hn, t, ht, d, hd => by
    rw [List.flatten_cons] at hn
    obtain ⟨_, n2, n3⟩ := List.nodup_append.1 hn
    rcases List.mem_cons.1 ht with rfl | ht
    · exact if_pos hd
    · show (if d ∈ s then nxt s d else nx r d) = _
      rw [if_neg (fun h => n3 d h d (List.mem_flatten.2 ⟨t, ht, hd⟩) rfl)]
      exact nx_in n2 ht hd
theorem full_flat : ∀ rots : List (List UInt32), (rots.filter fun t => !t.isEmpty).flatten = rots.flatten
  | [] => rfl
  | [] :: r => by rw [List.filter_cons_of_neg (by simp), full_flat r]; rfl
  | (a :: t) :: r => by rw [List.filter_cons_of_pos (by simp), List.flatten_cons, List.flatten_cons, full_flat r]
theorem turns_cs {rots : List (List UInt32)} (hn : rots.flatten.Nodup) : Cs (nx rots) rots.flatten (rots.filter fun t => !t.isEmpty) := by
  refine ⟨fun t ht => ?_, by rw [full_flat]⟩
  obtain ⟨h1, h2⟩ := List.mem_filter.1 ht
  have h0 : t ≠ [] := fun e => by subst e; simp at h2
  have hnt : t.Nodup := by
    obtain ⟨p, q, rfl⟩ := List.append_of_mem h1
    rw [List.flatten_append, List.flatten_cons] at hn
    exact (List.nodup_append.1 (List.nodup_append.1 hn).2.1).1
  have h3 := nxt_cy hnt h0
  refine ⟨h0, ?_⟩
  rw [← h3.2]
  exact List.map_congr_left fun d hd => nx_in hn h1 hd
/-- All darts of these edges. -/
def dts (es : List Eg) : List UInt32 := es.flatMap fun e => [2 * e.id, 2 * e.id + 1]
/-- The other end. -/
def tw (es : List Eg) (x : UInt32) : UInt32 := es.foldr (fun e y => if x = 2 * e.id then 2 * e.id + 1 else if x = 2 * e.id + 1 then 2 * e.id else y) x
theorem phi_out (s : UInt32 → UInt32) : ∀ {es : List Eg} {x : UInt32}, x ∉ dts es → phi s es x = s x
  | [], _, _ => rfl
  | e :: r, x, h => by
    have h' : x ∉ [2 * e.id, 2 * e.id + 1] ++ dts r := h
    rw [List.mem_append, not_or] at h'
    show phi s r (sw _ _ x) = _
    rw [sw_other (fun q => h'.1 (by rw [q]; simp)) (fun q => h'.1 (by rw [q]; simp))]
    exact phi_out s h'.2
theorem phi_in (s : UInt32 → UInt32) : ∀ {es : List Eg}, (dts es).Nodup → ∀ e ∈ es, phi s es (2 * e.id) = s (2 * e.id + 1) ∧ phi s es (2 * e.id + 1) = s (2 * e.id)
  | [], _, _, h => by cases h
  | a :: r, hn, e, h => by
    have hn' : ([2 * a.id, 2 * a.id + 1] ++ dts r).Nodup := hn
    obtain ⟨_, n2, n3⟩ := List.nodup_append.1 hn'
    rcases List.mem_cons.1 h with rfl | h
    · have o1 : (2 * e.id) ∉ dts r := fun hm => n3 _ (by simp) _ hm rfl
      have o2 : (2 * e.id + 1) ∉ dts r := fun hm => n3 (2 * e.id + 1) (by simp) _ hm rfl
      exact ⟨by show phi s r (sw _ _ _) = _; rw [sw_left, phi_out s o2], by show phi s r (sw _ _ _) = _; rw [sw_right, phi_out s o1]⟩
    · have hm1 : 2 * e.id ∈ dts r := List.mem_flatMap.2 ⟨e, h, by simp⟩
      have hm2 : 2 * e.id + 1 ∈ dts r := List.mem_flatMap.2 ⟨e, h, by simp⟩
      have ih := phi_in s n2 e h
      refine ⟨?_, ?_⟩
      · show phi s r (sw _ _ _) = _
        rw [sw_other (fun q => n3 (2 * a.id) (by simp) _ hm1 q.symm) (fun q => n3 (2 * a.id + 1) (by simp) _ hm1 q.symm)]
        exact ih.1
      · show phi s r (sw _ _ _) = _
        rw [sw_other (fun q => n3 (2 * a.id) (by simp) _ hm2 q.symm) (fun q => n3 (2 * a.id + 1) (by simp) _ hm2 q.symm)]
        exact ih.2
end Go.Proofs.Ytcinbmekjlmdpaa

/-! Pure: the genus of a map that may be. -/
namespace Go.Proofs.Ytcinbmekjlmdpaa
open Cyc

structure MapOk (g : Gr) (rots : List (List UInt32)) : Prop where
  may : May g
  len : rots.length = g.vs.length
  turn : ∀ i, i < g.vs.length → (rots.getD i []).length = (eds g.es (g.vs.getD i 0)).length ∧ norm (rots.getD i []) = rots.getD i [] ∧ ∀ d ∈ eds g.es (g.vs.getD i 0), d ∈ rots.getD i []

theorem two_id {i : UInt32} (h : ¬ (1048576 : UInt32) < i) : (2 * i).toNat = 2 * i.toNat ∧ (2 * i + 1).toNat = 2 * i.toNat + 1 := by
  have h1 : i.toNat ≤ 1048576 := by
    have : ¬ (1048576 : UInt32).toNat < i.toNat := fun q => h (UInt32.lt_iff_toNat_lt.2 q)
    have e : (1048576 : UInt32).toNat = 1048576 := rfl
    omega
  have e2 : (2 : UInt32).toNat = 2 := rfl
  have e1 : (1 : UInt32).toNat = 1 := rfl
  have h2 : (2 * i).toNat = 2 * i.toNat := by rw [UInt32.toNat_mul, e2]; omega
  exact ⟨h2, by rw [UInt32.toNat_add, h2, e1]; omega⟩
theorem dart_one {i j : UInt32} (hi : ¬ (1048576 : UInt32) < i) (hj : ¬ (1048576 : UInt32) < j) {x y : UInt32} (hx : x ∈ [2 * i, 2 * i + 1]) (hy : y ∈ [2 * j, 2 * j + 1]) (h : x = y) : i = j := by
  obtain ⟨a1, a2⟩ := two_id hi
  obtain ⟨b1, b2⟩ := two_id hj
  have hn := congrArg UInt32.toNat h
  refine UInt32.toNat.inj ?_
  simp only [List.mem_cons, List.not_mem_nil, or_false] at hx hy
  rcases hx with rfl | rfl <;> rcases hy with rfl | rfl <;> omega
theorem dts_nodup {g : Gr} (hM : May g) : (dts g.es).Nodup := by
  unfold dts List.Nodup
  rw [List.pairwise_flatMap]
  refine ⟨fun e _ => ?_, ?_⟩
  · simp
  · refine List.Pairwise.imp_of_mem ?_ hM.eup
    intro e f he hf hlt x hx y hy hxy
    have := dart_one (hM.er e he).2.1 (hM.er f hf).2.1 hx hy hxy
    rw [this] at hlt
    exact u32_lt_ne hlt rfl
theorem mem_eds {es : List Eg} {x d : UInt32} : d ∈ eds es x ↔ ∃ e ∈ es, (e.a = x ∧ d = 2 * e.id) ∨ (e.b = x ∧ d = 2 * e.id + 1) := by
  unfold eds
  rw [List.mem_flatMap]
  constructor
  · rintro ⟨e, he, h⟩
    refine ⟨e, he, ?_⟩
    rcases List.mem_append.1 h with h | h
    · by_cases q : e.a = x
      · rw [if_pos q] at h; exact .inl ⟨q, by simpa using h⟩
      · rw [if_neg q] at h; cases h
    · by_cases q : e.b = x
      · rw [if_pos q] at h; exact .inr ⟨q, by simpa using h⟩
      · rw [if_neg q] at h; cases h
  · rintro ⟨e, he, h⟩
    refine ⟨e, he, ?_⟩
    rcases h with ⟨q, rfl⟩ | ⟨q, rfl⟩
    · exact List.mem_append_left _ (by rw [if_pos q]; simp)
    · exact List.mem_append_right _ (by rw [if_pos q]; simp)
theorem mem_dts {es : List Eg} {d : UInt32} : d ∈ dts es ↔ ∃ e ∈ es, d ∈ [2 * e.id, 2 * e.id + 1] := List.mem_flatMap
theorem eds_sub (x : UInt32) : ∀ es : List Eg, (eds es x).Sublist (dts es)
  | [] => List.Sublist.refl _
  | e :: r => by
    show (((if e.a = x then [2 * e.id] else []) ++ (if e.b = x then [2 * e.id + 1] else [])) ++ eds r x).Sublist ([2 * e.id, 2 * e.id + 1] ++ dts r)
    refine List.Sublist.append ?_ (eds_sub x r)
    by_cases h1 : e.a = x <;> by_cases h2 : e.b = x <;> simp [h1, h2]
theorem eds_nodup {g : Gr} (hM : May g) (x : UInt32) : (eds g.es x).Nodup := (dts_nodup hM).sublist (eds_sub x g.es)
theorem edge_one {g : Gr} (hM : May g) {e f : Eg} (he : e ∈ g.es) (hf : f ∈ g.es) (h : e.id = f.id) : e = f := by
  obtain ⟨i, hi, rfl⟩ := List.getElem_of_mem he
  obtain ⟨j, hj, rfl⟩ := List.getElem_of_mem hf
  have hp := List.pairwise_iff_getElem.1 hM.eup
  rcases Nat.lt_trichotomy i j with q | q | q
  · exact absurd h (u32_lt_ne (hp i j hi hj q))
  · subst q; rfl
  · exact absurd h.symm (u32_lt_ne (hp j i hj hi q))
theorem eds_one {g : Gr} (hM : May g) {x y d : UInt32} (h1 : d ∈ eds g.es x) (h2 : d ∈ eds g.es y) : x = y := by
  obtain ⟨e, he, h1⟩ := mem_eds.1 h1
  obtain ⟨f, hf, h2⟩ := mem_eds.1 h2
  have m1 : d ∈ [2 * e.id, 2 * e.id + 1] := by rcases h1 with ⟨_, rfl⟩ | ⟨_, rfl⟩ <;> simp
  have m2 : d ∈ [2 * f.id, 2 * f.id + 1] := by rcases h2 with ⟨_, rfl⟩ | ⟨_, rfl⟩ <;> simp
  have hid := dart_one (hM.er e he).2.1 (hM.er f hf).2.1 m1 m2 rfl
  obtain rfl := edge_one hM he hf hid
  rcases h1 with ⟨q1, r1⟩ | ⟨q1, r1⟩ <;> rcases h2 with ⟨q2, r2⟩ | ⟨q2, r2⟩
  · exact q1.symm.trans q2
  · exact absurd (r1.symm.trans r2) (u32_succ _)
  · exact absurd (r2.symm.trans r1) (u32_succ _)
  · exact q1.symm.trans q2
theorem perm_of {l : List UInt32} : ∀ {m : List UInt32}, l.Nodup → (∀ x ∈ l, x ∈ m) → l.length = m.length → l.Perm m := by
  induction l with
  | nil => intro m _ _ h; rw [List.eq_nil_of_length_eq_zero h.symm]
  | cons a r ih =>
    intro m hn hs hl
    have ha := hs a List.mem_cons_self
    have hp := List.perm_cons_erase ha
    obtain ⟨n1, n2⟩ := List.nodup_cons.1 hn
    refine List.Perm.trans (List.Perm.cons a (ih n2 (fun x hx => ?_) ?_)) hp.symm
    · have := hp.mem_iff.1 (hs x (List.mem_cons_of_mem _ hx))
      rcases List.mem_cons.1 this with e | h
      · exact absurd (e ▸ hx) n1
      · exact h
    · have := hp.length_eq
      simp at this hl
      omega
theorem MapOk.perm {g : Gr} {rots : List (List UInt32)} (h : MapOk g rots) {i : Nat} (hi : i < g.vs.length) : (rots.getD i []).Perm (eds g.es (g.vs.getD i 0)) :=
  (perm_of (eds_nodup h.may _) (h.turn i hi).2.2 (h.turn i hi).1.symm).symm
theorem flat_perm (f : UInt32 → List UInt32) : ∀ (vs : List UInt32) (rots : List (List UInt32)), rots.length = vs.length → (∀ i, i < vs.length → (rots.getD i []).Perm (f (vs.getD i 0))) → rots.flatten.Perm (vs.flatMap f)
  | [], [], _, _ => List.Perm.refl _
  | v :: vs, t :: r, hl, h => by
    rw [List.flatten_cons, List.flatMap_cons]
    exact List.Perm.append (h 0 (by simp)) (flat_perm f vs r (by simpa using hl) (fun i hi => h (i + 1) (by simpa using hi)))
  | [], _ :: _, hl, _ => by simp at hl
  | _ :: _, [], hl, _ => by simp at hl
theorem ends_dts {g : Gr} (hM : May g) : (g.vs.flatMap (eds g.es)).Perm (dts g.es) := by
  have hn : (g.vs.flatMap (eds g.es)).Nodup := by
    unfold List.Nodup
    rw [List.pairwise_flatMap]
    refine ⟨fun v _ => eds_nodup hM v, hM.vup.imp ?_⟩
    intro a b hab x hx y hy hxy
    subst hxy
    exact u32_lt_ne hab (eds_one hM hx hy)
  rw [List.perm_ext_iff_of_nodup hn (dts_nodup hM)]
  intro d
  rw [List.mem_flatMap, mem_dts]
  constructor
  · rintro ⟨v, _, h⟩
    obtain ⟨e, he, h⟩ := mem_eds.1 h
    exact ⟨e, he, by rcases h with ⟨_, rfl⟩ | ⟨_, rfl⟩ <;> simp⟩
  · rintro ⟨e, he, h⟩
    have hv := hM.er e he
    simp only [List.mem_cons, List.not_mem_nil, or_false] at h
    rcases h with h | h
    · exact ⟨e.a, hv.2.2.2.1, mem_eds.2 ⟨e, he, .inl ⟨rfl, h⟩⟩⟩
    · exact ⟨e.b, hv.2.2.2.2, mem_eds.2 ⟨e, he, .inr ⟨rfl, h⟩⟩⟩
theorem MapOk.flat {g : Gr} {rots : List (List UInt32)} (h : MapOk g rots) : rots.flatten.Perm (dts g.es) :=
  (flat_perm _ _ _ h.len fun _ hi => h.perm hi).trans (ends_dts h.may)
theorem MapOk.nodup {g : Gr} {rots : List (List UInt32)} (h : MapOk g rots) : rots.flatten.Nodup := h.flat.nodup_iff.2 (dts_nodup h.may)
/-- The vertex of a dart. -/
def vt (es : List Eg) (d : UInt32) : UInt32 := es.foldr (fun e y => if d = 2 * e.id then e.a else if d = 2 * e.id + 1 then e.b else y) 0
theorem vt_mem : ∀ {es : List Eg} {d : UInt32}, d ∈ dts es → d ∈ eds es (vt es d)
  | [], d, h => by cases h
  | e :: r, d, h => by
    have h' : d ∈ [2 * e.id, 2 * e.id + 1] ++ dts r := h
    have e1 : vt (e :: r) d = if d = 2 * e.id then e.a else if d = 2 * e.id + 1 then e.b else vt r d := rfl
    rw [e1, mem_eds]
    by_cases q1 : d = 2 * e.id
    · rw [if_pos q1]; exact ⟨e, List.mem_cons_self, .inl ⟨rfl, q1⟩⟩
    · rw [if_neg q1]
      by_cases q2 : d = 2 * e.id + 1
      · rw [if_pos q2]; exact ⟨e, List.mem_cons_self, .inr ⟨rfl, q2⟩⟩
      · rw [if_neg q2]
        rcases List.mem_append.1 h' with h' | h'
        · simp at h'; rcases h' with h' | h' <;> contradiction
        · obtain ⟨f, hf, h⟩ := mem_eds.1 (vt_mem h')
          exact ⟨f, List.mem_cons_of_mem _ hf, h⟩
theorem vt_of {g : Gr} (hM : May g) {x d : UInt32} (h : d ∈ eds g.es x) : vt g.es d = x :=
  eds_one hM (vt_mem ((eds_sub x g.es).subset h)) h
theorem nxt_mem {l : List UInt32} {d : UInt32} (h : d ∈ l) : nxt l d ∈ l := by
  have := fst_lt h
  rw [nxt_lt this]
  have hlt : (fst l d + 1) % l.length < l.length := Nat.mod_lt _ (by omega)
  rw [← getD_at hlt]
  exact List.getElem_mem hlt
theorem MapOk.vert {g : Gr} {rots : List (List UInt32)} (h : MapOk g rots) {d : UInt32} (hd : d ∈ rots.flatten) : vt g.es (nx rots d) = vt g.es d := by
  obtain ⟨t, ht, hdt⟩ := List.mem_flatten.1 hd
  rw [nx_in h.nodup ht hdt]
  obtain ⟨i, hi, rfl⟩ := List.getElem_of_mem ht
  have hi' : i < g.vs.length := by rw [← h.len]; exact hi
  have hp := h.perm hi'
  have e : rots.getD i [] = rots[i] := by rw [List.getD_eq_getElem?_getD, List.getElem?_eq_getElem hi]; rfl
  rw [e] at hp
  rw [vt_of h.may (hp.mem_iff.1 hdt), vt_of h.may (hp.mem_iff.1 (nxt_mem hdt))]
theorem full_len (f : UInt32 → List UInt32) : ∀ (vs : List UInt32) (rots : List (List UInt32)), rots.length = vs.length → (∀ i, i < vs.length → (rots.getD i []).Perm (f (vs.getD i 0))) → (rots.filter fun t => !t.isEmpty).length = (vs.filter fun v => !(f v).isEmpty).length
  | [], [], _, _ => rfl
  | v :: vs, t :: r, hl, h => by
    have ih := full_len f vs r (by simpa using hl) (fun i hi => h (i + 1) (by simpa using hi))
    have h0 : t.Perm (f v) := h 0 (by simp)
    have e : t.isEmpty = (f v).isEmpty := by
      have := h0.length_eq
      cases t <;> cases hq : f v <;> rw [hq] at this <;> simp at this ⊢
    rw [List.filter_cons, List.filter_cons, e]
    split <;> simp [ih]
  | [], _ :: _, hl, _ => by simp at hl
  | _ :: _, [], hl, _ => by simp at hl
theorem count_full (p q : UInt32 → Bool) : ∀ vs : List UInt32, (∀ v ∈ vs, q v = false → p v = true) → vs.countP p = (vs.filter q).countP p + vs.countP (fun v => !q v)
  | [], _ => rfl
  | v :: vs, h => by
    have ih := count_full p q vs fun x hx => h x (List.mem_cons_of_mem _ hx)
    have h0 := h v List.mem_cons_self
    rw [List.countP_cons, List.filter_cons, List.countP_cons, ih]
    cases hq : q v
    · rw [h0 hq]; simp; omega
    · simp [List.countP_cons]; omega
theorem len_full (q : UInt32 → Bool) : ∀ vs : List UInt32, vs.length = (vs.filter q).length + vs.countP (fun v => !q v)
  | [] => rfl
  | v :: vs => by
    have ih := len_full q vs
    rw [List.filter_cons, List.countP_cons, List.length_cons, ih]
    cases hq : q v <;> simp <;> omega
theorem parts_pn (g : Gr) : (parts g).length = pn g.vs g.es := by
  unfold parts pn
  rw [List.length_map, List.countP_eq_length_filter]
theorem lone_lab {es : List Eg} {v : UInt32} (h : eds es v = []) : lab es v = v := by
  refine (lab_closed (fun x => x = v) es (fun e he => ?_) v).2 rfl
  have h1 : ¬ e.a = v := fun q => by
    have := mem_eds.2 ⟨e, he, .inl ⟨q, rfl⟩⟩
    rw [h] at this; cases this
  have h2 : ¬ e.b = v := fun q => by
    have := mem_eds.2 ⟨e, he, .inr ⟨q, rfl⟩⟩
    rw [h] at this; cases this
  exact ⟨fun q => absurd q h1, fun q => absurd q h2⟩
/-- How many faces. -/
def nfaces (g : Gr) (rots : List (List UInt32)) : Nat := (dts g.es).countP (lst (phi (nx rots) g.es) (dts g.es).length)
/-- Its cycles, and how many. -/
theorem MapOk.cycles {g : Gr} {rots : List (List UInt32)} (h : MapOk g rots) : ∃ cs t, Cs (phi (nx rots) g.es) rots.flatten cs ∧ nfaces g rots = cs.length ∧ 2 * (parts g).length + g.es.length = alone g + g.vs.length + nfaces g rots + 2 * t := by
  have hM := h.may
  have hD := h.nodup
  have hfl := full_len _ _ _ h.len fun i hi => h.perm hi
  have hin : ∀ e ∈ g.es, e.a ∈ g.vs.filter (fun v => !(eds g.es v).isEmpty) ∧ e.b ∈ g.vs.filter (fun v => !(eds g.es v).isEmpty) ∧ 2 * e.id ∈ rots.flatten ∧ 2 * e.id + 1 ∈ rots.flatten ∧ vt g.es (2 * e.id) = e.a ∧ vt g.es (2 * e.id + 1) = e.b := by
    intro e he
    have hv := hM.er e he
    have m1 : 2 * e.id ∈ eds g.es e.a := mem_eds.2 ⟨e, he, .inl ⟨rfl, rfl⟩⟩
    have m2 : 2 * e.id + 1 ∈ eds g.es e.b := mem_eds.2 ⟨e, he, .inr ⟨rfl, rfl⟩⟩
    have ne : ∀ {l : List UInt32} {x : UInt32}, x ∈ l → (!l.isEmpty) = true := fun {l x} hx => by cases l with
      | nil => cases hx
      | cons => rfl
    exact ⟨List.mem_filter.2 ⟨hv.2.2.2.1, ne m1⟩, List.mem_filter.2 ⟨hv.2.2.2.2, ne m2⟩, h.flat.mem_iff.2 ((eds_sub _ _).subset m1), h.flat.mem_iff.2 ((eds_sub _ _).subset m2), vt_of hM m1, vt_of hM m2⟩
  have hvn : (g.vs.filter (fun v => !(eds g.es v).isEmpty)).Nodup := (hM.vup.imp fun hab => u32_lt_ne hab).sublist List.filter_sublist
  obtain ⟨cs, t, hcs, hnum, _⟩ := euler (nx rots) (vt g.es) hD hvn (turns_cs hD) hfl (fun x hx => h.vert hx) g.es hin
  have hc := hcs.count hD
  have hF : nfaces g rots = cs.length := by
    unfold nfaces
    rw [← hc, ← h.flat.length_eq, h.flat.countP_eq]
  have hA : alone g = g.vs.countP (fun v => !!(eds g.es v).isEmpty) := by
    unfold alone
    congr 1
    funext v
    rw [← eds_len]
    cases eds g.es v <;> rfl
  have hP := count_full (fun v => lab g.es v == v) (fun v => !(eds g.es v).isEmpty) g.vs (fun v _ hq => by
    have : eds g.es v = [] := by simpa using hq
    rw [lone_lab this]; simp)
  have hV := len_full (fun v => !(eds g.es v).isEmpty) g.vs
  rw [← hA] at hP hV
  refine ⟨cs, t, hcs, hF, ?_⟩
  rw [parts_pn, hF]
  unfold pn at hnum ⊢
  omega
/-- Twice the genus is even, and not below 0. -/
theorem MapOk.genus {g : Gr} {rots : List (List UInt32)} (h : MapOk g rots) : ∃ t, 2 * (parts g).length + g.es.length = alone g + g.vs.length + nfaces g rots + 2 * t := by
  obtain ⟨_, t, _, _, h⟩ := h.cycles
  exact ⟨t, h⟩
end Go.Proofs.Ytcinbmekjlmdpaa

/-! Pure: the one behind a dart round its face, by its other end. -/
namespace Go.Proofs.Ytcinbmekjlmdpaa
open Cyc

/-- The document's other end. -/
def tw2 (d : UInt32) : UInt32 := if d % 2 = 0 then d + 1 else d - 1
theorem tw2_even {i : UInt32} (h : ¬ (1048576 : UInt32) < i) : tw2 (2 * i) = 2 * i + 1 := by
  refine if_pos (UInt32.toNat.inj ?_)
  rw [UInt32.toNat_mod, (two_id h).1]
  show 2 * i.toNat % 2 = 0
  omega
theorem tw2_odd {i : UInt32} (h : ¬ (1048576 : UInt32) < i) : tw2 (2 * i + 1) = 2 * i := by
  unfold tw2
  rw [if_neg (fun e => ?_)]
  · exact UInt32.add_sub_cancel _ _
  · have := congrArg UInt32.toNat e
    rw [UInt32.toNat_mod, (two_id h).2] at this
    have e0 : (0 : UInt32).toNat = 0 := rfl
    have e2 : (2 : UInt32).toNat = 2 := rfl
    rw [e0, e2] at this
    omega
theorem phi_tw (s : UInt32 → UInt32) {g : Gr} (hM : May g) {x : UInt32} (hx : x ∈ dts g.es) : phi s g.es x = s (tw2 x) := by
  obtain ⟨e, he, h⟩ := mem_dts.1 hx
  have hb := (hM.er e he).2.1
  have hp := phi_in s (dts_nodup hM) e he
  simp only [List.mem_cons, List.not_mem_nil, or_false] at h
  rcases h with rfl | rfl
  · rw [hp.1, tw2_even hb]
  · rw [hp.2, tw2_odd hb]
theorem tw2_mem {g : Gr} (hM : May g) {x : UInt32} (hx : x ∈ dts g.es) : tw2 x ∈ dts g.es := by
  obtain ⟨e, he, h⟩ := mem_dts.1 hx
  have hb := (hM.er e he).2.1
  simp only [List.mem_cons, List.not_mem_nil, or_false] at h
  rcases h with rfl | rfl
  · rw [tw2_even hb]; exact mem_dts.2 ⟨e, he, by simp⟩
  · rw [tw2_odd hb]; exact mem_dts.2 ⟨e, he, by simp⟩
theorem tw2_two {g : Gr} (hM : May g) {x : UInt32} (hx : x ∈ dts g.es) : tw2 (tw2 x) = x := by
  obtain ⟨e, he, h⟩ := mem_dts.1 hx
  have hb := (hM.er e he).2.1
  simp only [List.mem_cons, List.not_mem_nil, or_false] at h
  rcases h with rfl | rfl
  · rw [tw2_even hb, tw2_odd hb]
  · rw [tw2_odd hb, tw2_even hb]
theorem nat_xor1 (n : Nat) : n ^^^ 1 = if n % 2 = 0 then n + 1 else n - 1 := by
  have h1 : (n ^^^ 1) / 2 = n / 2 := by rw [Nat.xor_div_two]; simp
  have h2 : (n ^^^ 1) % 2 = 1 ↔ ¬ (n % 2 = 1 ↔ 1 % 2 = 1) := Nat.xor_mod_two_eq_one
  by_cases h : n % 2 = 0
  · rw [if_pos h]
    have : (n ^^^ 1) % 2 = 1 := h2.2 (by omega)
    omega
  · rw [if_neg h]
    have : ¬ (n ^^^ 1) % 2 = 1 := fun q => (h2.1 q) ⟨fun _ => rfl, fun _ => by omega⟩
    omega
/-- The program's other end is the document's. -/
theorem xor_tw2 (x : UInt32) : x ^^^ 1 = tw2 x := by
  have hlt := x.toNat_lt
  have e1 : (1 : UInt32).toNat = 1 := rfl
  have e2 : (2 : UInt32).toNat = 2 := rfl
  refine UInt32.toNat.inj ?_
  rw [UInt32.toNat_xor, e1, nat_xor1]
  unfold tw2
  by_cases h : x.toNat % 2 = 0
  · have hx : x % 2 = 0 := UInt32.toNat.inj (by rw [UInt32.toNat_mod, e2, h]; rfl)
    rw [if_pos h, if_pos hx, UInt32.toNat_add, e1]
    omega
  · have hx : ¬ x % 2 = 0 := fun q => h (by have := congrArg UInt32.toNat q; rwa [UInt32.toNat_mod, e2] at this)
    rw [if_neg h, if_neg hx, UInt32.toNat_sub, e1]
    omega
end Go.Proofs.Ytcinbmekjlmdpaa
