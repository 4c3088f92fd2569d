/- Pure: all faces, each by its least dart. -/
import Derived.Test.YtcinbmekjlmdpaaY0k
import Derived.IntWalk

/-! Pure: all faces, each by its least dart. -/
namespace Go.Proofs.Ytcinbmekjlmdpaa
open Cyc

/-- Is it the least of its face? -/
def ls (g : Gr) (rots : List (List UInt32)) (d : UInt32) : Bool := lst (fx rots) (dts g.es).length d
theorem ls_iff {g : Gr} {rots : List (List UInt32)} {d : UInt32} : ls g rots d = true ↔ ∀ y ∈ fc g rots d, d ≤ y := by
  show ((fc g rots d).all fun y => decide (d ≤ y)) = true ↔ _
  rw [List.all_eq_true]
  exact ⟨fun h y hy => of_decide_eq_true (h y hy), fun h y hy => decide_eq_true (h y hy)⟩
theorem MapOk.face_len {g : Gr} {rots : List (List UInt32)} (d : UInt32) : (fc g rots d).length ≤ (dts g.es).length := orb_le _ _ _ _
theorem MapOk.rot_face {g : Gr} {rots : List (List UInt32)} (h : MapOk g rots) {d x : UInt32} (hd : d ∈ dts g.es) (hx : x ∈ fc g rots d) : (fc g rots x).Perm (fc g rots d) := by
  obtain ⟨u, e, hc, hn, hin⟩ := h.face hd
  have hl : (fc g rots d).length ≤ (dts g.es).length := orb_le _ _ _ _
  rw [e] at hx hl ⊢
  obtain ⟨p, q, hpq⟩ := List.append_of_mem hx
  rw [hpq] at hc hn hl ⊢
  have h1 := Cy.rot p hc
  have hp : (x :: q ++ p).Perm (p ++ x :: q) := List.perm_append_comm
  have ho : orb (fx rots) x (dts g.es).length x = x :: (q ++ p) := orb_cy h1 (hp.nodup_iff.2 hn) (by have := hp.length_eq; rw [← this] at hl; exact hl)
  show (orb (fx rots) x (dts g.es).length x).Perm _
  rw [ho]
  exact hp
theorem MapOk.self {g : Gr} {rots : List (List UInt32)} (h : MapOk g rots) {d : UInt32} (hd : d ∈ dts g.es) : d ∈ fc g rots d := by
  obtain ⟨u, e, _⟩ := h.face hd
  rw [e]; exact List.mem_cons_self
theorem MapOk.face_in {g : Gr} {rots : List (List UInt32)} (h : MapOk g rots) {d x : UInt32} (hd : d ∈ dts g.es) (hx : x ∈ fc g rots d) : x ∈ dts g.es := by
  obtain ⟨u, e, _, _, hin⟩ := h.face hd
  rw [e] at hx; exact hin x hx
theorem norm_head {l : List UInt32} (h : 0 < l.length) : (norm l).getD 0 0 = mnl l := by
  have hm := mnl_mem l h
  have hlt := fst_lt hm
  have e := fst_at hm
  unfold norm
  rw [List.getD_eq_getElem?_getD, List.getElem?_append_left (by rw [List.length_drop]; omega), List.getElem?_drop, Nat.add_zero, ← List.getD_eq_getElem?_getD]
  exact e
theorem MapOk.norm_ls {g : Gr} {rots : List (List UInt32)} (h : MapOk g rots) {d : UInt32} (hd : d ∈ dts g.es) (hl : ls g rots d = true) : norm (fc g rots d) = fc g rots d ∧ (norm (fc g rots d)).getD 0 0 = d := by
  obtain ⟨u, e, _⟩ := h.face hd
  have h0 : 0 < (fc g rots d).length := by rw [e]; simp
  have hm : mnl (fc g rots d) = d := UInt32.le_antisymm (mnl_le (h.self hd)) (ls_iff.1 hl _ (mnl_mem _ h0))
  refine ⟨?_, by rw [norm_head h0, hm]⟩
  have hf : fst (fc g rots d) d = 0 := by
    rw [e]; unfold fst; rw [List.findIdx_cons]; simp
  unfold norm
  rw [hm, hf]
  simp
theorem MapOk.norm_nls {g : Gr} {rots : List (List UInt32)} (h : MapOk g rots) {d : UInt32} (hd : d ∈ dts g.es) (hl : ls g rots d = false) : ¬ (norm (fc g rots d)).getD 0 0 = d := by
  obtain ⟨u, e, _⟩ := h.face hd
  have h0 : 0 < (fc g rots d).length := by rw [e]; simp
  rw [norm_head h0]
  intro hm
  have : ls g rots d = true := ls_iff.2 fun y hy => by have := mnl_le hy; rwa [hm] at this
  rw [hl] at this
  cases this
/-- The darts rise. -/
theorem dts_up : ∀ {es : List Eg}, (∀ e ∈ es, ¬ (1048576 : UInt32) < e.id) → es.Pairwise (fun x y => x.id < y.id) → (dts es).Pairwise (· < ·)
  | [], _, _ => List.Pairwise.nil
  | e :: r, hb, hp => by
    obtain ⟨h1, h2⟩ := List.pairwise_cons.1 hp
    have ih := dts_up (es := r) (fun x hx => hb x (List.mem_cons_of_mem _ hx)) h2
    show (2 * e.id :: (2 * e.id + 1) :: dts r).Pairwise (· < ·)
    obtain ⟨t1, t2⟩ := two_id (hb e List.mem_cons_self)
    have hr : ∀ x ∈ dts r, 2 * e.id + 1 < x := by
      intro x hx
      obtain ⟨f, hf, hx⟩ := mem_dts.1 hx
      obtain ⟨s1, s2⟩ := two_id (hb f (List.mem_cons_of_mem _ hf))
      have hlt := h1 f hf
      rw [UInt32.lt_iff_toNat_lt] at hlt ⊢
      simp only [List.mem_cons, List.not_mem_nil, or_false] at hx
      rcases hx with rfl | rfl
      · rw [t2, s1]; omega
      · rw [t2, s2]; omega
    have hs : 2 * e.id < 2 * e.id + 1 := by rw [UInt32.lt_iff_toNat_lt, t1, t2]; omega
    refine List.Pairwise.cons (fun x hx => ?_) (List.Pairwise.cons hr ih)
    rcases List.mem_cons.1 hx with rfl | hx
    · exact hs
    · exact u32_lt_le hs (by have := hr x hx; rw [UInt32.lt_iff_toNat_lt] at this; rw [UInt32.le_iff_toNat_le]; omega)
theorem May.darts {g : Gr} (h : May g) : (dts g.es).Pairwise (· < ·) := dts_up (fun e he => (h.er e he).2.1) h.eup
/-- Is it in the face of one of these that are the least of theirs? -/
def sn (g : Gr) (rots : List (List UInt32)) (l : List UInt32) (x : UInt32) : Bool := l.any fun d => ls g rots d && (fc g rots d).contains x
theorem sn_nil (g : Gr) (rots : List (List UInt32)) (x : UInt32) : sn g rots [] x = false := rfl
theorem sn_iff {g : Gr} {rots : List (List UInt32)} {l : List UInt32} {x : UInt32} : sn g rots l x = true ↔ ∃ d ∈ l, ls g rots d = true ∧ x ∈ fc g rots d := by
  unfold sn
  rw [List.any_eq_true]
  constructor
  · rintro ⟨d, h1, h2⟩
    rw [Bool.and_eq_true, List.contains_iff_mem] at h2
    exact ⟨d, h1, h2⟩
  · rintro ⟨d, h1, h2⟩
    exact ⟨d, h1, by rw [Bool.and_eq_true, List.contains_iff_mem]; exact h2⟩
theorem sn_succ (g : Gr) (rots : List (List UInt32)) {l : List UInt32} {k : Nat} (hk : k < l.length) (x : UInt32) : sn g rots (l.take (k + 1)) x = (sn g rots (l.take k) x || (ls g rots (l.getD k 0) && (fc g rots (l.getD k 0)).contains x)) := by
  unfold sn
  rw [take_at hk, List.any_append, List.any_cons, List.any_nil, Bool.or_false]
theorem MapOk.sn_at {g : Gr} {rots : List (List UInt32)} (h : MapOk g rots) {k : Nat} (hk : k < (dts g.es).length) : sn g rots ((dts g.es).take k) ((dts g.es).getD k 0) = !ls g rots ((dts g.es).getD k 0) := by
  have hup := h.may.darts
  have hd : (dts g.es).getD k 0 ∈ dts g.es := by rw [← getD_at hk]; exact List.getElem_mem hk
  cases hl : ls g rots ((dts g.es).getD k 0) with
  | true =>
    rw [Bool.not_true, Bool.eq_false_iff]
    intro hs
    obtain ⟨y, hy, _, hx⟩ := sn_iff.1 hs
    have hyd := List.mem_of_mem_take hy
    have hlt := take_lt hup hk hy
    have hp := h.rot_face hyd hx
    have := ls_iff.1 hl y (hp.mem_iff.2 (h.self hyd))
    rw [UInt32.lt_iff_toNat_lt] at hlt
    rw [UInt32.le_iff_toNat_le] at this
    omega
  | false =>
    rw [Bool.not_false]
    have h0 : 0 < (fc g rots ((dts g.es).getD k 0)).length := List.length_pos_of_mem (h.self hd)
    have hm := mnl_mem _ h0
    have hmd := h.face_in hd hm
    have hne : ¬ mnl (fc g rots ((dts g.es).getD k 0)) = (dts g.es).getD k 0 := by
      rw [← norm_head h0]; exact h.norm_nls hd hl
    have hle := mnl_le (h.self hd)
    have hlt : mnl (fc g rots ((dts g.es).getD k 0)) < (dts g.es).getD k 0 := by
      rw [UInt32.le_iff_toNat_le] at hle
      rw [UInt32.lt_iff_toNat_lt]
      have : ¬ (mnl (fc g rots ((dts g.es).getD k 0))).toNat = ((dts g.es).getD k 0).toNat := fun q => hne (UInt32.toNat.inj q)
      omega
    have hp := h.rot_face hd hm
    exact sn_iff.2 ⟨_, mem_take_of_lt hup hk hmd hlt, ls_iff.2 fun y hy => mnl_le (hp.mem_iff.1 hy), hp.mem_iff.2 (h.self hd)⟩
/-- Of a face whose least dart is asked for none was seen. -/
theorem MapOk.sn_face {g : Gr} {rots : List (List UInt32)} (h : MapOk g rots) {k : Nat} (hk : k < (dts g.es).length) (hl : ls g rots ((dts g.es).getD k 0) = true) {x : UInt32} (hx : x ∈ fc g rots ((dts g.es).getD k 0)) : sn g rots ((dts g.es).take k) x = false := by
  have hd : (dts g.es).getD k 0 ∈ dts g.es := by rw [← getD_at hk]; exact List.getElem_mem hk
  rw [Bool.eq_false_iff]
  intro hs
  obtain ⟨y, hy, hy1, hy2⟩ := sn_iff.1 hs
  have h1 := h.rot_face (List.mem_of_mem_take hy) hy2
  have h2 := h.rot_face hd hx
  have : sn g rots ((dts g.es).take k) ((dts g.es).getD k 0) = true := sn_iff.2 ⟨y, hy, hy1, h1.mem_iff.1 (h2.mem_iff.2 (h.self hd))⟩
  rw [h.sn_at hk, hl] at this
  cases this
/-- The faces of the first so many darts. -/
def fcs (g : Gr) (rots : List (List UInt32)) (l : List UInt32) : List (List UInt32) := (l.filter (ls g rots)).map (fc g rots)
theorem fcs_yes (g : Gr) (rots : List (List UInt32)) {l : List UInt32} {k : Nat} (hk : k < l.length) (h : ls g rots (l.getD k 0) = true) : fcs g rots (l.take (k + 1)) = fcs g rots (l.take k) ++ [fc g rots (l.getD k 0)] := by
  unfold fcs
  rw [take_at hk, List.filter_append, List.map_append, List.filter_cons_of_pos h]
  rfl
theorem fcs_no (g : Gr) (rots : List (List UInt32)) {l : List UInt32} {k : Nat} (hk : k < l.length) (h : ls g rots (l.getD k 0) = false) : fcs g rots (l.take (k + 1)) = fcs g rots (l.take k) := by
  unfold fcs
  rw [take_at hk, List.filter_append, List.map_append, List.filter_cons_of_neg (by rw [h]; simp)]
  simp
/-- All faces. -/
def allf (g : Gr) (rots : List (List UInt32)) : List (List UInt32) := fcs g rots (dts g.es)
theorem fcs_len (g : Gr) (rots : List (List UInt32)) (l : List UInt32) : (fcs g rots l).length ≤ l.length := by
  unfold fcs; rw [List.length_map]; exact List.length_filter_le _ _
theorem MapOk.faces_len {g : Gr} {rots : List (List UInt32)} (h : MapOk g rots) : (allf g rots).length = nfaces g rots := by
  obtain ⟨cs, hcs, hn⟩ := h.faces
  rw [hn, ← hcs.count (dts_nodup h.may)]
  unfold allf fcs
  rw [List.length_map, ← List.countP_eq_length_filter]
  rfl
theorem filter_one {p : UInt32 → Bool} : ∀ {l : List UInt32}, l.countP p = 1 → ∃ m ∈ l, l.filter p = [m] := by
  intro l h
  rw [List.countP_eq_length_filter] at h
  obtain ⟨m, hm⟩ := List.length_eq_one_iff.1 h
  exact ⟨m, (List.mem_filter.1 (by rw [hm]; exact List.mem_singleton_self _)).1, hm⟩
theorem len_sum {f : UInt32 → UInt32} {n : Nat} : ∀ {cs : List (List UInt32)}, (∀ c ∈ cs, Cy f c ∧ c.length ≤ n) → cs.flatten.Nodup → ((cs.flatten.filter (lst f n)).map (fun x => (orb f x n x).length)).sum = cs.flatten.length
  | [], _, _ => rfl
  | c :: r, h, hn => by
    rw [List.flatten_cons] at hn ⊢
    obtain ⟨n1, n2, _⟩ := List.nodup_append.1 hn
    obtain ⟨h1, h2⟩ := h c List.mem_cons_self
    have ih := len_sum (f := f) (n := n) (cs := r) (fun x hx => h x (List.mem_cons_of_mem _ hx)) n2
    rw [List.filter_append, List.map_append, List.sum_append, ih, List.length_append]
    have h3 : c.filter (lst f n) = c.filter (fun x => c.all fun y => decide (x ≤ y)) := List.filter_congr fun x hx => lst_in h1 n1 h2 hx
    obtain ⟨m, hm, hf⟩ := filter_one (one_least n1 h1.1)
    rw [h3, hf]
    obtain ⟨p, q, rfl⟩ := List.append_of_mem hm
    have k1 := Cy.rot p h1
    have hp : (m :: q ++ p).Perm (p ++ m :: q) := List.perm_append_comm
    have ho : orb f m n m = m :: (q ++ p) := orb_cy k1 (hp.nodup_iff.2 n1) (by have := hp.length_eq; rw [← this] at h2; exact h2)
    have hl := hp.length_eq
    simp only [List.map_cons, List.map_nil, List.sum_cons, List.sum_nil, ho]
    have e : (m :: (q ++ p)).length = (m :: q ++ p).length := rfl
    rw [e, hl]
    omega
/-- Each dart is in one face. -/
theorem MapOk.sum {g : Gr} {rots : List (List UInt32)} (h : MapOk g rots) : ((allf g rots).map List.length).sum = 2 * g.es.length := by
  obtain ⟨cs, hcs, _⟩ := h.faces
  have hn := dts_nodup h.may
  have h1 := len_sum (f := fx rots) (n := (dts g.es).length) (cs := cs) (fun c hc => ⟨hcs.1 c hc, by rw [← hcs.2.length_eq]; exact (List.sublist_flatten_of_mem hc).length_le⟩) (hcs.2.nodup_iff.2 hn)
  have h2 := dts_len g.es
  rw [hcs.2.length_eq] at h1
  rw [← h2, ← h1]
  unfold allf fcs
  rw [List.map_map]
  exact (((hcs.2.filter (lst (fx rots) (dts g.es).length)).map (fun x => (orb (fx rots) x (dts g.es).length x).length)).symm).sum_nat
end Go.Proofs.Ytcinbmekjlmdpaa

/-! rot.roundOf. -/
namespace Go.Proofs.Ytcinbmekjlmdpaa
open Go.RowKit

/-- What stands behind a dart round its face, as far as these darts were gone through. -/
def bh (rots : List (List UInt32)) (l : List UInt32) (x : UInt32) : Option Value := if tw2 x ∈ l then some (V (nx rots (tw2 x))) else none
theorem tw2_back (x : UInt32) : tw2 (tw2 x) = x := by rw [← xor_tw2, ← xor_tw2]; exact xor_back x
theorem bh_nil (rots : List (List UInt32)) : bh rots [] = fun _ => none := by funext x; exact if_neg (by simp)
theorem bh_put (rots : List (List UInt32)) (l : List UInt32) (d : UInt32) : (fun y => if y = d ^^^ 1 then some (V (nx rots d)) else bh rots l y) = bh rots (l ++ [d]) := by
  funext y
  unfold bh
  by_cases h : y = d ^^^ 1
  · rw [if_pos h, h, xor_tw2, tw2_back, if_pos (by simp)]
  · rw [if_neg h]
    have hne : ¬ tw2 y = d := fun e => h (by rw [xor_tw2, ← e, tw2_back])
    by_cases q : tw2 y ∈ l
    · rw [if_pos q, if_pos (List.mem_append_left _ q)]
    · rw [if_neg q, if_neg (fun m => by
        rcases List.mem_append.1 m with m | m
        · exact q m
        · exact hne (List.mem_singleton.1 m))]
/-- The darts gone through. -/
def gone (rots : List (List UInt32)) (i j : Nat) : List UInt32 := (rots.take i).flatten ++ (rots.getD i []).take j
theorem getR_at {rots : List (List UInt32)} {i : Nat} (h : i < rots.length) : rots[i] = rots.getD i [] := by rw [List.getD_eq_getElem?_getD, List.getElem?_eq_getElem h, Option.getD_some]
theorem gone_step (rots : List (List UInt32)) (i j : Nat) (hj : j < (rots.getD i []).length) : gone rots i (j + 1) = gone rots i j ++ [(rots.getD i []).getD j 0] := by
  unfold gone; rw [take_at hj, List.append_assoc]
theorem gone_next (rots : List (List UInt32)) (i : Nat) (hi : i < rots.length) : gone rots (i + 1) 0 = gone rots i (rots.getD i []).length := by
  unfold gone
  rw [List.take_zero, List.append_nil, List.take_length, List.take_succ_eq_append_getElem hi, List.flatten_append, getR_at hi]
  simp
theorem gone_all (rots : List (List UInt32)) : gone rots rots.length 0 = rots.flatten := by unfold gone; rw [List.take_length]; simp
theorem gone_le (rots : List (List UInt32)) (i j : Nat) (hi : i < rots.length) : (gone rots i j).length ≤ rots.flatten.length := by
  have h1 : rots.flatten = (rots.take i).flatten ++ ((rots.getD i []) ++ (rots.drop (i + 1)).flatten) := by
    conv => lhs; rw [← List.take_append_drop i rots]
    rw [List.flatten_append, List.drop_eq_getElem_cons hi, List.flatten_cons, getR_at hi]
  rw [h1]; unfold gone
  simp only [List.length_append, List.length_take]
  omega
theorem MapOk.nx_row {g : Gr} {rots : List (List UInt32)} (h : MapOk g rots) {i j : Nat} (hi : i < rots.length) (hj : j < (rots.getD i []).length) : nx rots ((rots.getD i []).getD j 0) = (rots.getD i []).getD ((j + 1) % (rots.getD i []).length) 0 := by
  have hm : rots.getD i [] ∈ rots := by rw [← getR_at hi]; exact List.getElem_mem hi
  have hd : (rots.getD i []).getD j 0 ∈ rots.getD i [] := by rw [← getD_at hj]; exact List.getElem_mem hj
  rw [nx_in h.nodup hm hd]
  have hn : (rots.getD i []).Nodup := by
    obtain ⟨p, q, e⟩ := List.append_of_mem hm
    have := h.nodup
    rw [e, List.flatten_append, List.flatten_cons] at this
    exact (List.nodup_append.1 (List.nodup_append.1 this).2.1).1
  have hf : fst (rots.getD i []) ((rots.getD i []).getD j 0) = j := by rw [← getD_at hj]; exact fst_nodup hn hj
  rw [nxt_lt (by rw [hf]; exact hj), hf]
theorem MapOk.count {g : Gr} {rots : List (List UInt32)} (h : MapOk g rots) : rots.flatten.length ≤ 320 := by
  rw [h.flat.length_eq, dts_len]; have := h.may.ne; omega
theorem zero78 (w : World) : (zeroValue 50).run Try.prog w = .ok (.agg #[.map none, .map none]) w := by kernel_rfl
attribute [local irreducible] V
attribute [local irreducible] wpList in
set_option maxRecDepth 100000 in
set_option maxHeartbeats 4000000 in
/-- rot.roundOf. -/
theorem round_walk (w : World) (v : Value) (g : Gr) (rots : List (List UInt32)) (h : RM w v g rots) (hM : MapOk g rots) :
    Calls Try.prog 18 #[v] w fun e w' => ∃ n, e = .returned (.agg #[.map (some (w.heap.size + 2)), .map (some (w.heap.size + 3))]) ∧ Mu w' (w.heap.size + 2) n (bh rots rots.flatten) ∧ Mu w' (w.heap.size + 3) 0 (fun _ => none) ∧ Below w.heap.size w w' := by
  obtain ⟨A, c, B, d, C, ce, rfl, hg, hr⟩ := h
  have HOK := Lib.hid hM
  have hz := zero78
  have hmm := @run_makeMap Try.prog
  have hcnt := hM.count
  have hrl : rots.length ≤ 1000 := by rw [hM.len]; have := hM.may.nv; omega
  have HR := Lib.hid hr
  clear hg hr hM
  go_enter Try.func18, Try.ntmps18
  go_wp2
  have HB4 : Hid (Below w.heap.size w (((((w.alloc (.cells #[.slice A g.vs.length c, .slice B g.es.length d, .slice C rots.length ce] 32)).alloc (.cells #[.map none, .map none] 50)).alloc (.map #[] 0)).alloc (.map #[] 0)).alloc (.cells #[.map (some (w.heap.size + 1 + 1)), .map (some (w.heap.size + 1 + 1 + 1))] 50))) := ((((((Below.refl _ w).alloc (Nat.le_refl _) _).alloc (by simp) _).alloc (by simp; omega) _).alloc (by simp; omega) _).alloc (by simp; omega) _)
  have HM4 : Hid (Mu (((((w.alloc (.cells #[.slice A g.vs.length c, .slice B g.es.length d, .slice C rots.length ce] 32)).alloc (.cells #[.map none, .map none] 50)).alloc (.map #[] 0)).alloc (.map #[] 0)).alloc (.cells #[.map (some (w.heap.size + 1 + 1)), .map (some (w.heap.size + 1 + 1 + 1))] 50)) (w.heap.size + 1 + 1) 0 (bh rots (gone rots 0 0))) := by
    have h0 : Mu (((w.alloc (.cells #[.slice A g.vs.length c, .slice B g.es.length d, .slice C rots.length ce] 32)).alloc (.cells #[.map none, .map none] 50)).alloc (.map #[] 0)) (w.heap.size + 1 + 1) 0 (fun _ => none) := by
      have := Mu.empty ((w.alloc (.cells #[.slice A g.vs.length c, .slice B g.es.length d, .slice C rots.length ce] 32)).alloc (.cells #[.map none, .map none] 50))
      simpa using this
    have h1 := h0.kept (Below.heap_alloc (((w.alloc (.cells #[.slice A g.vs.length c, .slice B g.es.length d, .slice C rots.length ce] 32)).alloc (.cells #[.map none, .map none] 50)).alloc (.map #[] 0)) (.map #[] 0) _ h0.lt)
    have h2 := h1.kept (Below.heap_alloc ((((w.alloc (.cells #[.slice A g.vs.length c, .slice B g.es.length d, .slice C rots.length ce] 32)).alloc (.cells #[.map none, .map none] 50)).alloc (.map #[] 0)).alloc (.map #[] 0)) (.cells #[.map (some (w.heap.size + 1 + 1)), .map (some (w.heap.size + 1 + 1 + 1))] 50) _ h1.lt)
    have e : gone rots 0 0 = [] := by unfold gone; simp
    rw [e, bh_nil]
    exact h2
  have HM5 : Hid (Mu (((((w.alloc (.cells #[.slice A g.vs.length c, .slice B g.es.length d, .slice C rots.length ce] 32)).alloc (.cells #[.map none, .map none] 50)).alloc (.map #[] 0)).alloc (.map #[] 0)).alloc (.cells #[.map (some (w.heap.size + 1 + 1)), .map (some (w.heap.size + 1 + 1 + 1))] 50)) (w.heap.size + 1 + 1 + 1) 0 (fun _ => none)) := by
    have h0 : Mu ((((w.alloc (.cells #[.slice A g.vs.length c, .slice B g.es.length d, .slice C rots.length ce] 32)).alloc (.cells #[.map none, .map none] 50)).alloc (.map #[] 0)).alloc (.map #[] 0)) (w.heap.size + 1 + 1 + 1) 0 (fun _ => none) := by
      have := Mu.empty (((w.alloc (.cells #[.slice A g.vs.length c, .slice B g.es.length d, .slice C rots.length ce] 32)).alloc (.cells #[.map none, .map none] 50)).alloc (.map #[] 0))
      simpa using this
    exact h0.kept (Below.heap_alloc ((((w.alloc (.cells #[.slice A g.vs.length c, .slice B g.es.length d, .slice C rots.length ce] 32)).alloc (.cells #[.map none, .map none] 50)).alloc (.map #[] 0)).alloc (.map #[] 0)) (.cells #[.map (some (w.heap.size + 1 + 1)), .map (some (w.heap.size + 1 + 1 + 1))] 50) _ h0.lt)
  have HK4 : Hid (Blk (((((w.alloc (.cells #[.slice A g.vs.length c, .slice B g.es.length d, .slice C rots.length ce] 32)).alloc (.cells #[.map none, .map none] 50)).alloc (.map #[] 0)).alloc (.map #[] 0)).alloc (.cells #[.map (some (w.heap.size + 1 + 1)), .map (some (w.heap.size + 1 + 1 + 1))] 50)) (w.heap.size + 1 + 1 + 1 + 1) 50 #[.map (some (w.heap.size + 1 + 1)), .map (some (w.heap.size + 1 + 1 + 1))]) := by
    show Blk _ _ _ _
    have := Blk.fresh ((((w.alloc (.cells #[.slice A g.vs.length c, .slice B g.es.length d, .slice C rots.length ce] 32)).alloc (.cells #[.map none, .map none] 50)).alloc (.map #[] 0)).alloc (.map #[] 0)) 50 #[.map (some (w.heap.size + 1 + 1)), .map (some (w.heap.size + 1 + 1 + 1))]
    simpa using this
  have HR4 : Hid (Blk (((((w.alloc (.cells #[.slice A g.vs.length c, .slice B g.es.length d, .slice C rots.length ce] 32)).alloc (.cells #[.map none, .map none] 50)).alloc (.map #[] 0)).alloc (.map #[] 0)).alloc (.cells #[.map (some (w.heap.size + 1 + 1)), .map (some (w.heap.size + 1 + 1 + 1))] 50)) (w.heap.size + 1) 50 #[.map none, .map none]) := by
    show Blk _ _ _ _
    have := (((Blk.fresh (w.alloc (.cells #[.slice A g.vs.length c, .slice B g.es.length d, .slice C rots.length ce] 32)) 50 #[.map none, .map none]).more (.map #[] 0)).more (.map #[] 0)).more (.cells #[.map (some (w.heap.size + 1 + 1)), .map (some (w.heap.size + 1 + 1 + 1))] 50)
    simpa using this
  have HRR := Lib.hid (HR.out.kept HB4.out)
  generalize hw4 : ((((w.alloc (.cells #[.slice A g.vs.length c, .slice B g.es.length d, .slice C rots.length ce] 32)).alloc (.cells #[.map none, .map none] 50)).alloc (.map #[] 0)).alloc (.map #[] 0)).alloc (.cells #[.map (some (w.heap.size + 1 + 1)), .map (some (w.heap.size + 1 + 1 + 1))] 50) = w4 at *
  clear hw4
  go_loopw [14] (fun i wr => ∃ (k : Nat), k ≤ rots.length ∧ i = .int .i64 k ∧ Mu wr (w.heap.size + 1 + 1) (gone rots k 0).length (bh rots (gone rots k 0)) ∧ Ex (w.heap.size + 1 + 1) w4 wr) (fun i _ => rots.length - (intOf i).toNat)
  case atStart => exact ⟨0, Nat.zero_le _, rfl, by have e : gone rots 0 0 = [] := by unfold gone; simp
                                                   have := HM4.out
                                                   rw [e] at this ⊢
                                                   exact this, Ex.refl _ _⟩
  case round =>
    obtain ⟨k, hk, rfl, hmu, hex⟩ := hrel
    have HMU := Lib.hid hmu
    have HEX := Lib.hid hex
    clear hmu hex
    by_cases hlt : k < rots.length
    · have HBW : Hid (Below w.heap.size w wr) := Ex.below HB4.out HEX.out (by omega) HB4.out.size
      obtain ⟨_, _, q3, _, z3⟩ := HR.out
      injection q3 with q3 q3a q3b
      subst q3 q3b
      obtain ⟨b3, o3, rfl, hb3, h3⟩ := z3 (by omega)
      obtain ⟨u5, hc5, hr5⟩ := h3 k hlt
      have hcell : wr.cell? ⟨b3, o3 + k, none⟩ = some u5 := (HBW.out.cell (p := ⟨b3, o3 + k, none⟩) hb3).trans hc5
      obtain ⟨A5, c5, rfl, _, hd5⟩ := hr5
      have HD5 := Lib.hid hd5
      have hl5 := hd5.len
      have HNX := Lib.hid (fun j hj => HOK.out.nx_row (j := j) hlt hj)
      have HG0 := Lib.hid (gone_next rots k hlt)
      have HGS := Lib.hid (fun j hj => gone_step rots k j hj)
      have HGL := Lib.hid (fun j => gone_le rots k j hlt)
      clear z3 h3 hc5 hd5
      generalize rots.getD k [] = row at *
      go_wp2
      clear hcell
      obtain ⟨wo, hwo⟩ : ∃ wo : World, wo = wr := ⟨_, rfl⟩
      subst hwo
      go_loopw [20] (fun i wr => ∃ (j : Nat), j ≤ row.length ∧ i = .int .i64 j ∧ Mu wr (w.heap.size + 1 + 1) (gone rots k j).length (bh rots (gone rots k j)) ∧ Ex (w.heap.size + 1 + 1) w4 wr) (fun i _ => row.length - (intOf i).toNat)
      case atStart => exact ⟨0, Nat.zero_le _, rfl, HMU.out, HEX.out⟩
      case round =>
        obtain ⟨j, hj, rfl, hmu, hex⟩ := hrel
        have HMU2 := Lib.hid hmu
        have HEX2 := Lib.hid hex
        have HBW2 : Hid (Below w.heap.size w wr) := Ex.below HB4.out hex (by omega) HB4.out.size
        by_cases hjt : j < row.length
        · obtain ⟨b5, o5, rfl, hb5, hc5⟩ := HD5.out.place (by omega)
          have hq : (j + 1) % row.length < row.length := Nat.mod_lt _ (by omega)
          have c1 := hc5 j hjt
          have c2 := hc5 _ hq
          rw [getD_at hjt] at c1
          rw [getD_at hq] at c2
          have hnx := HNX.out j hjt
          rw [← hnx] at c2
          have hgl := HGL.out j
          have HPUT := Lib.hid (bh_put rots (gone rots k j) (row.getD j 0))
          have HGSJ := Lib.hid (HGS.out j hjt)
          have HMD : Hid (Mu wr.drew (w.heap.size + 1 + 1) (gone rots k j).length (bh rots (gone rots k j))) := hmu.kept rfl
          have k1 : wr.cell? ⟨b5, o5 + j, none⟩ = some (V (row.getD j 0)) := (HBW2.out.cell (p := ⟨b5, o5 + j, none⟩) hb5).trans c1
          have HK2 := Lib.hid (hex.blk HK4.out (by omega))
          have k2 : wr.drew.cell? ⟨b5, o5 + (j + 1) % row.length, none⟩ = some (V (nx rots (row.getD j 0))) := (HBW2.out.cell (p := ⟨b5, o5 + (j + 1) % row.length, none⟩) hb5).trans c2
          clear hmu hex hc5 c1 c2 hnx
          generalize row.getD j 0 = x at *
          obtain ⟨w5, hr5, hm5, hx5, hs5⟩ := HMD.out.put 47 30 rfl (by unfold maxLen; omega) (x ^^^ 1) (V (nx rots x))
          have HM5' := Lib.hid hm5
          have HX5 := Lib.hid hx5
          have HE5 : Hid (Ex (w.heap.size + 1 + 1) w4 w5) := (HEX2.out.trans (Ex.drew _ wr)).trans hx5
          have HB5 : Hid (Below w.heap.size w w5) := Ex.below HB4.out HE5.out (by omega) HB4.out.size
          have S0 : Hid (wr.drew.cell? ⟨w.heap.size + 1 + 1 + 1 + 1, 0, none⟩ = some (.map (some (w.heap.size + 1 + 1))) ∧ wr.drew.cell? ⟨b5, o5 + (j + 1) % row.length, none⟩ = some (V (nx rots x))) := ⟨HK2.out.cell 0, k2⟩
          have S1 : Hid (w5.cell? ⟨w.heap.size + 1 + 1 + 1 + 1, 0, none⟩ = some (.map (some (w.heap.size + 1 + 1))) ∧ w5.cell? ⟨b5, o5 + (j + 1) % row.length, none⟩ = some (V (nx rots x))) := ⟨(HE5.out.blk HK4.out (by omega)).cell 0, by
            have h1 := HB5.out.cell (p := ⟨b5, o5 + (j + 1) % row.length, none⟩) hb5
            have h2 := HBW2.out.cell (p := ⟨b5, o5 + (j + 1) % row.length, none⟩) hb5
            rw [h1, ← h2]; exact k2⟩
          have hrem : ((j : Int) + 1).tmod (row.length : Int) = (((j + 1) % row.length : Nat) : Int) := rem_nat (j + 1) row.length
          have hl0 : ¬ ((row.length : Int) = 0) := by omega
          have hq0 : (0 : Int) ≤ (((j + 1) % row.length : Nat) : Int) := by omega
          have hq1 : (((j + 1) % row.length : Nat) : Int) < (row.length : Int) := by omega
          have hl1 : ¬ row = [] := fun e => by rw [e] at hjt; simp at hjt
          have hwq : IntKind.i64.wrap (((j + 1) % row.length : Nat) : Int) = (((j + 1) % row.length : Nat) : Int) := IntWalk.i64_in _ (by omega)
          have hwr : IntKind.i64.wrap ((j : Int) + 1) = (j : Int) + 1 := IntWalk.i64_in _ (by omega)
          clear hm5 hx5 hs5 k2 hgl
          generalize nx rots x = y at *
          generalize (j + 1) % row.length = q at *
          go_wp2
          go_region_held3 (fun W => W.cell? ⟨w.heap.size + 1 + 1 + 1 + 1, 0, none⟩ = some (.map (some (w.heap.size + 1 + 1))) ∧ W.cell? ⟨b5, o5 + q, none⟩ = some (V y)) (first | exact S0.out | exact S1.out) (first
            | (go_at_call 32; refine (twin_rv _ _).mono ?_; rintro e w' ⟨rfl, rfl⟩))
          all_goals
            clear hwq hl1 hrem hl0 hq0 hq1 hwr S0 S1 hr5 k1
            go_wp2
            go_roundw
            case rel =>
              refine ⟨j + 1, by omega, by go_num, ?_, HE5.out⟩
              rw [HGSJ.out, ← HPUT.out, List.length_append]
              exact HM5'.out
            case measure => simp [intOf]; omega
        · obtain rfl : j = row.length := by omega
          go_wp2
          go_roundw
          case rel =>
            refine ⟨k + 1, by omega, by go_num, ?_, HEX2.out⟩
            rw [HG0.out]
            exact HMU2.out
          case measure => simp [intOf]; omega
    · obtain rfl : k = rots.length := by omega
      have HKr := Lib.hid (HEX.out.blk HK4.out (by omega))
      have HRr := Lib.hid (HEX.out.blk HR4.out (by omega))
      have k0 := HKr.out.cell 0
      have k1 := HKr.out.cell 1
      have z0 := HRr.out.cell 0
      have z1 := HRr.out.cell 1
      have t0 := HRr.out.thaw 0
      have t1 := HRr.out.thaw 1
      have HW : Hid (Blk ((wr.setCell ⟨w.heap.size + 1, 0, none⟩ (.map (some (w.heap.size + 1 + 1)))).setCell ⟨w.heap.size + 1, 1, none⟩ (.map (some (w.heap.size + 1 + 1 + 1)))) (w.heap.size + 1) 50 #[.map (some (w.heap.size + 1 + 1)), .map (some (w.heap.size + 1 + 1 + 1))]) := (HRr.out.put 0 _).put 1 _
      have g0 := HW.out.cell 0
      have g1 := HW.out.cell 1
      have HWM : Hid (Mu ((wr.setCell ⟨w.heap.size + 1, 0, none⟩ (.map (some (w.heap.size + 1 + 1)))).setCell ⟨w.heap.size + 1, 1, none⟩ (.map (some (w.heap.size + 1 + 1 + 1)))) (w.heap.size + 1 + 1) rots.flatten.length (bh rots rots.flatten)) := by
        have := HMU.out
        rw [gone_all] at this
        exact (this.kept (heap_setCell_other wr _ _ _ (by show w.heap.size + 1 + 1 ≠ w.heap.size + 1; omega))).kept (heap_setCell_other _ _ _ _ (by show w.heap.size + 1 + 1 ≠ w.heap.size + 1; omega))
      have HWN : Hid (Mu ((wr.setCell ⟨w.heap.size + 1, 0, none⟩ (.map (some (w.heap.size + 1 + 1)))).setCell ⟨w.heap.size + 1, 1, none⟩ (.map (some (w.heap.size + 1 + 1 + 1)))) (w.heap.size + 1 + 1 + 1) 0 (fun _ => none)) :=
        ((HM5.out.kept (HEX.out.block _ HM5.out.lt (by omega))).kept (heap_setCell_other wr _ _ _ (by show w.heap.size + 1 + 1 + 1 ≠ w.heap.size + 1; omega))).kept (heap_setCell_other _ _ _ _ (by show w.heap.size + 1 + 1 + 1 ≠ w.heap.size + 1; omega))
      have HWB : Hid (Below w.heap.size w ((wr.setCell ⟨w.heap.size + 1, 0, none⟩ (.map (some (w.heap.size + 1 + 1)))).setCell ⟨w.heap.size + 1, 1, none⟩ (.map (some (w.heap.size + 1 + 1 + 1))))) := RBelow.set (RBelow.set (Ex.below HB4.out HEX.out (by omega) HB4.out.size) 0 (by omega) _) 1 (by omega) _
      go_wp2
      exact bodyPost_ret (v := .agg #[.map (some (w.heap.size + 1 + 1)), .map (some (w.heap.size + 1 + 1 + 1))]) (by simp [results, Try.results18, go_sem, g0, g1]) rfl ⟨_, rfl, HWM.out, HWN.out, HWB.out⟩
end Go.Proofs.Ytcinbmekjlmdpaa
