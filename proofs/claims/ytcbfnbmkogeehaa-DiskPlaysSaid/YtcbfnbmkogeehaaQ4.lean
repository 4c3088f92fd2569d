/- The document's disk: a crash. -/
import Derived.Test.YtcbfnbmkogeehaaQ3
namespace Go.Proofs.Ytcbfnbmkogeehaa
open Go.RowKit

/-- The document's disk amid a crash: behind the sectors of p. -/
structure Mid (s : Dk) (n : Nat) (p : List Nat) (la sh : List (List UInt8)) (wt : List Bool) : Prop where
  ll : la.length = n
  bl : ∀ b ∈ la, b.length = 512
  sl : sh.length = n
  bs : ∀ b ∈ sh, b.length = 512
  wl : wt.length = n
  shows : ∀ i, i < n → sh[i]? = if i ∈ p then la[i]? else s.shown[i]?
  waits : ∀ i, i < n → wt[i]? = if i ∈ p then some false else s.waits[i]?
theorem Mid.step {s : Dk} {n : Nat} {p : List Nat} {la sh la' : List (List UInt8)} {wt : List Bool} (h : Mid s n p la sh wt) {x : Nat} (hx : x < n) {c : List UInt8} (hc : c.length = 512)
    (h1 : la'.length = n) (h2 : ∀ b ∈ la', b.length = 512) (h3 : ∀ i, i ≠ x → la'[i]? = la[i]?) (h4 : la'[x]? = some c) : Mid s n (p ++ [x]) la' (sh.set x c) (wt.set x false) := by
  refine ⟨h1, h2, by rw [List.length_set]; exact h.sl, fun b hb => ?_, by rw [List.length_set]; exact h.wl, fun i hi => ?_, fun i hi => ?_⟩
  · rcases List.mem_or_eq_of_mem_set hb with h5 | h5
    · exact h.bs b h5
    · rw [h5]; exact hc
  · by_cases e : i = x
    · subst e
      rw [List.getElem?_set_self (by rw [h.sl]; exact hi), if_pos (by simp), h4]
    · rw [List.getElem?_set_ne (fun h => e h.symm), h.shows i hi, h3 i e]
      simp [e]
  · by_cases e : i = x
    · subst e
      rw [List.getElem?_set_self (by rw [h.wl]; exact hi), if_pos (by simp)]
    · rw [List.getElem?_set_ne (fun h => e h.symm), h.waits i hi]
      simp [e]
theorem Mid.last {s : Dk} {n : Nat} {l : List Nat} {la sh : List (List UInt8)} {wt : List Bool} (h : Mid s n l la sh wt) (ho : s.Ok) (hn : s.last.length = n) (hl : ∀ i, i ∈ l ↔ s.waits[i]? = some true) (S : List Nat) (hS : ∀ i ∈ S, i ∈ l)
    (hla : la = fold s S s.last) : sh = la ∧ wt = List.replicate n false := by
  have hw : ∀ i, i < n → i ∉ l → s.waits[i]? = some false := fun i hi hm => by
    have h1 : s.waits[i]? ≠ some true := fun e => hm ((hl i).2 e)
    have hwl : i < s.waits.length := by rw [ho.wt, hn]; exact hi
    rw [List.getElem?_eq_getElem hwl] at h1 ⊢
    cases hb : s.waits[i] with
    | false => rfl
    | true => rw [hb] at h1; exact absurd rfl h1
  constructor
  · apply List.ext_getElem?
    intro i
    by_cases hi : i < n
    · rw [h.shows i hi]
      by_cases hm : i ∈ l
      · rw [if_pos hm]
      · rw [if_neg hm, ho.same i (hw i hi hm), hla]
        have := fold_get s i S s.last (by rw [hn]; exact hi) (by rw [ho.sh, hn]; exact hi)
        rw [if_neg (fun h => hm (hS i h))] at this
        exact this.symm
    · rw [List.getElem?_eq_none (by rw [h.sl]; omega), List.getElem?_eq_none (by rw [h.ll]; omega)]
  · apply List.ext_getElem?
    intro i
    rw [List.getElem?_replicate]
    by_cases hi : i < n
    · rw [h.waits i hi, if_pos hi]
      by_cases hm : i ∈ l
      · rw [if_pos hm]
      · rw [if_neg hm, hw i hi hm]
    · rw [if_neg hi, List.getElem?_eq_none (by rw [h.wl]; omega)]
theorem not_ahead {l : List Nat} (hp : l.Pairwise (· < ·)) {j : Nat} (hj : j < l.length) : l[j] ∉ l.take j := by
  intro h
  obtain ⟨i, hi, e⟩ := List.getElem_of_mem h
  rw [List.getElem_take] at e
  have hij : i < j := by rw [List.length_take] at hi; omega
  have := List.pairwise_iff_getElem.1 hp i j (by omega) hj hij
  omega

set_option maxRecDepth 100000 in
set_option maxHeartbeats 2000000 in
theorem qcrash_walk (w : World) (q sb lb wb : Nat) (s : Dk) (h : Rq w q sb lb wb s) (A2 : Option Addr) (n2 c2 : Nat) (kb : List Bool) (hn2 : n2 = kb.length)
    (hk2 : 0 < n2 → ∃ b o, A2 = some ⟨b, o, none⟩ ∧ b < w.heap.size ∧ b ≠ q ∧ b ≠ sb ∧ b ≠ lb ∧ b ≠ wb ∧ ∀ i (h : i < kb.length), w.cell? ⟨b, o + i, none⟩ = some (.bool kb[i])) :
    Calls Try.prog 26 #[.pointer (some ⟨q, 0, none⟩), .slice A2 n2 c2] w fun e w' => e = .returned (.tuple #[]) ∧ Fx [q, sb, lb, wb] w w' ∧
      ∃ l : List Nat, (∀ i, i ∈ l ↔ s.waits[i]? = some true) ∧ l.Pairwise (· < ·) ∧ Rq w' q sb lb wb (s.settled (stay l kb)).restored := by
  have hq := qlist_walk w q sb lb wb s h
  obtain ⟨n, hn⟩ : ∃ n, s.last.length = n := ⟨_, rfl⟩
  have hhi := h.ok.high
  rw [hn] at hhi
  have H := Lib.hid h
  have HN := Lib.hid hn
  have HQ := Lib.hid hq
  have HN2 := Lib.hid hn2
  have HK2 := Lib.hid hk2
  clear h hn hq hn2 hk2
  have hcq : ∀ w1, Blk w1 q 37 (Cq s sb lb wb) → w1.cell? ⟨q, 0, none⟩ = some (.slice (some ⟨sb, 0, none⟩) n n) ∧ w1.cell? ⟨q, 1, none⟩ = some (.slice (some ⟨lb, 0, none⟩) n n) ∧ w1.cell? ⟨q, 2, none⟩ = some (.slice (some ⟨wb, 0, none⟩) n n) := by
    intro w1 hb
    refine ⟨?_, ?_, ?_⟩
    · rw [hb.cell 0]; show some (Value.slice (some ⟨sb, 0, none⟩) s.last.length s.last.length) = _; rw [HN.out]
    · rw [hb.cell 1]; show some (Value.slice (some ⟨lb, 0, none⟩) s.last.length s.last.length) = _; rw [HN.out]
    · rw [hb.cell 2]; show some (Value.slice (some ⟨wb, 0, none⟩) s.last.length s.last.length) = _; rw [HN.out]
  have HCQ := Lib.hid hcq
  clear hcq
  go_enter Try.func26, Try.ntmps26
  go_wp2_with (go_at_call 29; refine HQ.out.mono ?_; rintro e w1 ⟨v, rfl, ⟨A, c, l, rfl, hl, hm, hso, hp⟩, hb1⟩; have HP := Lib.hid hp; have HR1 := Lib.hid (H.out.up hb1); have HB1 := Lib.hid hb1; have HL := Lib.hid hl; have HM1 := Lib.hid hm; have HSO := Lib.hid hso; clear hp hm hb1 hl hso)
  clear HQ
  go_loopw [9] (fun i wr => ∃ j : Nat, j ≤ l.length ∧ i = .int .i64 j ∧ Fx [sb, lb, wb] w1 wr ∧ ∃ sh wt, Blk wr lb 43 (((fold s (stay (l.take j) kb) s.last).flatMap (·.map U)).toArray) ∧ True ∧ Blk wr sb 43 ((sh.flatMap (·.map U)).toArray) ∧ Blk wr wb 4 ((wt.map Value.bool).toArray) ∧ Mid s n (l.take j) (fold s (stay (l.take j) kb) s.last) sh wt) (fun i _ => l.length - (intOf i).toNat)
  case atStart =>
    have hr := HR1.out
    have e0 : stay [] kb = [] := by cases kb <;> rfl
    refine ⟨0, Nat.zero_le _, rfl, Fx.refl _ _, s.shown, s.waits, ?_, trivial, hr.sh, hr.wt, ?_⟩
    · rw [List.take_zero, e0]; exact hr.la
    · rw [List.take_zero, e0]
      exact ⟨HN.out, hr.ok.bl, hr.ok.sh.trans HN.out, hr.ok.bs, hr.ok.wt.trans HN.out, fun i _ => by simp, fun i _ => by simp⟩
  case round =>
    obtain ⟨j, hj, rfl, hfx, sh, wt, hbl, -, hbs, hbw, hmid⟩ := hrel
    have HFX := Lib.hid hfx
    have HBL := Lib.hid hbl
    have HSH' := Lib.hid hbs
    have HBW := Lib.hid hbw
    have HM := Lib.hid hmid
    have hl9 := HL.out
    have hbq : Blk wr q 37 (Cq s sb lb wb) := hfx.blk HR1.out.blk (by simp; exact ⟨Ne.symm H.out.sq, Ne.symm H.out.lq, Ne.symm H.out.wq⟩)
    have HBQ := Lib.hid hbq
    clear hfx hbl hbs hbw hmid hbq
    by_cases hlt : j < l.length
    · obtain ⟨lo, rfl, hlo, hlo2, hc⟩ := HP.out (by omega)
      have hap := H.out.apart
      have hlx : Blk wr q 37 (Cq s sb lb wb) → lo ∉ [sb, lb, wb] := fun _ => by
        simp only [List.mem_cons, List.not_mem_nil, or_false, not_or]
        omega
      have c0 : wr.cell? ⟨lo, j, none⟩ = some (.int .i64 (l[j] : Int)) := by
        rw [World.cell?_of_block (w := w1) (HFX.out.block lo hlo2 (hlx HBQ.out))]
        exact hc j hlt
      have hst := stay_take l kb j hlt
      have htk : l.take (j + 1) = l.take j ++ [l[j]] := List.take_succ_eq_append_getElem hlt
      have hxw : s.waits[l[j]]? = some true := (HM1.out _).1 (List.getElem_mem hlt)
      have hna := not_ahead HSO.out hlt
      generalize l[j] = x at *
      clear hc hlx hap hlo hlo2
      have hxn : x < n := by
        have := (List.getElem?_eq_some_iff.1 hxw).1
        rw [H.out.ok.wt, HN.out] at this; exact this
      have hxs : x < s.shown.length := by rw [H.out.ok.sh, HN.out]; exact hxn
      obtain ⟨b, hb⟩ : ∃ b, s.shown[x]? = some b := ⟨_, List.getElem?_eq_getElem hxs⟩
      have hb5 : b.length = 512 := H.out.ok.bs b (List.mem_of_getElem? hb)
      have hgb : s.shown.getD x z512 = b := by rw [List.getD_eq_getElem?_getD, hb]; rfl
      have hsx : sh[x]? = some b := by rw [HM.out.shows x hxn, if_neg hna]; exact hb
      have hlt2 : (x : Int) < (n : Int) := by omega
      obtain ⟨LA, hLA⟩ : ∃ LA, LA = fold s (stay (l.take j) kb) s.last := ⟨_, rfl⟩
      rw [← hLA] at HBL HM
      obtain ⟨c9, hc9⟩ : ∃ c, LA[x]? = some c := ⟨_, List.getElem?_eq_getElem (by rw [HM.out.ll]; exact hxn)⟩
      have hc95 : c9.length = 512 := HM.out.bl c9 (List.mem_of_getElem? hc9)
      have HSX := Lib.hid hsx
      have HB5 := Lib.hid hb5
      have HGB := Lib.hid hgb
      have HTK := Lib.hid htk
      have HLA := Lib.hid hLA
      have HC9 := Lib.hid hc9
      have HC95 := Lib.hid hc95
      have HNA := Lib.hid hna
      clear hb hb5 hxs hsx hgb htk hxw hLA hc9 hc95 hna
      obtain ⟨kv, hkv⟩ : ∃ kv : Bool, kv = kb.getD j false := ⟨_, rfl⟩
      rw [← hkv] at hst
      have HST0 := Lib.hid hst
      clear hst
      -- which are kept
      have hkc : if (j : Int) < (n2 : Int) then (∃ b2 o2, A2 = some ⟨b2, o2, none⟩ ∧ wr.cell? ⟨b2, o2 + j, none⟩ = some (.bool kv)) else kv = false := by
        by_cases hjn : j < n2
        · rw [if_pos (by omega)]
          have hjk : j < kb.length := by rw [← HN2.out]; exact hjn
          obtain ⟨b2, o2, e2, hbl2, a1, a2, a3, a4, hc2⟩ := HK2.out (by omega)
          refine ⟨b2, o2, e2, ?_⟩
          have : kb.getD j false = kb[j] := by simp [List.getD, hjk]
          rw [World.cell?_of_block (w := w1) (HFX.out.block b2 (Nat.lt_of_lt_of_le hbl2 HB1.out.size) (by simp; exact ⟨a2, a3, a4⟩)), HB1.out.cell hbl2, hkv, this]
          exact hc2 j hjk
        · rw [if_neg (by omega), hkv]
          have := HN2.out
          simp [List.getD, show ¬ j < kb.length by omega]
      clear hkv
      have HKC := Lib.hid hkc
      clear hkc
      by_cases hk1 : kv = true
      · subst hk1
        have hjn : (j : Int) < (n2 : Int) := by
          apply Classical.byContradiction
          intro hh
          have := HKC.out
          rw [if_neg hh] at this
          cases this
        have hkc := HKC.out
        rw [if_pos hjn] at hkc
        obtain ⟨b2, o2, rfl, hc2⟩ := hkc
        clear HKC
        obtain ⟨c, hcc⟩ : ∃ c, c = b := ⟨_, rfl⟩
        have HCC := Lib.hid hcc
        have HC5 : Hid (c.length = 512) := by rw [hcc]; exact HB5.out
        clear hcc
        obtain ⟨q0, q1, _⟩ := HCQ.out wr.drew HBQ.out.drew
        have HSH : Hid (Blk wr.drew sb 43 ((sh.flatMap (·.map U)).toArray)) := HSH'.out.drew
        have hfit : x * 512 + (b.map U).length ≤ ((LA.flatMap (·.map U)).toArray).size := by
          rw [List.length_map, HB5.out, List.size_toArray, flat_size _ HM.out.bl, HM.out.ll]
          omega
        have HFIT := Lib.hid hfit
        have hls : (LA.set x b)[x]? = some c := by rw [HCC.out]; exact List.getElem?_set_self (by rw [HM.out.ll]; exact hxn)
        have hlb : ∀ d ∈ LA.set x b, d.length = 512 := fun d hd => by
          rcases List.mem_or_eq_of_mem_set hd with h | h
          · exact HM.out.bl d h
          · rw [h]; exact HB5.out
        have HLS := Lib.hid hls
        have HLB := Lib.hid hlb
        have hfit2 : x * 512 + (c.map U).length ≤ ((sh.flatMap (·.map U)).toArray).size := by
          rw [List.length_map, HC5.out, List.size_toArray, flat_size _ HM.out.bs, HM.out.sl]
          omega
        have HFIT2 := Lib.hid hfit2
        have HFE : Hid (fold s (stay (l.take (j + 1)) kb) s.last = LA.set x b) := by
          show fold s (stay (l.take (j + 1)) kb) s.last = LA.set x b
          rw [HST0.out]
          simp only [if_true]
          rw [fold_snoc, HGB.out, ← HLA.out]
        clear hfit hls hlb hfit2
        go_wp2
        refine wp_region_pre (by kernel_rfl) (R := fun x y => y = x) (fun _ => rfl) (fun _ _ _ h k => k.trans h) 13 [[0], [24], [25], [26], [5], [0], [29], [30], [31], [5], [32, 33], [34], [27, 28]]
          [(24, .pointer (some ⟨q, 0, none⟩)), (25, .pointer (some ⟨q, 0, none⟩)), (26, .pointer (some ⟨q, 1, none⟩)), (27, .slice (some ⟨lb, 0, none⟩) n n), (28, .int .i64 (x : Int)), (29, .pointer (some ⟨q, 0, none⟩)), (30, .pointer (some ⟨q, 0, none⟩)), (31, .pointer (some ⟨q, 0, none⟩)), (32, .slice (some ⟨sb, 0, none⟩) n n), (33, .int .i64 (x : Int)), (34, .pointer (some ⟨sb, x * 512, none⟩)), (35, .agg (b.map U).toArray), (36, .pointer (some ⟨lb, x * 512, none⟩))]
          63 rfl (by decide) (by kernel_rfl) (by kernel_rfl) (by simp) (by kernel_rfl) (by kernel_rfl) ?_ ?_
        · refine ⟨?_, ?_, ?_, ?_, ?_, ?_, ?_, ?_, ?_, ?_, ?_, ?_, ?_, trivial⟩
          · as_aux_lemma =>
            refine UpOb.plain rfl fun a W hR hl K hK => ?_
            obtain rfl : W = wr.drew := hR
            have h0 : a.tmps.getD 0 undef = (.pointer (some ⟨q, 0, none⟩)) := hl 0 (by decide)
            replace hK : ∀ v, v = (.pointer (some ⟨q, 0, none⟩)) → K (a.put (some 24) v) wr.drew := fun v h2 => hK v _ rfl (fun d hd => by cases hd; exact h2)
            clear hl
            simp only [Array.getD_eq_getD_getElem?] at h0
            go_simp
            exact hK _ rfl
          · as_aux_lemma =>
            refine UpOb.plain rfl fun a W hR hl K hK => ?_
            obtain rfl : W = wr.drew := hR
            have h24 : a.tmps.getD 24 undef = (.pointer (some ⟨q, 0, none⟩)) := hl 24 (by decide)
            replace hK : ∀ v, v = (.pointer (some ⟨q, 0, none⟩)) → K (a.put (some 25) v) wr.drew := fun v h2 => hK v _ rfl (fun d hd => by cases hd; exact h2)
            clear hl
            simp only [Array.getD_eq_getD_getElem?] at h24
            go_simp
            exact hK _ rfl
          · as_aux_lemma =>
            refine UpOb.plain rfl fun a W hR hl K hK => ?_
            obtain rfl : W = wr.drew := hR
            have h25 : a.tmps.getD 25 undef = (.pointer (some ⟨q, 0, none⟩)) := hl 25 (by decide)
            replace hK : ∀ v, v = (.pointer (some ⟨q, 1, none⟩)) → K (a.put (some 26) v) wr.drew := fun v h2 => hK v _ rfl (fun d hd => by cases hd; exact h2)
            clear hl
            simp only [Array.getD_eq_getD_getElem?] at h25
            go_simp
            exact hK _ rfl
          · as_aux_lemma =>
            refine UpOb.plain rfl fun a W hR hl K hK => ?_
            obtain rfl : W = wr.drew := hR
            have h26 : a.tmps.getD 26 undef = (.pointer (some ⟨q, 1, none⟩)) := hl 26 (by decide)
            replace hK : ∀ v, v = (.slice (some ⟨lb, 0, none⟩) n n) → K (a.put (some 27) v) wr.drew := fun v h2 => hK v _ rfl (fun d hd => by cases hd; exact h2)
            clear hl
            simp only [Array.getD_eq_getD_getElem?] at h26
            go_simp
            exact hK _ rfl
          · as_aux_lemma =>
            refine UpOb.plain rfl fun a W hR hl K hK => ?_
            obtain rfl : W = wr.drew := hR
            have h5 : a.tmps.getD 5 undef = (.int .i64 (x : Int)) := hl 5 (by decide)
            replace hK : ∀ v, v = (.int .i64 (x : Int)) → K (a.put (some 28) v) wr.drew := fun v h2 => hK v _ rfl (fun d hd => by cases hd; exact h2)
            clear hl
            simp only [Array.getD_eq_getD_getElem?] at h5
            go_simp
            exact hK _ rfl
          · as_aux_lemma =>
            refine UpOb.plain rfl fun a W hR hl K hK => ?_
            obtain rfl : W = wr.drew := hR
            have h0 : a.tmps.getD 0 undef = (.pointer (some ⟨q, 0, none⟩)) := hl 0 (by decide)
            replace hK : ∀ v, v = (.pointer (some ⟨q, 0, none⟩)) → K (a.put (some 29) v) wr.drew := fun v h2 => hK v _ rfl (fun d hd => by cases hd; exact h2)
            clear hl
            simp only [Array.getD_eq_getD_getElem?] at h0
            go_simp
            exact hK _ rfl
          · as_aux_lemma =>
            refine UpOb.plain rfl fun a W hR hl K hK => ?_
            obtain rfl : W = wr.drew := hR
            have h29 : a.tmps.getD 29 undef = (.pointer (some ⟨q, 0, none⟩)) := hl 29 (by decide)
            replace hK : ∀ v, v = (.pointer (some ⟨q, 0, none⟩)) → K (a.put (some 30) v) wr.drew := fun v h2 => hK v _ rfl (fun d hd => by cases hd; exact h2)
            clear hl
            simp only [Array.getD_eq_getD_getElem?] at h29
            go_simp
            exact hK _ rfl
          · as_aux_lemma =>
            refine UpOb.plain rfl fun a W hR hl K hK => ?_
            obtain rfl : W = wr.drew := hR
            have h30 : a.tmps.getD 30 undef = (.pointer (some ⟨q, 0, none⟩)) := hl 30 (by decide)
            replace hK : ∀ v, v = (.pointer (some ⟨q, 0, none⟩)) → K (a.put (some 31) v) wr.drew := fun v h2 => hK v _ rfl (fun d hd => by cases hd; exact h2)
            clear hl
            simp only [Array.getD_eq_getD_getElem?] at h30
            go_simp
            exact hK _ rfl
          · as_aux_lemma =>
            refine UpOb.plain rfl fun a W hR hl K hK => ?_
            obtain rfl : W = wr.drew := hR
            have h31 : a.tmps.getD 31 undef = (.pointer (some ⟨q, 0, none⟩)) := hl 31 (by decide)
            replace hK : ∀ v, v = (.slice (some ⟨sb, 0, none⟩) n n) → K (a.put (some 32) v) wr.drew := fun v h2 => hK v _ rfl (fun d hd => by cases hd; exact h2)
            clear hl
            simp only [Array.getD_eq_getD_getElem?] at h31
            go_simp
            exact hK _ rfl
          · as_aux_lemma =>
            refine UpOb.plain rfl fun a W hR hl K hK => ?_
            obtain rfl : W = wr.drew := hR
            have h5 : a.tmps.getD 5 undef = (.int .i64 (x : Int)) := hl 5 (by decide)
            replace hK : ∀ v, v = (.int .i64 (x : Int)) → K (a.put (some 33) v) wr.drew := fun v h2 => hK v _ rfl (fun d hd => by cases hd; exact h2)
            clear hl
            simp only [Array.getD_eq_getD_getElem?] at h5
            go_simp
            exact hK _ rfl
          · as_aux_lemma =>
            refine UpOb.plain rfl fun a W hR hl K hK => ?_
            obtain rfl : W = wr.drew := hR
            have h32 : a.tmps.getD 32 undef = (.slice (some ⟨sb, 0, none⟩) n n) := hl 32 (by decide)
            have h33 : a.tmps.getD 33 undef = (.int .i64 (x : Int)) := hl 33 (by decide)
            replace hK : ∀ v, v = (.pointer (some ⟨sb, x * 512, none⟩)) → K (a.put (some 34) v) wr.drew := fun v h2 => hK v _ rfl (fun d hd => by cases hd; exact h2)
            clear hl
            simp only [Array.getD_eq_getD_getElem?] at h32 h33
            go_simp
            exact hK _ rfl
          · as_aux_lemma =>
            refine UpOb.plain rfl fun a W hR hl K hK => ?_
            obtain rfl : W = wr.drew := hR
            have h34 : a.tmps.getD 34 undef = (.pointer (some ⟨sb, x * 512, none⟩)) := hl 34 (by decide)
            replace hK : ∀ v, v = (.agg (b.map U).toArray) → K (a.put (some 35) v) wr.drew := fun v h2 => hK v _ rfl (fun d hd => by cases hd; exact h2)
            clear hl
            exact wp_load_blk _ rfl sb x h34 sh b HM.out.bs HSH.out HSX.out (hK _ rfl)
          · as_aux_lemma =>
            refine UpOb.plain rfl fun a W hR hl K hK => ?_
            obtain rfl : W = wr.drew := hR
            have h27 : a.tmps.getD 27 undef = (.slice (some ⟨lb, 0, none⟩) n n) := hl 27 (by decide)
            have h28 : a.tmps.getD 28 undef = (.int .i64 (x : Int)) := hl 28 (by decide)
            replace hK : ∀ v, v = (.pointer (some ⟨lb, x * 512, none⟩)) → K (a.put (some 36) v) wr.drew := fun v h2 => hK v _ rfl (fun d hd => by cases hd; exact h2)
            clear hl
            simp only [Array.getD_eq_getD_getElem?] at h27 h28
            go_simp
            exact hK _ rfl
        · intro W hW
          obtain rfl : W = wr.drew := hW
          simp only [filled, List.foldl, List.setIfInBounds_toArray, List.set, List.drop_succ_cons, List.drop_zero]
          go_wp2_with (first
            | (refine wpList_store_at rfl 43 _ _ rfl lb (x * 512) (b.map U) rfl rfl 43 _ HBL.out.drew HFIT.out (by have := BRow b HB5.out; simpa using this) (BOne _) ?_; intro w5 hx5 hb5 hs5; have HX5 := Lib.hid hx5; rw [flat_lay LA HM.out.bl x b HB5.out (by rw [HM.out.ll]; exact hxn)] at hb5; have HBL5 : Hid (Blk w5.drew lb 43 (((LA.set x b).flatMap (·.map U)).toArray)) := hb5.drew; have HBQ5 := Lib.hid (hx5.blk HBQ.out.drew (Ne.symm H.out.lq)); have HSH2 : Hid (Blk w5.drew sb 43 ((sh.flatMap (·.map U)).toArray)) := (hx5.blk HSH.out (Ne.symm H.out.ls)).drew; have HBW5 : Hid (Blk w5.drew wb 4 ((wt.map Value.bool).toArray)) := (hx5.blk HBW.out.drew H.out.wl).drew; clear hx5 hb5 hs5))
          clear q0 q1
          obtain ⟨q0, q1, _⟩ := HCQ.out w5.drew HBQ5.out.drew
          have hst : ∀ W, Ex sb w5.drew W → W.cell? ⟨q, 2, none⟩ = some (.slice (some ⟨wb, 0, none⟩) n n) ∧ (∃ v, W.cell? ⟨wb, x, none⟩ = some v) ∧ W.frozen? ⟨wb, x, none⟩ = false := fun W hx => by
            refine ⟨(HCQ.out W (hx.blk HBQ5.out.drew (Ne.symm H.out.sq))).2.2, ?_, (hx.blk HBW5.out H.out.ws).thaw x⟩
            rw [(hx.blk HBW5.out H.out.ws).cell]
            have hil : x < ((wt.map Value.bool).toArray).size := by simp; rw [HM.out.wl]; exact hxn
            exact ⟨_, Array.getElem?_eq_getElem hil⟩
          have HST := Lib.hid hst
          clear hst
          refine wp_region_pre (by kernel_rfl) (R := fun x y => y = x) (fun _ => rfl) (fun _ _ _ h k => k.trans h) 13 [[0], [37], [38], [39], [5], [0], [42], [43], [44], [5], [45, 46], [47], [40, 41]]
            [(37, .pointer (some ⟨q, 0, none⟩)), (38, .pointer (some ⟨q, 0, none⟩)), (39, .pointer (some ⟨q, 0, none⟩)), (40, .slice (some ⟨sb, 0, none⟩) n n), (41, .int .i64 (x : Int)), (42, .pointer (some ⟨q, 0, none⟩)), (43, .pointer (some ⟨q, 0, none⟩)), (44, .pointer (some ⟨q, 1, none⟩)), (45, .slice (some ⟨lb, 0, none⟩) n n), (46, .int .i64 (x : Int)), (47, .pointer (some ⟨lb, x * 512, none⟩)), (48, .agg (c.map U).toArray), (49, .pointer (some ⟨sb, x * 512, none⟩))]
            63 rfl (by decide) (by kernel_rfl) (by kernel_rfl) (by simp) (by kernel_rfl) (by kernel_rfl) ?_ ?_
          · refine ⟨?_, ?_, ?_, ?_, ?_, ?_, ?_, ?_, ?_, ?_, ?_, ?_, ?_, trivial⟩
            · as_aux_lemma =>
              refine UpOb.plain rfl fun a W hR hl K hK => ?_
              obtain rfl : W = w5.drew := hR
              have h0 : a.tmps.getD 0 undef = (.pointer (some ⟨q, 0, none⟩)) := hl 0 (by decide)
              replace hK : ∀ v, v = (.pointer (some ⟨q, 0, none⟩)) → K (a.put (some 37) v) w5.drew := fun v h2 => hK v _ rfl (fun d hd => by cases hd; exact h2)
              clear hl
              simp only [Array.getD_eq_getD_getElem?] at h0
              go_simp
              exact hK _ rfl
            · as_aux_lemma =>
              refine UpOb.plain rfl fun a W hR hl K hK => ?_
              obtain rfl : W = w5.drew := hR
              have h37 : a.tmps.getD 37 undef = (.pointer (some ⟨q, 0, none⟩)) := hl 37 (by decide)
              replace hK : ∀ v, v = (.pointer (some ⟨q, 0, none⟩)) → K (a.put (some 38) v) w5.drew := fun v h2 => hK v _ rfl (fun d hd => by cases hd; exact h2)
              clear hl
              simp only [Array.getD_eq_getD_getElem?] at h37
              go_simp
              exact hK _ rfl
            · as_aux_lemma =>
              refine UpOb.plain rfl fun a W hR hl K hK => ?_
              obtain rfl : W = w5.drew := hR
              have h38 : a.tmps.getD 38 undef = (.pointer (some ⟨q, 0, none⟩)) := hl 38 (by decide)
              replace hK : ∀ v, v = (.pointer (some ⟨q, 0, none⟩)) → K (a.put (some 39) v) w5.drew := fun v h2 => hK v _ rfl (fun d hd => by cases hd; exact h2)
              clear hl
              simp only [Array.getD_eq_getD_getElem?] at h38
              go_simp
              exact hK _ rfl
            · as_aux_lemma =>
              refine UpOb.plain rfl fun a W hR hl K hK => ?_
              obtain rfl : W = w5.drew := hR
              have h39 : a.tmps.getD 39 undef = (.pointer (some ⟨q, 0, none⟩)) := hl 39 (by decide)
              replace hK : ∀ v, v = (.slice (some ⟨sb, 0, none⟩) n n) → K (a.put (some 40) v) w5.drew := fun v h2 => hK v _ rfl (fun d hd => by cases hd; exact h2)
              clear hl
              simp only [Array.getD_eq_getD_getElem?] at h39
              go_simp
              exact hK _ rfl
            · as_aux_lemma =>
              refine UpOb.plain rfl fun a W hR hl K hK => ?_
              obtain rfl : W = w5.drew := hR
              have h5 : a.tmps.getD 5 undef = (.int .i64 (x : Int)) := hl 5 (by decide)
              replace hK : ∀ v, v = (.int .i64 (x : Int)) → K (a.put (some 41) v) w5.drew := fun v h2 => hK v _ rfl (fun d hd => by cases hd; exact h2)
              clear hl
              simp only [Array.getD_eq_getD_getElem?] at h5
              go_simp
              exact hK _ rfl
            · as_aux_lemma =>
              refine UpOb.plain rfl fun a W hR hl K hK => ?_
              obtain rfl : W = w5.drew := hR
              have h0 : a.tmps.getD 0 undef = (.pointer (some ⟨q, 0, none⟩)) := hl 0 (by decide)
              replace hK : ∀ v, v = (.pointer (some ⟨q, 0, none⟩)) → K (a.put (some 42) v) w5.drew := fun v h2 => hK v _ rfl (fun d hd => by cases hd; exact h2)
              clear hl
              simp only [Array.getD_eq_getD_getElem?] at h0
              go_simp
              exact hK _ rfl
            · as_aux_lemma =>
              refine UpOb.plain rfl fun a W hR hl K hK => ?_
              obtain rfl : W = w5.drew := hR
              have h42 : a.tmps.getD 42 undef = (.pointer (some ⟨q, 0, none⟩)) := hl 42 (by decide)
              replace hK : ∀ v, v = (.pointer (some ⟨q, 0, none⟩)) → K (a.put (some 43) v) w5.drew := fun v h2 => hK v _ rfl (fun d hd => by cases hd; exact h2)
              clear hl
              simp only [Array.getD_eq_getD_getElem?] at h42
              go_simp
              exact hK _ rfl
            · as_aux_lemma =>
              refine UpOb.plain rfl fun a W hR hl K hK => ?_
              obtain rfl : W = w5.drew := hR
              have h43 : a.tmps.getD 43 undef = (.pointer (some ⟨q, 0, none⟩)) := hl 43 (by decide)
              replace hK : ∀ v, v = (.pointer (some ⟨q, 1, none⟩)) → K (a.put (some 44) v) w5.drew := fun v h2 => hK v _ rfl (fun d hd => by cases hd; exact h2)
              clear hl
              simp only [Array.getD_eq_getD_getElem?] at h43
              go_simp
              exact hK _ rfl
            · as_aux_lemma =>
              refine UpOb.plain rfl fun a W hR hl K hK => ?_
              obtain rfl : W = w5.drew := hR
              have h44 : a.tmps.getD 44 undef = (.pointer (some ⟨q, 1, none⟩)) := hl 44 (by decide)
              replace hK : ∀ v, v = (.slice (some ⟨lb, 0, none⟩) n n) → K (a.put (some 45) v) w5.drew := fun v h2 => hK v _ rfl (fun d hd => by cases hd; exact h2)
              clear hl
              simp only [Array.getD_eq_getD_getElem?] at h44
              go_simp
              exact hK _ rfl
            · as_aux_lemma =>
              refine UpOb.plain rfl fun a W hR hl K hK => ?_
              obtain rfl : W = w5.drew := hR
              have h5 : a.tmps.getD 5 undef = (.int .i64 (x : Int)) := hl 5 (by decide)
              replace hK : ∀ v, v = (.int .i64 (x : Int)) → K (a.put (some 46) v) w5.drew := fun v h2 => hK v _ rfl (fun d hd => by cases hd; exact h2)
              clear hl
              simp only [Array.getD_eq_getD_getElem?] at h5
              go_simp
              exact hK _ rfl
            · as_aux_lemma =>
              refine UpOb.plain rfl fun a W hR hl K hK => ?_
              obtain rfl : W = w5.drew := hR
              have h45 : a.tmps.getD 45 undef = (.slice (some ⟨lb, 0, none⟩) n n) := hl 45 (by decide)
              have h46 : a.tmps.getD 46 undef = (.int .i64 (x : Int)) := hl 46 (by decide)
              replace hK : ∀ v, v = (.pointer (some ⟨lb, x * 512, none⟩)) → K (a.put (some 47) v) w5.drew := fun v h2 => hK v _ rfl (fun d hd => by cases hd; exact h2)
              clear hl
              simp only [Array.getD_eq_getD_getElem?] at h45 h46
              go_simp
              exact hK _ rfl
            · as_aux_lemma =>
              refine UpOb.plain rfl fun a W hR hl K hK => ?_
              obtain rfl : W = w5.drew := hR
              have h47 : a.tmps.getD 47 undef = (.pointer (some ⟨lb, x * 512, none⟩)) := hl 47 (by decide)
              replace hK : ∀ v, v = (.agg (c.map U).toArray) → K (a.put (some 48) v) w5.drew := fun v h2 => hK v _ rfl (fun d hd => by cases hd; exact h2)
              clear hl
              exact wp_load_blk _ rfl lb x h47 (LA.set x b) c HLB.out HBL5.out HLS.out (hK _ rfl)
            · as_aux_lemma =>
              refine UpOb.plain rfl fun a W hR hl K hK => ?_
              obtain rfl : W = w5.drew := hR
              have h40 : a.tmps.getD 40 undef = (.slice (some ⟨sb, 0, none⟩) n n) := hl 40 (by decide)
              have h41 : a.tmps.getD 41 undef = (.int .i64 (x : Int)) := hl 41 (by decide)
              replace hK : ∀ v, v = (.pointer (some ⟨sb, x * 512, none⟩)) → K (a.put (some 49) v) w5.drew := fun v h2 => hK v _ rfl (fun d hd => by cases hd; exact h2)
              clear hl
              simp only [Array.getD_eq_getD_getElem?] at h40 h41
              go_simp
              exact hK _ rfl
          · intro W hW
            obtain rfl : W = w5.drew := hW
            simp only [filled, List.foldl, List.setIfInBounds_toArray, List.set, List.drop_succ_cons, List.drop_zero]
            go_wp2_with (first
              | (refine wpList_store_at rfl 43 _ _ rfl sb (x * 512) (c.map U) rfl rfl 43 _ HSH2.out HFIT2.out (by have := BRow c HC5.out; simpa using this) (BOne _) ?_; intro w6 hx6 hb6 hs6; have HX6 := Lib.hid hx6; have HB6 := Lib.hid hb6; obtain ⟨c2, ⟨v6, c6⟩, f6⟩ := HST.out w6 hx6; clear hx6 hb6 hs6))
            go_roundw
            case rel =>
              refine ⟨j + 1, by omega, by go_num, ((((HFX.out.trans (Fx.of_ex (Ex.drew lb _) (by simp))).trans (Fx.of_ex HX5.out (by simp))).trans (Fx.of_ex (Ex.drew lb _) (by simp))).trans (Fx.of_ex HX6.out (by simp))).trans (Fx.of_ex (Ex.setCell wb x _ _) (by simp)), sh.set x c, wt.set x false, ?_, trivial, ?_, ?_, ?_⟩
              · rw [HFE.out]
                exact (HX6.out.blk HBL5.out H.out.ls).off (Ne.symm H.out.wl) _
              · have hsh := HB6.out
                rw [flat_lay sh HM.out.bs x c HC5.out (by rw [HM.out.sl]; exact hxn)] at hsh
                exact hsh.off (Ne.symm H.out.ws) _
              · have hwt := (HX6.out.blk HBW5.out H.out.ws).put x (.bool false)
                rw [bools_set] at hwt
                exact hwt
              · rw [HFE.out, HTK.out]
                exact HM.out.step hxn HC5.out (by rw [List.length_set]; exact HM.out.ll) HLB.out (fun i hi => List.getElem?_set_ne (Ne.symm hi)) HLS.out
            case measure => simp [intOf]; omega
      · have hk0 : kv = false := by simpa using hk1
        subst hk0
        clear hk1
        obtain ⟨c, hcc⟩ : ∃ c, c = c9 := ⟨_, rfl⟩
        have HCC := Lib.hid hcc
        have HC5 : Hid (c.length = 512) := by rw [hcc]; exact HC95.out
        clear hcc
        obtain ⟨q0, q1, _⟩ := HCQ.out wr.drew HBQ.out.drew
        have hfit2 : x * 512 + (c.map U).length ≤ ((sh.flatMap (·.map U)).toArray).size := by
          rw [List.length_map, HC5.out, List.size_toArray, flat_size _ HM.out.bs, HM.out.sl]
          omega
        have HFIT2 := Lib.hid hfit2
        have HSH2 : Hid (Blk wr.drew sb 43 ((sh.flatMap (·.map U)).toArray)) := HSH'.out.drew
        have hst : ∀ W, Ex sb wr.drew W → W.cell? ⟨q, 2, none⟩ = some (.slice (some ⟨wb, 0, none⟩) n n) ∧ (∃ v, W.cell? ⟨wb, x, none⟩ = some v) ∧ W.frozen? ⟨wb, x, none⟩ = false := fun W hx => by
          refine ⟨(HCQ.out W (hx.blk HBQ.out.drew (Ne.symm H.out.sq))).2.2, ?_, (hx.blk HBW.out.drew H.out.ws).thaw x⟩
          rw [(hx.blk HBW.out.drew H.out.ws).cell]
          have hil : x < ((wt.map Value.bool).toArray).size := by simp; rw [HM.out.wl]; exact hxn
          exact ⟨_, Array.getElem?_eq_getElem hil⟩
        have HST := Lib.hid hst
        have hgc : LA[x]? = some c := by rw [HCC.out]; exact HC9.out
        have HGC := Lib.hid hgc
        have HBL2 : Hid (Blk wr.drew lb 43 ((LA.flatMap (·.map U)).toArray)) := HBL.out.drew
        have HFE : Hid (fold s (stay (l.take (j + 1)) kb) s.last = LA) := by
          show fold s (stay (l.take (j + 1)) kb) s.last = LA
          rw [HST0.out]
          simp only [Bool.false_eq_true, if_false, List.append_nil]
          rw [← HLA.out]
        clear hst hfit2 hgc
        by_cases hjn : (j : Int) < (n2 : Int)
        · have hkc := HKC.out
          rw [if_pos hjn] at hkc
          obtain ⟨b2, o2, rfl, hc2⟩ := hkc
          clear HKC
          go_wp2
          refine wp_region_pre (by kernel_rfl) (R := fun x y => y = x) (fun _ => rfl) (fun _ _ _ h k => k.trans h) 13 [[0], [37], [38], [39], [5], [0], [42], [43], [44], [5], [45, 46], [47], [40, 41]]
            [(37, .pointer (some ⟨q, 0, none⟩)), (38, .pointer (some ⟨q, 0, none⟩)), (39, .pointer (some ⟨q, 0, none⟩)), (40, .slice (some ⟨sb, 0, none⟩) n n), (41, .int .i64 (x : Int)), (42, .pointer (some ⟨q, 0, none⟩)), (43, .pointer (some ⟨q, 0, none⟩)), (44, .pointer (some ⟨q, 1, none⟩)), (45, .slice (some ⟨lb, 0, none⟩) n n), (46, .int .i64 (x : Int)), (47, .pointer (some ⟨lb, x * 512, none⟩)), (48, .agg (c.map U).toArray), (49, .pointer (some ⟨sb, x * 512, none⟩))]
            63 rfl (by decide) (by kernel_rfl) (by kernel_rfl) (by simp) (by kernel_rfl) (by kernel_rfl) ?_ ?_
          · refine ⟨?_, ?_, ?_, ?_, ?_, ?_, ?_, ?_, ?_, ?_, ?_, ?_, ?_, trivial⟩
            · as_aux_lemma =>
              refine UpOb.plain rfl fun a W hR hl K hK => ?_
              obtain rfl : W = wr.drew := hR
              have h0 : a.tmps.getD 0 undef = (.pointer (some ⟨q, 0, none⟩)) := hl 0 (by decide)
              replace hK : ∀ v, v = (.pointer (some ⟨q, 0, none⟩)) → K (a.put (some 37) v) wr.drew := fun v h2 => hK v _ rfl (fun d hd => by cases hd; exact h2)
              clear hl
              simp only [Array.getD_eq_getD_getElem?] at h0
              go_simp
              exact hK _ rfl
            · as_aux_lemma =>
              refine UpOb.plain rfl fun a W hR hl K hK => ?_
              obtain rfl : W = wr.drew := hR
              have h37 : a.tmps.getD 37 undef = (.pointer (some ⟨q, 0, none⟩)) := hl 37 (by decide)
              replace hK : ∀ v, v = (.pointer (some ⟨q, 0, none⟩)) → K (a.put (some 38) v) wr.drew := fun v h2 => hK v _ rfl (fun d hd => by cases hd; exact h2)
              clear hl
              simp only [Array.getD_eq_getD_getElem?] at h37
              go_simp
              exact hK _ rfl
            · as_aux_lemma =>
              refine UpOb.plain rfl fun a W hR hl K hK => ?_
              obtain rfl : W = wr.drew := hR
              have h38 : a.tmps.getD 38 undef = (.pointer (some ⟨q, 0, none⟩)) := hl 38 (by decide)
              replace hK : ∀ v, v = (.pointer (some ⟨q, 0, none⟩)) → K (a.put (some 39) v) wr.drew := fun v h2 => hK v _ rfl (fun d hd => by cases hd; exact h2)
              clear hl
              simp only [Array.getD_eq_getD_getElem?] at h38
              go_simp
              exact hK _ rfl
            · as_aux_lemma =>
              refine UpOb.plain rfl fun a W hR hl K hK => ?_
              obtain rfl : W = wr.drew := hR
              have h39 : a.tmps.getD 39 undef = (.pointer (some ⟨q, 0, none⟩)) := hl 39 (by decide)
              replace hK : ∀ v, v = (.slice (some ⟨sb, 0, none⟩) n n) → K (a.put (some 40) v) wr.drew := fun v h2 => hK v _ rfl (fun d hd => by cases hd; exact h2)
              clear hl
              simp only [Array.getD_eq_getD_getElem?] at h39
              go_simp
              exact hK _ rfl
            · as_aux_lemma =>
              refine UpOb.plain rfl fun a W hR hl K hK => ?_
              obtain rfl : W = wr.drew := hR
              have h5 : a.tmps.getD 5 undef = (.int .i64 (x : Int)) := hl 5 (by decide)
              replace hK : ∀ v, v = (.int .i64 (x : Int)) → K (a.put (some 41) v) wr.drew := fun v h2 => hK v _ rfl (fun d hd => by cases hd; exact h2)
              clear hl
              simp only [Array.getD_eq_getD_getElem?] at h5
              go_simp
              exact hK _ rfl
            · as_aux_lemma =>
              refine UpOb.plain rfl fun a W hR hl K hK => ?_
              obtain rfl : W = wr.drew := hR
              have h0 : a.tmps.getD 0 undef = (.pointer (some ⟨q, 0, none⟩)) := hl 0 (by decide)
              replace hK : ∀ v, v = (.pointer (some ⟨q, 0, none⟩)) → K (a.put (some 42) v) wr.drew := fun v h2 => hK v _ rfl (fun d hd => by cases hd; exact h2)
              clear hl
              simp only [Array.getD_eq_getD_getElem?] at h0
              go_simp
              exact hK _ rfl
            · as_aux_lemma =>
              refine UpOb.plain rfl fun a W hR hl K hK => ?_
              obtain rfl : W = wr.drew := hR
              have h42 : a.tmps.getD 42 undef = (.pointer (some ⟨q, 0, none⟩)) := hl 42 (by decide)
              replace hK : ∀ v, v = (.pointer (some ⟨q, 0, none⟩)) → K (a.put (some 43) v) wr.drew := fun v h2 => hK v _ rfl (fun d hd => by cases hd; exact h2)
              clear hl
              simp only [Array.getD_eq_getD_getElem?] at h42
              go_simp
              exact hK _ rfl
            · as_aux_lemma =>
              refine UpOb.plain rfl fun a W hR hl K hK => ?_
              obtain rfl : W = wr.drew := hR
              have h43 : a.tmps.getD 43 undef = (.pointer (some ⟨q, 0, none⟩)) := hl 43 (by decide)
              replace hK : ∀ v, v = (.pointer (some ⟨q, 1, none⟩)) → K (a.put (some 44) v) wr.drew := fun v h2 => hK v _ rfl (fun d hd => by cases hd; exact h2)
              clear hl
              simp only [Array.getD_eq_getD_getElem?] at h43
              go_simp
              exact hK _ rfl
            · as_aux_lemma =>
              refine UpOb.plain rfl fun a W hR hl K hK => ?_
              obtain rfl : W = wr.drew := hR
              have h44 : a.tmps.getD 44 undef = (.pointer (some ⟨q, 1, none⟩)) := hl 44 (by decide)
              replace hK : ∀ v, v = (.slice (some ⟨lb, 0, none⟩) n n) → K (a.put (some 45) v) wr.drew := fun v h2 => hK v _ rfl (fun d hd => by cases hd; exact h2)
              clear hl
              simp only [Array.getD_eq_getD_getElem?] at h44
              go_simp
              exact hK _ rfl
            · as_aux_lemma =>
              refine UpOb.plain rfl fun a W hR hl K hK => ?_
              obtain rfl : W = wr.drew := hR
              have h5 : a.tmps.getD 5 undef = (.int .i64 (x : Int)) := hl 5 (by decide)
              replace hK : ∀ v, v = (.int .i64 (x : Int)) → K (a.put (some 46) v) wr.drew := fun v h2 => hK v _ rfl (fun d hd => by cases hd; exact h2)
              clear hl
              simp only [Array.getD_eq_getD_getElem?] at h5
              go_simp
              exact hK _ rfl
            · as_aux_lemma =>
              refine UpOb.plain rfl fun a W hR hl K hK => ?_
              obtain rfl : W = wr.drew := hR
              have h45 : a.tmps.getD 45 undef = (.slice (some ⟨lb, 0, none⟩) n n) := hl 45 (by decide)
              have h46 : a.tmps.getD 46 undef = (.int .i64 (x : Int)) := hl 46 (by decide)
              replace hK : ∀ v, v = (.pointer (some ⟨lb, x * 512, none⟩)) → K (a.put (some 47) v) wr.drew := fun v h2 => hK v _ rfl (fun d hd => by cases hd; exact h2)
              clear hl
              simp only [Array.getD_eq_getD_getElem?] at h45 h46
              go_simp
              exact hK _ rfl
            · as_aux_lemma =>
              refine UpOb.plain rfl fun a W hR hl K hK => ?_
              obtain rfl : W = wr.drew := hR
              have h47 : a.tmps.getD 47 undef = (.pointer (some ⟨lb, x * 512, none⟩)) := hl 47 (by decide)
              replace hK : ∀ v, v = (.agg (c.map U).toArray) → K (a.put (some 48) v) wr.drew := fun v h2 => hK v _ rfl (fun d hd => by cases hd; exact h2)
              clear hl
              exact wp_load_blk _ rfl lb x h47 LA c HM.out.bl HBL2.out HGC.out (hK _ rfl)
            · as_aux_lemma =>
              refine UpOb.plain rfl fun a W hR hl K hK => ?_
              obtain rfl : W = wr.drew := hR
              have h40 : a.tmps.getD 40 undef = (.slice (some ⟨sb, 0, none⟩) n n) := hl 40 (by decide)
              have h41 : a.tmps.getD 41 undef = (.int .i64 (x : Int)) := hl 41 (by decide)
              replace hK : ∀ v, v = (.pointer (some ⟨sb, x * 512, none⟩)) → K (a.put (some 49) v) wr.drew := fun v h2 => hK v _ rfl (fun d hd => by cases hd; exact h2)
              clear hl
              simp only [Array.getD_eq_getD_getElem?] at h40 h41
              go_simp
              exact hK _ rfl
          · intro W hW
            obtain rfl : W = wr.drew := hW
            simp only [filled, List.foldl, List.setIfInBounds_toArray, List.set, List.drop_succ_cons, List.drop_zero]
            go_wp2_with (first
              | (refine wpList_store_at rfl 43 _ _ rfl sb (x * 512) (c.map U) rfl rfl 43 _ HSH2.out HFIT2.out (by have := BRow c HC5.out; simpa using this) (BOne _) ?_; intro w6 hx6 hb6 hs6; have HX6 := Lib.hid hx6; have HB6 := Lib.hid hb6; obtain ⟨c2, ⟨v6, c6⟩, f6⟩ := HST.out w6 hx6; clear hx6 hb6 hs6))
            go_roundw
            case rel =>
              refine ⟨j + 1, by omega, by go_num, ((HFX.out.trans (Fx.of_ex (Ex.drew lb _) (by simp))).trans (Fx.of_ex HX6.out (by simp))).trans (Fx.of_ex (Ex.setCell wb x _ _) (by simp)), sh.set x c, wt.set x false, ?_, trivial, ?_, ?_, ?_⟩
              · rw [HFE.out]
                exact (HX6.out.blk HBL2.out H.out.ls).off (Ne.symm H.out.wl) _
              · have hsh := HB6.out
                rw [flat_lay sh HM.out.bs x c HC5.out (by rw [HM.out.sl]; exact hxn)] at hsh
                exact hsh.off (Ne.symm H.out.ws) _
              · have hwt := (HX6.out.blk HBW.out.drew H.out.ws).put x (.bool false)
                rw [bools_set] at hwt
                exact hwt
              · rw [HFE.out, HTK.out]
                exact HM.out.step hxn HC5.out HM.out.ll HM.out.bl (fun i _ => rfl) HGC.out
            case measure => simp [intOf]; omega
        · clear HKC
          go_wp2
          refine wp_region_pre (by kernel_rfl) (R := fun x y => y = x) (fun _ => rfl) (fun _ _ _ h k => k.trans h) 13 [[0], [37], [38], [39], [5], [0], [42], [43], [44], [5], [45, 46], [47], [40, 41]]
            [(37, .pointer (some ⟨q, 0, none⟩)), (38, .pointer (some ⟨q, 0, none⟩)), (39, .pointer (some ⟨q, 0, none⟩)), (40, .slice (some ⟨sb, 0, none⟩) n n), (41, .int .i64 (x : Int)), (42, .pointer (some ⟨q, 0, none⟩)), (43, .pointer (some ⟨q, 0, none⟩)), (44, .pointer (some ⟨q, 1, none⟩)), (45, .slice (some ⟨lb, 0, none⟩) n n), (46, .int .i64 (x : Int)), (47, .pointer (some ⟨lb, x * 512, none⟩)), (48, .agg (c.map U).toArray), (49, .pointer (some ⟨sb, x * 512, none⟩))]
            63 rfl (by decide) (by kernel_rfl) (by kernel_rfl) (by simp) (by kernel_rfl) (by kernel_rfl) ?_ ?_
          · refine ⟨?_, ?_, ?_, ?_, ?_, ?_, ?_, ?_, ?_, ?_, ?_, ?_, ?_, trivial⟩
            · as_aux_lemma =>
              refine UpOb.plain rfl fun a W hR hl K hK => ?_
              obtain rfl : W = wr.drew := hR
              have h0 : a.tmps.getD 0 undef = (.pointer (some ⟨q, 0, none⟩)) := hl 0 (by decide)
              replace hK : ∀ v, v = (.pointer (some ⟨q, 0, none⟩)) → K (a.put (some 37) v) wr.drew := fun v h2 => hK v _ rfl (fun d hd => by cases hd; exact h2)
              clear hl
              simp only [Array.getD_eq_getD_getElem?] at h0
              go_simp
              exact hK _ rfl
            · as_aux_lemma =>
              refine UpOb.plain rfl fun a W hR hl K hK => ?_
              obtain rfl : W = wr.drew := hR
              have h37 : a.tmps.getD 37 undef = (.pointer (some ⟨q, 0, none⟩)) := hl 37 (by decide)
              replace hK : ∀ v, v = (.pointer (some ⟨q, 0, none⟩)) → K (a.put (some 38) v) wr.drew := fun v h2 => hK v _ rfl (fun d hd => by cases hd; exact h2)
              clear hl
              simp only [Array.getD_eq_getD_getElem?] at h37
              go_simp
              exact hK _ rfl
            · as_aux_lemma =>
              refine UpOb.plain rfl fun a W hR hl K hK => ?_
              obtain rfl : W = wr.drew := hR
              have h38 : a.tmps.getD 38 undef = (.pointer (some ⟨q, 0, none⟩)) := hl 38 (by decide)
              replace hK : ∀ v, v = (.pointer (some ⟨q, 0, none⟩)) → K (a.put (some 39) v) wr.drew := fun v h2 => hK v _ rfl (fun d hd => by cases hd; exact h2)
              clear hl
              simp only [Array.getD_eq_getD_getElem?] at h38
              go_simp
              exact hK _ rfl
            · as_aux_lemma =>
              refine UpOb.plain rfl fun a W hR hl K hK => ?_
              obtain rfl : W = wr.drew := hR
              have h39 : a.tmps.getD 39 undef = (.pointer (some ⟨q, 0, none⟩)) := hl 39 (by decide)
              replace hK : ∀ v, v = (.slice (some ⟨sb, 0, none⟩) n n) → K (a.put (some 40) v) wr.drew := fun v h2 => hK v _ rfl (fun d hd => by cases hd; exact h2)
              clear hl
              simp only [Array.getD_eq_getD_getElem?] at h39
              go_simp
              exact hK _ rfl
            · as_aux_lemma =>
              refine UpOb.plain rfl fun a W hR hl K hK => ?_
              obtain rfl : W = wr.drew := hR
              have h5 : a.tmps.getD 5 undef = (.int .i64 (x : Int)) := hl 5 (by decide)
              replace hK : ∀ v, v = (.int .i64 (x : Int)) → K (a.put (some 41) v) wr.drew := fun v h2 => hK v _ rfl (fun d hd => by cases hd; exact h2)
              clear hl
              simp only [Array.getD_eq_getD_getElem?] at h5
              go_simp
              exact hK _ rfl
            · as_aux_lemma =>
              refine UpOb.plain rfl fun a W hR hl K hK => ?_
              obtain rfl : W = wr.drew := hR
              have h0 : a.tmps.getD 0 undef = (.pointer (some ⟨q, 0, none⟩)) := hl 0 (by decide)
              replace hK : ∀ v, v = (.pointer (some ⟨q, 0, none⟩)) → K (a.put (some 42) v) wr.drew := fun v h2 => hK v _ rfl (fun d hd => by cases hd; exact h2)
              clear hl
              simp only [Array.getD_eq_getD_getElem?] at h0
              go_simp
              exact hK _ rfl
            · as_aux_lemma =>
              refine UpOb.plain rfl fun a W hR hl K hK => ?_
              obtain rfl : W = wr.drew := hR
              have h42 : a.tmps.getD 42 undef = (.pointer (some ⟨q, 0, none⟩)) := hl 42 (by decide)
              replace hK : ∀ v, v = (.pointer (some ⟨q, 0, none⟩)) → K (a.put (some 43) v) wr.drew := fun v h2 => hK v _ rfl (fun d hd => by cases hd; exact h2)
              clear hl
              simp only [Array.getD_eq_getD_getElem?] at h42
              go_simp
              exact hK _ rfl
            · as_aux_lemma =>
              refine UpOb.plain rfl fun a W hR hl K hK => ?_
              obtain rfl : W = wr.drew := hR
              have h43 : a.tmps.getD 43 undef = (.pointer (some ⟨q, 0, none⟩)) := hl 43 (by decide)
              replace hK : ∀ v, v = (.pointer (some ⟨q, 1, none⟩)) → K (a.put (some 44) v) wr.drew := fun v h2 => hK v _ rfl (fun d hd => by cases hd; exact h2)
              clear hl
              simp only [Array.getD_eq_getD_getElem?] at h43
              go_simp
              exact hK _ rfl
            · as_aux_lemma =>
              refine UpOb.plain rfl fun a W hR hl K hK => ?_
              obtain rfl : W = wr.drew := hR
              have h44 : a.tmps.getD 44 undef = (.pointer (some ⟨q, 1, none⟩)) := hl 44 (by decide)
              replace hK : ∀ v, v = (.slice (some ⟨lb, 0, none⟩) n n) → K (a.put (some 45) v) wr.drew := fun v h2 => hK v _ rfl (fun d hd => by cases hd; exact h2)
              clear hl
              simp only [Array.getD_eq_getD_getElem?] at h44
              go_simp
              exact hK _ rfl
            · as_aux_lemma =>
              refine UpOb.plain rfl fun a W hR hl K hK => ?_
              obtain rfl : W = wr.drew := hR
              have h5 : a.tmps.getD 5 undef = (.int .i64 (x : Int)) := hl 5 (by decide)
              replace hK : ∀ v, v = (.int .i64 (x : Int)) → K (a.put (some 46) v) wr.drew := fun v h2 => hK v _ rfl (fun d hd => by cases hd; exact h2)
              clear hl
              simp only [Array.getD_eq_getD_getElem?] at h5
              go_simp
              exact hK _ rfl
            · as_aux_lemma =>
              refine UpOb.plain rfl fun a W hR hl K hK => ?_
              obtain rfl : W = wr.drew := hR
              have h45 : a.tmps.getD 45 undef = (.slice (some ⟨lb, 0, none⟩) n n) := hl 45 (by decide)
              have h46 : a.tmps.getD 46 undef = (.int .i64 (x : Int)) := hl 46 (by decide)
              replace hK : ∀ v, v = (.pointer (some ⟨lb, x * 512, none⟩)) → K (a.put (some 47) v) wr.drew := fun v h2 => hK v _ rfl (fun d hd => by cases hd; exact h2)
              clear hl
              simp only [Array.getD_eq_getD_getElem?] at h45 h46
              go_simp
              exact hK _ rfl
            · as_aux_lemma =>
              refine UpOb.plain rfl fun a W hR hl K hK => ?_
              obtain rfl : W = wr.drew := hR
              have h47 : a.tmps.getD 47 undef = (.pointer (some ⟨lb, x * 512, none⟩)) := hl 47 (by decide)
              replace hK : ∀ v, v = (.agg (c.map U).toArray) → K (a.put (some 48) v) wr.drew := fun v h2 => hK v _ rfl (fun d hd => by cases hd; exact h2)
              clear hl
              exact wp_load_blk _ rfl lb x h47 LA c HM.out.bl HBL2.out HGC.out (hK _ rfl)
            · as_aux_lemma =>
              refine UpOb.plain rfl fun a W hR hl K hK => ?_
              obtain rfl : W = wr.drew := hR
              have h40 : a.tmps.getD 40 undef = (.slice (some ⟨sb, 0, none⟩) n n) := hl 40 (by decide)
              have h41 : a.tmps.getD 41 undef = (.int .i64 (x : Int)) := hl 41 (by decide)
              replace hK : ∀ v, v = (.pointer (some ⟨sb, x * 512, none⟩)) → K (a.put (some 49) v) wr.drew := fun v h2 => hK v _ rfl (fun d hd => by cases hd; exact h2)
              clear hl
              simp only [Array.getD_eq_getD_getElem?] at h40 h41
              go_simp
              exact hK _ rfl
          · intro W hW
            obtain rfl : W = wr.drew := hW
            simp only [filled, List.foldl, List.setIfInBounds_toArray, List.set, List.drop_succ_cons, List.drop_zero]
            go_wp2_with (first
              | (refine wpList_store_at rfl 43 _ _ rfl sb (x * 512) (c.map U) rfl rfl 43 _ HSH2.out HFIT2.out (by have := BRow c HC5.out; simpa using this) (BOne _) ?_; intro w6 hx6 hb6 hs6; have HX6 := Lib.hid hx6; have HB6 := Lib.hid hb6; obtain ⟨c2, ⟨v6, c6⟩, f6⟩ := HST.out w6 hx6; clear hx6 hb6 hs6))
            go_roundw
            case rel =>
              refine ⟨j + 1, by omega, by go_num, ((HFX.out.trans (Fx.of_ex (Ex.drew lb _) (by simp))).trans (Fx.of_ex HX6.out (by simp))).trans (Fx.of_ex (Ex.setCell wb x _ _) (by simp)), sh.set x c, wt.set x false, ?_, trivial, ?_, ?_, ?_⟩
              · rw [HFE.out]
                exact (HX6.out.blk HBL2.out H.out.ls).off (Ne.symm H.out.wl) _
              · have hsh := HB6.out
                rw [flat_lay sh HM.out.bs x c HC5.out (by rw [HM.out.sl]; exact hxn)] at hsh
                exact hsh.off (Ne.symm H.out.ws) _
              · have hwt := (HX6.out.blk HBW.out.drew H.out.ws).put x (.bool false)
                rw [bools_set] at hwt
                exact hwt
              · rw [HFE.out, HTK.out]
                exact HM.out.step hxn HC5.out HM.out.ll HM.out.bl (fun i _ => rfl) HGC.out
            case measure => simp [intOf]; omega
    · obtain rfl : j = l.length := by omega
      have hm := HM.out
      have hbl := HBL.out
      rw [List.take_length] at hm hbl
      have hla := hm.last H.out.ok HN.out HM1.out (stay l kb) (fun i hi => stay_mem l kb i hi) rfl
      obtain ⟨rfl, rfl⟩ := hla
      have c4 : wr.cell? ⟨q, 4, none⟩ = some (.int .i64 (max s.fuse (-1))) := HBQ.out.cell 4
      have c5 : wr.cell? ⟨q, 5, none⟩ = some (.bool s.down) := HBQ.out.cell 5
      have f4 := HBQ.out.thaw 4
      have f5 := HBQ.out.thaw 5
      have HM' := Lib.hid hm
      have HBL' := Lib.hid hbl
      clear hm hbl
      go_wp2
      go_end0
      refine ⟨rfl, ((Fx.of_below HB1.out).trans (HFX.out.sub (by simp))).trans (Fx.of_ex ((Ex.setCell q 5 _ _).trans (Ex.setCell q 4 _ _)) (by simp)), l, HM1.out, HSO.out, ?_⟩
      have hlen : (s.settled (stay l kb)).restored.last.length = s.last.length := settled_length s (stay l kb) s.last
      have e : Cq (s.settled (stay l kb)).restored sb lb wb = ((Cq s sb lb wb).setIfInBounds 5 (.bool false)).setIfInBounds 4 (.int .i64 (-1)) := by
        unfold Cq
        rw [hlen]
        rfl
      have hq := (HBQ.out.put 5 (.bool false)).put 4 (.int .i64 (-1))
      rw [← e] at hq
      have hwb := (HBW.out.off (a := ⟨q, 5, none⟩) H.out.wq (.bool false)).off (a := ⟨q, 4, none⟩) H.out.wq (.int .i64 (-1))
      exact { ok := { H.out.ok.settled (stay l kb) with f0 := by show (-9223372036854775808 : Int) ≤ -1; omega, f1 := by show (-1 : Int) ≤ 9223372036854775807; omega }
              blk := hq
              sh := (HSH'.out.off (a := ⟨q, 5, none⟩) H.out.sq _).off (a := ⟨q, 4, none⟩) H.out.sq _
              la := (HBL'.out.off (a := ⟨q, 5, none⟩) H.out.lq _).off (a := ⟨q, 4, none⟩) H.out.lq _
              wt := by show Blk _ wb 4 (((List.replicate s.last.length false).map Value.bool).toArray); rw [HN.out]; exact hwb
              sq := H.out.sq, lq := H.out.lq, wq := H.out.wq, ls := H.out.ls, ws := H.out.ws, wl := H.out.wl }
end Go.Proofs.Ytcbfnbmkogeehaa
