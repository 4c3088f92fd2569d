/- graph.reach. -/
import Derived.Test.YtbhoingiibcboaaH1
namespace Go.Proofs.Ytbhoingiibcboaa
open Go.RowKit

structure RInv (es : List Eg) (fr : UInt32) (N : UInt32 → Bool) (q : List UInt32) : Prop where
  src : N fr = true
  same : ∀ x, N x = true → lab es x = lab es fr
  que : ∀ x ∈ q, N x = true
  clo : ∀ x, N x = true → x ∈ q ∨ ∀ y ∈ nbr es x, N y = true
theorem RInv.start (es : List Eg) (fr : UInt32) : RInv es fr (upd (fun _ => false) fr true) [fr] := by
  refine ⟨upd_at _ _ _, fun x hx => ?_, fun x hx => ?_, fun x hx => ?_⟩
  · by_cases e : x = fr
    · rw [e]
    · rw [upd_ne _ _ e] at hx; cases hx
  · rw [List.mem_singleton] at hx; subst hx; exact upd_at _ _ _
  · by_cases e : x = fr
    · exact .inl (by rw [e]; exact List.mem_singleton.2 rfl)
    · rw [upd_ne _ _ e] at hx; cases hx
theorem RInv.put {es : List Eg} {fr x0 y : UInt32} {N : UInt32 → Bool} {q : List UInt32} (h : RInv es fr N (x0 :: q)) (hy : y ∈ nbr es x0) : RInv es fr (upd N y true) (x0 :: q ++ [y]) := by
  have hold : ∀ x, N x = true → upd N y true x = true := fun x hx => by
    by_cases e : x = y
    · rw [e]; exact upd_at _ _ _
    · rw [upd_ne _ _ e]; exact hx
  refine ⟨hold _ h.src, fun x hx => ?_, fun x hx => ?_, fun x hx => ?_⟩
  · by_cases e : x = y
    · rw [e, nbr_lab hy]; exact h.same _ (h.que _ List.mem_cons_self)
    · rw [upd_ne _ _ e] at hx; exact h.same x hx
  · rcases List.mem_append.1 hx with hx | hx
    · exact hold _ (h.que x hx)
    · rw [List.mem_singleton] at hx; rw [hx]; exact upd_at _ _ _
  · by_cases e : x = y
    · exact .inl (by rw [e]; simp)
    · rw [upd_ne _ _ e] at hx
      rcases h.clo x hx with hx | hx
      · exact .inl (List.mem_append_left _ hx)
      · exact .inr fun z hz => hold _ (hx z hz)
theorem RInv.pop {es : List Eg} {fr x0 : UInt32} {N : UInt32 → Bool} {q : List UInt32} (h : RInv es fr N (x0 :: q)) (hd : ∀ y ∈ nbr es x0, N y = true) : RInv es fr N q :=
  ⟨h.src, h.same, fun x hx => h.que x (List.mem_cons_of_mem _ hx), fun x hx => by
    rcases h.clo x hx with hx | hx
    · rcases List.mem_cons.1 hx with rfl | hx
      · exact .inr hd
      · exact .inl hx
    · exact .inr hx⟩
theorem RInv.done {es : List Eg} {fr : UInt32} {N : UInt32 → Bool} (h : RInv es fr N []) (x : UInt32) : N x = true ↔ lab es x = lab es fr := by
  refine ⟨h.same x, fun e => ?_⟩
  refine (lab_near es (fun x => N x = true) (fun x hx => ?_) e).2 h.src
  rcases h.clo x hx with h1 | h1
  · cases h1
  · exact h1
/-- What the map of the seen ones holds. -/
def sfn (s : UInt32 → Option Value) (p : Int) (N : UInt32 → Bool) (x : UInt32) : Option Value := if N x then some (.int .i64 p) else s x
theorem sfn_put (s : UInt32 → Option Value) (p : Int) (N : UInt32 → Bool) (y : UInt32) : (fun z => if z = y then some (Value.int .i64 p) else sfn s p N z) = sfn s p (upd N y true) := by
  funext z
  unfold sfn
  by_cases e : z = y
  · subst e; rw [upd_at]; simp
  · rw [upd_ne _ _ e]; simp [e]
theorem sfn_none (s : UInt32 → Option Value) (p : Int) : sfn s p (fun _ => false) = s := by funext z; simp [sfn]
theorem sfn_is {s : UInt32 → Option Value} {p : Int} {N : UInt32 → Bool} {y : UInt32} (h : s y = none) : (sfn s p N y).isSome = N y := by
  unfold sfn
  cases N y <;> simp [h]
theorem zero3 (w : World) : (zeroValue 3).run Try.prog w = .ok (.int .i64 0) w := by kernel_rfl
theorem look54 {w : World} {sm m : Nat} {s : UInt32 → Option Value} (h : Mu w sm m s) (x : UInt32) : (Instr.lookup 54 (.map (some sm)) (V x) true).run Try.prog w = .ok (.tuple #[(s x).getD (.int .i64 0), .bool (s x).isSome]) w :=
  h.look_ok 54 3 Try.underlying54 _ (zero3 w) x
theorem Ex.size_eq {g : Nat} {w w' : World} (h : Ex g w w') : w.heap.size ≤ w'.heap.size := h.size
attribute [local irreducible] V
attribute [local irreducible] wpList in
set_option maxRecDepth 100000 in
set_option maxHeartbeats 4000000 in
theorem reach_walk (w : World) (base nm n sm m : Nat) (f s : UInt32 → Option Value) (vs : List UInt32) (es : List Eg) (fr : UInt32) (p : Int) (hna : NearAt w base nm n f (nbr es)) (hse : Mu w sm m s) (hne : nm ≠ sm)
    (hvs : ∀ e ∈ es, e.a ∈ vs ∧ e.b ∈ vs) (hfr : fr ∈ vs) (hs0 : ∀ y, lab es y = lab es fr → s y = none) (hvl : vs.length ≤ 1000) (hel : es.length ≤ 1000) (hm : m ≤ 100000) :
    Calls Try.prog 30 #[V fr, .int .i64 p, .map (some nm), .map (some sm)] w fun e w' => e = .returned (.tuple #[]) ∧ ∃ m' s', m' ≤ m + vs.length ∧ Mu w' sm m' s' ∧ (∀ x, s' x = if lab es x = lab es fr then some (.int .i64 p) else s x) ∧ Ex sm w w' := by
  have HNA := Lib.hid hna
  have HSE := Lib.hid hse
  have HVS := Lib.hid hvs
  have HFR := Lib.hid hfr
  have HS0 := Lib.hid hs0
  have HSM : Hid (sm < w.heap.size) := hse.lt
  have r6 := V_cells
  unfold Value.cells at r6
  clear hna hse hvs hfr hs0
  go_enter Try.func30, Try.ntmps30
  go_wp2_with (refine wpList_mapM rfl _ _ _ 54 3 rfl Try.underlying54 sm m s fr (.int .i64 p) rfl rfl rfl HSE.out (by unfold maxLen; omega) ?_; intro w2 hm2 hx2 hs2; have HM2 := Lib.hid hm2; have HX2 := Lib.hid hx2; have HS2 := Lib.hid hs2; clear hm2 hx2 hs2)
  have HQ0 : Hid (Oq (w2.alloc (.cells #[V fr] 31)) w.heap.size (.slice (some ⟨w2.heap.size, 0, none⟩) 1 1) [fr]) := by
    refine .inr ⟨w2.heap.size, 0, 1, #[V fr], rfl, HX2.out.size, Blk.fresh _ _ _, by simp, by simp, by decide, fun i hi => ?_⟩
    have : i = 0 := by simp at hi; omega
    subst this
    rfl
  have HM3 : Hid (Mu (w2.alloc (.cells #[V fr] 31)) sm (m + 1) (sfn s p (upd (fun _ => false) fr true))) := by
    have h1 := HM2.out.kept (Below.heap_alloc w2 (.cells #[V fr] 31) sm HM2.out.lt)
    have e : (fun y => if y = fr then some (Value.int .i64 p) else s y) = sfn s p (upd (fun _ => false) fr true) := by
      rw [← sfn_put, sfn_none]
    rw [e] at h1
    exact h1
  have HX3 : Hid (Ex sm w (w2.alloc (.cells #[V fr] 31))) := HX2.out.trans (Ex.alloc sm w2 _)
  have HU0 : Hid (un vs (upd (fun _ => false) fr true) + 1 ≤ vs.length) := by
    have h1 := un_put (N := fun _ => false) HFR.out rfl
    have h2 : un vs (fun _ => false) ≤ vs.length := List.countP_le_length
    show _ ≤ _
    omega
  go_loopg [8] (2 * vs.length) (fun gk v wr => ∃ (q : List UInt32) (N : UInt32 → Bool) (m' : Nat), Oq wr w.heap.size v q ∧ Mu wr sm m' (sfn s p N) ∧ Ex sm w wr ∧ RInv es fr N q ∧ q.length + un vs N ≤ vs.length ∧ m' + un vs N ≤ m + vs.length ∧ 2 * un vs N + q.length ≤ gk)
  case atStart => exact ⟨[fr], _, m + 1, HQ0.out, HM3.out, HX3.out, RInv.start es fr, by have := HU0.out; simp; omega, by have := HU0.out; omega, by have := HU0.out; simp; omega⟩
  case round =>
    obtain ⟨q, N, m', hq, hmu, hx, hinv, hql, hml, hgk⟩ := hrel
    have HQ := Lib.hid hq
    have HMU := Lib.hid hmu
    have HX := Lib.hid hx
    have HI := Lib.hid hinv
    have HGK := Lib.hid hgk
    have HQL := Lib.hid hql
    have HML := Lib.hid hml
    obtain ⟨A, c, rfl, hpl⟩ := hq.is
    clear hmu hx hinv hgk hql hml hq
    cases q with
    | nil =>
      have HF : Hid (∀ x, sfn s p N x = if lab es x = lab es fr then some (.int .i64 p) else s x) := fun x => by
        unfold sfn
        by_cases e : lab es x = lab es fr
        · rw [if_pos e, if_pos ((HI.out.done x).2 e)]
        · rw [if_neg e, if_neg (fun h => e ((HI.out.done x).1 h))]
      have HMF : Hid (m' ≤ m + vs.length) := by have := HML.out; show _ ≤ _; omega
      clear hpl
      go_wp2
      go_end0
      exact ⟨rfl, m', _, HMF.out, HMU.out, HF.out, HX.out⟩
    | cons x0 q0 =>
      obtain ⟨b, o, rfl, hc⟩ := hpl (by simp)
      have hcell : wr.cell? ⟨b, o, none⟩ = some (V x0) := hc 0 (by simp)
      have hna := HNA.out.ex HSE.out hne HX.out
      have hlk := hna.look x0
      obtain ⟨A2, c2, hfv, _⟩ := (hna.2.own x0).is
      have HOF := Lib.hid (hna.2.own x0)
      have HFV : Hid ((f x0).getD (.slice none 0 0) = .slice A2 (nbr es x0).length c2) := hfv
      have HNL : Hid ((nbr es x0).length ≤ 2000) := by have := nbr_len es x0; show _ ≤ _; omega
      have hnl : (nbr es x0).length ≤ 2000 := HNL.out
      have hql : q0.length ≤ 1000 := by have := HQL.out; simp at this; omega
      rw [hfv] at hlk
      have hlen : (x0 :: q0).length = q0.length + 1 := rfl
      rw [hlen]
      clear hc hpl hna hfv hlen
      go_wp2
      go_loopw [8, 29] (fun v i wr2 => ∃ (j : Nat) (add : List UInt32) (N2 : UInt32 → Bool) (m2 : Nat), j ≤ (nbr es x0).length ∧ i = .int .i64 j ∧ Oq wr2 w.heap.size v (x0 :: (q0 ++ add)) ∧ Mu wr2 sm m2 (sfn s p N2) ∧ Ex sm w wr2 ∧ RInv es fr N2 (x0 :: (q0 ++ add)) ∧ (∀ i, i < j → N2 ((nbr es x0).getD i 0) = true) ∧ un vs N2 + add.length ≤ un vs N ∧ m2 + un vs N2 ≤ m + vs.length) (fun _ i _ => (nbr es x0).length - (intOf i).toNat)
      case atStart => exact ⟨0, [], N, m', Nat.zero_le _, rfl, by rw [List.append_nil]; exact HQ.out, HMU.out, HX.out, by rw [List.append_nil]; exact HI.out, fun i hi => by omega, by simp, HML.out⟩
      case round =>
        obtain ⟨j, add, N2, m2, hj, rfl, hq2, hmu2, hx2, hinv2, hdn, hun, hml2⟩ := hrel
        have HQ2 := Lib.hid hq2
        have HMU2 := Lib.hid hmu2
        have HX2b := Lib.hid hx2
        have HI2 := Lib.hid hinv2
        have HD2 := Lib.hid hdn
        have HUN := Lib.hid hun
        have HML2 := Lib.hid hml2
        clear hmu2 hx2 hinv2 hun hml2 hq2 hdn
        by_cases hlt : j < (nbr es x0).length
        · have hof : Oq wr base (.slice A2 (nbr es x0).length c2) (nbr es x0) := by
            have := (HNA.out.ex HSE.out hne HX2b.out).2.own x0
            rwa [HFV.out] at this
          obtain ⟨b2, o2, rfl, hc2⟩ := hof.cells (by omega)
          have hcy := hc2 j hlt
          have HY : Hid ((nbr es x0).getD j 0 ∈ nbr es x0) := getD_mem hlt
          have hyn := HS0.out ((nbr es x0).getD j 0) ((nbr_lab HY.out).trans (HI2.out.same _ (HI2.out.que _ List.mem_cons_self)))
          have hl := look54 HMU2.out ((nbr es x0).getD j 0)
          rw [sfn_is hyn] at hl
          clear hc2 hof
          by_cases hN : N2 ((nbr es x0).getD j 0) = true
          · rw [hN] at hl
            have HN := Lib.hid hN
            clear hN hyn
            generalize (sfn s p N2 ((nbr es x0).getD j 0)).getD (.int .i64 0) = zz at *
            generalize hy : (nbr es x0).getD j 0 = y at hl hcy
            have HYE := Lib.hid hy
            clear hy
            go_wp2
            go_roundw
            case rel => exact ⟨j + 1, add, N2, m2, by omega, by go_num, HQ2.out, HMU2.out, HX2b.out, HI2.out, fun i hi => by
              by_cases e : i = j
              · rw [e]; exact HN.out
              · exact HD2.out i (by omega), HUN.out, HML2.out⟩
            case measure => simp [intOf]; omega
          · have hN' : N2 ((nbr es x0).getD j 0) = false := by simpa using hN
            rw [hN'] at hl
            have HN := Lib.hid hN'
            have HYV : Hid ((nbr es x0).getD j 0 ∈ vs) := by
              obtain ⟨e, he, h1 | h1⟩ := nbr_mem HY.out
              · rw [← h1.2]; exact (HVS.out e he).2
              · rw [← h1.2]; exact (HVS.out e he).1
            have HUP := Lib.hid (un_put HYV.out hN')
            have HIP := Lib.hid (HI2.out.put HY.out)
            have HDP : Hid (∀ i, i < j + 1 → upd N2 ((nbr es x0).getD j 0) true ((nbr es x0).getD i 0) = true) := fun i hi => by
              by_cases e : (nbr es x0).getD i 0 = (nbr es x0).getD j 0
              · rw [e]; exact upd_at _ _ _
              · rw [upd_ne _ _ e]
                exact HD2.out i (by
                  rcases Nat.lt_or_ge i j with h | h
                  · exact h
                  · exact absurd (by rw [show i = j by omega]) e)
            clear hN hN' hyn
            generalize (sfn s p N2 ((nbr es x0).getD j 0)).getD (.int .i64 0) = zz at *
            generalize (nbr es x0).getD j 0 = y at *
            go_wp2_with (first
              | (refine wpList_mapM rfl _ _ _ 54 3 rfl Try.underlying54 sm m2 _ y (.int .i64 p) rfl rfl rfl HMU2.out (by have := HML2.out; unfold maxLen; omega) ?_; intro w4 hm4 hx4 hs4; have HM4 := Lib.hid hm4; have HX4 := Lib.hid hx4; have HS4 := Lib.hid hs4; have HQ4 := Lib.hid ((HQ2.out.still (Still.ex HMU2.out hx4)).still (Still.below ((Below.refl _ w4).alloc (Nat.le_refl _) (.cells #[V y] 31)))); clear hm4 hx4 hs4)
              | (refine wpList_pushq rfl (.tmp 44) (.tmp 46) rfl w.heap.size _ (x0 :: (q0 ++ add)) y w4.heap.size rfl rfl HQ4.out (by have := HUN.out; have := HQL.out; simp at *; omega) (by have := (HX2b.out.trans HX4.out).size; simp; omega) (Blk.fresh _ _ _) ?_; intro v5 w5 ho5 hg5 hb5; have HO5 := Lib.hid ho5; have HG5 := Lib.hid hg5; clear ho5 hg5 hb5))
            go_roundw
            case rel =>
              refine ⟨j + 1, add ++ [y], upd N2 y true, m2 + 1, by omega, by go_num, ?_, ?_, ?_, ?_, HDP.out, ?_, ?_⟩
              · have := HO5.out
                simpa [List.append_assoc] using this
              · have h1 := (HM4.out.kept (Below.heap_alloc w4 (.cells #[V y] 31) sm HM4.out.lt)).grown HQ4.out HG5.out
                rwa [sfn_put] at h1
              · exact ((HX2b.out.trans HX4.out).trans (Ex.alloc sm w4 _)).push HQ4.out HG5.out (Nat.le_refl _)
              · have := HIP.out
                simpa [List.append_assoc] using this
              · have := HUP.out; have := HUN.out; rw [List.length_append, List.length_singleton]; omega
              · have := HUP.out; have := HML2.out; omega
            case measure => simp [intOf]; omega
        · obtain rfl : j = (nbr es x0).length := by omega
          have HP : Hid (RInv es fr N2 (q0 ++ add)) := HI2.out.pop (fun y hy => by
            obtain ⟨i, hi, rfl⟩ := List.getElem_of_mem hy
            rw [getD_at hi]
            exact HD2.out i hi)
          obtain ⟨A5, c5, hv5, _⟩ := HQ2.out.is
          go_wp2_with (refine wpList_tailq rfl (.tmp 21) (.const (.int .i64 1)) rfl rfl w.heap.size _ x0 (q0 ++ add) rfl HQ2.out ?_; intro v6 ho6; have HO6 := Lib.hid ho6; clear ho6)
          go_roundg (2 * un vs N2 + (q0 ++ add).length)
          case measure => have := HGK.out; have := HUN.out; simp at *; omega
          case rel => exact ⟨q0 ++ add, N2, m2, HO6.out, HMU2.out, HX2b.out, HP.out, by have := HQL.out; have := HUN.out; simp at *; omega, HML2.out, Nat.le_refl _⟩
end Go.Proofs.Ytbhoingiibcboaa
