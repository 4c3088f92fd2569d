/- slices.DeleteFunc of edges; graph.Keep by the law's closure. -/
import Derived.Test.YtbhoingiibcboaaJ4
namespace Go.Proofs.Ytbhoingiibcboaa
open Go.RowKit

/-- A row of edges in a block of its kind. -/
def OqE (w : World) (base : Nat) (v : Value) (l : List Eg) : Prop :=
  (v = .slice none 0 0 ∧ l = []) ∨ ∃ g cap cur, v = .slice (some ⟨g, 0, none⟩) l.length cap ∧ base ≤ g ∧ Blk w g 39 cur ∧ l.length ≤ cap ∧ l.length ≤ 1000000 ∧ ∀ i, i < l.length → EAt cur i (l.getD i e0)
theorem OqE.keepB {w w' : World} {base : Nat} {v : Value} {l : List Eg} (h : OqE w base v l) (hk : ∀ g cur, Blk w g 39 cur → Blk w' g 39 cur) : OqE w' base v l := by
  rcases h with h | ⟨g, cap, cur, h1, h2, h3, h4⟩
  · exact .inl h
  · exact .inr ⟨g, cap, cur, h1, h2, hk g cur h3, h4⟩
theorem OqE.rve {w : World} {base : Nat} {v : Value} {l : List Eg} (h : OqE w base v l) : RVE w v l := by
  rcases h with ⟨rfl, rfl⟩ | ⟨g, cap, cur, rfl, h2, h3, h4, h5, h6⟩
  · exact ⟨none, 0, rfl, Nat.le_refl _, RdE.nil _ _⟩
  · refine ⟨_, cap, rfl, h4, h5, fun h0 => ⟨g, 0, rfl, h3.lt, fun i hi => ?_⟩⟩
    obtain ⟨e1, e2, e3⟩ := h6 i hi
    rw [Nat.zero_add, h3.cell, h3.cell, h3.cell]
    exact ⟨e1, e2, e3⟩
theorem Still.exb {w w' : World} {g : Nat} {t : TypeId} {cs : Array Value} (hb : Blk w g t cs) (ht : t ≠ 31) (hx : Ex g w w') : Still w w' := fun k cur hk =>
  hx.blk hk (fun e => by
    subst e
    unfold Blk at hb hk
    rw [hb] at hk
    injection hk with hk
    injection hk with _ h2
    exact ht h2)
theorem OwE.oq {w : World} {base : Nat} {v : Value} {l : List Eg} (h : OwE w base v l) (hl : l.length ≤ 1000000) : OqE w base v l := by
  rcases h.2 with ⟨rfl, h0⟩ | ⟨b, cap, cur, rfl, hb, hgc, hcap, _, hsz, htake⟩
  · exact .inl ⟨rfl, List.length_eq_zero_iff.1 h0⟩
  · refine .inr ⟨b, cap, cur, rfl, hb, hgc, hcap, hl, fun i hi => ?_⟩
    have hg : ∀ j, j < l.length * 3 → cur[j]? = (ecs l)[j]? := fun j hj => by
      have h1 : (cur.toList.take (l.length * 3))[j]? = (ecs l)[j]? := by rw [htake]
      rw [List.getElem?_take_of_lt hj, Array.getElem?_toList] at h1
      exact h1
    obtain ⟨h1, h2, h3⟩ := ecs_at l i hi
    exact ⟨by rw [hg _ (by omega)]; exact h1, by rw [hg _ (by omega)]; exact h2, by rw [hg _ (by omega)]; exact h3⟩
attribute [local irreducible] V
attribute [local irreducible] wpList in
set_option maxRecDepth 100000 in
set_option maxHeartbeats 4000000 in
theorem deletefe_walk (w : World) (base pb : Nat) (v : Value) (l : List Eg) (pr : Eg → Bool) (Fit : World → Prop) (h : OwE w base v l) (hlen : l.length ≤ 1000000) (ht : Tells base pb pr Fit) (hfit : Fit w) (hbs : base ≤ w.heap.size) :
    Calls Try.prog 39 #[v, .func (.func 41) #[] #[.pointer (some ⟨pb, 0, none⟩)]] w fun e w' => ∃ u, e = .returned u ∧ OqE w' base u (l.filter (fun e => !pr e)) ∧ Below base w w' ∧ Still w w' := by
  have hrv := h.rve hlen
  have hoq := h.oq hlen
  obtain ⟨A, c, rfl, hc, hr⟩ := hrv
  have HI := Lib.hid (indexfe_walk w A c base pb l pr Fit hr ht hfit hbs)
  have hfl := fl_fo l pr
  have HTE := Lib.hid ht
  have HFIT := Lib.hid hfit
  by_cases hf : fo l pr < l.length
  · have hb' : ∃ g cur, A = some ⟨g, 0, none⟩ ∧ base ≤ g ∧ Blk w g 39 cur ∧ cur.size = c * 3 ∧ ∀ x, x < l.length → EAt cur x (l.getD x e0) := by
      rcases h.2 with ⟨e, h0⟩ | ⟨g, cap, cur, e, hb, hgc, hcap, hcm, hsz, htake⟩
      · omega
      · injection e with e1 e2 e3
        subst e1
        subst e3
        refine ⟨g, cur, rfl, hb, hgc, hsz, fun x hx => ?_⟩
        have hg : ∀ j, j < l.length * 3 → cur[j]? = (ecs l)[j]? := fun j hj => by
          have h1 : (cur.toList.take (l.length * 3))[j]? = (ecs l)[j]? := by rw [htake]
          rw [List.getElem?_take_of_lt hj, Array.getElem?_toList] at h1
          exact h1
        obtain ⟨h1, h2, h3⟩ := ecs_at l x hx
        exact ⟨by rw [hg _ (by omega)]; exact h1, by rw [hg _ (by omega)]; exact h2, by rw [hg _ (by omega)]; exact h3⟩
    obtain ⟨g, cur, rfl, hg, hblk, hcs, hpt⟩ := hb'
    have hi := HI.out
    rw [fox_lt hf] at hi
    have HI2 := Lib.hid hi
    have HB := Lib.hid hblk
    have HP := Lib.hid hpt
    have HF : Hid ((fl l pr (fo l pr + 1)).length = fo l pr) := by
      show _ = _
      rw [fl_succ l pr _ hf, fo_yes l pr hf, if_pos rfl, List.append_nil, hfl _ (Nat.le_refl _), List.length_take]; omega
    have HF2 : Hid (fl l pr (fo l pr + 1) = l.take (fo l pr)) := by
      show _ = _
      rw [fl_succ l pr _ hf, fo_yes l pr hf, if_pos rfl, List.append_nil, hfl _ (Nat.le_refl _)]
    have HLT := Lib.hid (fl_lt l pr hf)
    have HSZC := Lib.hid hcs
    clear hi HI h hr hblk hpt hfl hoq ht hfit hcs
    have hne : ((fo l pr : Int) == -1) = false := beq_false_of_ne (by omega)
    have hz := zero39
    generalize hfe : fo l pr = f at *
    have HFE := Lib.hid hfe
    clear hfe
    go_enter Try.func39, Try.ntmps39
    go_wp2_with (go_at_call 56; refine HI2.out.mono ?_; rintro e w1 ⟨rfl, h1⟩; have H1 := Lib.hid h1; clear h1)
    go_loopw [5, 6] (fun i jj wr => ∃ j : Nat, f < j ∧ j ≤ l.length ∧ jj = .int .i64 j ∧ i = .int .i64 ((fl l pr j).length : Nat) ∧ Below base w wr ∧ Still w wr ∧ ∃ cu, Blk wr g 39 cu ∧ cu.size = c * 3 ∧ (∀ x, x < (fl l pr j).length → EAt cu x ((fl l pr j).getD x e0)) ∧ (∀ x, j ≤ x → x < l.length → EAt cu x (l.getD x e0))) (fun _ jj _ => l.length - (intOf jj).toNat)
    case atStart =>
      refine ⟨f + 1, by omega, by omega, by go_num, by rw [HF.out], Below.mono H1.out hbs, Still.below H1.out, cur, (H1.out.block g HB.out.lt).trans HB.out, HSZC.out, fun x hx => ?_, fun x _ hx => HP.out x hx⟩
      rw [HF.out] at hx
      have e1 : (l.take f).getD x e0 = l.getD x e0 := by
        rw [← getE_at (by omega : x < l.length), ← getE_at (by rw [List.length_take]; omega : x < (l.take f).length), List.getElem_take]
      rw [HF2.out, e1]
      exact HP.out x (by omega)
    case round =>
      obtain ⟨j, hfj, hj, rfl, rfl, hbl, hst, cu, hblk, hsz, hlo, hhi⟩ := hrel
      have HST := Lib.hid hst
      clear hst
      have hij := HLT.out j hfj hj
      have HBL := Lib.hid hbl
      have HK := Lib.hid hblk
      have HSZ := Lib.hid hsz
      have HLO := Lib.hid hlo
      have HHI := Lib.hid hhi
      by_cases hlt : j < l.length
      · obtain ⟨h1, h2, h3⟩ := hhi j (Nat.le_refl _) hlt
        have c1 : wr.cell? ⟨g, j * 3, none⟩ = some (V (l.getD j e0).id) := by rw [hblk.cell]; exact h1
        have c2 : wr.cell? ⟨g, j * 3 + 1, none⟩ = some (V (l.getD j e0).a) := by rw [hblk.cell]; exact h2
        have c3 : wr.cell? ⟨g, j * 3 + 2, none⟩ = some (V (l.getD j e0).b) := by rw [hblk.cell]; exact h3
        have hs := fl_succ l pr j hlt
        have HFTr : Hid (Fit wr) := HTE.out.stays _ _ HFIT.out hbl
        clear hbl hblk hsz hlo hhi h1 h2 h3
        have hw := fun W hW => HTE.out.tells W (l.getD j e0) hW
        have store : True := trivial
        by_cases ho : pr (l.getD j e0) = true
        · rw [ho, if_pos rfl, List.append_nil] at hs
          rw [ho] at hw
          have HW := Lib.hid hw
          have HS := Lib.hid hs
          clear hw hs ho store
          generalize hpe : (fl l pr j).length = p at *
          have HPE := Lib.hid hpe
          clear hpe
          generalize l.getD j e0 = x at *
          go_wp2_with (first
            | (refine wpList_store_fresh rfl 39 (.tmp 7) (.tmp 25) rfl #[V x.id, V x.a, V x.b] rfl rfl (by kernel_rfl) rfl (all3 _ _ _) ?_; intro w2 hb2 hs2 hk2; have HB2 := Lib.hid hb2; have HK2 := Lib.hid (HK.out.kept hb2 HK.out.lt); have d0 : w2.cell? ⟨wr.heap.size, 0, none⟩ = some (V x.id) := hk2.cell 0; have d1 : w2.cell? ⟨wr.heap.size, 1, none⟩ = some (V x.a) := hk2.cell 1; have d2 : w2.cell? ⟨wr.heap.size, 2, none⟩ = some (V x.b) := hk2.cell 2; have HFT2 : Hid (Fit w2) := HTE.out.stays _ _ HFTr.out (Below.mono hb2 (Nat.le_trans hbs HBL.out.size)); clear hb2 hs2 hk2)
            | (go_at_call 41; refine (HW.out _ HFT2.out).mono ?_; rintro e w3 ⟨rfl, h3⟩; have H3 := Lib.hid h3; have HK3 := Lib.hid (HK2.out.kept h3 HK2.out.lt); clear h3))
          go_roundw
          case rel =>
            refine ⟨j + 1, by omega, by omega, by go_num, by rw [HS.out, HPE.out], (HBL.out.trans (Below.mono HB2.out (Nat.le_trans hbs HBL.out.size))).trans (Below.mono H3.out (Nat.le_trans hbs (Nat.le_trans HBL.out.size HB2.out.size))), (HST.out.trans (Still.below HB2.out)).trans (Still.below H3.out), cu, HK3.out, HSZ.out, fun y hy => ?_, fun y h1 h2 => HHI.out y (by omega) h2⟩
            rw [HS.out] at hy ⊢
            exact HLO.out y (by rw [← HPE.out]; exact hy)
          case measure => simp [intOf]; omega
        · have ho' : pr (l.getD j e0) = false := by simpa using ho
          rw [ho', if_neg (by decide)] at hs
          rw [ho'] at hw
          have HW := Lib.hid hw
          have HS := Lib.hid hs
          clear hw hs ho ho' store
          generalize hpe : (fl l pr j).length = p at *
          have HPE := Lib.hid hpe
          clear hpe
          generalize l.getD j e0 = x at *
          have s1 := fun (x : UInt32) (a : Addr) (w : World) => run_store Try.prog w a (V x) .plain (V_all x)
          have r6 := V_cells
          unfold Value.cells at r6
          have hpc : p * 3 + 2 < cu.size := by have := HSZ.out; omega
          go_wp2_with (first
            | (refine wpList_store_fresh rfl 39 (.tmp 7) (.tmp 25) rfl #[V x.id, V x.a, V x.b] rfl rfl (by kernel_rfl) rfl (all3 _ _ _) ?_; intro w2 hb2 hs2 hk2; have HB2 := Lib.hid hb2; have HK2 := Lib.hid (HK.out.kept hb2 HK.out.lt); have HY2 := Lib.hid hk2; have d0 : w2.cell? ⟨wr.heap.size, 0, none⟩ = some (V x.id) := hk2.cell 0; have d1 : w2.cell? ⟨wr.heap.size, 1, none⟩ = some (V x.a) := hk2.cell 1; have d2 : w2.cell? ⟨wr.heap.size, 2, none⟩ = some (V x.b) := hk2.cell 2; have HFT2 : Hid (Fit w2) := HTE.out.stays _ _ HFTr.out (Below.mono hb2 (Nat.le_trans hbs HBL.out.size)); clear hb2 hs2 hk2)
            | (go_at_call 41; refine (HW.out _ HFT2.out).mono ?_; rintro e w3 ⟨rfl, h3⟩; have H3 := Lib.hid h3; have HK3 := Lib.hid (HK2.out.kept h3 HK2.out.lt); have e0' : w3.cell? ⟨wr.heap.size, 0, none⟩ = some (V x.id) := (HY2.out.kept h3 HY2.out.lt).cell 0; have e1' : w3.cell? ⟨wr.heap.size, 1, none⟩ = some (V x.a) := (HY2.out.kept h3 HY2.out.lt).cell 1; have e2' : w3.cell? ⟨wr.heap.size, 2, none⟩ = some (V x.b) := (HY2.out.kept h3 HY2.out.lt).cell 2; have g0 := HK3.out.cell (p * 3); have g1 := HK3.out.cell (p * 3 + 1); have g2 := HK3.out.cell (p * 3 + 2); rw [Array.getElem?_eq_getElem (by omega)] at g0 g1 g2; have t0 := HK3.out.thaw (p * 3); have t1 := HK3.out.thaw (p * 3 + 1); have t2 := HK3.out.thaw (p * 3 + 2); clear h3))
          go_roundw
          case rel =>
            refine ⟨j + 1, by omega, by omega, by go_num, by rw [HS.out, List.length_append, HPE.out]; go_num, RBelow.set (RBelow.set (RBelow.set ((HBL.out.trans (Below.mono HB2.out (Nat.le_trans hbs HBL.out.size))).trans (Below.mono H3.out (Nat.le_trans hbs (Nat.le_trans HBL.out.size HB2.out.size)))) (p * 3) hg (V x.id)) (p * 3 + 1) hg (V x.a)) (p * 3 + 2) hg (V x.b), (((HST.out.trans (Still.below HB2.out)).trans (Still.below H3.out)).trans (Still.put HK3.out (by decide) _)).trans ((Still.put (HK3.out.put (p * 3) (V x.id)) (by decide) _).trans (Still.put ((HK3.out.put (p * 3) (V x.id)).put (p * 3 + 1) (V x.a)) (by decide) _)), ePut cu p x, ((HK3.out.put (p * 3) (V x.id)).put (p * 3 + 1) (V x.a)).put (p * 3 + 2) (V x.b), by rw [ePut_size]; exact HSZ.out, fun y hy => ?_, fun y h1 h2 => ?_⟩
            · rw [HS.out] at hy ⊢
              rw [List.length_append, HPE.out, List.length_singleton] at hy
              by_cases e : p = y
              · subst e
                rw [getDE_right _ x p HPE.out]
                exact ePut_at cu p x hpc
              · rw [getDE_left _ x y (by rw [HPE.out]; omega)]
                exact ePut_ne cu p y x _ e (HLO.out y (by omega))
            · exact ePut_ne cu p y x _ (by omega) (HHI.out y (by omega) h2)
          case measure => simp [intOf]; omega
      · obtain rfl : j = l.length := by omega
        have hfin : fl l pr l.length = l.filter (fun e => !pr e) := by unfold fl; rw [List.take_length]
        have HFIN := Lib.hid hfin
        clear hbl hblk hsz hlo hhi hfin
        generalize hpe : (fl l pr l.length).length = p at *
        have HPE := Lib.hid hpe
        clear hpe
        have hpc : p < c := by omega
        go_wp2_with (refine wpList_clre rfl (.tmp 38) rfl g (p * 3) (l.length - p) (c - p) rfl (by omega) cu HK.out (by have := HSZ.out; omega) ?_; intro w3 hx3 hc3; have HX3 := Lib.hid hx3; have HC3 := Lib.hid hc3; clear hx3 hc3)
        go_ret
        refine ⟨_, rfl, ?_, Ex.below HBL.out HX3.out hg (Nat.le_trans hbs HBL.out.size), HST.out.trans (Still.exb HK.out (by decide) HX3.out)⟩
        obtain ⟨cu', hk', heq⟩ := HC3.out
        refine .inr ⟨g, c, cu', by rw [← HFIN.out, HPE.out]; rfl, hg, hk', by rw [← HFIN.out, HPE.out]; omega, by rw [← HFIN.out, HPE.out]; omega, fun y hy => ?_⟩
        have hy2 : y < p := by rw [← HPE.out, HFIN.out]; exact hy
        obtain ⟨h1, h2, h3⟩ := HLO.out y hy2
        rw [← HFIN.out]
        exact ⟨by rw [heq _ (by omega)]; exact h1, by rw [heq _ (by omega)]; exact h2, by rw [heq _ (by omega)]; exact h3⟩
  · have hi := HI.out
    rw [fox_ge hf] at hi
    have HI2 := Lib.hid hi
    have HQ := Lib.hid hoq
    have HF : Hid (l.filter (fun e => !pr e) = l) := by
      have e : fo l pr = l.length := by have := fo_le l pr; omega
      have h2 := fl_fo l pr l.length (by omega)
      unfold fl at h2
      rwa [List.take_length] at h2
    clear hi HI h hr hfl hoq
    go_enter Try.func39, Try.ntmps39
    go_wp2_with (go_at_call 56; refine HI2.out.mono ?_; rintro e w1 ⟨rfl, h1⟩; have H1 := Lib.hid h1; clear h1)
    go_ret
    refine ⟨_, rfl, ?_, Below.mono H1.out hbs, Still.below H1.out⟩
    rw [HF.out]
    exact HQ.out.keepB (fun _ _ hk => hk.kept H1.out hk.lt)
end Go.Proofs.Ytbhoingiibcboaa
