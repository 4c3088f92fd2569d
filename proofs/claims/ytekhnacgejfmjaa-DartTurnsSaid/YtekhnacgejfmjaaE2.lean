/- DeleteFunc, by the closure of Without. -/
import Derived.Test.YtekhnacgejfmjaaE1
namespace Go.Proofs.Ytekhnacgejfmjaa
open Go.RowKit

theorem Blk.setCells {g : Nat} {t : TypeId} : ∀ (vs : List Value) (o : Nat) (w : World) (cu : Array Value), Blk w g t cu → ∃ cu', Blk (w.setCells g o vs) g t cu' ∧ ∀ x, x < o → cu'[x]? = cu[x]?
  | [], _, _, cu, h => ⟨cu, h, fun _ _ => rfl⟩
  | v :: r, o, w, cu, h => by
    obtain ⟨cu', h1, h2⟩ := Blk.setCells r (o + 1) (w.setCell ⟨g, o, none⟩ v) _ (h.put o v)
    refine ⟨cu', h1, fun x hx => ?_⟩
    rw [h2 x (by omega), Array.getElem?_setIfInBounds_ne (by omega)]
theorem Ex.setCells (g : Nat) : ∀ (vs : List Value) (o : Nat) (w : World), Ex g w (w.setCells g o vs)
  | [], _, w => Ex.refl g w
  | v :: r, o, w => (Ex.setCell g o w v).trans (Ex.setCells g r (o + 1) _)
theorem getD_right (l : List UInt32) (x : UInt32) (p : Nat) (h : l.length = p) : (l ++ [x]).getD p 0 = x := by
  subst h; simp
theorem getD_left (l : List UInt32) (x : UInt32) (p : Nat) (h : p < l.length) : (l ++ [x]).getD p 0 = l.getD p 0 := by
  rw [← getD_at h, ← getD_at (by rw [List.length_append]; omega), List.getElem_append_left]
theorem zero37 (w : World) : (zeroValue 37).run Try.prog w = .ok (.int .u32 0) w := by kernel_rfl
theorem wpList_clr {ops : Array Oper} {rest : List Oper} {o : Oper} {a : Act} {w : World} {Q : Exit → Act → World → Prop} (hgd : o.guard = none) (x : Operand)
    (ho : o.op = .call { callee := .builtin .clear, args := #[x], argTypes := #[41] }) (g i n c : Nat) (hx : a.eval x = .slice (some ⟨g, i, none⟩) n c) (hn : 0 < n) (cu : Array Value) (hb : Blk w g 37 cu) (hs : i + n ≤ cu.size)
    (h : ∀ w', Ex g w w' → (∃ cu', Blk w' g 37 cu' ∧ ∀ x, x < i → cu'[x]? = cu[x]?) → wpList Try.prog ops Q rest (a.put o.dst (.tuple #[])) w') : wpList Try.prog ops Q (o :: rest) a w := by
  refine wpList_plain hgd fun K hK => ?_
  have hrun := Lib.run_clear_slice (P := Try.prog) w 41 37 o.type (.int .u32 0) Try.underlying41 zero37 rfl rfl g i n c hn (fun j hj => by rw [hb.cell, Array.getElem?_eq_getElem (by omega)]; rfl) (fun j _ => hb.thaw _)
  unfold Oper.wp execOp
  simp only [ho, resolve, invoke, builtin, Sem.run_bind, Sem.run_pure, Result.andThen_ok, List.map_toArray, List.map_cons, List.map_nil, hx, hrun]
  exact hK _ _ (h _ (Ex.setCells g _ _ _) (Blk.setCells _ _ _ _ hb))
/-- What is kept of the first so many. -/
def fl (l m : List UInt32) (j : Nat) : List UInt32 := (l.take j).filter (out m)
theorem fl_succ (l m : List UInt32) (k : Nat) (h : k < l.length) : fl l m (k + 1) = fl l m k ++ if out m (l.getD k 0) then [l.getD k 0] else [] := filt_succ l (out m) k h
theorem fl_len (l m : List UInt32) (k : Nat) (h : k ≤ l.length) : (fl l m k).length ≤ k := filt_len l (out m) k h
theorem fl_fo (l m : List UInt32) : ∀ k, k ≤ fo l m → fl l m k = l.take k
  | 0, _ => rfl
  | k + 1, h => by
    have hl := fo_le l m
    rw [fl_succ l m k (by omega), fl_fo l m k (by omega), fo_no l m k (by omega) (by omega), if_pos rfl, ← getD_at (by omega : k < l.length), ← List.take_succ_eq_append_getElem]
theorem fl_lt (l m : List UInt32) (h : fo l m < l.length) : ∀ j, fo l m < j → j ≤ l.length → (fl l m j).length < j
  | 0, h1, _ => by omega
  | j + 1, h1, h2 => by
    rw [fl_succ l m j (by omega), List.length_append]
    by_cases e : j = fo l m
    · rw [e, fo_yes l m h, fl_fo l m _ (Nat.le_refl _), List.length_take]; simp; omega
    · have := fl_lt l m h j (by omega) (by omega)
      split <;> simp <;> omega
attribute [local irreducible] V
set_option maxHeartbeats 2000000 in
theorem deletef_walk (w : World) (base : Nat) (v : Value) (l : List UInt32) (pb mb n : Nat) (m : List UInt32) (h : Ow w base v l) (hlen : l.length ≤ 1000000) (hcl : Cl w pb mb n m) (hpb : pb < base) (hmb : mb < base) (hbs : base ≤ w.heap.size) :
    Calls Try.prog 49 #[v, .func (.func 51) #[] #[.pointer (some ⟨pb, 0, none⟩)]] w fun e w' => ∃ u, e = .returned u ∧ RV w' u (l.filter (out m)) ∧ Below base w w' := by
  have hrv := h.rv hlen
  obtain ⟨A, c, rfl, hc, hr⟩ := hrv
  have HI := Lib.hid (indexf_walk w A c l pb mb n m hr hcl)
  have hfl := fl_fo l m
  by_cases hf : fo l m < l.length
  · have hb' : ∃ g cur, A = some ⟨g, 0, none⟩ ∧ base ≤ g ∧ Blk w g 37 cur ∧ l.length ≤ cur.size ∧ ∀ x, x < l.length → cur[x]? = some (V (l.getD x 0)) := by
      rcases h.2 with ⟨e, h0⟩ | ⟨g, cap, cur, e, hb, hgc, hcap, hcm, hsz, htake⟩
      · omega
      · injection e with e1 e2 e3
        subst e1
        refine ⟨g, cur, rfl, hb, hgc, by omega, fun x hx => ?_⟩
        have h1 : (cur.toList.take (l.length * 1))[x]? = (l.map V)[x]? := by rw [htake]
        rw [List.getElem?_take_of_lt (by omega)] at h1
        rw [← getD_at hx]
        simpa [hx] using h1
    obtain ⟨g, cur, rfl, hg, hblk, hcs, hpt⟩ := hb'
    have hi := HI.out
    rw [fox_lt hf] at hi
    have HI2 := Lib.hid hi
    have HB := Lib.hid hblk
    have HP := Lib.hid hpt
    have HC := Lib.hid hcl
    have HF : Hid ((fl l m (fo l m + 1)).length = fo l m) := by
      show _ = _
      rw [fl_succ l m _ hf, fo_yes l m hf, if_neg (by decide), List.append_nil, hfl _ (Nat.le_refl _), List.length_take]; omega
    have HF2 : Hid (fl l m (fo l m + 1) = l.take (fo l m)) := by
      show _ = _
      rw [fl_succ l m _ hf, fo_yes l m hf, if_neg (by decide), List.append_nil, hfl _ (Nat.le_refl _)]
    have HLT := Lib.hid (fl_lt l m hf)
    clear hi HI h hr hblk hpt hcl hfl
    have hne : ((fo l m : Int) == -1) = false := beq_false_of_ne (by omega)
    generalize hfe : fo l m = f at *
    have HFE := Lib.hid hfe
    clear hfe
    go_enter Try.func49, Try.ntmps49
    go_wp2_with (go_at_call 57; refine HI2.out.mono ?_; rintro e w1 ⟨rfl, h1⟩; have H1 := Lib.hid h1; clear h1)
    go_loopw [5, 6] (fun i jj wr => ∃ j : Nat, f < j ∧ j ≤ l.length ∧ jj = .int .i64 j ∧ i = .int .i64 ((fl l m j).length : Nat) ∧ Below base w wr ∧ ∃ cu, Blk wr g 37 cu ∧ cu.size = cur.size ∧ (∀ x, x < (fl l m j).length → cu[x]? = some (V ((fl l m j).getD x 0))) ∧ (∀ x, j ≤ x → x < l.length → cu[x]? = some (V (l.getD x 0)))) (fun _ j _ => l.length - (intOf j).toNat)
    case atStart =>
      refine ⟨f + 1, by omega, by omega, by go_num, by rw [HF.out], Below.mono H1.out hbs, cur, (H1.out.block g HB.out.lt).trans HB.out, rfl, fun x hx => ?_, fun x _ hx => HP.out x hx⟩
      rw [HF.out] at hx
      rw [HP.out x (by omega), HF2.out, ← getD_at (by omega), ← getD_at (by rw [List.length_take]; omega), List.getElem_take]
    case round =>
      obtain ⟨j, hfj, hj, rfl, rfl, hbl, cu, hblk, hsz, hlo, hhi⟩ := hrel
      have hij := HLT.out j hfj hj
      have HBL := Lib.hid hbl
      have HK := Lib.hid hblk
      have HSZ := Lib.hid hsz
      have HLO := Lib.hid hlo
      have HHI := Lib.hid hhi
      by_cases hlt : j < l.length
      · have h1 := hhi j (Nat.le_refl _) hlt
        have c1 := hblk.cell j
        rw [h1] at c1
        have hcl := HC.out.kept hbl hpb hmb
        have hw := gone_walk wr pb mb n m (l.getD j 0) hcl.1 hcl.2
        have hs := fl_succ l m j hlt
        clear hbl hblk hsz hlo hhi h1 hcl
        by_cases ho : out m (l.getD j 0) = true
        · rw [ho, if_pos rfl] at hs
          rw [ho] at hw
          have HW := Lib.hid hw
          have HS := Lib.hid hs
          clear hw hs ho
          generalize hpe : (fl l m j).length = p at *
          have HPE := Lib.hid hpe
          clear hpe
          generalize l.getD j 0 = x at *
          have s1 := fun (x : UInt32) (a : Addr) (w : World) => run_store Try.prog w a (V x) .plain (V_all x)
          have r6 := V_cells
          unfold Value.cells at r6
          go_wp2_with (go_at_call 51; refine HW.out.mono ?_; rintro e w2 ⟨rfl, h2⟩; have H2 := Lib.hid h2; have HK2 := Lib.hid (HK.out.kept h2 HK.out.lt); have c2 := HK2.out.cell p; have q2 := HK2.out.thaw p; have hcp : p < cu.size := (by have := HSZ.out; omega); rw [Array.getElem?_eq_getElem hcp] at c2; clear h2)
          go_roundw
          case rel =>
            refine ⟨j + 1, by omega, by omega, by go_num, by rw [HS.out, List.length_append, HPE.out]; go_num, (RBelow.set (HBL.out.trans (Below.mono H2.out (Nat.le_trans hbs HBL.out.size))) p hg (V x)), _, HK2.out.put p (V x), by rw [Array.size_setIfInBounds]; exact HSZ.out, fun y hy => ?_, fun y h1 h2 => ?_⟩
            · rw [HS.out] at hy ⊢
              rw [List.length_append, HPE.out, List.length_singleton] at hy
              by_cases e : p = y
              · subst e
                rw [Array.getElem?_setIfInBounds_self_of_lt hcp, getD_right _ x p HPE.out]
              · rw [Array.getElem?_setIfInBounds_ne e, HLO.out y (by omega), getD_left _ x y (by rw [HPE.out]; omega)]
            · rw [Array.getElem?_setIfInBounds_ne (by omega)]
              exact HHI.out y (by omega) h2
          case measure => simp [intOf]; omega
        · have ho' : out m (l.getD j 0) = false := by simpa using ho
          rw [ho', if_neg (by decide), List.append_nil] at hs
          rw [ho'] at hw
          have HW := Lib.hid hw
          have HS := Lib.hid hs
          clear hw hs ho ho'
          generalize hpe : (fl l m j).length = p at *
          have HPE := Lib.hid hpe
          clear hpe
          generalize l.getD j 0 = x at *
          go_wp2_with (go_at_call 51; refine HW.out.mono ?_; rintro e w2 ⟨rfl, h2⟩; have H2 := Lib.hid h2; clear h2)
          go_roundw
          case rel =>
            refine ⟨j + 1, by omega, by omega, by go_num, by rw [HS.out, HPE.out], HBL.out.trans (Below.mono H2.out (Nat.le_trans hbs HBL.out.size)), cu, HK.out.kept H2.out HK.out.lt, HSZ.out, fun y hy => ?_, fun y h1 h2 => HHI.out y (by omega) h2⟩
            rw [HS.out] at hy ⊢
            exact HLO.out y (by rw [← HPE.out]; exact hy)
          case measure => simp [intOf]; omega
      · obtain rfl : j = l.length := by omega
        have hfin : fl l m l.length = l.filter (out m) := by unfold fl; rw [List.take_length]
        have HFIN := Lib.hid hfin
        clear hbl hblk hsz hlo hhi hfin
        generalize hpe : (fl l m l.length).length = p at *
        have HPE := Lib.hid hpe
        clear hpe
        have hpc : p < c := by omega
        go_wp2_with (refine wpList_clr rfl (.tmp 38) rfl g p (l.length - p) (c - p) rfl (by omega) cu HK.out (by have := HSZ.out; omega) ?_; intro w3 hx3 hc3; have HX3 := Lib.hid hx3; have HC3 := Lib.hid hc3; clear hx3 hc3)
        go_ret
        refine ⟨_, rfl, ⟨some ⟨g, 0, none⟩, c, by rw [← HFIN.out, HPE.out]; rfl, by rw [← HFIN.out, HPE.out]; omega, by rw [← HFIN.out, HPE.out]; omega, fun h0 => ?_⟩, Ex.below HBL.out HX3.out hg (Nat.le_trans hbs HBL.out.size)⟩
        obtain ⟨cu', hk', heq⟩ := HC3.out
        refine ⟨g, 0, rfl, hk'.lt, fun y hy => ?_⟩
        have hy2 : y < p := by rw [← HPE.out, HFIN.out]; exact hy
        rw [Nat.zero_add, hk'.cell, heq y hy2, HLO.out y hy2, getD_at hy, HFIN.out]
  · have hi := HI.out
    rw [fox_ge hf] at hi
    have HI2 := Lib.hid hi
    have HR := Lib.hid hr
    have HF : Hid (l.filter (out m) = l) := by
      have e : fo l m = l.length := by have := fo_le l m; omega
      have h2 := fl_fo l m l.length (by omega)
      unfold fl at h2
      rwa [List.take_length] at h2
    clear hi HI h hr hcl hfl
    rw [HF.out]
    go_enter Try.func49, Try.ntmps49
    go_wp2_with (go_at_call 57; refine HI2.out.mono ?_; rintro e w1 ⟨rfl, h1⟩; have H1 := Lib.hid h1; clear h1)
    go_ret
    exact ⟨_, rfl, ⟨A, c, rfl, hc, HR.out.kept H1.out (Nat.le_refl _)⟩, Below.mono H1.out hbs⟩
end Go.Proofs.Ytekhnacgejfmjaa
