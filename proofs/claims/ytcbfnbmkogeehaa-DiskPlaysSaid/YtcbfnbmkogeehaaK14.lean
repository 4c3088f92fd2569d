/- settle. -/
import Derived.Test.YtcbfnbmkogeehaaK13
namespace Go.Proofs.Ytcbfnbmkogeehaa
open Go.RowKit
open Go.ChangeMaps Go.MapKept
theorem wpList_store_at {P : Program} {ops : Array Oper} {rest : List Oper} {o : Oper} {a : Act} {w : World} {Q : Exit → Act → World → Prop} (hgd : o.guard = none) (ty : TypeId) (x y : Operand) (ho : o.op = .store ty x y)
    (g f : Nat) (cs : List Value) (hx : a.eval x = .pointer (some ⟨g, f, none⟩)) (hy : a.eval y = .agg cs.toArray) (t : TypeId) (cur : Array Value) (hb : Blk w g t cur) (hfit : f + cs.length ≤ cur.size)
    (hi : (P.info? ty).map (·.size) = some cs.length) (h1 : ∀ v ∈ cs, v.oneCell' = true)
    (h : ∀ w2, Ex g w w2 → Blk w2 g t (lay cur f cs) → w2.heap.size = w.heap.size → wpList P ops Q rest (a.put o.dst undef) w2) : wpList P ops Q (o :: rest) a w :=
  wpList_plain hgd fun K hK => by
    unfold Oper.wp execOp
    simp only [ho, hx, hy, Sem.run_bind, Sem.run_pure, Result.andThen_ok, run_storeAt_at w g f t ty cur cs hb hfit hi h1]
    exact hK _ _ (h _ (Ex.setRow g w _) (hb.setRow _) (by simp))

theorem wpList_clear_map {ops : Array Oper} {rest : List Oper} {o : Oper} {a : Act} {w : World} {Q : Exit → Act → World → Prop} (hgd : o.guard = none) (d : Operand)
    (ho : o.op = .call { callee := .builtin .clear, args := #[d], argTypes := #[57] }) (mb n : Nat) (D : DataW Value) (hd : a.eval d = .map (some mb)) (hown : w.ownsMap Try.prog 3 RV mb n D)
    (h : ∀ w', w'.ownsMap Try.prog 3 RV mb 0 (.map []) → w.mapTurned w' mb → wpList Try.prog ops Q rest (a.put o.dst (.tuple #[])) w') : wpList Try.prog ops Q (o :: rest) a w := by
  refine wpList_plain hgd fun K hK => ?_
  obtain ⟨w', hrun, h1, h2⟩ := own_clear hown o.type
  unfold Oper.wp
  simp only [execOp, ho, resolve, invoke, builtin, Sem.run_bind, Sem.run_pure, Result.andThen_ok, List.map_toArray, List.map_cons, List.map_nil, hd, hrun]
  exact hK _ _ (h w' h1 h2)
def fold (s : Dk) (l : List Nat) (r : List (List UInt8)) : List (List UInt8) := l.foldl (fun r i => r.set i (s.shown.getD i z512)) r
theorem fold_snoc (s : Dk) (l : List Nat) (i : Nat) (r : List (List UInt8)) : fold s (l ++ [i]) r = (fold s l r).set i (s.shown.getD i z512) := by simp [fold]
set_option maxRecDepth 100000 in
set_option maxHeartbeats 1000000 in
theorem settle_walk (w : World) (g lb mb : Nat) (s : Dk) (D : DataW Value) (l : List Nat) (A : Option Addr) (sb n c : Nat) (h : Rep w g lb mb s D) (hn : n = l.length) (hA : 0 < n → A = some ⟨sb, 0, none⟩) (hc : ∀ j (hj : j < l.length), w.cell? ⟨sb, j, none⟩ = some (.int .i64 (l[j] : Int)))
    (hsb : sb ≠ lb) (hsl : 0 < n → sb < w.heap.size) (hl : ∀ i ∈ l, s.waits[i]? = some true) (hn2 : n ≤ 1000000000) :
    Calls Try.prog 32 #[.pointer (some ⟨g, 3, none⟩), .slice A n c] w fun e w' => e = .returned (.tuple #[]) ∧ w'.heap.size = w.heap.size ∧
      ∃ w1, Ex lb w w1 ∧ w1.mapTurned w' mb ∧ Rep w' g lb mb (s.settled l) (.map []) := by
  have H := Lib.hid h
  have HN := Lib.hid hn
  have HA := Lib.hid hA
  have HC := Lib.hid hc
  have HS := Lib.hid hsl
  have HL := Lib.hid hl
  clear h hn hA hc hsl hl
  go_enter Try.func32, Try.ntmps32
  go_wp2
  go_loopw [8] (fun i wr => ∃ k : Nat, k ≤ n ∧ i = .int .i64 k ∧ Ex lb w wr ∧ wr.heap.size = w.heap.size ∧ Blk wr lb 43 ((fold s (l.take k) s.last).flatMap (·.map U)).toArray) (fun i _ => n - (intOf i).toNat)
  case atStart => exact ⟨0, by omega, rfl, Ex.refl _ _, rfl, by simpa [fold] using H.out.lst⟩
  case round =>
    obtain ⟨k, hk, rfl, hex, hsz, hbl⟩ := hrel
    have hg := H.out.blk.lt
    have hm := H.out.own.lt
    have h3 : wr.drew.cell? ⟨g, 3, none⟩ = some (.slice (some ⟨lb, 0, none⟩) s.last.length s.last.length) := (hex.blk H.out.blk (Ne.symm H.out.lg)).drew.cell 3
    have h4 : wr.drew.cell? ⟨g, 4, none⟩ = some (.map (some mb)) := (hex.blk H.out.blk (Ne.symm H.out.lg)).drew.cell 4
    have h4' : wr.cell? ⟨g, 4, none⟩ = some (.map (some mb)) := h4
    have how : wr.ownsMap Try.prog 3 RV mb (Maps.size D) D := by
      obtain ⟨es, clock, h1, r⟩ := H.out.own
      exact ⟨es, clock, (hex.block mb hm H.out.ml).trans h1, r⟩
    have HE := Lib.hid hex
    have HB := Lib.hid hbl
    have HW := Lib.hid how
    have HZ := Lib.hid hsz
    clear hex hbl how hsz
    by_cases hlt : k < n
    · obtain rfl := HA.out (by omega)
      have hkp : k < l.length := by rw [← HN.out]; exact hlt
      have hcell : wr.cell? ⟨sb, k, none⟩ = some (.int .i64 (l[k] : Int)) := by
        rw [World.cell?_of_block (w := w) (HE.out.block sb (HS.out (by omega)) hsb)]
        exact HC.out k hkp
      have hwt := HL.out _ (List.getElem_mem hkp)
      have HKP := Lib.hid hkp
      generalize hi : l[k] = i at *
      have HI := Lib.hid hi
      clear hi hkp
      have hil : i < s.last.length := by
        have := (List.getElem?_eq_some_iff.1 hwt).1
        rw [← H.out.ok.wt]; exact this
      have hish : i < s.shown.length := by rw [H.out.ok.sh]; exact hil
      obtain ⟨b, hb⟩ : ∃ b, s.shown[i]? = some b := ⟨_, List.getElem?_eq_getElem hish⟩
      have hi4 : i < 4096 := Nat.lt_of_lt_of_le hil H.out.ok.high
      have hlk : (Instr.lookup 57 (.map (some mb)) (.int .i64 (i : Int)) false).run Try.prog wr.drew = .ok (.agg (b.map U).toArray) wr.drew := by
        have hk2 : keyOf Try.prog 3 (.int .i64 (i : Int)) = some (.int .i64 (i : Int)) := Maps.keyOf_int_mk Try.underlying3 (wf64 _ (by omega))
        obtain ⟨v, ps, h1, h2⟩ := (show wr.drew.ownsMap Try.prog 3 RV mb (Maps.size D) D from HW.out).lookup (Maps.int_keyed Try.underlying3) Try.underlying57 (zero43 _) (zd := .held (.agg Z)) (zp := []) rfl hk2
        rw [H.out.val i b hwt hb] at h2
        cases h2
        exact h1
      have hlt2 : (i : Int) < (s.last.length : Int) := by omega
      go_wp2
      refine wp_region_pre (by kernel_rfl) (R := fun x y => y = x) (fun _ => rfl) (fun _ _ _ h k => k.trans h) 12 [[0], [12], [13], [14], [5], [0], [17], [18], [19], [5], [20, 21], [15, 16]]
        [(12, .pointer (some ⟨g, 3, none⟩)), (13, .pointer (some ⟨g, 3, none⟩)), (14, .pointer (some ⟨g, 3, none⟩)), (15, .slice (some ⟨lb, 0, none⟩) s.last.length s.last.length), (16, .int .i64 (i : Int)), (17, .pointer (some ⟨g, 3, none⟩)), (18, .pointer (some ⟨g, 3, none⟩)), (19, .pointer (some ⟨g, 4, none⟩)), (20, .map (some mb)), (21, .int .i64 (i : Int)), (22, .agg (b.map U).toArray), (23, .pointer (some ⟨lb, i * 512, none⟩))]
        29 rfl (by decide) (by kernel_rfl) (by kernel_rfl) (by simp) (by kernel_rfl) (by kernel_rfl) ?_ ?_
      · refine ⟨?_, ?_, ?_, ?_, ?_, ?_, ?_, ?_, ?_, ?_, ?_, ?_, trivial⟩
        · refine UpOb.plain rfl fun a W hR hl K hK => ?_
          obtain rfl : W = wr.drew := hR
          have h0 : a.tmps.getD 0 undef = (.pointer (some ⟨g, 3, none⟩)) := hl 0 (by decide)
          replace hK : ∀ v, v = (.pointer (some ⟨g, 3, none⟩)) → K (a.put (some 12) v) wr.drew := fun v h2 => hK v _ rfl (fun d hd => by cases hd; exact h2)
          clear hl
          simp only [Array.getD_eq_getD_getElem?] at h0
          go_simp
          exact hK _ rfl
        · refine UpOb.plain rfl fun a W hR hl K hK => ?_
          obtain rfl : W = wr.drew := hR
          have h12 : a.tmps.getD 12 undef = (.pointer (some ⟨g, 3, none⟩)) := hl 12 (by decide)
          replace hK : ∀ v, v = (.pointer (some ⟨g, 3, none⟩)) → K (a.put (some 13) v) wr.drew := fun v h2 => hK v _ rfl (fun d hd => by cases hd; exact h2)
          clear hl
          simp only [Array.getD_eq_getD_getElem?] at h12
          go_simp
          exact hK _ rfl
        · refine UpOb.plain rfl fun a W hR hl K hK => ?_
          obtain rfl : W = wr.drew := hR
          have h13 : a.tmps.getD 13 undef = (.pointer (some ⟨g, 3, none⟩)) := hl 13 (by decide)
          replace hK : ∀ v, v = (.pointer (some ⟨g, 3, none⟩)) → K (a.put (some 14) v) wr.drew := fun v h2 => hK v _ rfl (fun d hd => by cases hd; exact h2)
          clear hl
          simp only [Array.getD_eq_getD_getElem?] at h13
          go_simp
          exact hK _ rfl
        · refine UpOb.plain rfl fun a W hR hl K hK => ?_
          obtain rfl : W = wr.drew := hR
          have h14 : a.tmps.getD 14 undef = (.pointer (some ⟨g, 3, none⟩)) := hl 14 (by decide)
          replace hK : ∀ v, v = (.slice (some ⟨lb, 0, none⟩) s.last.length s.last.length) → K (a.put (some 15) v) wr.drew := fun v h2 => hK v _ rfl (fun d hd => by cases hd; exact h2)
          clear hl
          simp only [Array.getD_eq_getD_getElem?] at h14
          go_simp
          exact hK _ rfl
        · refine UpOb.plain rfl fun a W hR hl K hK => ?_
          obtain rfl : W = wr.drew := hR
          have h5 : a.tmps.getD 5 undef = (.int .i64 (i : Int)) := hl 5 (by decide)
          replace hK : ∀ v, v = (.int .i64 (i : Int)) → K (a.put (some 16) v) wr.drew := fun v h2 => hK v _ rfl (fun d hd => by cases hd; exact h2)
          clear hl
          simp only [Array.getD_eq_getD_getElem?] at h5
          go_simp
          exact hK _ rfl
        · refine UpOb.plain rfl fun a W hR hl K hK => ?_
          obtain rfl : W = wr.drew := hR
          have h0 : a.tmps.getD 0 undef = (.pointer (some ⟨g, 3, none⟩)) := hl 0 (by decide)
          replace hK : ∀ v, v = (.pointer (some ⟨g, 3, none⟩)) → K (a.put (some 17) v) wr.drew := fun v h2 => hK v _ rfl (fun d hd => by cases hd; exact h2)
          clear hl
          simp only [Array.getD_eq_getD_getElem?] at h0
          go_simp
          exact hK _ rfl
        · refine UpOb.plain rfl fun a W hR hl K hK => ?_
          obtain rfl : W = wr.drew := hR
          have h17 : a.tmps.getD 17 undef = (.pointer (some ⟨g, 3, none⟩)) := hl 17 (by decide)
          replace hK : ∀ v, v = (.pointer (some ⟨g, 3, none⟩)) → K (a.put (some 18) v) wr.drew := fun v h2 => hK v _ rfl (fun d hd => by cases hd; exact h2)
          clear hl
          simp only [Array.getD_eq_getD_getElem?] at h17
          go_simp
          exact hK _ rfl
        · refine UpOb.plain rfl fun a W hR hl K hK => ?_
          obtain rfl : W = wr.drew := hR
          have h18 : a.tmps.getD 18 undef = (.pointer (some ⟨g, 3, none⟩)) := hl 18 (by decide)
          replace hK : ∀ v, v = (.pointer (some ⟨g, 4, none⟩)) → K (a.put (some 19) v) wr.drew := fun v h2 => hK v _ rfl (fun d hd => by cases hd; exact h2)
          clear hl
          simp only [Array.getD_eq_getD_getElem?] at h18
          go_simp
          exact hK _ rfl
        · refine UpOb.plain rfl fun a W hR hl K hK => ?_
          obtain rfl : W = wr.drew := hR
          have h19 : a.tmps.getD 19 undef = (.pointer (some ⟨g, 4, none⟩)) := hl 19 (by decide)
          replace hK : ∀ v, v = (.map (some mb)) → K (a.put (some 20) v) wr.drew := fun v h2 => hK v _ rfl (fun d hd => by cases hd; exact h2)
          clear hl
          simp only [Array.getD_eq_getD_getElem?] at h19
          go_simp
          exact hK _ rfl
        · refine UpOb.plain rfl fun a W hR hl K hK => ?_
          obtain rfl : W = wr.drew := hR
          have h5 : a.tmps.getD 5 undef = (.int .i64 (i : Int)) := hl 5 (by decide)
          replace hK : ∀ v, v = (.int .i64 (i : Int)) → K (a.put (some 21) v) wr.drew := fun v h2 => hK v _ rfl (fun d hd => by cases hd; exact h2)
          clear hl
          simp only [Array.getD_eq_getD_getElem?] at h5
          go_simp
          exact hK _ rfl
        · refine UpOb.plain rfl fun a W hR hl K hK => ?_
          obtain rfl : W = wr.drew := hR
          have h20 : a.tmps.getD 20 undef = (.map (some mb)) := hl 20 (by decide)
          have h21 : a.tmps.getD 21 undef = (.int .i64 (i : Int)) := hl 21 (by decide)
          replace hK : ∀ v, v = (.agg (b.map U).toArray) → K (a.put (some 22) v) wr.drew := fun v h2 => hK v _ rfl (fun d hd => by cases hd; exact h2)
          clear hl
          simp only [Array.getD_eq_getD_getElem?] at h20 h21
          go_simp
          exact hK _ rfl
        · refine UpOb.plain rfl fun a W hR hl K hK => ?_
          obtain rfl : W = wr.drew := hR
          have h15 : a.tmps.getD 15 undef = (.slice (some ⟨lb, 0, none⟩) s.last.length s.last.length) := hl 15 (by decide)
          have h16 : a.tmps.getD 16 undef = (.int .i64 (i : Int)) := hl 16 (by decide)
          replace hK : ∀ v, v = (.pointer (some ⟨lb, i * 512, none⟩)) → K (a.put (some 23) v) wr.drew := fun v h2 => hK v _ rfl (fun d hd => by cases hd; exact h2)
          clear hl
          simp only [Array.getD_eq_getD_getElem?] at h15 h16
          go_simp
          exact hK _ rfl
      · intro W hW
        obtain rfl : W = wr.drew := hW
        simp only [filled, List.foldl, List.setIfInBounds_toArray, List.set, List.drop_succ_cons, List.drop_zero]
        have hbl2 : b.length = 512 := H.out.ok.bs b (List.mem_of_getElem? hb)
        have hbs : ∀ b ∈ fold s (l.take k) s.last, b.length = 512 := settled_blocks s H.out.ok (l.take k) s.last H.out.ok.bl
        have hfl : (fold s (l.take k) s.last).length = s.last.length := settled_length s (l.take k) s.last
        have hfit : i * 512 + (b.map U).length ≤ ((fold s (l.take k) s.last).flatMap (·.map U)).toArray.size := by
          rw [List.size_toArray, flat_size _ hbs, hfl, List.length_map, hbl2]; omega
        go_wp2_with (refine wpList_store_at rfl 43 _ _ rfl lb (i * 512) (b.map U) rfl rfl 43 _ HB.out.drew hfit (by rw [List.length_map, hbl2]; exact size43) (BOne b) ?_; intro w2 hx2 hb2 hs2)
        go_roundw
        case rel =>
          refine ⟨k + 1, by omega, by go_num, (HE.out.trans (Ex.drew lb wr)).trans hx2, hs2.trans HZ.out, ?_⟩
          rw [flat_lay _ hbs i b hbl2 (by rw [hfl]; exact hil)] at hb2
          have e : fold s (l.take (k + 1)) s.last = (fold s (l.take k) s.last).set i b := by
            rw [List.take_succ_eq_append_getElem HKP.out, fold_snoc]
            refine (congrArg (fun x => (fold s (l.take k) s.last).set x (s.shown.getD x z512)) HI.out).trans ?_
            show (fold s (l.take k) s.last).set i (s.shown.getD i z512) = _
            rw [List.getD_eq_getElem?_getD, hb]
            rfl
          rw [e]
          exact hb2
        case measure => simp [intOf]; omega
    · obtain rfl : k = n := by omega
      go_wp2_with (refine wpList_clear_map rfl _ rfl mb (Maps.size D) D rfl HW.out ?_; intro w2 ho2 ht2)
      go_end0
      have hx := turned_ex ht2
      have hL := HB.out
      rw [List.take_of_length_le (by rw [HN.out]; omega)] at hL
      have hll : (s.settled l).last.length = s.last.length := settled_length s l s.last
      refine ⟨rfl, ?_, wr, HE.out, ht2, ?_⟩
      · obtain ⟨es, clock, es', clock', _, rfl⟩ := ht2
        exact (by simp [setBlock] : _ = wr.heap.size).trans HZ.out
      refine { ok := H.out.ok.settled l, blk := ?_, lst := hx.blk hL (Ne.symm H.out.ml), own := ho2, cnt := ?_, lg := H.out.lg, mg := H.out.mg, ml := H.out.ml, has := ?_, val := ?_ }
      · have := hx.blk (HE.out.blk H.out.blk (Ne.symm H.out.lg)) (Ne.symm H.out.mg)
        have e : Cs (s.settled l) lb mb = Cs s lb mb := by unfold Cs; rw [hll]; rfl
        rw [e]; exact this
      · show ((0 : Nat) : Int) ≤ s.done
        exact H.out.ok.d0
      · intro k _
        have : (List.replicate s.last.length false)[k.toNat]? ≠ some true := by
          intro h
          have := List.eq_of_mem_replicate (List.mem_of_getElem? h)
          cases this
        show false = (decide (0 ≤ k) && ((List.replicate s.last.length false)[k.toNat]? == some true))
        rw [show ((List.replicate s.last.length false)[k.toNat]? == some true) = false by simpa using this]
        simp
      · intro i l' hw
        have := List.eq_of_mem_replicate (List.mem_of_getElem? (show (List.replicate s.last.length false)[i]? = some true from hw))
        cases this
end Go.Proofs.Ytcbfnbmkogeehaa
