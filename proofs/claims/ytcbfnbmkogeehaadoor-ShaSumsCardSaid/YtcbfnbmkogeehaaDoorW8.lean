import Derived.Test.YtcbfnbmkogeehaaDoorW7
namespace Go.Proofs.YtcbfnbmkogeehaaDoor
open Go.RowKit
theorem run_slice_arr_le {P : Program} (t elem : TypeId) (n lo : Nat) (a : Addr) (i : TypeInfo) (ht : P.underlying t = some (.array n elem)) (hi' : P.info? elem = some i) (hs : i.size = 1)
    (h3 : lo ≤ n) : ∃ A : Addr, (0 < n - lo → A = a.add lo) ∧ ∀ w : World,
    (Instr.sliceAt t (.pointer (some a)) (some (.int .i64 (lo : Int))) none none).run P w = .ok (.slice (some A) (n - lo) (n - lo)) w := by
  refine ⟨if n = lo then a else a.add lo, fun h => if_neg (by omega), fun w => ?_⟩
  have e2 : (0 : Int) ≤ (lo : Int) ∧ (lo : Int) ≤ ((n : Nat) : Int) := by omega
  simp [Instr.sliceAt, Instr.sliceBounds, Instr.sliceBound, run_underlying ht, sizeOf, typeInfo, hi', hs, e2, h3, asIntOf, Instr.sureAddr]
theorem HC_byte_put (s : St) (bl : List UInt8) (f n : Int) (h : bl.length = 64) (j : Nat) (hj : j < 64) (x : UInt8) : (HC s bl f n).setIfInBounds (8 + j) (U x) = HC s (bl.set j x) f n := by
  simp only [HC, List.setIfInBounds_toArray]
  congr 1
  have e8 : (s.list.map W).length = 8 := by simp [St.list]
  rw [List.append_assoc, List.set_append_right _ _ (by omega), e8, show 8 + j - 8 = j by omega, List.set_append_left _ _ (by simp; omega), List.map_set, List.append_assoc]
theorem Blk.fresh_at {w : World} {n : Nat} (h : n = w.heap.size) (t : TypeId) (cs : Array Value) : Blk (w.alloc (.cells cs t)) n t cs := by subst h; exact Blk.fresh w t cs
/-- The block with the mark behind what waits, and zeros. -/
theorem full_of (h : Hs) (bl : List UInt8) (hbl : bl.length = 64) (hp : h.p.length < 64) (ht : bl.take h.p.length = h.p) :
    (bl.set h.p.length 128).take (h.p.length + 1) ++ List.replicate (63 - h.p.length) 0 ++ (bl.set h.p.length 128).drop (h.p.length + 1 + (63 - h.p.length)) = h.full := by
  rw [List.drop_eq_nil_of_le (by simp; omega), List.append_nil, List.take_add_one, List.take_set_of_le (Nat.le_refl _), ht]
  simp [Hs.full, hbl, hp]

def setB (bl : List UInt8) (N : Int) (k : Nat) : List UInt8 := bl.take 56 ++ (List.range k).map (lenB N) ++ bl.drop (56 + k)
theorem setB_zero (bl : List UInt8) (N : Int) : setB bl N 0 = bl := by simp [setB]
theorem setB_length (bl : List UInt8) (N : Int) (k : Nat) (h : bl.length = 64) (hk : k ≤ 8) : (setB bl N k).length = 64 := by simp [setB, h]; omega
theorem setB_step (bl : List UInt8) (N : Int) (k : Nat) (h : bl.length = 64) (hk : k < 8) : (setB bl N k).set (56 + k) (lenB N k) = setB bl N (k + 1) := by
  unfold setB
  rw [List.append_assoc, List.set_append_right _ _ (by simp [h]), List.length_take, show min 56 bl.length = 56 by omega, List.set_append_right _ _ (by simp)]
  rw [List.drop_eq_getElem_cons (show 56 + k < bl.length by omega)]
  simp [List.range_succ, Nat.add_assoc]
theorem setB_end (bl : List UInt8) (N : Int) (h : bl.length = 64) : setB bl N 8 = bl.take 56 ++ lenBytes N := by
  unfold setB lenBytes
  rw [List.drop_eq_nil_of_le (by omega), List.append_nil]
theorem row_eq (ds : Array Value) (l : List UInt8) (h : ds.size = 32) (hl : l.length = 32) (hd : ∀ j, j < 32 → ds[j]? = some (U (l.getD j 0))) : ds = (l.map U).toArray := by
  apply Array.ext_getElem?
  intro j
  by_cases hj : j < 32
  · rw [hd j hj]
    simp [List.getD, hl, hj]
  · rw [Array.getElem?_eq_none (by omega), Array.getElem?_eq_none (by simp; omega)]
/-- The digest's first k bytes are laid in block D. -/
def DInv (g : Nat) (w : World) (R D : Nat) (S : St) (bl : List UInt8) (N : Int) (rs : Array Value) (wr : World) (k : Nat) : Prop :=
  Ex g w wr ∧ Blk wr g 60 (HC S bl 0 N) ∧ Blk wr R 25 rs ∧ ∃ ds, Blk wr D 25 ds ∧ ds.size = 32 ∧ ∀ j, j < k → ds[j]? = some (U (digB S j))
theorem DInv.step {g : Nat} {w : World} {R D : Nat} {S : St} {bl : List UInt8} {N : Int} {rs : Array Value} {wr : World} {k : Nat} (h : DInv g w R D S bl N rs wr k) (hk : k < 32) (h1 : g ≠ D) (h2 : R ≠ D) (h3 : w.heap.size ≤ D) :
    DInv g w R D S bl N rs (wr.setCell ⟨D, k, none⟩ (U (digB S k))) (k + 1) := by
  obtain ⟨a, b, c, ds, d1, d2, d3⟩ := h
  refine ⟨⟨a.os, a.tape, a.output, by simpa [World.setCell] using a.size, fun i hi hne => (heap_setCell_other wr _ i _ (by show i ≠ D; omega)).trans (a.block i hi hne)⟩, b.off h1 _, c.off h2 _, ds.setIfInBounds k (U (digB S k)), d1.put _ _, by simpa using d2, fun j hj => ?_⟩
  rw [Array.getElem?_setIfInBounds]
  by_cases e : k = j
  · subst e; simp; omega
  · rw [if_neg e]; exact d3 j (by omega)
set_option maxRecDepth 100000 in
set_option maxHeartbeats 2000000 in
theorem end_walk (g : Nat) (w : World) (h : Hs) (N : Int) (hh : HI w g h N) (hg0 : g ≠ 0) (hk : Kt w) :
    Calls Tryd.prog 25 #[.pointer (some ⟨g, 0, none⟩)] w fun e w' => e = .returned (.agg ((h.dig N).map U).toArray) ∧ Ex g w w' := by
  obtain ⟨hp, bl, hbl, htk, hb⟩ := hh
  obtain ⟨A, hA, q2⟩ := run_slice_arr_le (P := Tryd.prog) 58 5 64 (h.p.length + 1) ⟨g, 8, none⟩ _ Tryd.underlying58 rfl rfl (by omega)
  have hfu := full_of h bl hbl hp htk
  have hA' : 0 < 63 - h.p.length → A = ⟨g, 8 + (h.p.length + 1), none⟩ := fun h0 => (hA (by omega)).trans (by unfold Addr.add; rw [if_neg (by omega)])
  have hpad : h.pad = if h.p.length < 56 then (h.s, h.full) else (comp h.s (bytes h.full), List.replicate 64 0) := rfl
  obtain ⟨f, hf⟩ : ∃ f, f = h.p.length := ⟨_, rfl⟩
  rw [← hf] at hp htk hb hA' q2 hfu hpad
  have hgl := hb.lt
  have hR : Blk (w.alloc (.cells #[] 25)) w.heap.size 25 #[] := Blk.fresh _ _ _
  clear hR
  have q0 : w.cell? ⟨g, 72, none⟩ = some (.int .i64 f) := by rw [hb.cell, HC_fill _ _ _ _ hbl]
  have q1 : w.cell? ⟨g, 8 + f, none⟩ = some (U (bl.getD f 0)) := by rw [hb.cell, HC_byte _ _ _ _ hbl _ hp]
  have q3 := hb.thaw
  have hf64 : (f : Int) < 64 := by omega
  have HB := Lib.hid hb
  have HBl := Lib.hid hbl
  have HA := Lib.hid hA'
  have HFU := Lib.hid hfu
  have HPAD := Lib.hid hpad
  have HF := Lib.hid hf
  have HK := Lib.hid hk
  have H0 := Lib.hid hg0
  have HG := Lib.hid hgl
  clear hb hbl htk hA hA' hfu hpad hf hk hg0
  rw [show (64 : Nat) - (f + 1) = 63 - f by omega] at q2
  have q2' : ∀ w, (Instr.sliceAt 58 (.pointer (some ⟨g, 8, none⟩)) (some (.int .i64 ((f : Int) + 1))) none none).run Tryd.prog w = .ok (.slice (some A) (63 - f) (63 - f)) w := fun w => by simpa using q2 w
  clear q2
  go_enter Tryd.func25, Tryd.ntmps25
  go_wp2
  go_region
  go_wp2
  generalize hW : World.drew (World.alloc _ _) = W1
  have hx1 : Ex g w W1 := by rw [← hW]; exact ((Ex.setCell g _ w _).trans (Ex.alloc g _ _)).trans (Ex.drew g _)
  have hb1 : Blk W1 g 60 (HC h.s (bl.set f 128) f N) := by
    rw [← hW, ← HC_byte_put _ _ _ _ HBl.out f (by omega)]
    exact ((HB.out.put _ _).more _).drew
  have hr1 : ∃ rs, Blk W1 w.heap.size 25 rs ∧ rs.size = 32 := by
    rw [← hW]
    exact ⟨_, (Blk.fresh_at (by simp [World.setCell]) 25 _).drew, rfl⟩
  have hs1 : W1.heap.size = w.heap.size + 1 := by rw [← hW]; simp [World.setCell]
  clear hW q0 q1 q3
  have q0 : W1.cell? ⟨g, 72, none⟩ = some (.int .i64 f) := by rw [hb1.cell, HC_fill _ _ _ _ (by simpa using HBl.out)]
  have HB1 := Lib.hid hb1
  have HX1 := Lib.hid hx1
  have HR1 := Lib.hid hr1
  have HS1 := Lib.hid hs1
  clear hb1 hx1 hr1 hs1 HB
  have q4 : IntKind.i64.wrap ((f : Int) + 1) = (f : Int) + 1 := IntWalk.i64_in _ (by omega)
  go_region_law (refine step_clear rfl (.tmp 22) 42 rfl 5 _ (.int .u8 0) Tryd.underlying42 rfl rfl rfl rfl g (8 + (f + 1)) (63 - f) (63 - f) A rfl _ 60 (HB1.out.drew) HA.out (by rw [HC_size _ _ _ _ (by simpa using HBl.out)]; omega) ?_; intro w3 hb3 hx3)
  clear q0 q2' q4
  have eb : lay (HC h.s (bl.set f 128) f N) (8 + (f + 1)) (List.replicate (63 - f) (.int .u8 0)) = HC h.s h.full f N := by
    have e := lay_HC h.s (bl.set f 128) f N (by simpa using HBl.out) (f + 1) (List.replicate (63 - f) 0) (by simp; omega)
    rw [List.map_replicate, List.length_replicate, HFU.out] at e
    exact e
  rw [eb] at hb3
  have HX3 : Hid (Ex g w w3) := HX1.out.trans ((Ex.drew g W1).trans hx3)
  have HB3 := Lib.hid hb3
  have q0 : w3.cell? ⟨g, 72, none⟩ = some (.int .i64 f) := by rw [hb3.cell, HC_fill _ _ _ _ (full_length h (by rw [← HF.out]; omega))]
  obtain ⟨rs, hrs, hrs1⟩ := HR1.out
  have HR3 : Hid (Blk w3 w.heap.size 25 rs) := ((Ex.drew g W1).trans hx3).blk hrs (by have := HG.out; omega)
  have HRS := Lib.hid hrs1
  have HS3 : Hid (w.heap.size < w3.heap.size) := HR3.out.lt
  clear hb3 hx3 eb hrs hrs1 HR1 HB1 HX1 HS1
  by_cases hge : 56 ≤ f
  · have hc := comp_walk g w3 h.s h.full f N (full_length h (by rw [← HF.out]; omega)) HB3.out H0.out (HK.out.ex HX3.out H0.out)
    have HC' := Lib.hid hc
    clear hc
    go_wp2_with (first | (go_at_call 33; refine HC'.out.mono ?_; rintro e w4 ⟨rfl, hx4, hb4⟩; have HX4 := Lib.hid hx4; have HB4 := Lib.hid hb4; clear hx4 hb4) | (refine wpList_clear rfl (.tmp 33) 42 rfl 5 _ (.int .u8 0) Tryd.underlying42 rfl rfl rfl rfl g 8 64 64 ⟨g, 8, none⟩ rfl _ 60 HB4.out (fun _ => rfl) (by rw [HC_size _ _ _ _ (full_length h (by rw [← HF.out]; omega))]; omega) ?_; intro w5 hb5 hx5))
    have fb : ∃ s2 bl2 F, h.pad = (s2, bl2) ∧ bl2.length = 64 ∧ Blk w5 g 60 (HC s2 bl2 F N) := by
      refine ⟨_, _, 0, HPAD.out.trans (if_neg (by omega)), by simp, ?_⟩
      have e := lay_HC (comp h.s (bytes h.full)) h.full 0 N (full_length h (by rw [← HF.out]; omega)) 0 (List.replicate 64 0) (by simp)
      rw [List.map_replicate, List.length_replicate, Nat.add_zero, Nat.zero_add, List.drop_eq_nil_of_le (by rw [full_length h (by rw [← HF.out]; omega)]; omega), List.take_zero, List.nil_append, List.append_nil] at e
      rw [← e]
      exact hb5
    have fx : Ex g w w5 := (HX3.out.trans HX4.out).trans hx5
    have fr : Blk w5 w.heap.size 25 rs := (HX4.out.trans hx5).blk HR3.out (by have := HG.out; omega)
    clear hb5 hx5 HB4 HX4 HB3 HX3 HR3 HC' HS3
    go_wp2
    have FB := fb
    have FX := fx
    have FR := fr
    clear fb fx fr
    obtain ⟨s2, bl2, F, e1, e2, e3⟩ := FB
    have E1 := Lib.hid e1
    have E2 := Lib.hid e2
    have E3 := Lib.hid e3
    clear e1 e2 e3
    go_loopw [34] (fun i wr => ∃ k : Nat, k ≤ 8 ∧ i = .int .i64 k ∧ Ex g w wr ∧ Blk wr w.heap.size 25 rs ∧ Blk wr g 60 (HC s2 (setB bl2 N k) F N)) (fun i _ => 8 - (intOf i).toNat)
    case atStart => exact ⟨0, by omega, rfl, FX, FR, by rw [setB_zero]; exact E3.out⟩
    case round =>
      clear FX FR
      obtain ⟨k, hk, rfl, hex, hblr, hblk⟩ := hrel
      by_cases hlt : k < 8
      · have k1 : (k : Int) < 8 := by omega
        have hl := setB_length bl2 N k E2.out hk
        have q0 : wr.cell? ⟨g, 73, none⟩ = some (.int .u64 N) := by rw [hblk.cell, HC_len _ _ _ _ hl]
        have q1 : wr.cell? ⟨g, 8 + (56 + k), none⟩ = some (U ((setB bl2 N k).getD (56 + k) 0)) := by rw [hblk.cell, HC_byte _ _ _ _ hl _ (by omega)]
        have q2 := hblk.thaw
        have HX := Lib.hid hex
        have HR := Lib.hid hblr
        have HB := Lib.hid hblk
        clear hex hblr hblk hl
        go_wp2
        go_region
        go_wp2
        go_roundw
        case rel =>
          refine ⟨k + 1, by omega, by go_num, (HX.out.trans (Ex.drew g wr)).trans (Ex.setCell g _ _ _), ?_, ?_⟩
          · exact ((HR.out.drew).off (by show w.heap.size ≠ g; have := HG.out; omega) _)
          · have e := (HB.out.drew).put (8 + (56 + k)) (U (lenB N k))
            rw [HC_byte_put _ _ _ _ (setB_length bl2 N k E2.out hk) _ (by omega), setB_step bl2 N k E2.out hlt, lenB_val] at e
            exact e
        case measure => simp [intOf]; omega
      · obtain rfl : k = 8 := by omega
        have HX := Lib.hid hex
        have HR := Lib.hid hblr
        have HB := Lib.hid hblk
        clear hex hblr hblk
        have hl := setB_length bl2 N 8 E2.out hk
        have hc := comp_walk g wr s2 (setB bl2 N 8) F N hl HB.out H0.out (HK.out.ex HX.out H0.out)
        have efin : comp s2 (bytes (setB bl2 N 8)) = h.fin N := by
          unfold Hs.fin
          rw [E1.out, setB_end bl2 N E2.out]
        rw [efin] at hc
        generalize hS : h.fin N = S at *
        have HSS := Lib.hid hS
        clear hS
        have HL := Lib.hid hl
        have HC2 := Lib.hid hc
        clear hl hc efin
        go_wp2_with (go_at_call 33; refine HC2.out.mono ?_; rintro e w6 ⟨rfl, hx6, hb6⟩; have HX6 := Lib.hid hx6; have HB6 := Lib.hid hb6; clear hx6 hb6)
        generalize hW : World.alloc _ _ = W7
        have hD0 : w.heap.size < w6.heap.size := Nat.lt_of_lt_of_le HR.out.lt HX6.out.size
        have hinv : DInv g w w.heap.size w6.heap.size S (setB bl2 N 8) N rs W7 0 := by
          rw [← hW]
          exact ⟨(HX.out.trans HX6.out).trans (Ex.alloc g _ _), HB6.out.more _, (HX6.out.blk HR.out (by have := HG.out; omega)).more _, _, Blk.fresh w6 25 _, rfl, fun j hj => absurd hj (by omega)⟩
        have hD1 : g < w6.heap.size := by have := HG.out; omega
        clear hW HX6 HB6 HX HR HB HC2
        generalize hBl3 : setB bl2 N 8 = bl3 at *
        generalize w6.heap.size = D at *
        have HD0 := Lib.hid hD0
        have HD1 := Lib.hid hD1
        clear hD0 hD1 hBl3
        go_loopw [56] (fun i wr => ∃ k : Nat, k ≤ 32 ∧ i = .int .i64 k ∧ DInv g w w.heap.size D S bl3 N rs wr k) (fun i _ => 32 - (intOf i).toNat)
        case atStart => exact ⟨0, by omega, rfl, hinv⟩
        case round =>
          clear hinv
          obtain ⟨k, hk, rfl, hi⟩ := hrel
          by_cases hlt : k < 32
          · have k1 : (k : Int) < 32 := by omega
            have HI := Lib.hid hi
            obtain ⟨-, hblk, -, ds, hds, hds1, -⟩ := hi
            have q0 : wr.cell? ⟨g, k / 4, none⟩ = some (W (S.list.getD (k / 4) 0)) := by rw [hblk.cell, HC_word _ _ _ _ _ (by omega)]
            have q1 := hds.cell
            have q2 := hds.thaw
            have q3 : ds[k]? = some ds[k] := by simp
            clear hblk hds
            have r1 := run_conv_u8
            have r2 : ∀ x w, (binOp .shr 52 (W x) (.int .i64 (24 - 8 * ((k : Int) % 4)))).run Tryd.prog w = .ok (W (x >>> UInt32.ofNat (24 - 8 * (k % 4)))) w := by
              intro x w
              have e := run_shr_i 52 x (24 - 8 * (k % 4)) (by omega) w
              rwa [show ((24 - 8 * (k % 4) : Nat) : Int) = 24 - 8 * ((k : Int) % 4) by omega] at e
            have r6 : ∀ x, (U x).cells = #[U x] := fun _ => rfl
            unfold Value.cells at r6
            have r7 := fun (x : UInt8) (a : Addr) (w : World) => run_store Tryd.prog w a (U x) .plain rfl
            go_wp2
            refine ⟨⟨k + 1, by omega, by go_num, ?_⟩, by simp [intOf]; omega⟩
            have e := HI.out.step hlt (by have := HD1.out; omega) (by have := HD0.out; omega) (by have := HD0.out; omega)
            unfold digB at e
            simp only [List.getD_eq_getElem?_getD] at e
            exact e
          · obtain rfl : k = 32 := by omega
            obtain ⟨hex, -, hblr, ds, hds, hds1, hd⟩ := hi
            have eds : ds = ((h.dig N).map U).toArray := by
              rw [← HSS.out] at hd
              exact row_eq ds _ hds1 (by simp [Hs.dig]) fun j hj => by rw [hd j hj]; simp [Hs.dig, hj]
            subst eds
            have hall : ((h.dig N).map U).toArray.all (·.oneCell') = true := by simp; intro x _; rfl
            have HA2 := Lib.hid hall
            have hi32 : (Tryd.prog.info? 25).map (·.size) = some ((h.dig N).map U).toArray.size := by rw [hds1]; rfl
            have HI2 := Lib.hid hi32
            have ho32 : rs.size = ((h.dig N).map U).toArray.size := by rw [HRS.out, hds1]
            have HO := Lib.hid ho32
            have HDS := Lib.hid hds
            have HRR := Lib.hid hblr
            have HEX := Lib.hid hex
            clear hall hi32 ho32 hds hblr hex hd hds1
            go_wp2_with (first | refine wpList_load_row rfl 25 _ rfl D rfl 25 _ (0, 0) _ HDS.out Tryd.underlying25 rfl HI2.out ?_ | refine wpList_store_row rfl 25 _ _ rfl w.heap.size _ rfl rfl 25 rs HRR.out HI2.out HO.out HA2.out ?_)
            refine bodyPost_ret (results_cell_row rfl _ _ w.heap.size 25 _ (0, 0) _ rfl (HRR.out.setRow _) Tryd.underlying25 rfl HI2.out) rfl ⟨rfl, ?_⟩
            have hx := HEX.out
            exact ⟨hx.os, hx.tape, hx.output, by simpa using hx.size, fun i hi hne => (setRow_other _ _ i _ (by omega)).trans (hx.block i hi hne)⟩
  · go_wp2
    have fb : ∃ s2 bl2 F, h.pad = (s2, bl2) ∧ bl2.length = 64 ∧ Blk w3 g 60 (HC s2 bl2 F N) := ⟨h.s, h.full, f, HPAD.out.trans (if_pos (by omega)), full_length h (by rw [← HF.out]; omega), HB3.out⟩
    have fx : Ex g w w3 := HX3.out
    have fr : Blk w3 w.heap.size 25 rs := HR3.out
    clear HB3 HX3 HR3 HS3
    have FB := fb
    have FX := fx
    have FR := fr
    clear fb fx fr
    obtain ⟨s2, bl2, F, e1, e2, e3⟩ := FB
    have E1 := Lib.hid e1
    have E2 := Lib.hid e2
    have E3 := Lib.hid e3
    clear e1 e2 e3
    go_loopw [34] (fun i wr => ∃ k : Nat, k ≤ 8 ∧ i = .int .i64 k ∧ Ex g w wr ∧ Blk wr w.heap.size 25 rs ∧ Blk wr g 60 (HC s2 (setB bl2 N k) F N)) (fun i _ => 8 - (intOf i).toNat)
    case atStart => exact ⟨0, by omega, rfl, FX, FR, by rw [setB_zero]; exact E3.out⟩
    case round =>
      clear FX FR
      obtain ⟨k, hk, rfl, hex, hblr, hblk⟩ := hrel
      by_cases hlt : k < 8
      · have k1 : (k : Int) < 8 := by omega
        have hl := setB_length bl2 N k E2.out hk
        have q0 : wr.cell? ⟨g, 73, none⟩ = some (.int .u64 N) := by rw [hblk.cell, HC_len _ _ _ _ hl]
        have q1 : wr.cell? ⟨g, 8 + (56 + k), none⟩ = some (U ((setB bl2 N k).getD (56 + k) 0)) := by rw [hblk.cell, HC_byte _ _ _ _ hl _ (by omega)]
        have q2 := hblk.thaw
        have HX := Lib.hid hex
        have HR := Lib.hid hblr
        have HB := Lib.hid hblk
        clear hex hblr hblk hl
        go_wp2
        go_region
        go_wp2
        go_roundw
        case rel =>
          refine ⟨k + 1, by omega, by go_num, (HX.out.trans (Ex.drew g wr)).trans (Ex.setCell g _ _ _), ?_, ?_⟩
          · exact ((HR.out.drew).off (by show w.heap.size ≠ g; have := HG.out; omega) _)
          · have e := (HB.out.drew).put (8 + (56 + k)) (U (lenB N k))
            rw [HC_byte_put _ _ _ _ (setB_length bl2 N k E2.out hk) _ (by omega), setB_step bl2 N k E2.out hlt, lenB_val] at e
            exact e
        case measure => simp [intOf]; omega
      · obtain rfl : k = 8 := by omega
        have HX := Lib.hid hex
        have HR := Lib.hid hblr
        have HB := Lib.hid hblk
        clear hex hblr hblk
        have hl := setB_length bl2 N 8 E2.out hk
        have hc := comp_walk g wr s2 (setB bl2 N 8) F N hl HB.out H0.out (HK.out.ex HX.out H0.out)
        have efin : comp s2 (bytes (setB bl2 N 8)) = h.fin N := by
          unfold Hs.fin
          rw [E1.out, setB_end bl2 N E2.out]
        rw [efin] at hc
        generalize hS : h.fin N = S at *
        have HSS := Lib.hid hS
        clear hS
        have HL := Lib.hid hl
        have HC2 := Lib.hid hc
        clear hl hc efin
        go_wp2_with (go_at_call 33; refine HC2.out.mono ?_; rintro e w6 ⟨rfl, hx6, hb6⟩; have HX6 := Lib.hid hx6; have HB6 := Lib.hid hb6; clear hx6 hb6)
        generalize hW : World.alloc _ _ = W7
        have hD0 : w.heap.size < w6.heap.size := Nat.lt_of_lt_of_le HR.out.lt HX6.out.size
        have hinv : DInv g w w.heap.size w6.heap.size S (setB bl2 N 8) N rs W7 0 := by
          rw [← hW]
          exact ⟨(HX.out.trans HX6.out).trans (Ex.alloc g _ _), HB6.out.more _, (HX6.out.blk HR.out (by have := HG.out; omega)).more _, _, Blk.fresh w6 25 _, rfl, fun j hj => absurd hj (by omega)⟩
        have hD1 : g < w6.heap.size := by have := HG.out; omega
        clear hW HX6 HB6 HX HR HB HC2
        generalize hBl3 : setB bl2 N 8 = bl3 at *
        generalize w6.heap.size = D at *
        have HD0 := Lib.hid hD0
        have HD1 := Lib.hid hD1
        clear hD0 hD1 hBl3
        go_loopw [56] (fun i wr => ∃ k : Nat, k ≤ 32 ∧ i = .int .i64 k ∧ DInv g w w.heap.size D S bl3 N rs wr k) (fun i _ => 32 - (intOf i).toNat)
        case atStart => exact ⟨0, by omega, rfl, hinv⟩
        case round =>
          clear hinv
          obtain ⟨k, hk, rfl, hi⟩ := hrel
          by_cases hlt : k < 32
          · have k1 : (k : Int) < 32 := by omega
            have HI := Lib.hid hi
            obtain ⟨-, hblk, -, ds, hds, hds1, -⟩ := hi
            have q0 : wr.cell? ⟨g, k / 4, none⟩ = some (W (S.list.getD (k / 4) 0)) := by rw [hblk.cell, HC_word _ _ _ _ _ (by omega)]
            have q1 := hds.cell
            have q2 := hds.thaw
            have q3 : ds[k]? = some ds[k] := by simp
            clear hblk hds
            have r1 := run_conv_u8
            have r2 : ∀ x w, (binOp .shr 52 (W x) (.int .i64 (24 - 8 * ((k : Int) % 4)))).run Tryd.prog w = .ok (W (x >>> UInt32.ofNat (24 - 8 * (k % 4)))) w := by
              intro x w
              have e := run_shr_i 52 x (24 - 8 * (k % 4)) (by omega) w
              rwa [show ((24 - 8 * (k % 4) : Nat) : Int) = 24 - 8 * ((k : Int) % 4) by omega] at e
            have r6 : ∀ x, (U x).cells = #[U x] := fun _ => rfl
            unfold Value.cells at r6
            have r7 := fun (x : UInt8) (a : Addr) (w : World) => run_store Tryd.prog w a (U x) .plain rfl
            go_wp2
            refine ⟨⟨k + 1, by omega, by go_num, ?_⟩, by simp [intOf]; omega⟩
            have e := HI.out.step hlt (by have := HD1.out; omega) (by have := HD0.out; omega) (by have := HD0.out; omega)
            unfold digB at e
            simp only [List.getD_eq_getElem?_getD] at e
            exact e
          · obtain rfl : k = 32 := by omega
            obtain ⟨hex, -, hblr, ds, hds, hds1, hd⟩ := hi
            have eds : ds = ((h.dig N).map U).toArray := by
              rw [← HSS.out] at hd
              exact row_eq ds _ hds1 (by simp [Hs.dig]) fun j hj => by rw [hd j hj]; simp [Hs.dig, hj]
            subst eds
            have hall : ((h.dig N).map U).toArray.all (·.oneCell') = true := by simp; intro x _; rfl
            have HA2 := Lib.hid hall
            have hi32 : (Tryd.prog.info? 25).map (·.size) = some ((h.dig N).map U).toArray.size := by rw [hds1]; rfl
            have HI2 := Lib.hid hi32
            have ho32 : rs.size = ((h.dig N).map U).toArray.size := by rw [HRS.out, hds1]
            have HO := Lib.hid ho32
            have HDS := Lib.hid hds
            have HRR := Lib.hid hblr
            have HEX := Lib.hid hex
            clear hall hi32 ho32 hds hblr hex hd hds1
            go_wp2_with (first | refine wpList_load_row rfl 25 _ rfl D rfl 25 _ (0, 0) _ HDS.out Tryd.underlying25 rfl HI2.out ?_ | refine wpList_store_row rfl 25 _ _ rfl w.heap.size _ rfl rfl 25 rs HRR.out HI2.out HO.out HA2.out ?_)
            refine bodyPost_ret (results_cell_row rfl _ _ w.heap.size 25 _ (0, 0) _ rfl (HRR.out.setRow _) Tryd.underlying25 rfl HI2.out) rfl ⟨rfl, ?_⟩
            have hx := HEX.out
            exact ⟨hx.os, hx.tape, hx.output, by simpa using hx.size, fun i hi hne => (setRow_other _ _ i _ (by omega)).trans (hx.block i hi hne)⟩
end Go.Proofs.YtcbfnbmkogeehaaDoor
