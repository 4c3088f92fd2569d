import Derived.Test.YtcbfnbmkogeehaaDoorW1
namespace Go.Proofs.YtcbfnbmkogeehaaDoor
open Go.RowKit
theorem getD_at {α : Type} (l : List α) (j : Nat) (d : α) (h : j < l.length) : l[j] = l.getD j d := by simp [List.getD, h]
/-- The two rows that the schedule makes; the second begins with the words l. -/
def SInv (w wr : World) (l : List UInt32) : Prop :=
  Below w.heap.size w wr ∧ wr.heap.size = w.heap.size + 2 ∧ (∃ rs, Blk wr w.heap.size 75 rs ∧ rs.size = 64) ∧
    ∃ cs, Blk wr (w.heap.size + 1) 75 cs ∧ cs.size = 64 ∧ l.length ≤ 64 ∧ ∀ j (h : j < l.length), cs[j]? = some (W l[j])

theorem SInv.start (w : World) (a b : Array Value) (ha : a.size = 64) (hb : b.size = 64) : SInv w ((w.alloc (.cells a 75)).alloc (.cells b 75)) [] := by
  refine ⟨((Below.refl _ w).alloc (Nat.le_refl _) _).alloc (by simp) _, by simp, ⟨_, (Blk.fresh w _ _).more _, ha⟩, b, ?_, hb, by simp, by simp⟩
  have h := Blk.fresh (w.alloc (.cells a 75)) 75 b
  simpa using h
theorem SInv.drew {w wr : World} {l : List UInt32} (h : SInv w wr l) : SInv w wr.drew l := by
  obtain ⟨hb, hs, ⟨rs, hr, hr1⟩, cs, hc, hc1, hl1, hw⟩ := h
  exact ⟨hb.drew, hs, ⟨rs, hr.drew, hr1⟩, cs, hc.drew, hc1, hl1, hw⟩
theorem SInv.step {w wr : World} {l : List UInt32} (h : SInv w wr l) (hl : l.length < 64) (x : UInt32) :
    SInv w (wr.drew.setCell ⟨w.heap.size + 1, l.length, none⟩ (W x)) (l ++ [x]) := by
  obtain ⟨hb, hs, ⟨rs, hr, hr1⟩, cs, hc, hc1, hl1, hw⟩ := h
  refine ⟨(hb.drew).setCell (by simp) _, by simpa [World.setCell] using hs, ⟨rs, (hr.drew).off (by simp) _, hr1⟩, cs.setIfInBounds l.length (W x), (hc.drew).put _ _, by simpa using hc1, by simp; omega, fun j hj => ?_⟩
  rw [Array.getElem?_setIfInBounds]
  by_cases e : l.length = j
  · subst e
    simp; omega
  · have hj' : j < l.length := by simp at hj; omega
    rw [if_neg e, hw j hj', List.getElem_append_left hj']

set_option maxRecDepth 100000 in
set_option maxHeartbeats 1000000 in
theorem sched_walk (g : Nat) (w : World) (m : Nat → UInt8) (hm : ∀ j, j < 64 → w.cell? ⟨g, 8 + j, none⟩ = some (U (m j))) (hg : g < w.heap.size) :
    Calls Tryd.prog 38 #[.pointer (some ⟨g, 0, none⟩)] w fun e w' => e = .returned (.agg ((sched m).map W).toArray) ∧ Below w.heap.size w w' := by
  have Hm := Lib.hid hm
  clear hm
  go_enter Tryd.func38, Tryd.ntmps38
  go_wp2
  go_loopw [11] (fun i wr => ∃ k : Nat, k ≤ 16 ∧ i = .int .i64 k ∧ SInv w wr ((List.range k).map (wd m))) (fun i _ => 16 - (intOf i).toNat)
  case atStart =>
    exact ⟨0, by omega, rfl, SInv.start w _ _ rfl rfl⟩
  case round =>
    obtain ⟨k, hk, rfl, hinv⟩ := hrel
    by_cases hlt : k < 16
    · have hs : ∀ w, (Instr.sliceAt 58 (.pointer (some ⟨g, 8, none⟩)) (some (.int .i64 (4 * (k : Int)))) (some (.int .i64 (4 * (k : Int) + 4))) none).run Tryd.prog w = .ok (.slice (some ⟨g, 8 + 4 * k, none⟩) 4 (64 - 4 * k)) w := by
        intro w
        have h := run_slice_arr (P := Tryd.prog) 58 5 64 (4 * k) (4 * k + 4) ⟨g, 8, none⟩ _ Tryd.underlying58 rfl rfl (by omega) (by omega) (by omega) w
        rw [show (⟨g, 8, none⟩ : Addr).add (4 * k) = ⟨g, 8 + 4 * k, none⟩ from by unfold Addr.add; split <;> simp_all] at h
        rw [show 4 * k + 4 - 4 * k = 4 by omega] at h
        simpa using h
      have hinv0 := Lib.hid hinv
      obtain ⟨hbel, -, -, cs, hcs, hcs64, -, -⟩ := hinv
      have c0 : wr.cell? ⟨g, 8 + 4 * k, none⟩ = some (U (m (4 * k))) := (hbel.cell hg).trans (Hm.out (4 * k) (by omega))
      have c1 : wr.cell? ⟨g, 8 + 4 * k + 1, none⟩ = some (U (m (4 * k + 1))) := (hbel.cell hg).trans (Hm.out (4 * k + 1) (by omega))
      have c2 : wr.cell? ⟨g, 8 + 4 * k + 2, none⟩ = some (U (m (4 * k + 2))) := (hbel.cell hg).trans (Hm.out (4 * k + 2) (by omega))
      have c3 : wr.cell? ⟨g, 8 + 4 * k + 3, none⟩ = some (U (m (4 * k + 3))) := (hbel.cell hg).trans (Hm.out (4 * k + 3) (by omega))
      have r1 := run_conv
      have r2 := run_or
      have r3 : ∀ x w, (binOp .shl 52 (W x) (.int .u64 24)).run Tryd.prog w = .ok (W (x <<< 24)) w := fun x w => run_shl 52 x 24 (by decide) w
      have r4 : ∀ x w, (binOp .shl 52 (W x) (.int .u64 16)).run Tryd.prog w = .ok (W (x <<< 16)) w := fun x w => run_shl 52 x 16 (by decide) w
      have r5 : ∀ x w, (binOp .shl 52 (W x) (.int .u64 8)).run Tryd.prog w = .ok (W (x <<< 8)) w := fun x w => run_shl 52 x 8 (by decide) w
      have r6 : ∀ x, (W x).cells = #[W x] := fun _ => rfl
      unfold Value.cells at r6
      have r7 := fun (x : UInt32) (a : Addr) (w : World) => run_store Tryd.prog w a (W x) .plain rfl
      have d1 := hcs.cell
      have d2 := hcs.thaw
      have d3 : cs[k]? = some cs[k] := by simp
      have hk64 : (k : Int) < 64 := by omega
      clear hcs
      go_wp2
      go_region
      go_wp2
      go_roundw
      case rel =>
        have h := hinv0.out.step (by simpa using by omega) (wd m k)
        simp only [List.length_map, List.length_range] at h
        refine ⟨k + 1, by omega, by go_num, ?_⟩
        rw [List.range_succ, List.map_append]
        exact h
      case measure => simp [intOf]; omega
    · obtain rfl : k = 16 := by omega
      go_wp2
      simp only [Int.cast_ofNat_Int]
      obtain ⟨w1, ew1⟩ : ∃ w1, w1 = wr := ⟨_, rfl⟩
      subst ew1
      go_loopw [6] (fun i wr => ∃ n : Nat, 16 ≤ n ∧ n ≤ 64 ∧ i = .int .i64 n ∧ SInv w wr (growW (n - 16) (first16 m))) (fun i _ => 64 - (intOf i).toNat)
      case atStart => exact ⟨16, by omega, by omega, rfl, hinv⟩
      case round =>
        clear hinv
        obtain ⟨n, hn1, hn2, rfl, hinv⟩ := hrel
        by_cases hlt : n < 64
        · have hll : (growW (n - 16) (first16 m)).length = n := by simp [growW_length, first16]; omega
          have hinv0 := Lib.hid hinv
          obtain ⟨-, -, -, cs, hcs, hcs64, -, hw⟩ := hinv
          have e15 := hw (n - 15) (by omega)
          have e2 := hw (n - 2) (by omega)
          have e7 := hw (n - 7) (by omega)
          have e16 := hw (n - 16) (by omega)
          rw [getD_at _ _ 0] at e15 e2 e7 e16
          have Hll := Lib.hid hll
          clear hw hll
          generalize hl : growW (n - 16) (first16 m) = l at *
          have HL := Lib.hid hl
          clear hl
          have r2 := run_xor
          have r3 : ∀ x w, (binOp .shr 52 (W x) (.int .u64 3)).run Tryd.prog w = .ok (W (x >>> 3)) w := fun x w => run_shr 52 x 3 (by decide) w
          have r4 : ∀ x w, (binOp .shr 52 (W x) (.int .u64 10)).run Tryd.prog w = .ok (W (x >>> 10)) w := fun x w => run_shr 52 x 10 (by decide) w
          have r5 := run_add
          have r6 : ∀ x, (W x).cells = #[W x] := fun _ => rfl
          unfold Value.cells at r6
          have r7 := fun (x : UInt32) (a : Addr) (w : World) => run_store Tryd.prog w a (W x) .plain rfl
          have d1 := hcs.cell
          have d2 := hcs.thaw
          have d3 : cs[n]? = some cs[n] := by simp
          have hn64 : (n : Int) < 64 := by omega
          have hn16 : (16 : Int) ≤ n := by omega
          clear hcs
          go_wp2
          go_region
          go_wp2_with (go_at_call 39; refine (rot_any _ _ (by decide) _).mono ?_; rintro e w' ⟨rfl, rfl⟩)
          go_region
          go_wp2
          go_roundw
          case rel =>
            have h := hinv0.out.drew.step (by rw [Hll.out]; omega) (nextW l)
            rw [Hll.out] at h
            refine ⟨n + 1, by omega, by omega, by go_num, ?_⟩
            rw [show n + 1 - 16 = (n - 16) + 1 by omega]
            have hl := HL.out
            show SInv w _ (growW (n - 16) (first16 m) ++ [nextW (growW (n - 16) (first16 m))])
            rw [hl]
            refine cast ?_ h
            unfold nextW sg0 sg1
            rw [Hll.out]
            simp only [List.getD_eq_getElem?_getD]
            rfl
          case measure => simp [intOf]; omega
        · obtain rfl : n = 64 := by omega
          have hinv0 := Lib.hid hinv
          clear hinv
          obtain ⟨hbel, hsz, ⟨rs, hrs, hrs64⟩, cs, hcs, hcs64, hl, hw⟩ := hinv0.out
          have ecs : cs = ((sched m).map W).toArray := by
            apply Array.ext_getElem?
            intro j
            have hlen : (growW (64 - 16) (first16 m)).length = 64 := by simp [growW_length, first16]
            by_cases hj : j < 64
            · rw [hw j (by omega)]
              simp only [sched, List.getElem?_toArray, List.getElem?_map]
              rw [List.getElem?_eq_getElem (by rw [growW_length]; simp [first16]; omega)]
              rfl
            · rw [Array.getElem?_eq_none (by omega), Array.getElem?_eq_none (by simp [sched_length]; omega)]
          clear hw hl
          have hsl := sched_length m
          subst ecs
          have HB := Lib.hid hbel
          have HC := Lib.hid hcs
          have HR := Lib.hid hrs
          have HS := Lib.hid hrs64
          have HT := Lib.hid hcs64
          clear hbel hcs hrs hrs64 hcs64 hsl hsz hinv0
          have hall : ((sched m).map W).toArray.all (·.oneCell') = true := by simp; intro x _; rfl
          have HA := Lib.hid hall
          have hi64 : (Tryd.prog.info? 75).map (·.size) = some ((sched m).map W).toArray.size := by rw [HT.out]; rfl
          have HI := Lib.hid hi64
          have ho64 : rs.size = ((sched m).map W).toArray.size := by rw [HS.out, HT.out]
          have HO := Lib.hid ho64
          clear hall hi64 ho64
          go_wp2_with (first | refine wpList_load_row rfl 75 _ rfl (w.heap.size + 1) rfl 75 _ (0, 0) _ HC.out Tryd.underlying75 rfl HI.out ?_ | refine wpList_store_row rfl 75 _ _ rfl w.heap.size _ rfl rfl 75 rs HR.out HI.out HO.out HA.out ?_)
          refine bodyPost_ret (results_cell_row rfl _ _ w.heap.size 75 _ (0, 0) _ rfl (HR.out.setRow _) Tryd.underlying75 rfl HI.out) rfl ⟨rfl, ?_⟩
          exact Below.setRow HB.out (Nat.le_refl _) _
end Go.Proofs.YtcbfnbmkogeehaaDoor
