/- The document's digest of a text: its walk. -/
import Derived.Test.YtcbfnbmkogeehaaDoorSi
namespace Go.Proofs.YtcbfnbmkogeehaaDoor
open Go.RowKit

attribute [local irreducible] wpList in
set_option maxRecDepth 100000 in
set_option maxHeartbeats 8000000 in
theorem qsum_walk (w : World) (s : ByteArray) (hs : s.size ≤ 100000) :
    Calls Tryd.prog 8 #[.string s] w fun e w' => e = .returned (.agg ((SUM s.data.toList).map U).toArray) ∧ Below w.heap.size w w' := by
  have hz := zero25
  have hll : s.data.toList.length = s.size := rfl
  obtain ⟨l, hl⟩ : ∃ l, s.data.toList = l := ⟨_, rfl⟩
  rw [hl] at hll
  have q1 : IntKind.u64.wrap (l.length : Int) = (l.length : Int) := by rw [IntKind.wrap_u64]; omega
  have q2 : IntKind.u64.wrap ((l.length : Int) * 8) = (l.length : Int) * 8 := by rw [IntKind.wrap_u64]; omega
  have HLL := Lib.hid hll
  have HL := Lib.hid hl
  have HS := Lib.hid hs
  clear hll hl hs
  go_enter Tryd.func8, Tryd.ntmps8
  refine wp_seq_k fun K0 hK0 => ?_
  have HK0 := Lib.hid hK0
  clear hK0
  go_wp2
  refine HK0.out _ _ ?_
  refine wp_seq_k fun K1 hK1 => ?_
  have HK1 := Lib.hid hK1
  clear hK1
  go_wp2_with (refine wpList_bytes _ rfl rfl (w.heap.size + 1) s rfl (by have := HS.out; omega) (by simp) ?_; intro v1 w1 ho1 hb1; rw [HL.out] at ho1; have HO1 := Lib.hid ho1; have HB1 := Lib.hid (hb1 (wA w) (Below.refl _ _)); have hs1 : w.heap.size + 1 ≤ w1.heap.size := (by have := HB1.out.size; simpa using this); have hv1 := ho1.cell; obtain ⟨g1, c1, rfl, _, _, _⟩ := hv1; clear ho1 hb1)
  refine HK1.out _ _ ?_
  refine wp_seq_k fun K2 hK2 => ?_
  have HK2 := Lib.hid hK2
  clear hK2
  go_wp2
  refine HK2.out _ _ ?_
  refine wp_seq_k fun K3 hK3 => ?_
  have HK3 := Lib.hid hK3
  clear hK3
  go_wp2_with (refine wpList_push _ _ rfl rfl (w.heap.size + 1) _ l rfl (HO1.out.alloc _) ⟨w1.heap.size, 0, none⟩ 1 128 rfl ((Blk.fresh w1 5 #[U 128]).cell 0) (by have := HS.out; have := HLL.out; omega) (by simp; omega) ?_; intro v2 w2 ho2 hb2; have HO2 := Lib.hid ho2; have HB2 := Lib.hid (hb2 _ (HB1.out.alloc hs1 _)); clear ho2 hb2)
  refine HK3.out _ _ ?_
  refine wp_seq_k fun K4 hK4 => ?_
  have HK4 := Lib.hid hK4
  clear hK4
  clear HK0 HK1 HK2 HK3
  go_wp2
  clear hs1 HB1 HO1
  go_loopw [3] (fun v wr => ∃ z : Nat, z < 64 ∧ OB wr (w.heap.size + 1) v (l ++ [128] ++ List.replicate z 0) ∧ Below (w.heap.size + 1) (wA w) wr ∧ ∀ y, y < z → (l.length + 1 + y) % 64 ≠ 56) (fun v _ => l.length + 66 - rowLen v)
  case atStart => exact ⟨0, by decide, by rw [List.replicate_zero, List.append_nil]; exact HO2.out, HB2.out, fun y hy => absurd hy (Nat.not_lt_zero y)⟩
  case round =>
    obtain ⟨z, hz64, ho, hb, hne⟩ := hrel
    have hs1 : w.heap.size + 1 ≤ wr.heap.size := by have := hb.size; simpa using this
    obtain ⟨g3, c3, rfl, _, _, _⟩ := ho.cell
    have hlen : (l ++ [128] ++ List.replicate z 0).length = l.length + 1 + z := by simp; omega
    have hls : l.length ≤ 100000 := by rw [HLL.out]; exact HS.out
    have hrep : l ++ [128] ++ List.replicate (z + 1) 0 = (l ++ [128] ++ List.replicate z 0) ++ [0] := by rw [List.replicate_succ', ← List.append_assoc]
    have HREP := Lib.hid hrep
    generalize hLq : l ++ [128] ++ List.replicate z 0 = L at *
    have HO := Lib.hid ho
    have HB := Lib.hid hb
    have HNE := Lib.hid hne
    have HLEN := Lib.hid hlen
    have HLS := Lib.hid hls
    have HLQ := Lib.hid hLq
    clear ho hb hne hrep hlen hls hLq
    by_cases h56 : (l.length + 1 + z) % 64 = 56
    · have t1 : (L.length : Int) % 64 = 56 := by rw [HLEN.out]; omega
      go_wp2
      clear t1
      refine HK4.out _ _ ?_
      clear HK4
      refine wp_seq_k fun K5 hK5 => ?_
      have HK5 := Lib.hid hK5
      clear hK5
      go_wp2
      go_loopw [3, 5] (fun v i wr => ∃ j : Nat, j ≤ 8 ∧ i = .int .i64 (7 - (j : Int)) ∧ OB wr (w.heap.size + 1) v (L ++ (List.range j).map (lenB (IntKind.u64.wrap (l.length : Int)))) ∧ Below (w.heap.size + 1) (wA w) wr) (fun _ i _ => (intOf i + 1).toNat)
      case atStart => exact ⟨0, Nat.zero_le _, rfl, by rw [List.range_zero, List.map_nil, List.append_nil]; exact HO.out, HB.out⟩
      case round =>
        clear hs1
        obtain ⟨j, hj, rfl, ho, hb⟩ := hrel
        have hs1 : w.heap.size + 1 ≤ wr.heap.size := by have := hb.size; simpa using this
        obtain ⟨g5, c5, rfl, _, _, _⟩ := ho.cell
        have hlen5 : (L ++ (List.range j).map (lenB (IntKind.u64.wrap (l.length : Int)))).length = l.length + 1 + z + j := by rw [List.length_append, HLEN.out, List.length_map, List.length_range]
        have hrep : L ++ (List.range (j + 1)).map (lenB (IntKind.u64.wrap (l.length : Int))) = (L ++ (List.range j).map (lenB (IntKind.u64.wrap (l.length : Int)))) ++ [lenB (IntKind.u64.wrap (l.length : Int)) j] := by rw [List.range_succ, List.map_append, ← List.append_assoc]; rfl
        have HREP5 := Lib.hid hrep
        generalize hM : L ++ (List.range j).map (lenB (IntKind.u64.wrap (l.length : Int))) = M at *
        have HO5 := Lib.hid ho
        have HB5 := Lib.hid hb
        have HLEN5 := Lib.hid hlen5
        have HM := Lib.hid hM
        clear ho hb hrep hM hlen5
        by_cases hlt : j < 8
        · have e1 : (0 : Int) ≤ 7 - (j : Int) := by omega
          have e2 : IntKind.i64.wrap (8 * (7 - (j : Int))) = 8 * (7 - (j : Int)) := by rw [IntWalk.i64_in]; omega
          have hbt := lenB_nat l.length j (by have := HLS.out; omega)
          have hcx : ∀ W : World, (W.alloc (.cells #[Value.int .u8 ((l.length : Int) * 8 / 2 ^ (8 * (7 - j)) % 256)] 5)).cell? ⟨W.heap.size, 0, none⟩ = some (U (lenB (IntKind.u64.wrap (l.length : Int)) j)) := fun W => by
            have h := (Blk.fresh W 5 #[Value.int .u8 ((l.length : Int) * 8 / 2 ^ (8 * (7 - j)) % 256)]).cell 0
            have e3 : (l.length : Int) * 8 / 2 ^ (8 * (7 - j)) = ((l.length * 8 / 2 ^ (56 - 8 * j) : Nat) : Int) := by
              rw [show 8 * (7 - j) = 56 - 8 * j by omega]
              simp
            rw [hbt, ← U_of, ← e3]
            exact h
          have HCX := Lib.hid hcx
          clear hcx hbt
          go_wp2_with (refine wpList_push _ _ rfl rfl (w.heap.size + 1) _ M rfl (HO5.out.alloc _) ⟨wr.heap.size, 0, none⟩ 1 (lenB (IntKind.u64.wrap (l.length : Int)) j) rfl (HCX.out wr) (by have := HLEN5.out; have := HLS.out; omega) (by simp; omega) ?_; intro v4 w4 ho4 hb4; have HO4 := Lib.hid ho4; have HB4 := Lib.hid (hb4 _ (HB5.out.alloc hs1 _)); clear ho4 hb4)
          go_roundw
          case rel => exact ⟨j + 1, by omega, by go_num, by rw [HREP5.out]; exact HO4.out, HB4.out⟩
          case measure => simp [intOf]; omega
        · obtain rfl : j = 8 := by omega
          go_wp2
          refine HK5.out _ _ ?_
          have hPd : M = padded l z (IntKind.u64.wrap (l.length : Int)) := by
            rw [← HM.out, ← HLQ.out]
            unfold padded lenBytes
            simp
          have hK : ∃ K, M.length = 64 * K := ⟨M.length / 64, by have := HLEN5.out; omega⟩
          obtain ⟨K, hK⟩ := hK
          have hpc := HO5.out.cell
          obtain ⟨_, _, epc, hg5, hg5b, hpc⟩ := hpc
          obtain ⟨rfl, rfl⟩ : g5 = _ ∧ c5 = _ := by
            simp only [Value.slice.injEq, Option.some.injEq, Addr.mk.injEq] at epc
            exact ⟨epc.1.1, epc.2.2⟩
          have hml : M.length ≤ 200000 := by have := HLEN5.out; have := HLS.out; omega
          have hR : Blk wr w.heap.size 25 (Array.replicate 32 (.int .u8 0)) := (Blk.fresh w 25 (Array.replicate 32 (.int .u8 0))).kept HB5.out (Nat.lt_succ_self _)
          have hsum : (((List.range 32).map (digB (Bst M K))).map U).toArray = ((SUM s.data.toList).map U).toArray := by
            rw [HL.out, SUM_padded l z K hz64 h56 (by rw [← hPd]; exact hK), ← hPd]
          refine part10 w.heap.size g5 c5 K M _ wr _ _ _ _ _ _ _ _ _ _ _ _ _ _ _ _ _ _ _ _ _ _ _ _ _ _ _ _ _ _ _ _ _ _ _ _ _ _ _ _ _ _ _ _ _ _ _ _ _ _ _ _ _ _ _ _ _ _ _ _ _ _ _ _ _ _ _ _ _ _ _ _ _ _ _ _ _ _ _ _ _ _ _ _ _ _ _ _ _ _ _ _ _ _ _ _ _ _ _ _ _ _ _ _ _ _ _ _ _ _ _ _ _ _ _ _ _ _ _ _ _ _ _ _ _ _ _ _ _ _ _ _ _ _ _ _ _ _ _ _ _ _ _ _ _ _ _ _ _ _ _ _ _ _ _ _ _ _ _ _ _ _ _ _ _ _ _ _ _ _ _ _ _ _ _ _ _ _ _ _ _ _ _ _ _ _ _ _ _ _ _ _ _ _ _ _ _ _ _ _ _ _ _ _ _ _ _ _ _ _ _ _ _ _ _ _ _ _ _ _ _ _ _ _ _ _ _ _ _ _ _ _ _ _ _ _ _ _ _ _ _ _ _ _ _ _ _ _ _ _ _ _ _ _ _ _ _ _ _ _ _ _ _ _ _ _ _ _ _ _ _ _ _ _ _ _ _ _ _ _ _ _ _ _ _ _ _ _ _ _ _ _ _ _ _ _ _ _ _ _ _ _ _ _ _ _ _ _ _ _ _ _ _ _ _ _ _ _ _ _ _ _ _ _ _ _ _ _ _ _ _ _ _ _ _ _ _ _ _ _ _ _ _ _ _ _ _ _ _ _ _ _ _ _ _ _ _ _ _ _ _ _ _ _ _ _ _ _ _ _ _ _ _ hK hml hR Array.size_replicate hg5b hpc (fun c a a' w e h => ⟨e.symm.trans h.1, h.2⟩) ?_
          intro _ _ _ _ _ _ _ _ _ _ _ _ _ _ _ _ _ _ _ _ _ _ _ _ _ _ _ _ _ _ _ _ _ _ _ _ _ _ _ _ _ _ _ _ _ _ _ _ _ _ _ _ _ _ _ _ _ _ _ _ _ _ _ _ _ _ _ _ _ _ _ _ _ _ _ _ _ _ _ _ _ _ _ _ _ _ _ _ _ _ _ _ _ _ _ _ _ _ _ _ _ _ _ _ _ _ _ _ _ _ _ _ _ _ _ _ _ _ _ _ _ _ _ _ _ _ _ _ _ _ _ _ _ _ _ _ _ _ _ _ _ _ _ _ _ _ _ _ _ _ _ _ _ _ _ _ _ _ _ _ _ _ _ _ _ _ _ _ _ _ _ _ _ _ _ _ _ _ _ _ _ _ _ _ _ _ _ _ _ _ _ _ _ _ _ _ _ _ _ _ _ _ _ _ _ _ _ _ _ _ _ _ _ _ _ _ _ _ _ _ _ _ _ _ _ _ _ _ _ _ _ _ _ _ _ _ _ _ _ _ _ _ _ _ _ _ _ _ _ _ _ _ _ _ _ _ _ _ _ _ _ _ _ _ _ _ _ _ _ _ _ _ _ _ _ _ _ _ _ _ _ _ _ _ _ _ _ _ _ _ _ _ _ _ _ _ _ _ _ _ _ _ _ _ _ _ _ _ _ _ _ _ _ _ _ _ _ _ _ _ _ _ _ _ _ _ _ _ _ _ _ _ _ _ _ _ _ _ _ _ w9 hE hB9
          rw [hsum] at hB9
          have hi32 : (Tryd.prog.info? 25).map (·.size) = some ((SUM s.data.toList).map U).toArray.size := by
            have h32 : ((SUM s.data.toList).map U).toArray.size = 32 := by rw [← hsum]; simp
            rw [h32]
            rfl
          refine bodyPost_ret (results_cell_row rfl _ _ w.heap.size 25 _ (0, 0) _ rfl hB9 Tryd.underlying25 rfl hi32) rfl ⟨rfl, ?_⟩
          exact Ex.below (((Below.refl _ w).alloc (Nat.le_refl _) _).trans (HB5.out.mono (Nat.le_succ _))) hE (Nat.le_refl _) (by have := HB5.out.size; simp at this; omega)
    · have t1 : ¬ (L.length : Int) % 64 = 56 := by rw [HLEN.out]; omega
      have t2 : ((L.length : Int) % 64 == 56) = false := by simpa using t1
      have hz63 : z + 1 < 64 := by
        apply Classical.byContradiction
        intro hh
        have hz : z = 63 := by omega
        subst hz
        have := HNE.out ((119 - l.length % 64) % 64)
        omega
      go_wp2_with (refine wpList_push _ _ rfl rfl (w.heap.size + 1) _ L rfl (HO.out.alloc _) ⟨wr.heap.size, 0, none⟩ 1 0 rfl ((Blk.fresh wr 5 #[U 0]).cell 0) (by have := HLEN.out; have := HLS.out; omega) (by simp; omega) ?_; intro v4 w4 ho4 hb4; have HO4 := Lib.hid ho4; have HB4 := Lib.hid (hb4 _ (HB.out.alloc hs1 _)); clear ho4 hb4)
      go_roundw
      case rel => exact ⟨z + 1, hz63, by rw [HREP.out]; exact HO4.out, HB4.out, fun y hy => by
        by_cases e : y = z
        · subst e; exact h56
        · exact HNE.out y (by omega)⟩
      case measure =>
        obtain ⟨g4, c4, e4, _⟩ := HO4.out.cell
        have := HLEN.out
        simp [rowLen, e4]
        omega
end Go.Proofs.YtcbfnbmkogeehaaDoor
