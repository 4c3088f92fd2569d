import Derived.Test.YtcbfnbmkogeehaaDoorX0
namespace Go.Proofs.YtcbfnbmkogeehaaDoor
open Go.RowKit
theorem sum_abc : (SUM [97, 98, 99]).take 4 = [0xba, 0x78, 0x16, 0xbf] := by decide +kernel
theorem SUM_length (l : List UInt8) : (SUM l).length = 32 := by simp [SUM, Hs.dig]
theorem Kt.below {B : Nat} {w w' : World} (h : Kt w) (hb : Below B w w') (hB : 0 < B) : Kt w' :=
  ⟨Nat.lt_of_lt_of_le h.1 hb.size, fun i hi => (hb.cell hB).trans (h.2 i hi)⟩
/-- Sum of what a row of texts holds. -/
theorem sum_row (w : World) (b n : Nat) (l : List ByteArray) (hb : Blk w b 9 ((l.map Value.string).toArray)) (hn : n = l.length) (hsz : ∀ p ∈ l, p.size ≤ maxLen) (hlen : l.length < 100) (hk : Kt w) :
    Calls Tryd.prog 9 #[.slice (some ⟨b, 0, none⟩) n n] w fun e w' => e = .returned (.agg ((SUM (joined l)).map U).toArray) ∧ Below w.heap.size w w' :=
  sum_walk w _ b n n l hn (fun _ => rfl) (fun i h => by rw [hb.cell]; simp [h]) (fun _ => hb.lt) hsz hlen hk
theorem SUM_row (l : List UInt8) : (Tryd.prog.info? 25).map (·.size) = some ((SUM l).map U).toArray.size := by simp only [List.size_toArray, List.length_map, SUM_length]; rfl
theorem SUM_all (l : List UInt8) : ((SUM l).map U).toArray.all (·.oneCell') = true := by simp; intro x _; rfl
theorem SUM_32 (l : List UInt8) : (Array.replicate 32 (Value.int .u8 0)).size = ((SUM l).map U).toArray.size := by simp [SUM_length]

theorem wpList_wanted {P : Program} {ops : Array Oper} {rest : List Oper} {o : Oper} {a : Act} {w : World} {Q : Exit → Act → World → Prop} (hw : Region.wanted o (yielded ops a.tmps) = true)
    (h : o.wp P a w (wpList P ops Q rest) Q) : wpList P ops Q (o :: rest) a w := by
  unfold wpList
  rw [if_pos hw]
  exact .inl h
theorem SRow (S : List UInt8) (h : S.length = 32) : (Tryd.prog.info? 25).map (·.size) = some (S.map U).toArray.size := by simp only [List.size_toArray, List.length_map, h]; rfl
theorem SAll (S : List UInt8) : (S.map U).toArray.all (·.oneCell') = true := by simp; intro x _; rfl
theorem S32 (S : List UInt8) (h : S.length = 32) : (Array.replicate 32 (Value.int .u8 0)).size = (S.map U).toArray.size := by simp [h]
theorem Blk.byte {w : World} {g : Nat} {t : TypeId} {S : List UInt8} (h : Blk w g t (S.map U).toArray) (j : Nat) (x : UInt8) (hj : S[j]? = some x) : w.cell? ⟨g, j, none⟩ = some (.int .u8 (x.toNat : Int)) := by
  rw [h.cell]; simp [hj, U_def]
set_option maxRecDepth 100000 in
set_option maxHeartbeats 2000000 in
theorem awake_walk (w : World) (hk : Kt w) : Calls Tryd.prog 6 #[] w fun e w' => e = .returned (.bool true) ∧ Below w.heap.size w w' := by
  have hs := sum_row (w.alloc (.cells #[.string ⟨#[97, 98, 99]⟩] 9)) w.heap.size 1 [⟨#[97, 98, 99]⟩] (Blk.fresh w 9 _) rfl (by decide) (by decide) (hk.below ((Below.refl _ w).alloc (Nat.le_refl _) _) hk.1)
  have hS4 := sum_abc
  have hS32 := SUM_length [97, 98, 99]
  rw [show joined [⟨#[97, 98, 99]⟩] = [97, 98, 99] from rfl] at hs
  generalize SUM [97, 98, 99] = S at *
  have b0 : S[0]? = some 0xba := by rw [← List.getElem?_take_of_lt (show 0 < 4 by omega), hS4]; rfl
  have b1 : S[1]? = some 0x78 := by rw [← List.getElem?_take_of_lt (show 1 < 4 by omega), hS4]; rfl
  have b2 : S[2]? = some 0x16 := by rw [← List.getElem?_take_of_lt (show 2 < 4 by omega), hS4]; rfl
  have b3 : S[3]? = some 0xbf := by rw [← List.getElem?_take_of_lt (show 3 < 4 by omega), hS4]; rfl
  have HS := Lib.hid hs
  have HK := Lib.hid hk
  have H32 := Lib.hid hS32
  have B0 := Lib.hid b0
  have B1 := Lib.hid b1
  have B2 := Lib.hid b2
  have B3 := Lib.hid b3
  have hln : (bstr (hexOf S)).size = 64 := by show (hexOf S).toArray.size = 64; rw [List.size_toArray, hexOf_length, hS32]
  clear hs hk hS4 hS32 b0 b1 b2 b3
  go_enter Tryd.func6, Tryd.ntmps6
  go_wp2_with (first | (go_at_call 9; refine HS.out.mono ?_; rintro e w1 ⟨rfl, hb1⟩; have HB1 := Lib.hid hb1; clear hb1) | (refine wpList_store_fresh rfl 25 _ _ rfl _ rfl rfl (SRow S H32.out) (S32 S H32.out) (SAll S) ?_; intro w2 hb2 hs2 hB2; have HB2 := Lib.hid hB2; have Hb2 := Lib.hid hb2; have HS2 := Lib.hid hs2; have e0 := hB2.byte 0 _ B0.out; have e1 := hB2.byte 1 _ B1.out; have e2 := hB2.byte 2 _ B2.out; have e3 := hB2.byte 3 _ B3.out; clear hb2 hs2 hB2) | (refine wpList_wanted rfl (wp_load_row 25 _ rfl w1.heap.size rfl 25 _ (0, 0) _ HB2.out Tryd.underlying25 rfl (SRow S H32.out) ?_)) | (go_at_call 12; refine (hex_walk _ S H32.out).mono ?_; rintro e w3 ⟨rfl, hb3⟩; have HB3 := Lib.hid hb3; clear hb3))
  go_ret
  refine ⟨rfl, ?_⟩
  have h1 : Below w.heap.size w w1 := ((Below.refl _ w).alloc (Nat.le_refl _) _).trans (HB1.out.mono (by simp))
  exact (h1.trans (Hb2.out.mono h1.size)).trans (HB3.out.mono (h1.trans (Hb2.out.mono h1.size)).size)
end Go.Proofs.YtcbfnbmkogeehaaDoor
