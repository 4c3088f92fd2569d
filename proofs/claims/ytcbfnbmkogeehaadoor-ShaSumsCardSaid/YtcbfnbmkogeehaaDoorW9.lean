import Derived.Test.YtcbfnbmkogeehaaDoorW8
namespace Go.Proofs.YtcbfnbmkogeehaaDoor
open Go.RowKit
def st0 : St := ⟨0x6a09e667, 0xbb67ae85, 0x3c6ef372, 0xa54ff53a, 0x510e527f, 0x9b05688c, 0x1f83d9ab, 0x5be0cd19⟩
def hs0 : Hs := ⟨st0, []⟩
/-- The digest of a text. -/
def SUM (l : List UInt8) : List UInt8 := (hs0.feed l).dig (IntKind.u64.wrap l.length)
def joined (ps : List ByteArray) : List UInt8 := ps.flatMap (·.data.toList)

theorem wrap_add (a b : Int) : IntKind.u64.wrap (IntKind.u64.wrap a + b) = IntKind.u64.wrap (a + b) := by rw [IntKind.wrap_u64, IntKind.wrap_u64, IntKind.wrap_u64]; omega
def hc0 : Array Value := HC st0 (List.replicate 64 0) 0 0
def z60 : Array Value := (List.replicate 8 (Value.int .u32 0) ++ List.replicate 64 (Value.int .u8 0) ++ [Value.int .i64 0, Value.int .u64 0]).toArray
theorem zero60 (w : World) : (zeroValue 60).run Tryd.prog w = .ok (.agg z60) w := by kernel_rfl
theorem z60_size : z60.size = hc0.size := by kernel_rfl
set_option maxRecDepth 100000 in
set_option maxHeartbeats 2000000 in
theorem new_walk (w : World) : Calls Tryd.prog 23 #[] w fun e w' => e = .returned (.agg hc0) ∧ Below w.heap.size w w' := by
  have hi : (Tryd.prog.info? 60).map (·.size) = some hc0.size := by kernel_rfl
  have hall : hc0.all (·.oneCell') = true := by kernel_rfl
  have HI := Lib.hid hi
  have HA := Lib.hid hall
  have hz := zero60
  clear hi hall
  go_enter Tryd.func23, Tryd.ntmps23
  go_wp2_with (refine wpList_store_fresh rfl 60 _ _ rfl hc0 rfl (by kernel_rfl) HI.out z60_size HA.out ?_; intro w2 hb2 hs2 hB2; have HB2 := Lib.hid hB2; have Hb2 := Lib.hid hb2; clear hb2 hs2 hB2)
  exact bodyPost_ret (results_cell_row rfl _ _ w.heap.size 60 hc0 (0, 0) _ rfl HB2.out Tryd.underlying60 rfl HI.out) rfl ⟨rfl, Hb2.out⟩
set_option maxRecDepth 100000 in
set_option maxHeartbeats 2000000 in
theorem sum_walk (w : World) (A : Option Addr) (b n c : Nat) (ps : List ByteArray) (hn : n = ps.length) (hA : 0 < n → A = some ⟨b, 0, none⟩) (hc : ∀ i (h : i < ps.length), w.cell? ⟨b, i, none⟩ = some (.string ps[i])) (hb : 0 < n → b < w.heap.size)
    (hsz : ∀ p ∈ ps, p.size ≤ maxLen) (hlen : ps.length < 100) (hk : Kt w) :
    Calls Tryd.prog 9 #[.slice A n c] w fun e w' => e = .returned (.agg ((SUM (joined ps)).map U).toArray) ∧ Below w.heap.size w w' := by
  have HN := Lib.hid hn
  have HA := Lib.hid hA
  have HC' := Lib.hid hc
  have HB := Lib.hid hb
  have HS := Lib.hid hsz
  have HK := Lib.hid hk
  have HL := Lib.hid hlen
  clear hn hA hc hb hsz hlen hk
  have hz := zero60
  go_enter Tryd.func9, Tryd.ntmps9
  go_wp2_with (first | (go_at_call 23; refine (new_walk _).mono ?_; rintro e w1 ⟨rfl, hb1⟩; have HB1 := Lib.hid hb1; clear hb1) | (refine wpList_store_fresh rfl 60 _ _ rfl hc0 rfl rfl (by kernel_rfl) z60_size (by kernel_rfl) ?_; intro w2 hb2 hs2 hB2; have HB2 := Lib.hid hB2; have Hb2 := Lib.hid hb2; have HS2 := Lib.hid hs2; clear hb2 hs2 hB2))
  obtain ⟨g, hg⟩ : ∃ g, g = w1.heap.size := ⟨_, rfl⟩
  rw [← hg] at HB2 Hb2 HS2 ⊢
  have hlt1 : w.heap.size < g := by have := HB1.out.size; simp at this; omega
  have hbel2 : Below (w.heap.size + 1) (w.alloc (.cells (Array.replicate 32 (.int .u8 0)) 25)) w2 := by
    refine (HB1.out.mono (by simp)).trans (Hb2.out.mono (by omega))
  have hbw : Below w.heap.size w w2 := ((Below.refl _ w).alloc (Nat.le_refl _) _).trans (hbel2.mono (by omega))
  have hr2 : Blk w2 w.heap.size 25 (Array.replicate 32 (.int .u8 0)) := (Blk.fresh w 25 _).kept hbel2 (by omega)
  have hk2 : Kt w2 := HK.out.ex (g := g) (Ex.of_below hbw) (by omega)
  have hg0 : g ≠ 0 := by omega
  have hh2 : HI w2 g hs0 (IntKind.u64.wrap 0) := ⟨by decide, List.replicate 64 0, by simp, rfl, HB2.out⟩
  have HLT := Lib.hid hlt1
  have HBW := Lib.hid hbw
  have HR2 := Lib.hid hr2
  have HK2 := Lib.hid hk2
  have H0 := Lib.hid hg0
  have HH2 := Lib.hid hh2
  clear hlt1 hbel2 hbw hr2 hk2 hg0 hh2 hg HB1 HB2 Hb2 HS2 HK
  go_loopw [9] (fun i wr => ∃ k : Nat, k ≤ n ∧ i = .int .i64 k ∧ Ex g w2 wr ∧ HI wr g (hs0.feed (joined (ps.take k))) (IntKind.u64.wrap ((joined (ps.take k)).length : Int))) (fun i _ => n - (intOf i).toNat)
  case atStart => exact ⟨0, by omega, rfl, Ex.refl _ _, HH2.out⟩
  case round =>
    obtain ⟨k, hk, rfl, hex, hh⟩ := hrel
    have HE := Lib.hid hex
    have HH := Lib.hid hh
    clear hex hh
    have hn100 : n < 100 := by rw [HN.out]; exact HL.out
    by_cases hlt : k < n
    · obtain rfl := HA.out (by omega)
      have hkp : k < ps.length := by rw [← HN.out]; exact hlt
      have hb' := HB.out (by omega)
      have hcell : wr.cell? ⟨b, k, none⟩ = some (.string ps[k]) := by
        rw [World.cell?_of_block (w := w2) (HE.out.block b (Nat.lt_of_lt_of_le hb' HBW.out.size) (by have := HLT.out; omega)), HBW.out.cell hb']
        exact HC'.out k hkp
      have hadd := add_walk g wr _ _ ps[k] (HS.out _ (List.getElem_mem hkp)) HH.out H0.out (HK2.out.ex HE.out H0.out)
      have HAD := Lib.hid hadd
      have HKP := Lib.hid hkp
      clear hadd hb'
      generalize hs : ps[k] = x at *
      have HXX := Lib.hid hs
      clear hs hkp
      go_wp2_with (go_at_call 24; refine HAD.out.mono ?_; rintro e w4 ⟨rfl, hx4, hh4⟩; have HX4 := Lib.hid hx4; have HH4 := Lib.hid hh4; clear hx4 hh4)
      go_roundw
      case rel =>
        refine ⟨k + 1, by omega, by go_num, HE.out.trans HX4.out, ?_⟩
        have e : joined (ps.take (k + 1)) = joined (ps.take k) ++ x.data.toList := by
          have hx := HXX.out
          rw [joined, List.take_succ_eq_append_getElem HKP.out, List.flatMap_append]
          show _ ++ (ps[k].data.toList ++ []) = _
          rw [List.append_nil]
          exact congrArg (fun z : ByteArray => joined (ps.take k) ++ z.data.toList) hx
        rw [e, Hs.feed_append, List.length_append]
        have h4 := HH4.out
        rw [wrap_add] at h4
        simpa using h4
      case measure => simp [intOf]; omega
    · obtain rfl : k = n := by omega
      have hend := end_walk g wr _ _ HH.out H0.out (HK2.out.ex HE.out H0.out)
      rw [List.take_of_length_le (by rw [HN.out]; omega)] at hend
      have HED : Hid (Calls Tryd.prog 25 #[.pointer (some ⟨g, 0, none⟩)] wr fun e w' => e = .returned (.agg ((SUM (joined ps)).map U).toArray) ∧ Ex g wr w') := hend
      have hsl : (SUM (joined ps)).length = 32 := by simp [SUM, Hs.dig]
      have hall : ((SUM (joined ps)).map U).toArray.all (·.oneCell') = true := by simp; intro x _; rfl
      have HA2 := Lib.hid hall
      have hi32 : (Tryd.prog.info? 25).map (·.size) = some ((SUM (joined ps)).map U).toArray.size := by simp only [List.size_toArray, List.length_map, hsl]; rfl
      have HI2 := Lib.hid hi32
      have ho32 : (Array.replicate 32 (Value.int .u8 0)).size = ((SUM (joined ps)).map U).toArray.size := by simp [hsl]
      have HO := Lib.hid ho32
      have HR3 : Hid (Blk wr w.heap.size 25 (Array.replicate 32 (.int .u8 0))) := HE.out.blk HR2.out (by have := HLT.out; omega)
      clear hend hsl hall hi32 ho32
      go_wp2_with (first | (go_at_call 25; refine HED.out.mono ?_; rintro e w5 ⟨rfl, hx5⟩; have HX5 := Lib.hid hx5; have HR5 : Hid (Blk w5 w.heap.size 25 (Array.replicate 32 (.int .u8 0))) := hx5.blk HR3.out (by have := HLT.out; omega); clear hx5) | refine wpList_store_row rfl 25 _ _ rfl w.heap.size _ rfl rfl 25 _ HR5.out HI2.out HO.out HA2.out ?_)
      refine bodyPost_ret (results_cell_row rfl _ _ w.heap.size 25 _ (0, 0) _ rfl (HR5.out.setRow _) Tryd.underlying25 rfl HI2.out) rfl ⟨rfl, ?_⟩
      exact Below.setRow (Ex.below HBW.out (HE.out.trans HX5.out) (by have := HLT.out; omega) HBW.out.size) (Nat.le_refl _) _
end Go.Proofs.YtcbfnbmkogeehaaDoor
