import Derived.Test.YtcbfnbmkogeehaaDoorW5
namespace Go.Proofs.YtcbfnbmkogeehaaDoor
open Go.RowKit

theorem HC_len_put (s : St) (bl : List UInt8) (f n : Int) (h : bl.length = 64) (x : Int) : (HC s bl f n).setIfInBounds 73 (.int .u64 x) = HC s bl f x := by
  simp only [HC, List.setIfInBounds_toArray]
  congr 1
  rw [List.set_append_right _ _ (by simp [St.list, h])]
  simp [St.list, h]
theorem extract_rest (y : ByteArray) (n : Nat) : (y.extract n y.size).data.toList = y.data.toList.drop n := by
  rw [ByteArray.data_extract, Array.toList_extract, List.extract, List.take_of_length_le]
  simp
def AddRel (g : Nat) (w : World) (h : Hs) (N : Int) (x y : ByteArray) (wr : World) : Prop :=
  Ex g w wr ∧ y.size ≤ x.size ∧ ∃ h', HI wr g h' N ∧ h'.feed y.data.toList = h.feed x.data.toList

set_option maxRecDepth 100000 in
set_option maxHeartbeats 2000000 in
theorem add_walk (g : Nat) (w : World) (h : Hs) (N : Int) (x : ByteArray) (hx : x.size ≤ maxLen) (hh : HI w g h N) (hg0 : g ≠ 0) (hk : Kt w) :
    Calls Tryd.prog 24 #[.pointer (some ⟨g, 0, none⟩), .string x] w fun e w' => e = .returned (.tuple #[]) ∧ Ex g w w' ∧ HI w' g (h.feed x.data.toList) (IntKind.u64.wrap (N + x.size)) := by
  unfold maxLen at hx
  obtain ⟨hp, bl, hbl, htk, hb⟩ := hh
  have q0 : w.cell? ⟨g, 73, none⟩ = some (.int .u64 N) := by rw [hb.cell, HC_len _ _ _ _ hbl]
  have q1 := hb.thaw
  have Hb := Lib.hid hb
  have HP := Lib.hid hp
  have HBl := Lib.hid hbl
  have HT := Lib.hid htk
  have HK := Lib.hid hk
  have H0 := Lib.hid hg0
  clear hb hp hbl htk hk hg0
  go_enter Tryd.func24, Tryd.ntmps24
  go_wp2
  clear q0 q1
  go_loopw [1] (fun v wr => ∃ y, v = .string y ∧ AddRel g w h (IntKind.u64.wrap (N + x.size)) x y wr) (fun v _ => strLen v)
  case atStart =>
    refine ⟨x, rfl, Ex.setCell g 73 w _, Nat.le_refl _, h, ⟨HP.out, bl, HBl.out, HT.out, ?_⟩, rfl⟩
    have h1 := Hb.out.put 73 (.int .u64 (IntKind.u64.wrap (N + x.size)))
    rwa [HC_len_put _ _ _ _ HBl.out] at h1
  case round =>
    clear Hb HP HBl HT
    generalize hN : IntKind.u64.wrap (N + x.size) = N' at *
    have HNN := Lib.hid hN
    clear hN
    obtain ⟨y, rfl, hex, hle, h', ⟨hp, bl', hbl, htk, hb⟩, hfd⟩ := hrel
    by_cases hpos : 0 < y.size
    · have hf : h'.p.length < 64 := hp
      obtain ⟨n, hn⟩ : ∃ n, n = min y.size (64 - h'.p.length) := ⟨_, rfl⟩
      obtain ⟨f, hf'⟩ : ∃ f, f = h'.p.length := ⟨_, rfl⟩
      rw [← hf'] at hn hp hf htk hb
      have q0 : wr.cell? ⟨g, 72, none⟩ = some (.int .i64 f) := by rw [hb.cell, HC_fill _ _ _ _ hbl]
      have q2 : ∀ w, (Instr.sliceAt 58 (.pointer (some ⟨g, 8, none⟩)) (some (.int .i64 (f : Int))) none none).run Tryd.prog w = .ok (.slice (some ⟨g, 8 + f, none⟩) (64 - f) (64 - f)) w := by
        intro w
        have h1 := run_slice_arr_from (P := Tryd.prog) 58 5 64 f ⟨g, 8, none⟩ _ Tryd.underlying58 rfl rfl hf w
        rwa [show (⟨g, 8, none⟩ : Addr).add f = ⟨g, 8 + f, none⟩ from by unfold Addr.add; split <;> simp_all] at h1
      have hlen : y.data.toList.length = y.size := by simp
      have hl8 : (y.data.toList.take n).length = n := by rw [List.length_take, hlen]; omega
      have HN := Lib.hid hn
      have HF := Lib.hid hf'
      have HB := Lib.hid hb
      have HBl := Lib.hid hbl
      have HTk := Lib.hid htk
      have HL8 := Lib.hid hl8
      have HE := Lib.hid hex
      have HD := Lib.hid hfd
      have hn1 : 0 < n := by omega
      have hn2 : n ≤ y.size := by omega
      have hn3 : f + n ≤ 64 := by omega
      have HSZ : Hid ((HC h'.s bl' f N').size = 74) := HC_size _ _ _ _ hbl
      clear hn hf' hb hbl htk hl8 hex hfd hlen
      by_cases hfull : f + n = 64
      · have ht : ((f : Int) + n == 64) = true := by rw [beq_iff_eq]; omega
        go_wp2
        go_region_law (refine step_copy_str rfl (.tmp 25) (.tmp 26) 42 9 rfl 5 Tryd.underlying42 (by kernel_rfl) g (8 + f) (64 - f) (64 - f) n y rfl rfl _ 60 (HB.out.drew) HN.out (by rw [HSZ.out]; omega) ?_; intro w3 hb3 hx3)
        clear q0 q2
        rw [lay_HC _ _ _ _ HBl.out f _ (by rw [HL8.out]; omega)] at hb3
        have hst := bl_step bl' h'.p (y.data.toList.take n) HBl.out (by rw [← HF.out]; exact HTk.out) (by rw [← HF.out, HL8.out]; omega)
        rw [← HF.out] at hst
        generalize bl'.take f ++ y.data.toList.take n ++ bl'.drop (f + (y.data.toList.take n).length) = bl3 at *
        rw [HL8.out] at hst
        have HST := Lib.hid hst
        have HB3 := Lib.hid hb3
        have HX3 : Hid (Ex g w w3) := HE.out.trans ((Ex.drew g wr).trans hx3)
        clear hst hb3 hx3
        have q0 : w3.cell? ⟨g, 72, none⟩ = some (.int .i64 f) := by rw [HB3.out.cell, HC_fill _ _ _ _ HST.out.1]
        have q1 := HB3.out.thaw
        have hb4 : Blk (w3.setCell ⟨g, 72, none⟩ (.int .i64 ((f : Int) + n))) g 60 (HC h'.s bl3 ((f : Int) + n) N') := by
          have h1 := HB3.out.put 72 (.int .i64 ((f : Int) + n))
          rwa [HC_fill_put _ _ _ _ HST.out.1] at h1
        have HB4 := Lib.hid hb4
        have HK4 : Hid (Kt (w3.setCell ⟨g, 72, none⟩ (.int .i64 ((f : Int) + n)))) := HK.out.ex (HX3.out.trans (Ex.setCell g 72 w3 _)) H0.out
        clear hb4
        go_wp2_with (go_at_call 33; refine (comp_walk g _ h'.s bl3 ((f : Int) + n) N' HST.out.1 HB4.out H0.out HK4.out).mono ?_; rintro e w4 ⟨rfl, hx4, hb4⟩; have HX4 := Lib.hid hx4; have HB4' := Lib.hid hb4; clear hx4 hb4)
        go_roundw
        case rel =>
          have eb : bl3 = h'.p ++ y.data.toList.take n := by
            rw [← HST.out.2, hfull, List.take_of_length_le (by rw [HST.out.1]; omega)]
          refine ⟨y.extract n y.size, rfl, (HX3.out.trans (Ex.setCell g 72 w3 _)).trans HX4.out, by simp; omega, ⟨comp h'.s (bytes (h'.p ++ y.data.toList.take n)), []⟩, ⟨by simp, bl3, HST.out.1, rfl, ?_⟩, ?_⟩
          · rw [← eb]; exact HB4'.out
          · rw [extract_rest, ← Hs.feed_full h' _ (by rw [← HF.out, HL8.out]; exact hfull) (by rw [HL8.out]; exact hn1), ← Hs.feed_append, List.take_append_drop]
            exact HD.out
        case measure => simp [strLen]; omega
      · have ht : ((f : Int) + n == 64) = false := by rw [beq_eq_false_iff_ne]; omega
        go_wp2
        go_region_law (refine step_copy_str rfl (.tmp 25) (.tmp 26) 42 9 rfl 5 Tryd.underlying42 (by kernel_rfl) g (8 + f) (64 - f) (64 - f) n y rfl rfl _ 60 (HB.out.drew) HN.out (by rw [HSZ.out]; omega) ?_; intro w3 hb3 hx3)
        clear q0 q2
        rw [lay_HC _ _ _ _ HBl.out f _ (by rw [HL8.out]; omega)] at hb3
        have hst := bl_step bl' h'.p (y.data.toList.take n) HBl.out (by rw [← HF.out]; exact HTk.out) (by rw [← HF.out, HL8.out]; omega)
        rw [← HF.out] at hst
        generalize bl'.take f ++ y.data.toList.take n ++ bl'.drop (f + (y.data.toList.take n).length) = bl3 at *
        rw [HL8.out] at hst
        have HST := Lib.hid hst
        have HB3 := Lib.hid hb3
        have HX3 : Hid (Ex g w w3) := HE.out.trans ((Ex.drew g wr).trans hx3)
        clear hst hb3 hx3
        have q0 : w3.cell? ⟨g, 72, none⟩ = some (.int .i64 f) := by rw [HB3.out.cell, HC_fill _ _ _ _ HST.out.1]
        have q1 := HB3.out.thaw
        go_wp2
        go_roundw
        case rel =>
          refine ⟨y.extract n y.size, rfl, HX3.out.trans (Ex.setCell g 72 w3 _), by simp; omega, ⟨h'.s, h'.p ++ y.data.toList.take n⟩, ⟨?_, bl3, HST.out.1, ?_, ?_⟩, ?_⟩
          · simp only [List.length_append, ← HF.out, HL8.out]; omega
          · simp only [List.length_append, ← HF.out, HL8.out]; exact HST.out.2
          · have h1 := HB3.out.put 72 (.int .i64 ((f : Int) + n))
            rw [HC_fill_put _ _ _ _ HST.out.1] at h1
            simp only [List.length_append, ← HF.out, HL8.out]
            simpa using h1
          · rw [extract_rest, ← Hs.feed_part _ h' (by rw [← HF.out, HL8.out]; omega), ← Hs.feed_append, List.take_append_drop]
            exact HD.out
        case measure => simp [strLen]; omega
    · have hy0 : y.size = 0 := by omega
      have hyl : y.data.toList = [] := List.eq_nil_of_length_eq_zero (by simpa using hy0)
      rw [hyl] at hfd
      have HD := Lib.hid hfd
      have HE := Lib.hid hex
      have HI' : Hid (HI wr g h' N') := ⟨hp, bl', hbl, htk, hb⟩
      clear hfd hex hp hbl htk hb hyl
      go_wp2
      go_end0
      refine ⟨rfl, HE.out, ?_⟩
      rw [← HD.out, HNN.out]
      exact HI'.out
end Go.Proofs.YtcbfnbmkogeehaaDoor
