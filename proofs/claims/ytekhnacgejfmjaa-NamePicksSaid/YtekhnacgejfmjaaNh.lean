/- name.Pick. -/
import Derived.Test.YtekhnacgejfmjaaNg
namespace Go.Proofs.Ytekhnacgejfmjaa
open Go.RowKit

attribute [local irreducible] resN pick pick1 OwD bstr
set_option maxRecDepth 100000 in
set_option maxHeartbeats 8000000 in
theorem pick_walk (k : UInt8) (w : World) (A : Option Addr) (c : Nat) (ps : List ByteArray) (hs : ∀ p ∈ ps, p.size ≤ maxLen) (hr : RdS w A ps) :
    Calls Try.prog 19 #[.int .u8 (k.toNat : Int), .slice A ps.length c] w fun e w' => ∃ v, e = .returned v ∧ OwD w' w.heap.size v (pick k ps) ∧ Below w.heap.size w w' := by
  have HS := Lib.hid hs
  have HR0 := Lib.hid hr
  have hn1000 := hr.1
  have HN : Hid (ps.length ≤ 1000) := hn1000
  have hp0 : pick k [] = [] := by unfold pick; rfl
  have HP0 := Lib.hid hp0
  have HON := Lib.hid (OwD.nil w w.heap.size)
  clear hs hr hp0
  go_enter Try.func19, Try.ntmps19
  go_wp2
  go_loopw [5, 13] (fun v i wr => ∃ j : Nat, j ≤ ps.length ∧ i = .int .i64 j ∧ OwD wr w.heap.size v (pick k (ps.take j)) ∧ Below w.heap.size w wr) (fun _ i _ => ps.length - (intOf i).toNat)
  case atStart => exact ⟨0, by omega, rfl, by rw [List.take_zero, HP0.out]; exact HON.out, Below.refl _ _⟩
  case round =>
    obtain ⟨j, hj, rfl, ho, hb⟩ := hrel
    have HO := Lib.hid ho
    have HB := Lib.hid hb
    clear ho hb
    by_cases hlt : j < ps.length
    · have hltI : (j : Int) < (ps.length : Int) := by omega
      obtain ⟨b, o, rfl, hbl, hc⟩ := (HR0.out.kept HB.out).2 (by omega)
      have hcj := hc j hlt
      have hpk := pick_on k ps j hlt
      have hle := pick_len k (ps.take j)
      have hsz := HS.out ps[j] (List.getElem_mem _)
      have h15 := fun W => nparse_walk ps[j] W hsz
      have hone : pick1 k ps[j] = if ((resN ps[j].data.toList).2.2 && (resN ps[j].data.toList).1 == k) = true then [(resN ps[j].data.toList).2.1] else [] := by unfold pick1; rfl
      have hlen := resN_len ps[j].data.toList
      rw [hone] at hpk
      generalize resN ps[j].data.toList = r at h15 hpk hlen
      obtain ⟨q, D, ok⟩ := r
      unfold resV at h15
      simp only at h15 hpk hlen
      have H15 := Lib.hid h15
      have HPK := Lib.hid hpk
      have HLD := Lib.hid hlen
      have HLE : Hid ((pick k (ps.take j)).length ≤ 1000) := by show _ ≤ _; rw [List.length_take] at hle; omega
      have HID := Lib.hid (b_size D hlen)
      have HZD : Hid (32 = (D.map U).toArray.size) := by show _ = _; simp [hlen]
      have HGE : Hid (w.heap.size ≤ wr.heap.size) := HB.out.size
      generalize hps : ps[j] = s at *
      clear hc hpk hle hsz h15 hone hlen hps hbl
      cases ok with
      | false =>
        go_wp2_with (first
          | (have T := HB; go_at_call 15; refine (H15.out _).mono ?_; rintro e w3 ⟨rfl, hb⟩; have HB3 := Lib.hid (HB.out.trans (Below.mono hb HGE.out)); have HO3 := Lib.hid (HO.out.kept hb); clear hb HB HO T)
          | (have T := HB3; refine wpList_store_fresh rfl 25 _ _ rfl _ rfl rfl HID.out HZD.out (SAll D) ?_; intro w4 hb hs hd; have HB4 := Lib.hid (HB3.out.trans (Below.mono hb HB3.out.size)); have HO4 := Lib.hid (HO3.out.kept hb); have HD4 := Lib.hid hd; clear hb hs hd HB3 HO3 T))
        refine ⟨⟨j + 1, by omega, by go_num, ?_, HB4.out⟩, by simp [intOf]; omega⟩
        rw [HPK.out, if_neg (by simp), List.append_nil]
        exact HO4.out
      | true =>
        by_cases hq : q = k
        · subst hq
          go_wp2_with (first
            | (have T := HB; go_at_call 15; refine (H15.out _).mono ?_; rintro e w3 ⟨rfl, hb⟩; have HB3 := Lib.hid (HB.out.trans (Below.mono hb HGE.out)); have HO3 := Lib.hid (HO.out.kept hb); clear hb HB HO T)
            | (have T := HB3; refine wpList_store_fresh rfl 25 _ _ rfl _ rfl rfl HID.out HZD.out (SAll D) ?_; intro w4 hb hs hd; have HB4 := Lib.hid (HB3.out.trans (Below.mono hb HB3.out.size)); have HO4 := Lib.hid (HO3.out.kept hb); have HD4 := Lib.hid hd; clear hb hs hd HB3 HO3 T)
            | (have T := HB4; refine wpList_load_row rfl 25 _ rfl w3.heap.size rfl 25 _ (0, 0) _ HD4.out Try.underlying25 rfl HID.out ?_; clear T)
            | (have T := HB4; refine wpList_build_dig rfl _ rfl D HLD.out rfl ?_; clear T)
            | (have T := HB4; refine wpList_append_dig rfl _ _ rfl w.heap.size _ _ D w4.heap.size HLD.out rfl rfl (HO4.out.kept ((Below.refl _ w4).alloc (Nat.le_refl _) _)) (Blk.fresh w4 25 _) HLE.out (Nat.le_trans HB4.out.size (by simp)) ?_; intro v5 w5 ho hb; have HO5 := Lib.hid ho; have HB5 := Lib.hid ((HB4.out.alloc (HB4.out.size) _).trans hb); clear ho hb HB4 T))
          refine ⟨⟨j + 1, by omega, by go_num, ?_, HB5.out⟩, by simp [intOf]; omega⟩
          rw [HPK.out, if_pos (by simp)]
          exact HO5.out
        · have t1 : ((q.toNat : Int) == (k.toNat : Int)) = false := by
            have : q.toNat ≠ k.toNat := fun e => hq (UInt8.toNat_inj.1 e)
            simp; omega
          have HQ := Lib.hid hq
          clear hq
          go_wp2_with (first
            | (have T := HB; go_at_call 15; refine (H15.out _).mono ?_; rintro e w3 ⟨rfl, hb⟩; have HB3 := Lib.hid (HB.out.trans (Below.mono hb HGE.out)); have HO3 := Lib.hid (HO.out.kept hb); clear hb HB HO T)
            | (have T := HB3; refine wpList_store_fresh rfl 25 _ _ rfl _ rfl rfl HID.out HZD.out (SAll D) ?_; intro w4 hb hs hd; have HB4 := Lib.hid (HB3.out.trans (Below.mono hb HB3.out.size)); have HO4 := Lib.hid (HO3.out.kept hb); have HD4 := Lib.hid hd; clear hb hs hd HB3 HO3 T))
          refine ⟨⟨j + 1, by omega, by go_num, ?_, HB4.out⟩, by simp [intOf]; omega⟩
          rw [HPK.out, if_neg (by have := HQ.out; simp [this]), List.append_nil]
          exact HO4.out
    · obtain rfl : j = ps.length := by omega
      go_wp2
      go_ret
      refine ⟨_, rfl, ?_, HB.out⟩
      have h := HO.out
      rw [List.take_length] at h
      exact h
end Go.Proofs.Ytekhnacgejfmjaa
