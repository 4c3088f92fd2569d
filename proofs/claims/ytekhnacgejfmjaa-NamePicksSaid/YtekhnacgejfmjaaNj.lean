/- The statement on picks: the law's walk. -/
import Derived.Test.YtekhnacgejfmjaaNi
namespace Go.Proofs.Ytekhnacgejfmjaa
open Go.RowKit

theorem Blk.other {w w' : World} {g : Nat} {t e2 : TypeId} {cs : Array Value} {base2 size2 n2 : Nat} {v2 : Value} {xs2 : List Value} (h : Blk w g t cs) (h2 : w.ownsRow base2 e2 size2 v2 n2 xs2) (hne : t ≠ e2) (hg : w.grownBy w' v2.ownBlock) : Blk w' g t cs := by
  refine (hg.block g h.lt (fun e => ?_)).trans h
  rcases h2.2 with ⟨rfl, _⟩ | ⟨g2, cap2, cur2, rfl, _, h7, _⟩
  · cases e
  · have e' : g = g2 := by simpa [Value.ownBlock] using e
    subst e'
    have h' : w.heap[g]? = some (.cells cs t (0, 0)) := h
    rw [h'] at h7
    injection h7 with h7
    injection h7 with _ h8 _
    exact hne h8
theorem Blk.otherS {w w' : World} {g : Nat} {cs : Array Value} {base : Nat} {v2 : Value} {ps : List ByteArray} (h : Blk w g 25 cs) (h2 : OwS w base v2 ps) (hg : w.grownBy w' v2.ownBlock) : Blk w' g 25 cs := Blk.other h h2 (by decide) hg
theorem pick_lens (k : UInt8) (ps : List ByteArray) : ∀ D ∈ pick k ps, D.length = 32 := by
  intro D hD
  unfold pick at hD
  obtain ⟨l, hl, hD⟩ := List.mem_flatten.1 hD
  obtain ⟨p, _, rfl⟩ := List.mem_map.1 hl
  unfold pick1 at hD
  split at hD
  · rw [List.mem_singleton] at hD; subst hD; exact resN_len _
  · cases hD
def spLen (n : Nat) : Seq.Sp UpN := ⟨fun v _ => ∃ A c, v = .slice A n c, fun _ _ _ h _ => h⟩
theorem stop_dst {ops : Array Oper} {rest : List Oper} {o : Oper} {a : Act} {w : World} {Q : Exit → Act → World → Prop} (d : Tmp) (_ho : o.dst = some d) (h : Stop (wpList Try.prog ops Q (o :: rest) a w)) : wpList Try.prog ops Q (o :: rest) a w := h.go
section
variable {o : Oper} {a : Act} {w : World} {K : Act → World → Prop} {Q : Exit → Act → World → Prop}
theorem wp_neD (x y : Operand) (t2 : TypeId) (ho : o.op = .binOp .neq 25 x y t2) (l : List UInt8) (hl : l.length = 32)
    (hx : a.eval x = .agg (l.map U).toArray) (hy : a.eval y = .agg (l.map U).toArray) (h : K (a.put o.dst (.bool false)) w) : o.wp Try.prog a w K Q := by
  have he := run_equalIn_bytes (P := Try.prog) w 9998 25 5 32 Try.underlying25 Try.underlying5 (fun w => by kernel_rfl) l l hl hl
  rw [beq_self_eq_true] at he
  have he2 : (Op.equalIn 10000 25 (.agg (l.map U).toArray) (.agg (l.map U).toArray)).run Try.prog w = .ok true w := he
  have hb : (binOp .neq 25 (.agg (l.map U).toArray) (.agg (l.map U).toArray)).run Try.prog w = .ok (.bool false) w := by
    show Sem.run Try.prog (do let e ← Op.equalIn 10000 25 (.agg (l.map U).toArray) (.agg (l.map U).toArray); pure (Value.bool (!e))) w = _
    rw [Sem.run_bind, he2]; rfl
  have hg : (eqGuard .neq 25 x y (.agg (l.map U).toArray) (.agg (l.map U).toArray)).run Try.prog w = .ok () w := by
    have hmm : Try.prog.eqGuardType Try.prog.depth 25 = false := by kernel_rfl
    simp [eqGuard, hmm]
  unfold Oper.wp execOp
  simp only [ho, hx, hy, Sem.run_bind, hg, hb, Result.andThen_ok, Sem.run_pure]
  exact h
end
attribute [local irreducible] resN pick allN wantN OwD OwS bstr nmT hexOf
set_option maxRecDepth 100000 in
set_option maxHeartbeats 8000000 in
theorem picks_walk (w : World) (A B : Option Addr) (c c2 : Nat) (ds : List (List UInt8)) (ks : List Bool) (hA : RdD w A ds) (hB : RdB w B ks) :
    Calls Try.prog 5 #[.slice A ds.length c, .slice B ks.length c2] w fun e w' => e = .returned (.bool true) ∧ Below w.heap.size w w' := by
  by_cases h40 : ds.length ≤ 40
  · have h40' : (ds.length : Int) ≤ 40 := by omega
    have HA := Lib.hid hA
    have HB := Lib.hid hB
    have HP := Lib.hid (picks ds ks hA.1)
    have HL := Lib.hid hA.1
    have HON := fun W => Lib.hid (OwS.nil W w.heap.size)
    have HOD := fun W => Lib.hid (OwD.nil W w.heap.size)
    have HS0 : Hid (allN ds ks 0 = []) := by show _ = _; unfold allN; rfl
    have HW0 : Hid (wantN ds ks 0 = []) := by show _ = _; unfold wantN; rfl
    have HS1 : Hid (∀ j, allN ds ks (j + 1) = allN ds ks j ++ all1 (ks.getD j false) (ds.getD j [])) := by
      show ∀ j, _
      intro j
      conv => lhs; unfold allN
    have HW1 : Hid (∀ j, wantN ds ks (j + 1) = wantN ds ks j ++ want1 (ks.getD j false) (ds.getD j [])) := by
      show ∀ j, _
      intro j
      conv => lhs; unfold wantN
    clear hA hB
    go_enter Try.func5, Try.ntmps5
    go_wp2_with (go_at_call 10; refine (awake7_walk w).mono ?_; rintro e w1 ⟨rfl, hb1⟩; have HB1 := Lib.hid hb1; clear hb1)
    go_loopw [5, 6, 18] (fun v u i wr => ∃ j : Nat, j ≤ ds.length ∧ i = .int .i64 j ∧ OwS wr w.heap.size v (allN ds ks j) ∧ OwD wr w.heap.size u (wantN ds ks j) ∧ Below w.heap.size w wr) (fun _ _ i _ => ds.length - (intOf i).toNat)
    case atStart => exact ⟨0, by omega, rfl, by rw [HS0.out]; exact (HON _).out, by rw [HW0.out]; exact (HOD _).out, HB1.out⟩
    case round =>
      obtain ⟨j, hj, rfl, hs, hd, hb⟩ := hrel
      have HS := Lib.hid hs
      have HD := Lib.hid hd
      have HBR := Lib.hid hb
      clear hs hd hb HON HOD
      by_cases hlt : j < ds.length
      · have hltI : (j : Int) < (ds.length : Int) := by omega
        obtain ⟨b, o, rfl, hbl, hc⟩ := (HA.out.kept HBR.out).2 (by omega)
        have hpj := HP.out j hj
        have HALen : Hid ((allN ds ks j).length ≤ 80) := by show _ ≤ _; omega
        have HWLen : Hid ((wantN ds ks j).length ≤ 1000) := by show _ ≤ _; omega
        have hD := getD_len HL.out hlt
        have hrg := hc j hlt
        have hdj : ds[j] = ds.getD j [] := by rw [List.getD_eq_getElem?_getD, List.getElem?_eq_getElem hlt]; rfl
        rw [hdj] at hrg
        have hs1 := HS1.out j
        have hw1 := HW1.out j
        generalize ds.getD j [] = D at *
        have HLD := Lib.hid hD
        have HRG := Lib.hid hrg
        have HSJ := Lib.hid hs1
        have HWJ := Lib.hid hw1
        have HID := Lib.hid (b_size D hD)
        have HIM : Hid ((Try.prog.info? 25).map (·.size) = some (D.map U).length) := by show _ = _; rw [List.length_map, hD]; rfl
        have HZD : Hid (32 = (D.map U).toArray.size) := by show _ = _; simp [hD]
        have HGE : Hid (w.heap.size ≤ wr.heap.size) := HBR.out.size
        clear hc hpj hD hrg hdj hs1 hw1 hbl
        by_cases hk : ks.getD j false = true
        · have hjk : j < ks.length := by
            rcases Nat.lt_or_ge j ks.length with h | h
            · exact h
            · rw [List.getD_eq_getElem?_getD, List.getElem?_eq_none h] at hk; cases hk
          have hkj : ks[j] = true := by rw [List.getD_eq_getElem?_getD, List.getElem?_eq_getElem hjk] at hk; exact hk
          have hjkI : (j : Int) < (ks.length : Int) := by omega
          obtain ⟨b2, o2, rfl, hb2, hc2⟩ := (HB.out.kept HBR.out) (by omega)
          have HC2 : Hid (∀ W, Below wr.heap.size wr W → W.cell? ⟨b2, o2 + j, none⟩ = some (.bool true)) := fun W hW => by rw [cell_kept hW hb2, hc2 j hjk, hkj]
          have HK := Lib.hid hk
          clear hc2 hkj hb2 hk
          go_wp2_with (first
            | (have T := HBR; refine wpList_load_mid rfl 25 _ rfl b _ rfl (D.map U) _ HRG.out Try.underlying25 rfl HIM.out ?_; clear T)
            | (have T := HBR; refine wpList_store_fresh rfl 25 _ _ rfl _ rfl rfl HID.out HZD.out (SAll D) ?_; intro w3 hb hs hd; have HB3 := Lib.hid (HBR.out.trans (Below.mono hb HBR.out.size)); have HS3 := Lib.hid (HS.out.kept hb); have HD3 := Lib.hid (HD.out.kept hb); have HR3 := Lib.hid hd; have c3 := HC2.out w3 hb; clear hb hs hd HBR HS HD T)
            | (have T := HB3; refine wpList_load_row rfl 25 _ rfl wr.heap.size rfl 25 _ (0, 0) _ HR3.out Try.underlying25 rfl HID.out ?_; clear T)
            | (have T := HB3; go_at_call 14; refine (pack_walk w3 D HLD.out).mono ?_; rintro e w4 ⟨rfl, hb⟩; have HB4 := Lib.hid (HB3.out.trans (Below.mono hb HB3.out.size)); have HS4 := Lib.hid (HS3.out.kept hb); have HD4 := Lib.hid (HD3.out.kept hb); have HR4 := Lib.hid (HR3.out.kept hb HR3.out.lt); clear hb HB3 HS3 HD3 HR3 T)
            | (have T := HB4; refine wpList_append_txt rfl _ _ rfl w.heap.size _ _ [bstr (nmT 112 D)] w4.heap.size 1 rfl rfl rfl (HS4.out.kept ((Below.refl _ w4).alloc (Nat.le_refl _) _)) (Blk.fresh w4 9 _) (Nat.le_trans (Nat.add_le_add_right HALen.out 1) (by decide)) (Nat.le_trans HB4.out.size (by simp)) ?_; intro v5 w5 ho hb hg; have HB5 := Lib.hid ((HB4.out.alloc HB4.out.size _).trans hb); have HS5 := Lib.hid ho; have HD5 := Lib.hid ((HD4.out.kept ((Below.refl _ w4).alloc (Nat.le_refl _) _)).other (HS4.out.kept ((Below.refl _ w4).alloc (Nat.le_refl _) _)) hg); have HR5 := Lib.hid (Blk.otherS (HR4.out.more _) (HS4.out.kept ((Below.refl _ w4).alloc (Nat.le_refl _) _)) hg); clear ho hb hg HB4 HS4 HD4 HR4 T))
          refine ⟨⟨j + 1, by omega, by go_num, ?_, ?_, HB5.out⟩, by simp [intOf]; omega⟩
          · rw [HSJ.out, HK.out]; exact HS5.out
          · rw [HWJ.out, HK.out]
            show OwD _ _ _ (_ ++ [])
            rw [List.append_nil]; exact HD5.out
        · have hkf : ks.getD j false = false := by simpa using hk
          have HK := Lib.hid hkf
          by_cases hjk : j < ks.length
          · have hkj : ks[j] = false := by rw [List.getD_eq_getElem?_getD, List.getElem?_eq_getElem hjk] at hkf; exact hkf
            have hjkI : (j : Int) < (ks.length : Int) := by omega
            obtain ⟨b2, o2, rfl, hb2, hc2⟩ := (HB.out.kept HBR.out) (by omega)
            have HC2 : Hid (∀ W, Below wr.heap.size wr W → W.cell? ⟨b2, o2 + j, none⟩ = some (.bool false)) := fun W hW => by rw [cell_kept hW hb2, hc2 j hjk, hkj]
            clear hc2 hkj hb2 hk hkf
            go_wp2_with (first
              | (have T := HBR; refine wpList_load_mid rfl 25 _ rfl b _ rfl (D.map U) _ HRG.out Try.underlying25 rfl HIM.out ?_; clear T)
              | (have T := HBR; refine wpList_store_fresh rfl 25 _ _ rfl _ rfl rfl HID.out HZD.out (SAll D) ?_; intro w3 hb hs hd; have HB3 := Lib.hid (HBR.out.trans (Below.mono hb HBR.out.size)); have HS3 := Lib.hid (HS.out.kept hb); have HD3 := Lib.hid (HD.out.kept hb); have HR3 := Lib.hid hd; have c3 := HC2.out w3 hb; clear hb hs hd HBR HS HD T)
              | (have T := HB3; refine wpList_load_row rfl 25 _ rfl wr.heap.size rfl 25 _ (0, 0) _ HR3.out Try.underlying25 rfl HID.out ?_; clear T)
              | (have T := HB3; go_at_call 13; refine (object_walk w3 D HLD.out).mono ?_; rintro e w4 ⟨rfl, hb⟩; have HB4 := Lib.hid (HB3.out.trans (Below.mono hb HB3.out.size)); have HS4 := Lib.hid (HS3.out.kept hb); have HD4 := Lib.hid (HD3.out.kept hb); have HR4 := Lib.hid (HR3.out.kept hb HR3.out.lt); clear hb HB3 HS3 HD3 HR3 T)
              | (have T := HB4; refine wpList_append_txt rfl _ _ rfl w.heap.size _ _ [bstr (nmT 111 D), ⟨#[111, 46, 120]⟩] w4.heap.size 2 rfl rfl rfl (HS4.out.kept ((Below.refl _ w4).alloc (Nat.le_refl _) _)) (Blk.fresh w4 9 _) (Nat.le_trans (Nat.add_le_add_right HALen.out 2) (by decide)) (Nat.le_trans HB4.out.size (by simp)) ?_; intro v5 w5 ho hb hg; have HB5 := Lib.hid ((HB4.out.alloc HB4.out.size _).trans hb); have HS5 := Lib.hid ho; have HD5 := Lib.hid ((HD4.out.kept ((Below.refl _ w4).alloc (Nat.le_refl _) _)).other (HS4.out.kept ((Below.refl _ w4).alloc (Nat.le_refl _) _)) hg); have HR5 := Lib.hid (Blk.otherS (HR4.out.more _) (HS4.out.kept ((Below.refl _ w4).alloc (Nat.le_refl _) _)) hg); clear ho hb hg HB4 HS4 HD4 HR4 T)
              | (have T := HB5; refine wpList_load_row rfl 25 _ rfl wr.heap.size rfl 25 _ (0, 0) _ HR5.out Try.underlying25 rfl HID.out ?_; clear T)
              | (have T := HB5; refine wpList_build_dig rfl _ rfl D HLD.out rfl ?_; clear T)
              | (have T := HB5; refine wpList_append_dig2 rfl _ _ rfl w.heap.size _ _ D w5.heap.size HLD.out rfl rfl (HD5.out.kept ((Below.refl _ w5).alloc (Nat.le_refl _) _)) (Blk.fresh w5 25 _) HWLen.out (Nat.le_trans HB5.out.size (by simp)) ?_; intro v6 w6 ho hb hg; have HB6 := Lib.hid ((HB5.out.alloc HB5.out.size _).trans hb); have HD6 := Lib.hid ho; have HS6 := Lib.hid ((HS5.out.kept ((Below.refl _ w5).alloc (Nat.le_refl _) _)).other (HD5.out.kept ((Below.refl _ w5).alloc (Nat.le_refl _) _)) hg); clear ho hb hg HB5 HS5 HD5 HR5 T))
            refine ⟨⟨j + 1, by omega, by go_num, ?_, ?_, HB6.out⟩, by simp [intOf]; omega⟩
            · rw [HSJ.out, HK.out]; exact HS6.out
            · rw [HWJ.out, HK.out]; exact HD6.out
          · have hjkI : ¬ (j : Int) < (ks.length : Int) := by omega
            clear hk hkf
            go_wp2_with (first
              | (have T := HBR; refine wpList_load_mid rfl 25 _ rfl b _ rfl (D.map U) _ HRG.out Try.underlying25 rfl HIM.out ?_; clear T)
              | (have T := HBR; refine wpList_store_fresh rfl 25 _ _ rfl _ rfl rfl HID.out HZD.out (SAll D) ?_; intro w3 hb hs hd; have HB3 := Lib.hid (HBR.out.trans (Below.mono hb HBR.out.size)); have HS3 := Lib.hid (HS.out.kept hb); have HD3 := Lib.hid (HD.out.kept hb); have HR3 := Lib.hid hd; clear hb hs hd HBR HS HD T)
              | (have T := HB3; refine wpList_load_row rfl 25 _ rfl wr.heap.size rfl 25 _ (0, 0) _ HR3.out Try.underlying25 rfl HID.out ?_; clear T)
              | (have T := HB3; go_at_call 13; refine (object_walk w3 D HLD.out).mono ?_; rintro e w4 ⟨rfl, hb⟩; have HB4 := Lib.hid (HB3.out.trans (Below.mono hb HB3.out.size)); have HS4 := Lib.hid (HS3.out.kept hb); have HD4 := Lib.hid (HD3.out.kept hb); have HR4 := Lib.hid (HR3.out.kept hb HR3.out.lt); clear hb HB3 HS3 HD3 HR3 T)
              | (have T := HB4; refine wpList_append_txt rfl _ _ rfl w.heap.size _ _ [bstr (nmT 111 D), ⟨#[111, 46, 120]⟩] w4.heap.size 2 rfl rfl rfl (HS4.out.kept ((Below.refl _ w4).alloc (Nat.le_refl _) _)) (Blk.fresh w4 9 _) (Nat.le_trans (Nat.add_le_add_right HALen.out 2) (by decide)) (Nat.le_trans HB4.out.size (by simp)) ?_; intro v5 w5 ho hb hg; have HB5 := Lib.hid ((HB4.out.alloc HB4.out.size _).trans hb); have HS5 := Lib.hid ho; have HD5 := Lib.hid ((HD4.out.kept ((Below.refl _ w4).alloc (Nat.le_refl _) _)).other (HS4.out.kept ((Below.refl _ w4).alloc (Nat.le_refl _) _)) hg); have HR5 := Lib.hid (Blk.otherS (HR4.out.more _) (HS4.out.kept ((Below.refl _ w4).alloc (Nat.le_refl _) _)) hg); clear ho hb hg HB4 HS4 HD4 HR4 T)
              | (have T := HB5; refine wpList_load_row rfl 25 _ rfl wr.heap.size rfl 25 _ (0, 0) _ HR5.out Try.underlying25 rfl HID.out ?_; clear T)
              | (have T := HB5; refine wpList_build_dig rfl _ rfl D HLD.out rfl ?_; clear T)
              | (have T := HB5; refine wpList_append_dig2 rfl _ _ rfl w.heap.size _ _ D w5.heap.size HLD.out rfl rfl (HD5.out.kept ((Below.refl _ w5).alloc (Nat.le_refl _) _)) (Blk.fresh w5 25 _) HWLen.out (Nat.le_trans HB5.out.size (by simp)) ?_; intro v6 w6 ho hb hg; have HB6 := Lib.hid ((HB5.out.alloc HB5.out.size _).trans hb); have HD6 := Lib.hid ho; have HS6 := Lib.hid ((HS5.out.kept ((Below.refl _ w5).alloc (Nat.le_refl _) _)).other (HD5.out.kept ((Below.refl _ w5).alloc (Nat.le_refl _) _)) hg); clear ho hb hg HB5 HS5 HD5 HR5 T))
            refine ⟨⟨j + 1, by omega, by go_num, ?_, ?_, HB6.out⟩, by simp [intOf]; omega⟩
            · rw [HSJ.out, HK.out]; exact HS6.out
            · rw [HWJ.out, HK.out]; exact HD6.out
      · obtain rfl : j = ds.length := by omega
        have hp := HP.out ds.length (Nat.le_refl _)
        clear HS0 HW0 HS1 HW1 HP
        generalize allN ds ks ds.length = ps at *
        generalize wantN ds ks ds.length = ws at *
        obtain ⟨h1, h2, h3, h4, h5, h6, h7⟩ := hp
        obtain ⟨A2, c3, rfl, hr2⟩ := HS.out.rd (by omega)
        obtain ⟨A3, c4, rfl, hr3⟩ := HD.out.rd h6
        have HPA : Hid (∀ W, RdS W A2 ps → Calls Try.prog 19 #[.int .u8 111, .slice A2 ps.length c3] W fun e w' => ∃ A9 c9, e = .returned (.slice A9 ws.length c9) ∧ RdD w' A9 ws ∧ Below W.heap.size W w') := fun W hW =>
          (pick_walk 111 W A2 c3 ps h5 hW).mono (by
            rintro e w' ⟨v, rfl, ho, hb⟩
            rw [h1] at ho
            obtain ⟨A9, c9, rfl, hr⟩ := ho.rd h6
            exact ⟨A9, c9, rfl, hr, hb⟩)
        have HPX : Hid (∀ W, RdS W A2 ps → Calls Try.prog 19 #[.int .u8 120, .slice A2 ps.length c3] W fun e w' => ∃ v, e = .returned v ∧ (∃ A9 c9, v = .slice A9 0 c9) ∧ Below W.heap.size W w') := fun W hW =>
          (pick_walk 120 W A2 c3 ps h5 hW).mono (by
            rintro e w' ⟨v, rfl, ho, hb⟩
            rw [h2] at ho
            obtain ⟨A9, c9, rfl, hr⟩ := ho.rd (fun D hD => by cases hD)
            exact ⟨_, rfl, ⟨A9, c9, rfl⟩, hb⟩)
        have hpl := pick_lens 112 ps
        have HPP : Hid (∀ W, RdS W A2 ps → Calls Try.prog 19 #[.int .u8 112, .slice A2 ps.length c3] W fun e w' => ∃ v, e = .returned v ∧ (∃ A9 c9, v = .slice A9 (pick 112 ps).length c9) ∧ Below W.heap.size W w') := fun W hW =>
          (pick_walk 112 W A2 c3 ps h5 hW).mono (by
            rintro e w' ⟨v, rfl, ho, hb⟩
            obtain ⟨A9, c9, rfl, hr⟩ := ho.rd hpl
            exact ⟨_, rfl, ⟨A9, c9, rfl⟩, hb⟩)
        generalize (pick 112 ps).length = M at h3 HPP
        have HR2 := Lib.hid hr2
        have HR3 := Lib.hid hr3
        have HWL := Lib.hid h6
        have hsub : IntKind.i64.wrap ((ds.length : Int) - (ws.length : Int)) = (M : Int) := by rw [IntWalk.i64_in _ (by omega)]; omega
        have hw40 : (ws.length : Int) ≤ 40 := by omega
        clear HS HD hr2 hr3 h1 h2 h3 h4 h5 h6 hpl
        go_wp2_with (go_at_call 19; refine (HPA.out wr HR2.out).mono ?_; rintro e w9 ⟨A9, c9, rfl, hr9, hb⟩; have HR9 := Lib.hid hr9; have H2 := Lib.hid (HR2.out.kept hb); have H3 := Lib.hid (HR3.out.kept hb); have HB9 := Lib.hid (HBR.out.trans (Below.mono hb HBR.out.size)); clear hb hr9 HR2 HR3 HBR)
        go_loopw [52] (fun i wr => ∃ j : Nat, j ≤ ws.length ∧ i = .int .i64 j ∧ RdS wr A2 ps ∧ RdD wr A9 ws ∧ RdD wr A3 ws ∧ Below w.heap.size w wr) (fun i _ => ws.length - (intOf i).toNat)
        case atStart => exact ⟨0, by omega, rfl, H2.out, HR9.out, H3.out, HB9.out⟩
        case round =>
          obtain ⟨j, hj, rfl, k2, k9, k3, kb⟩ := hrel
          have K2 := Lib.hid k2
          have K9 := Lib.hid k9
          have K3 := Lib.hid k3
          have KB := Lib.hid kb
          clear k2 k9 k3 kb H2 HR9 H3 HB9
          by_cases hlt : j < ws.length
          · have hltI : (j : Int) < (ws.length : Int) := by omega
            obtain ⟨b9, o9, rfl, hb9, hc9⟩ := K9.out.2 (by omega)
            obtain ⟨b3, o3, rfl, hb3, hc3⟩ := K3.out.2 (by omega)
            have hE := HWL.out ws[j] (List.getElem_mem _)
            have R9 := hc9 j hlt
            have R3 := hc3 j hlt
            generalize ws[j] = E at *
            have HE := Lib.hid hE
            have HIM : Hid ((Try.prog.info? 25).map (·.size) = some (E.map U).length) := by show _ = _; rw [List.length_map, hE]; rfl
            have HG9 : Hid (∀ W, Below wr.heap.size wr W → W.rangeAt b9 (o9 + j * 32) (E.map U)) := fun W hW i v hv => (cell_kept hW hb9).trans (R9 i v hv)
            have HG3 : Hid (∀ W, Below wr.heap.size wr W → W.rangeAt b3 (o3 + j * 32) (E.map U)) := fun W hW i v hv => (cell_kept hW hb3).trans (R3 i v hv)
            clear hb9 hc9 hb3 hc3 hE R9 R3
            go_wp2
            refine Seq.wp_region_seq (by kernel_rfl) (R := UpN) UpN.refl UpN.trans (fun _ _ => True) [] [[10], [6], [56], [55, 57], [58], [9, 59], [10, 59], [60, 61, 59], [62, 59], [6, 59], [10, 59], [64, 65, 59], [66, 59], [63, 67, 59], [59, 68]] [(55, spU (.int .i64 (j : Int))), (56, spU (.slice (some ⟨b3, o3, none⟩) ws.length c4)), (57, spU (.int .i64 (ws.length : Int))), (58, spU (.bool false)), (59, spU (.bool false)), (60, spU (.slice (some ⟨b9, o9, none⟩) ws.length c9)), (61, spU (.int .i64 (j : Int))), (62, spU (.pointer (some ⟨b9, o9 + j * 32, none⟩))), (63, spU (.agg (E.map U).toArray)), (64, spU (.slice (some ⟨b3, o3, none⟩) ws.length c4)), (65, spU (.int .i64 (j : Int))), (66, spU (.pointer (some ⟨b3, o3 + j * 32, none⟩))), (67, spU (.agg (E.map U).toArray)), (68, spU (.bool false)), (69, spU (.bool false))] 93 rfl (by kernel_rfl) (by kernel_rfl) (by kernel_rfl) (by kernel_rfl) trivial ?_ ?_
            · refine ⟨?_, ?_, ?_, ?_, ?_, ?_, ?_, ?_, ?_, ?_, ?_, ?_, ?_, ?_, ?_, trivial⟩
              · as_aux_lemma =>
                refine Seq.UpOb.plain (by decide) (fun _ _ _ h _ => h) (fun _ _ h => h) rfl fun a W m hR _ hl K hK => ?_
                have h10 : a.tmps.getD 10 undef = (.int .i64 (j : Int)) := hl 10 (by decide)
                replace hK : ∀ v W2, Below W.heap.size W W2 → v = (.int .i64 (j : Int)) → K (a.put (some 55) v) W2 := fun v W2 h1 h2 => hK v W2 h1 (fun d hd => by cases hd; exact h2)
                clear hl
                simp only [Array.getD_eq_getD_getElem?] at h10
                go_simp
                exact hK _ W (Below.refl _ W) rfl
              · as_aux_lemma =>
                refine Seq.UpOb.plain (by decide) (fun _ _ _ h _ => h) (fun _ _ h => h) rfl fun a W m hR _ hl K hK => ?_
                have h6 : a.tmps.getD 6 undef = (.slice (some ⟨b3, o3, none⟩) ws.length c4) := hl 6 (by decide)
                replace hK : ∀ v W2, Below W.heap.size W W2 → v = (.slice (some ⟨b3, o3, none⟩) ws.length c4) → K (a.put (some 56) v) W2 := fun v W2 h1 h2 => hK v W2 h1 (fun d hd => by cases hd; exact h2)
                clear hl
                simp only [Array.getD_eq_getD_getElem?] at h6
                go_simp
                exact hK _ W (Below.refl _ W) rfl
              · as_aux_lemma =>
                refine Seq.UpOb.plain (by decide) (fun _ _ _ h _ => h) (fun _ _ h => h) rfl fun a W m hR _ hl K hK => ?_
                have h56 : a.tmps.getD 56 undef = (.slice (some ⟨b3, o3, none⟩) ws.length c4) := hl 56 (by decide)
                replace hK : ∀ v W2, Below W.heap.size W W2 → v = (.int .i64 (ws.length : Int)) → K (a.put (some 57) v) W2 := fun v W2 h1 h2 => hK v W2 h1 (fun d hd => by cases hd; exact h2)
                clear hl
                simp only [Array.getD_eq_getD_getElem?] at h56
                go_simp
                exact hK _ W (Below.refl _ W) rfl
              · as_aux_lemma =>
                refine Seq.UpOb.plain (by decide) (fun _ _ _ h _ => h) (fun _ _ h => h) rfl fun a W m hR _ hl K hK => ?_
                have h55 : a.tmps.getD 55 undef = (.int .i64 (j : Int)) := hl 55 (by decide)
                have h57 : a.tmps.getD 57 undef = (.int .i64 (ws.length : Int)) := hl 57 (by decide)
                replace hK : ∀ v W2, Below W.heap.size W W2 → v = (.bool false) → K (a.put (some 58) v) W2 := fun v W2 h1 h2 => hK v W2 h1 (fun d hd => by cases hd; exact h2)
                clear hl
                simp only [Array.getD_eq_getD_getElem?] at h55 h57
                go_simp
                exact hK _ W (Below.refl _ W) (by simp; omega)
              · as_aux_lemma =>
                refine Seq.UpOb.plain (by decide) (fun _ _ _ h _ => h) (fun _ _ h => h) rfl fun a W m hR _ hl K hK => ?_
                have h58 : a.tmps.getD 58 undef = (.bool false) := hl 58 (by decide)
                replace hK : ∀ v W2, Below W.heap.size W W2 → v = (.bool false) → K (a.put (some 59) v) W2 := fun v W2 h1 h2 => hK v W2 h1 (fun d hd => by cases hd; exact h2)
                clear hl
                simp only [Array.getD_eq_getD_getElem?] at h58
                go_simp
                exact hK _ W (Below.refl _ W) rfl
              · as_aux_lemma =>
                refine Seq.UpOb.guarded (d := 59) (by decide) (fun _ _ _ h _ => h) (fun _ _ h => h) rfl rfl (fun a W hl => hl 59 (by decide)) fun a W m hR _ hl K hK => ?_
                have h9 : a.tmps.getD 9 undef = (.slice (some ⟨b9, o9, none⟩) ws.length c9) := hl 9 (by decide)
                have h59 : a.tmps.getD 59 undef = (.bool false) := hl 59 (by decide)
                replace hK : ∀ v W2, Below W.heap.size W W2 → v = (.slice (some ⟨b9, o9, none⟩) ws.length c9) → K (a.put (some 60) v) W2 := fun v W2 h1 h2 => hK v W2 h1 (fun d hd => by cases hd; exact h2)
                clear hl
                simp only [Array.getD_eq_getD_getElem?] at h9 h59
                go_simp
                exact hK _ W (Below.refl _ W) rfl
              · as_aux_lemma =>
                refine Seq.UpOb.guarded (d := 59) (by decide) (fun _ _ _ h _ => h) (fun _ _ h => h) rfl rfl (fun a W hl => hl 59 (by decide)) fun a W m hR _ hl K hK => ?_
                have h10 : a.tmps.getD 10 undef = (.int .i64 (j : Int)) := hl 10 (by decide)
                have h59 : a.tmps.getD 59 undef = (.bool false) := hl 59 (by decide)
                replace hK : ∀ v W2, Below W.heap.size W W2 → v = (.int .i64 (j : Int)) → K (a.put (some 61) v) W2 := fun v W2 h1 h2 => hK v W2 h1 (fun d hd => by cases hd; exact h2)
                clear hl
                simp only [Array.getD_eq_getD_getElem?] at h10 h59
                go_simp
                exact hK _ W (Below.refl _ W) rfl
              · as_aux_lemma =>
                refine Seq.UpOb.guarded (d := 59) (by decide) (fun _ _ _ h _ => h) (fun _ _ h => h) rfl rfl (fun a W hl => hl 59 (by decide)) fun a W m hR _ hl K hK => ?_
                have h60 : a.tmps.getD 60 undef = (.slice (some ⟨b9, o9, none⟩) ws.length c9) := hl 60 (by decide)
                have h61 : a.tmps.getD 61 undef = (.int .i64 (j : Int)) := hl 61 (by decide)
                have h59 : a.tmps.getD 59 undef = (.bool false) := hl 59 (by decide)
                replace hK : ∀ v W2, Below W.heap.size W W2 → v = (.pointer (some ⟨b9, o9 + j * 32, none⟩)) → K (a.put (some 62) v) W2 := fun v W2 h1 h2 => hK v W2 h1 (fun d hd => by cases hd; exact h2)
                clear hl
                simp only [Array.getD_eq_getD_getElem?] at h60 h61 h59
                go_simp
                exact hK _ W (Below.refl _ W) rfl
              · as_aux_lemma =>
                refine Seq.UpOb.guarded (d := 59) (by decide) (fun _ _ _ h _ => h) (fun _ _ h => h) rfl rfl (fun a W hl => hl 59 (by decide)) fun a W m hR _ hl K hK => ?_
                have h62 : a.tmps.getD 62 undef = (.pointer (some ⟨b9, o9 + j * 32, none⟩)) := hl 62 (by decide)
                have h59 : a.tmps.getD 59 undef = (.bool false) := hl 59 (by decide)
                replace hK : ∀ v W2, Below W.heap.size W W2 → v = (.agg (E.map U).toArray) → K (a.put (some 63) v) W2 := fun v W2 h1 h2 => hK v W2 h1 (fun d hd => by cases hd; exact h2)
                clear hl
                exact wp_load_mid 25 (.tmp 62) rfl b9 _ h62 (E.map U) _ (HG9.out W ⟨hR.os, hR.tape, hR.output, hR.size, fun k hk => hR.block k hk⟩) Try.underlying25 rfl HIM.out (hK _ W (Below.refl _ W) rfl)
              · as_aux_lemma =>
                refine Seq.UpOb.guarded (d := 59) (by decide) (fun _ _ _ h _ => h) (fun _ _ h => h) rfl rfl (fun a W hl => hl 59 (by decide)) fun a W m hR _ hl K hK => ?_
                have h6 : a.tmps.getD 6 undef = (.slice (some ⟨b3, o3, none⟩) ws.length c4) := hl 6 (by decide)
                have h59 : a.tmps.getD 59 undef = (.bool false) := hl 59 (by decide)
                replace hK : ∀ v W2, Below W.heap.size W W2 → v = (.slice (some ⟨b3, o3, none⟩) ws.length c4) → K (a.put (some 64) v) W2 := fun v W2 h1 h2 => hK v W2 h1 (fun d hd => by cases hd; exact h2)
                clear hl
                simp only [Array.getD_eq_getD_getElem?] at h6 h59
                go_simp
                exact hK _ W (Below.refl _ W) rfl
              · as_aux_lemma =>
                refine Seq.UpOb.guarded (d := 59) (by decide) (fun _ _ _ h _ => h) (fun _ _ h => h) rfl rfl (fun a W hl => hl 59 (by decide)) fun a W m hR _ hl K hK => ?_
                have h10 : a.tmps.getD 10 undef = (.int .i64 (j : Int)) := hl 10 (by decide)
                have h59 : a.tmps.getD 59 undef = (.bool false) := hl 59 (by decide)
                replace hK : ∀ v W2, Below W.heap.size W W2 → v = (.int .i64 (j : Int)) → K (a.put (some 65) v) W2 := fun v W2 h1 h2 => hK v W2 h1 (fun d hd => by cases hd; exact h2)
                clear hl
                simp only [Array.getD_eq_getD_getElem?] at h10 h59
                go_simp
                exact hK _ W (Below.refl _ W) rfl
              · as_aux_lemma =>
                refine Seq.UpOb.guarded (d := 59) (by decide) (fun _ _ _ h _ => h) (fun _ _ h => h) rfl rfl (fun a W hl => hl 59 (by decide)) fun a W m hR _ hl K hK => ?_
                have h64 : a.tmps.getD 64 undef = (.slice (some ⟨b3, o3, none⟩) ws.length c4) := hl 64 (by decide)
                have h65 : a.tmps.getD 65 undef = (.int .i64 (j : Int)) := hl 65 (by decide)
                have h59 : a.tmps.getD 59 undef = (.bool false) := hl 59 (by decide)
                replace hK : ∀ v W2, Below W.heap.size W W2 → v = (.pointer (some ⟨b3, o3 + j * 32, none⟩)) → K (a.put (some 66) v) W2 := fun v W2 h1 h2 => hK v W2 h1 (fun d hd => by cases hd; exact h2)
                clear hl
                simp only [Array.getD_eq_getD_getElem?] at h64 h65 h59
                go_simp
                exact hK _ W (Below.refl _ W) rfl
              · as_aux_lemma =>
                refine Seq.UpOb.guarded (d := 59) (by decide) (fun _ _ _ h _ => h) (fun _ _ h => h) rfl rfl (fun a W hl => hl 59 (by decide)) fun a W m hR _ hl K hK => ?_
                have h66 : a.tmps.getD 66 undef = (.pointer (some ⟨b3, o3 + j * 32, none⟩)) := hl 66 (by decide)
                have h59 : a.tmps.getD 59 undef = (.bool false) := hl 59 (by decide)
                replace hK : ∀ v W2, Below W.heap.size W W2 → v = (.agg (E.map U).toArray) → K (a.put (some 67) v) W2 := fun v W2 h1 h2 => hK v W2 h1 (fun d hd => by cases hd; exact h2)
                clear hl
                exact wp_load_mid 25 (.tmp 66) rfl b3 _ h66 (E.map U) _ (HG3.out W ⟨hR.os, hR.tape, hR.output, hR.size, fun k hk => hR.block k hk⟩) Try.underlying25 rfl HIM.out (hK _ W (Below.refl _ W) rfl)
              · as_aux_lemma =>
                refine Seq.UpOb.guarded (d := 59) (by decide) (fun _ _ _ h _ => h) (fun _ _ h => h) rfl rfl (fun a W hl => hl 59 (by decide)) fun a W m hR _ hl K hK => ?_
                have h63 : a.tmps.getD 63 undef = (.agg (E.map U).toArray) := hl 63 (by decide)
                have h67 : a.tmps.getD 67 undef = (.agg (E.map U).toArray) := hl 67 (by decide)
                have h59 : a.tmps.getD 59 undef = (.bool false) := hl 59 (by decide)
                replace hK : ∀ v W2, Below W.heap.size W W2 → v = (.bool false) → K (a.put (some 68) v) W2 := fun v W2 h1 h2 => hK v W2 h1 (fun d hd => by cases hd; exact h2)
                clear hl
                exact wp_neD (.tmp 63) (.tmp 67) 25 rfl E HE.out h63 h67 (hK _ W (Below.refl _ W) rfl)
              · as_aux_lemma =>
                refine Seq.UpOb.plain (by decide) (fun _ _ _ h _ => h) (fun _ _ h => h) rfl fun a W m hR _ hl K hK => ?_
                have h59 : a.tmps.getD 59 undef = (.bool false) := hl 59 (by decide)
                have h68 : a.tmps.getD 68 undef = (.bool false) := hl 68 (by decide)
                replace hK : ∀ v W2, Below W.heap.size W W2 → v = (.bool false) → K (a.put (some 69) v) W2 := fun v W2 h1 h2 => hK v W2 h1 (fun d hd => by cases hd; exact h2)
                clear hl
                simp only [Array.getD_eq_getD_getElem?] at h59 h68
                go_simp
                exact hK _ W (Below.refl _ W) rfl
            · intro a W hd hsz hR hl _
              have hl' : ∀ t, Seq.SpOf _ _ t (a.tmps.getD t undef) W := hl
              have htm := Seq.tmps_eq (hsz.trans rfl) [55, 56, 57, 58, 59, 60, 61, 62, 63, 64, 65, 66, 67, 68, 69] [(55, .int .i64 (j : Int)), (56, .slice (some ⟨b3, o3, none⟩) ws.length c4), (57, .int .i64 (ws.length : Int)), (58, .bool false), (59, .bool false), (60, .slice (some ⟨b9, o9, none⟩) ws.length c9), (61, .int .i64 (j : Int)), (62, .pointer (some ⟨b9, o9 + j * 32, none⟩)), (63, .agg (E.map U).toArray), (64, .slice (some ⟨b3, o3, none⟩) ws.length c4), (65, .int .i64 (j : Int)), (66, .pointer (some ⟨b3, o3 + j * 32, none⟩)), (67, .agg (E.map U).toArray), (68, .bool false), (69, .bool false)] rfl rfl (by decide) 93 rfl (by decide) hl' (by
                intro p hp
                simp only [List.mem_cons, List.not_mem_nil, or_false] at hp
                rcases hp with rfl | rfl | rfl | rfl | rfl | rfl | rfl | rfl | rfl | rfl | rfl | rfl | rfl | rfl | rfl
                · exact hl 55
                · exact hl 56
                · exact hl 57
                · exact hl 58
                · exact hl 59
                · exact hl 60
                · exact hl 61
                · exact hl 62
                · exact hl 63
                · exact hl 64
                · exact hl 65
                · exact hl 66
                · exact hl 67
                · exact hl 68
                · exact hl 69
                )
              clear hl hl' hsz
              have hact : a = ⟨_, []⟩ := Seq.act_eq hd htm
              clear htm hd
              rw [hact]
              clear hact
              simp only [List.foldl, List.setIfInBounds_toArray, List.set]
              have hW : Below wr.heap.size wr W := ⟨hR.os, hR.tape, hR.output, hR.size, fun k hk => hR.block k hk⟩
              have k2 := Lib.hid (K2.out.kept hW)
              have k9 := Lib.hid (K9.out.kept hW)
              have k3 := Lib.hid (K3.out.kept hW)
              have kb := Lib.hid (KB.out.trans (Below.mono hW KB.out.size))
              clear hR hW K2 K9 K3 KB HG9 HG3
              go_wp2
              refine ⟨⟨j + 1, by omega, by go_num, k2.out, k9.out, k3.out, kb.out⟩, by simp [intOf]; omega⟩
          · obtain rfl : j = ws.length := by omega
            go_wp2_with (refine stop_dst 72 rfl ?_)
            refine ⟨?_⟩
            refine Seq.wpList_line 1 (R := UpN) UpN.refl UpN.trans [[71], [6], [73], [72, 74], [75], [5, 76], [77, 76], [78, 76], [79, 76], [76, 80], [81], [5, 82], [83, 82], [84, 82], [0, 82], [86, 82], [6, 82], [88, 82], [87, 89, 82], [85, 90, 82], [82, 91], [92]] [(72, spU (.int .i64 (ws.length : Int))), (73, spU (.slice A3 ws.length c4)), (74, spU (.int .i64 (ws.length : Int))), (75, spU (.bool true)), (76, spU (.bool true)), (77, spU (.slice A2 ps.length c3)), (78, spLen 0), (79, spU (.int .i64 0)), (80, spU (.bool true)), (81, spU (.bool true)), (82, spU (.bool true)), (83, spU (.slice A2 ps.length c3)), (84, spLen M), (85, spU (.int .i64 (M : Int))), (86, spU (.slice A ds.length c)), (87, spU (.int .i64 (ds.length : Int))), (88, spU (.slice A3 ws.length c4)), (89, spU (.int .i64 (ws.length : Int))), (90, spU (.int .i64 (M : Int))), (91, spU (.bool true)), (92, spU (.bool true)), (4, spU (.bool true))] 93 ?hn ?hc ?hd ?hs ?_ ?_
            case hn => rfl
            case hc => kernel_rfl
            case hd => kernel_rfl
            case hs => kernel_rfl
            · refine ⟨?_, ?_, ?_, ?_, ?_, ?_, ?_, ?_, ?_, ?_, ?_, ?_, ?_, ?_, ?_, ?_, ?_, ?_, ?_, ?_, ?_, ?_, trivial⟩
              · as_aux_lemma =>
                refine Seq.UpOb.plain (by decide) (fun _ _ _ h _ => h) (fun _ _ h => h) rfl fun a W m hR _ hl K hK => ?_
                have h71 : a.tmps.getD 71 undef = (.slice A9 ws.length c9) := hl 71 (by decide)
                replace hK : ∀ v W2, Below W.heap.size W W2 → v = (.int .i64 (ws.length : Int)) → K (a.put (some 72) v) W2 := fun v W2 h1 h2 => hK v W2 h1 (fun d hd => by cases hd; exact h2)
                clear hl
                simp only [Array.getD_eq_getD_getElem?] at h71
                go_simp
                exact hK _ W (Below.refl _ W) rfl
              · as_aux_lemma =>
                refine Seq.UpOb.plain (by decide) (fun _ _ _ h _ => h) (fun _ _ h => h) rfl fun a W m hR _ hl K hK => ?_
                have h6 : a.tmps.getD 6 undef = (.slice A3 ws.length c4) := hl 6 (by decide)
                replace hK : ∀ v W2, Below W.heap.size W W2 → v = (.slice A3 ws.length c4) → K (a.put (some 73) v) W2 := fun v W2 h1 h2 => hK v W2 h1 (fun d hd => by cases hd; exact h2)
                clear hl
                simp only [Array.getD_eq_getD_getElem?] at h6
                go_simp
                exact hK _ W (Below.refl _ W) rfl
              · as_aux_lemma =>
                refine Seq.UpOb.plain (by decide) (fun _ _ _ h _ => h) (fun _ _ h => h) rfl fun a W m hR _ hl K hK => ?_
                have h73 : a.tmps.getD 73 undef = (.slice A3 ws.length c4) := hl 73 (by decide)
                replace hK : ∀ v W2, Below W.heap.size W W2 → v = (.int .i64 (ws.length : Int)) → K (a.put (some 74) v) W2 := fun v W2 h1 h2 => hK v W2 h1 (fun d hd => by cases hd; exact h2)
                clear hl
                simp only [Array.getD_eq_getD_getElem?] at h73
                go_simp
                exact hK _ W (Below.refl _ W) rfl
              · as_aux_lemma =>
                refine Seq.UpOb.plain (by decide) (fun _ _ _ h _ => h) (fun _ _ h => h) rfl fun a W m hR _ hl K hK => ?_
                have h72 : a.tmps.getD 72 undef = (.int .i64 (ws.length : Int)) := hl 72 (by decide)
                have h74 : a.tmps.getD 74 undef = (.int .i64 (ws.length : Int)) := hl 74 (by decide)
                replace hK : ∀ v W2, Below W.heap.size W W2 → v = (.bool true) → K (a.put (some 75) v) W2 := fun v W2 h1 h2 => hK v W2 h1 (fun d hd => by cases hd; exact h2)
                clear hl
                simp only [Array.getD_eq_getD_getElem?] at h72 h74
                go_simp
                exact hK _ W (Below.refl _ W) (by simp)
              · as_aux_lemma =>
                refine Seq.UpOb.plain (by decide) (fun _ _ _ h _ => h) (fun _ _ h => h) rfl fun a W m hR _ hl K hK => ?_
                have h75 : a.tmps.getD 75 undef = (.bool true) := hl 75 (by decide)
                replace hK : ∀ v W2, Below W.heap.size W W2 → v = (.bool true) → K (a.put (some 76) v) W2 := fun v W2 h1 h2 => hK v W2 h1 (fun d hd => by cases hd; exact h2)
                clear hl
                simp only [Array.getD_eq_getD_getElem?] at h75
                go_simp
                exact hK _ W (Below.refl _ W) rfl
              · as_aux_lemma =>
                refine Seq.UpOb.guarded (d := 76) (by decide) (fun _ _ _ h _ => h) (fun _ _ h => h) rfl rfl (fun a W hl => hl 76 (by decide)) fun a W m hR _ hl K hK => ?_
                have h5 : a.tmps.getD 5 undef = (.slice A2 ps.length c3) := hl 5 (by decide)
                have h76 : a.tmps.getD 76 undef = (.bool true) := hl 76 (by decide)
                replace hK : ∀ v W2, Below W.heap.size W W2 → v = (.slice A2 ps.length c3) → K (a.put (some 77) v) W2 := fun v W2 h1 h2 => hK v W2 h1 (fun d hd => by cases hd; exact h2)
                clear hl
                simp only [Array.getD_eq_getD_getElem?] at h5 h76
                go_simp
                exact hK _ W (Below.refl _ W) rfl
              · as_aux_lemma =>
                refine Seq.UpOb.guarded (d := 76) (by decide) (fun _ _ _ h _ => h) (fun _ _ h => h) rfl rfl (fun a W hl => hl 76 (by decide)) fun a W m hR _ hl K hK => ?_
                have h77 : a.tmps.getD 77 undef = (.slice A2 ps.length c3) := hl 77 (by decide)
                have h76 : a.tmps.getD 76 undef = (.bool true) := hl 76 (by decide)
                replace hK : ∀ v W2, Below W.heap.size W W2 → (∃ A c, v = .slice A 0 c) → K (a.put (some 78) v) W2 := fun v W2 h1 h2 => hK v W2 h1 (fun d hd => by cases hd; exact h2)
                clear hl
                simp only [Array.getD_eq_getD_getElem?] at h77 h76
                go_simp
                refine (HPX.out W (K2.out.kept ⟨hR.os, hR.tape, hR.output, hR.size, fun k hk => hR.block k hk⟩)).mono ?_
                rintro e w4 ⟨v, rfl, hv, hb4⟩
                exact hK v w4 hb4 hv
              · as_aux_lemma =>
                refine Seq.UpOb.guarded (d := 76) (by decide) (fun _ _ _ h _ => h) (fun _ _ h => h) rfl rfl (fun a W hl => hl 76 (by decide)) fun a W m hR _ hl K hK => ?_
                have h78 : (∃ A c, (a.tmps.getD 78 undef) = .slice A 0 c) := hl 78 (by decide)
                generalize hv78 : a.tmps.getD 78 undef = v78 at h78
                have h76 : a.tmps.getD 76 undef = (.bool true) := hl 76 (by decide)
                replace hK : ∀ v W2, Below W.heap.size W W2 → v = (.int .i64 0) → K (a.put (some 79) v) W2 := fun v W2 h1 h2 => hK v W2 h1 (fun d hd => by cases hd; exact h2)
                clear hl
                obtain ⟨A7, c7, rfl⟩ := h78
                simp only [Array.getD_eq_getD_getElem?] at hv78 h76
                go_simp
                exact hK _ W (Below.refl _ W) rfl
              · as_aux_lemma =>
                refine Seq.UpOb.guarded (d := 76) (by decide) (fun _ _ _ h _ => h) (fun _ _ h => h) rfl rfl (fun a W hl => hl 76 (by decide)) fun a W m hR _ hl K hK => ?_
                have h79 : a.tmps.getD 79 undef = (.int .i64 0) := hl 79 (by decide)
                have h76 : a.tmps.getD 76 undef = (.bool true) := hl 76 (by decide)
                replace hK : ∀ v W2, Below W.heap.size W W2 → v = (.bool true) → K (a.put (some 80) v) W2 := fun v W2 h1 h2 => hK v W2 h1 (fun d hd => by cases hd; exact h2)
                clear hl
                simp only [Array.getD_eq_getD_getElem?] at h79 h76
                go_simp
                exact hK _ W (Below.refl _ W) rfl
              · as_aux_lemma =>
                refine Seq.UpOb.plain (by decide) (fun _ _ _ h _ => h) (fun _ _ h => h) rfl fun a W m hR _ hl K hK => ?_
                have h76 : a.tmps.getD 76 undef = (.bool true) := hl 76 (by decide)
                have h80 : a.tmps.getD 80 undef = (.bool true) := hl 80 (by decide)
                replace hK : ∀ v W2, Below W.heap.size W W2 → v = (.bool true) → K (a.put (some 81) v) W2 := fun v W2 h1 h2 => hK v W2 h1 (fun d hd => by cases hd; exact h2)
                clear hl
                simp only [Array.getD_eq_getD_getElem?] at h76 h80
                go_simp
                exact hK _ W (Below.refl _ W) rfl
              · as_aux_lemma =>
                refine Seq.UpOb.plain (by decide) (fun _ _ _ h _ => h) (fun _ _ h => h) rfl fun a W m hR _ hl K hK => ?_
                have h81 : a.tmps.getD 81 undef = (.bool true) := hl 81 (by decide)
                replace hK : ∀ v W2, Below W.heap.size W W2 → v = (.bool true) → K (a.put (some 82) v) W2 := fun v W2 h1 h2 => hK v W2 h1 (fun d hd => by cases hd; exact h2)
                clear hl
                simp only [Array.getD_eq_getD_getElem?] at h81
                go_simp
                exact hK _ W (Below.refl _ W) rfl
              · as_aux_lemma =>
                refine Seq.UpOb.guarded (d := 82) (by decide) (fun _ _ _ h _ => h) (fun _ _ h => h) rfl rfl (fun a W hl => hl 82 (by decide)) fun a W m hR _ hl K hK => ?_
                have h5 : a.tmps.getD 5 undef = (.slice A2 ps.length c3) := hl 5 (by decide)
                have h82 : a.tmps.getD 82 undef = (.bool true) := hl 82 (by decide)
                replace hK : ∀ v W2, Below W.heap.size W W2 → v = (.slice A2 ps.length c3) → K (a.put (some 83) v) W2 := fun v W2 h1 h2 => hK v W2 h1 (fun d hd => by cases hd; exact h2)
                clear hl
                simp only [Array.getD_eq_getD_getElem?] at h5 h82
                go_simp
                exact hK _ W (Below.refl _ W) rfl
              · as_aux_lemma =>
                refine Seq.UpOb.guarded (d := 82) (by decide) (fun _ _ _ h _ => h) (fun _ _ h => h) rfl rfl (fun a W hl => hl 82 (by decide)) fun a W m hR _ hl K hK => ?_
                have h83 : a.tmps.getD 83 undef = (.slice A2 ps.length c3) := hl 83 (by decide)
                have h82 : a.tmps.getD 82 undef = (.bool true) := hl 82 (by decide)
                replace hK : ∀ v W2, Below W.heap.size W W2 → (∃ A c, v = .slice A M c) → K (a.put (some 84) v) W2 := fun v W2 h1 h2 => hK v W2 h1 (fun d hd => by cases hd; exact h2)
                clear hl
                simp only [Array.getD_eq_getD_getElem?] at h83 h82
                go_simp
                refine (HPP.out W (K2.out.kept ⟨hR.os, hR.tape, hR.output, hR.size, fun k hk => hR.block k hk⟩)).mono ?_
                rintro e w4 ⟨v, rfl, hv, hb4⟩
                exact hK v w4 hb4 hv
              · as_aux_lemma =>
                refine Seq.UpOb.guarded (d := 82) (by decide) (fun _ _ _ h _ => h) (fun _ _ h => h) rfl rfl (fun a W hl => hl 82 (by decide)) fun a W m hR _ hl K hK => ?_
                have h84 : (∃ A c, (a.tmps.getD 84 undef) = .slice A M c) := hl 84 (by decide)
                generalize hv84 : a.tmps.getD 84 undef = v84 at h84
                have h82 : a.tmps.getD 82 undef = (.bool true) := hl 82 (by decide)
                replace hK : ∀ v W2, Below W.heap.size W W2 → v = (.int .i64 (M : Int)) → K (a.put (some 85) v) W2 := fun v W2 h1 h2 => hK v W2 h1 (fun d hd => by cases hd; exact h2)
                clear hl
                obtain ⟨A7, c7, rfl⟩ := h84
                simp only [Array.getD_eq_getD_getElem?] at hv84 h82
                go_simp
                exact hK _ W (Below.refl _ W) rfl
              · as_aux_lemma =>
                refine Seq.UpOb.guarded (d := 82) (by decide) (fun _ _ _ h _ => h) (fun _ _ h => h) rfl rfl (fun a W hl => hl 82 (by decide)) fun a W m hR _ hl K hK => ?_
                have h0 : a.tmps.getD 0 undef = (.slice A ds.length c) := hl 0 (by decide)
                have h82 : a.tmps.getD 82 undef = (.bool true) := hl 82 (by decide)
                replace hK : ∀ v W2, Below W.heap.size W W2 → v = (.slice A ds.length c) → K (a.put (some 86) v) W2 := fun v W2 h1 h2 => hK v W2 h1 (fun d hd => by cases hd; exact h2)
                clear hl
                simp only [Array.getD_eq_getD_getElem?] at h0 h82
                go_simp
                exact hK _ W (Below.refl _ W) rfl
              · as_aux_lemma =>
                refine Seq.UpOb.guarded (d := 82) (by decide) (fun _ _ _ h _ => h) (fun _ _ h => h) rfl rfl (fun a W hl => hl 82 (by decide)) fun a W m hR _ hl K hK => ?_
                have h86 : a.tmps.getD 86 undef = (.slice A ds.length c) := hl 86 (by decide)
                have h82 : a.tmps.getD 82 undef = (.bool true) := hl 82 (by decide)
                replace hK : ∀ v W2, Below W.heap.size W W2 → v = (.int .i64 (ds.length : Int)) → K (a.put (some 87) v) W2 := fun v W2 h1 h2 => hK v W2 h1 (fun d hd => by cases hd; exact h2)
                clear hl
                simp only [Array.getD_eq_getD_getElem?] at h86 h82
                go_simp
                exact hK _ W (Below.refl _ W) rfl
              · as_aux_lemma =>
                refine Seq.UpOb.guarded (d := 82) (by decide) (fun _ _ _ h _ => h) (fun _ _ h => h) rfl rfl (fun a W hl => hl 82 (by decide)) fun a W m hR _ hl K hK => ?_
                have h6 : a.tmps.getD 6 undef = (.slice A3 ws.length c4) := hl 6 (by decide)
                have h82 : a.tmps.getD 82 undef = (.bool true) := hl 82 (by decide)
                replace hK : ∀ v W2, Below W.heap.size W W2 → v = (.slice A3 ws.length c4) → K (a.put (some 88) v) W2 := fun v W2 h1 h2 => hK v W2 h1 (fun d hd => by cases hd; exact h2)
                clear hl
                simp only [Array.getD_eq_getD_getElem?] at h6 h82
                go_simp
                exact hK _ W (Below.refl _ W) rfl
              · as_aux_lemma =>
                refine Seq.UpOb.guarded (d := 82) (by decide) (fun _ _ _ h _ => h) (fun _ _ h => h) rfl rfl (fun a W hl => hl 82 (by decide)) fun a W m hR _ hl K hK => ?_
                have h88 : a.tmps.getD 88 undef = (.slice A3 ws.length c4) := hl 88 (by decide)
                have h82 : a.tmps.getD 82 undef = (.bool true) := hl 82 (by decide)
                replace hK : ∀ v W2, Below W.heap.size W W2 → v = (.int .i64 (ws.length : Int)) → K (a.put (some 89) v) W2 := fun v W2 h1 h2 => hK v W2 h1 (fun d hd => by cases hd; exact h2)
                clear hl
                simp only [Array.getD_eq_getD_getElem?] at h88 h82
                go_simp
                exact hK _ W (Below.refl _ W) rfl
              · as_aux_lemma =>
                refine Seq.UpOb.guarded (d := 82) (by decide) (fun _ _ _ h _ => h) (fun _ _ h => h) rfl rfl (fun a W hl => hl 82 (by decide)) fun a W m hR _ hl K hK => ?_
                have h87 : a.tmps.getD 87 undef = (.int .i64 (ds.length : Int)) := hl 87 (by decide)
                have h89 : a.tmps.getD 89 undef = (.int .i64 (ws.length : Int)) := hl 89 (by decide)
                have h82 : a.tmps.getD 82 undef = (.bool true) := hl 82 (by decide)
                replace hK : ∀ v W2, Below W.heap.size W W2 → v = (.int .i64 (M : Int)) → K (a.put (some 90) v) W2 := fun v W2 h1 h2 => hK v W2 h1 (fun d hd => by cases hd; exact h2)
                clear hl
                simp only [Array.getD_eq_getD_getElem?] at h87 h89 h82
                go_simp
                exact hK _ W (Below.refl _ W) (by simp)
              · as_aux_lemma =>
                refine Seq.UpOb.guarded (d := 82) (by decide) (fun _ _ _ h _ => h) (fun _ _ h => h) rfl rfl (fun a W hl => hl 82 (by decide)) fun a W m hR _ hl K hK => ?_
                have h85 : a.tmps.getD 85 undef = (.int .i64 (M : Int)) := hl 85 (by decide)
                have h90 : a.tmps.getD 90 undef = (.int .i64 (M : Int)) := hl 90 (by decide)
                have h82 : a.tmps.getD 82 undef = (.bool true) := hl 82 (by decide)
                replace hK : ∀ v W2, Below W.heap.size W W2 → v = (.bool true) → K (a.put (some 91) v) W2 := fun v W2 h1 h2 => hK v W2 h1 (fun d hd => by cases hd; exact h2)
                clear hl
                simp only [Array.getD_eq_getD_getElem?] at h85 h90 h82
                go_simp
                exact hK _ W (Below.refl _ W) (by simp)
              · as_aux_lemma =>
                refine Seq.UpOb.plain (by decide) (fun _ _ _ h _ => h) (fun _ _ h => h) rfl fun a W m hR _ hl K hK => ?_
                have h82 : a.tmps.getD 82 undef = (.bool true) := hl 82 (by decide)
                have h91 : a.tmps.getD 91 undef = (.bool true) := hl 91 (by decide)
                replace hK : ∀ v W2, Below W.heap.size W W2 → v = (.bool true) → K (a.put (some 92) v) W2 := fun v W2 h1 h2 => hK v W2 h1 (fun d hd => by cases hd; exact h2)
                clear hl
                simp only [Array.getD_eq_getD_getElem?] at h82 h91
                go_simp
                exact hK _ W (Below.refl _ W) rfl
              · as_aux_lemma =>
                refine Seq.UpOb.plain (by decide) (fun _ _ _ h _ => h) (fun _ _ h => h) rfl fun a W m hR _ hl K hK => ?_
                have h92 : a.tmps.getD 92 undef = (.bool true) := hl 92 (by decide)
                replace hK : ∀ v W2, Below W.heap.size W W2 → v = (.bool true) → K (a.put (some 4) v) W2 := fun v W2 h1 h2 => hK v W2 h1 (fun d hd => by cases hd; exact h2)
                clear hl
                simp only [Array.getD_eq_getD_getElem?] at h92
                go_simp
                exact hK _ W (Below.refl _ W) rfl
            · intro a Wz hd hsz hR hl
              have h4 : a.tmps.getD 4 undef = .bool true := hl 4
              have hbz := KB.out.trans (Below.mono (show Below wr.heap.size wr Wz from ⟨hR.os, hR.tape, hR.output, hR.size, fun k hk => hR.block k hk⟩) KB.out.size)
              clear hl hR
              go_wp2
              refine bodyPost_ret (v := .bool true) ?_ hd ⟨rfl, hbz⟩
              rw [results_tmp rfl, h4]
  · have h40' : ¬ (ds.length : Int) ≤ 40 := by omega
    clear hA hB
    go_enter Try.func5, Try.ntmps5
    go_wp2_with (go_at_call 10; refine (awake7_walk w).mono ?_; rintro e w1 ⟨rfl, hb1⟩; have HR1 := Lib.hid hb1; clear hb1)
    go_ret
    exact ⟨by simp, HR1.out⟩
end Go.Proofs.Ytekhnacgejfmjaa
