/- Rows that are taken. -/
import Derived.Test.YtjoiimhifogbhaaR3
namespace Go.Proofs.Ytjoiimhifogbhaa
open Go.RowKit

theorem take20_walk (w : World) (g : Nat) (x : ByteArray) (r : List UInt8) (hx : x.size ≤ 300) (h : InIs w g 0 (textOf x ++ r)) :
    Calls Try.prog 20 #[inP g] w fun e w' => e = .returned (.string x) ∧ InIs w' g 0 r ∧ Ex g w w' := by
  have ht := text_take w g 300 x.data.toList r (by have : x.data.toList.length = x.size := by simp
                                                   omega) (by decide) h
  rw [bstr_eq] at ht
  have HT := Lib.hid ht
  clear ht h
  unfold inP at *
  go_enter Try.func20, Try.ntmps20
  go_wp2_with (go_at_call 21; refine HT.out.mono ?_; rintro e w1 ⟨rfl, h2, h3⟩)
  go_ret
  exact ⟨rfl, h2, h3⟩
theorem Ex.grownBy {g : Nat} {w w' : World} (h : Ex g w w') : w.grownBy w' (some g) := ⟨h.os, h.tape, h.output, h.size, fun k hk hne => h.block k hk (fun e => hne (by rw [e]))⟩
theorem Ex.grown {g : Nat} {w0 w w' : World} (h : Ex g w0 w) {row : Option Nat} (hg : w.grownBy w' row) (hr : ∀ k, row = some k → w0.heap.size ≤ k) : Ex g w0 w' :=
  ⟨hg.os.trans h.os, hg.tape.trans h.tape, hg.output.trans h.output, Nat.le_trans h.size hg.size, fun k hk hne => (hg.block k (Nat.lt_of_lt_of_le hk h.size) (fun e => by have := hr k e.symm; omega)).trans (h.block k hk hne)⟩
/-- A row of texts that a call made: its block is none of those that were there. -/
def Made (W : World) (g : Nat) (v : Value) (ps : List ByteArray) : Prop := ∃ A c, v = .slice A ps.length c ∧ (0 < ps.length → ∃ b, A = some ⟨b, 0, none⟩ ∧ b ≠ g ∧ b < W.heap.size ∧ ∀ i (h : i < ps.length), W.cell? ⟨b, i, none⟩ = some (.string ps[i]))
theorem Made.kept {W W' : World} {g : Nat} {v : Value} {ps : List ByteArray} (h : Made W g v ps) (hx : Ex g W W') : Made W' g v ps := by
  obtain ⟨A, c, rfl, h⟩ := h
  refine ⟨A, c, rfl, fun h0 => ?_⟩
  obtain ⟨b, ha, hne, hlt, hc⟩ := h h0
  exact ⟨b, ha, hne, Nat.lt_of_lt_of_le hlt hx.size, fun i hi => (World.cell?_of_block (hx.block b hlt hne)).trans (hc i hi)⟩
theorem Made.of_owns {W : World} {g base : Nat} {v : Value} {ps : List ByteArray} (hg : g < base) (h : W.ownsRow base 9 1 v ps.length (ps.map Value.string)) : Made W g v ps := by
  rcases h.2 with ⟨rfl, h0⟩ | ⟨b, cap, cur, rfl, hb, hgc, hcap, _, hsz, htake⟩
  · exact ⟨none, 0, by rw [h0], fun h => absurd h (by omega)⟩
  · refine ⟨_, cap, rfl, fun h0 => ⟨b, rfl, by omega, ?_, fun i hi => ?_⟩⟩
    · have hblk : Blk W b 9 cur := hgc
      exact hblk.lt
    · have hblk : Blk W b 9 cur := hgc
      rw [hblk.cell]
      have h1 : (cur.toList.take (ps.length * 1))[i]? = (ps.map Value.string)[i]? := by rw [htake]
      rw [List.getElem?_take_of_lt (by omega)] at h1
      simpa [hi] using h1

set_option maxRecDepth 100000 in
set_option maxHeartbeats 2000000 in
theorem rows_ok (w : World) (g most : Nat) (ps : List ByteArray) (r : List UInt8) (hps : ∀ x ∈ ps, x.size ≤ 300) (hm : ps.length ≤ most) (hm2 : most ≤ 1000) (h : InIs w g 0 (be 4 ps.length ++ (texts ps ++ r))) :
    Calls Try.prog 25 #[inP g, .int .i64 (most : Int), .func (.func 20) #[] #[]] w fun e w' => ∃ v, e = .returned v ∧ Made w' g v ps ∧ InIs w' g 0 r ∧ Ex g w w' := by
  have hnb := num_be4 ps.length (by omega)
  have hc := Count_ok w g most (be 4 ps.length) (texts ps ++ r) (be_length _ _) (by omega) (by omega) h
  rw [hnb] at hc
  have hgl := Blk.lt h
  have HGL := Lib.hid hgl
  have HC := Lib.hid hc
  have HP := Lib.hid hps
  have hn : ps.length ≤ 1000 := by omega
  have HN := Lib.hid hn
  clear hc hps hnb hgl h
  unfold inP at *
  go_enter Try.func25, Try.ntmps25
  go_wp2_with (go_at_call 32; refine HC.out.mono ?_; rintro e w1 ⟨rfl, h1, hx1⟩; have H1 := Lib.hid h1; have HX1 := Lib.hid hx1; clear h1 hx1)
  go_loopw [7, 12] (fun v i wr => ∃ k : Nat, k ≤ ps.length ∧ i = .int .i64 k ∧ wr.ownsRow w.heap.size 9 1 v k ((ps.take k).map Value.string) ∧ InIs wr g 0 (texts (ps.drop k) ++ r) ∧ Ex g w wr) (fun _ i _ => ps.length - (intOf i).toNat)
  case atStart => exact ⟨0, Nat.zero_le _, rfl, World.ownsRow_nil _ _ _ _, H1.out, HX1.out⟩
  case round =>
    obtain ⟨k, hk, rfl, hown, hin, hex⟩ := hrel
    have HO := Lib.hid hown
    have HI := Lib.hid hin
    have HE := Lib.hid hex
    have HN' := HN.out
    clear hown hin hex
    by_cases hlt : k < ps.length
    · have hdrop : ps.drop k = ps[k] :: ps.drop (k + 1) := List.drop_eq_getElem_cons hlt
      have htake : ps.take (k + 1) = ps.take k ++ [ps[k]] := List.take_succ_eq_append_getElem hlt
      have hx := HP.out _ (List.getElem_mem hlt)
      generalize ps[k] = x at *
      have hin2 : InIs wr g 0 (textOf x ++ (texts (ps.drop (k + 1)) ++ r)) := by
        have h := HI.out
        rw [hdrop, texts, List.flatMap_cons, List.append_assoc] at h
        exact h
      have hcall := take20_walk wr g x _ hx hin2
      have HCALL := Lib.hid hcall
      have HT := Lib.hid htake
      unfold inP at HCALL
      clear hcall hin2 hdrop htake hx
      go_wp2_with (first
        | (go_at_call 20
           refine HCALL.out.mono ?_
           rintro e w2 ⟨rfl, h2, hx2⟩
           have HI2 := Lib.hid h2
           have HE2 := Lib.hid (HE.out.trans hx2)
           have HO2 : Hid (w2.ownsRow w.heap.size 9 1 u7 k ((ps.take k).map Value.string)) := HO.out.kept hx2.grownBy (by
             cases hv : u7.ownBlock with
             | none => exact .inl rfl
             | some b => right; intro e; injection e with e; have h1 := (HO.out.lt b hv).1; have h2 := HGL.out; omega)
           clear h2 hx2)
        | (go_at_call 28; refine (err_walk w2 g 0 _ HI2.out).mono ?_; rintro e w3 ⟨rfl, rfl⟩)
        | (refine wpList_append_own _ rfl (.tmp 20) (.tmp 22) 24 rfl w.heap.size 9 _ (.string ByteArray.empty) 1 16 Try.underlying24 rfl rfl rfl rfl rfl (by decide) u7 k _ rfl (HO2.out.alloc _) ⟨w3.heap.size, 0, none⟩ 1 1 [.string x] rfl rfl (cells_of_blk (Blk.fresh w3 9 _)) (by simp; rfl) (by unfold maxLen; omega) (by omega) (by have := HE2.out.size; simp; omega) ?_; intro v' w4 hown4 hgrow4 hiff4; have HO4 := Lib.hid hown4; have HG4 := Lib.hid hgrow4; clear hown4 hgrow4 hiff4))
      go_roundw
      case rel =>
        have hne : some g ≠ u7.ownBlock := fun e => by have h1 := (HO2.out.lt g e.symm).1; have h2 := HGL.out; omega
        refine ⟨k + 1, by omega, by go_num, ?_, ?_, Ex.grown (HE2.out.trans (Ex.alloc g w3 _)) HG4.out (fun j hj => (HO2.out.lt j hj).1)⟩
        · rw [HT.out, List.map_append]; exact HO4.out
        · exact (HG4.out.block g (by have := Blk.lt HI2.out; simp; omega) hne).trans (Blk.more HI2.out _)
      case measure => simp [intOf]; omega
    · obtain rfl : k = ps.length := by omega
      have ho := HO.out
      have hi := HI.out
      rw [List.take_length] at ho
      rw [List.drop_length] at hi
      have HM := Lib.hid (Made.of_owns HGL.out ho)
      have HI' : Hid (InIs wr g 0 r) := hi
      clear ho hi
      go_wp2
      go_ret
      exact ⟨_, rfl, HM.out, HI'.out, HE.out⟩
set_option maxRecDepth 100000 in
set_option maxHeartbeats 1000000 in
theorem rows_over (w : World) (g most n : Nat) (r : List UInt8) (hm : most < n) (hn : n ≤ 1000) (h : InIs w g 0 (be 4 n ++ r)) :
    Calls Try.prog 25 #[inP g, .int .i64 (most : Int), .func (.func 20) #[] #[]] w fun e w' => e = .returned (.slice none 0 0) ∧ InIs w' g 6 r ∧ Ex g w w' := by
  have hnb := num_be4 n (by omega)
  have hc := Count_over w g most (be 4 n) r (be_length _ _) (by omega) h
  have HC := Lib.hid hc
  clear hc hnb h
  unfold inP at *
  go_enter Try.func25, Try.ntmps25
  go_wp2_with (go_at_call 32; refine HC.out.mono ?_; rintro e w1 ⟨rfl, h1, hx1⟩; have H1 := Lib.hid h1; have HX1 := Lib.hid hx1; clear h1 hx1)
  go_loopw [7, 12] (fun v i wr => v = .slice none 0 0 ∧ i = .int .i64 0 ∧ wr = w1) (fun _ _ _ => 0)
  case atStart => exact ⟨rfl, rfl, rfl⟩
  case round =>
    obtain ⟨rfl, rfl, rfl⟩ := hrel
    go_wp2
    go_ret
    exact ⟨rfl, H1.out, HX1.out⟩

/-- Two rows of the same texts are equal. -/
theorem equal_walk (w : World) (g : Nat) (v : Value) (A : Option Addr) (n c : Nat) (ps : List ByteArray) (h1 : Made w g v ps) (h2 : Row w A n (ps.map Value.string)) (hn : n ≤ 1000) :
    Calls Try.prog 24 #[v, .slice A n c] w fun e w' => e = .returned (.bool true) ∧ Below w.heap.size w w' := by
  obtain ⟨A1, c1, rfl, h1⟩ := h1
  have hlen : ps.length = n := by have := h2.len; simpa using this.symm
  by_cases h0 : n = 0
  · subst h0
    rw [hlen]
    exact (Try.slices_Equal_string_empty A1 A c1 0 c w (by omega)).mono (by rintro e w' ⟨rfl, rfl⟩; exact ⟨rfl, Below.refl _ _⟩)
  · obtain ⟨b1, rfl, _, _, hc1⟩ := h1 (by omega)
    obtain ⟨b2, o2, rfl, _, hc2⟩ := h2.place (Nat.pos_of_ne_zero h0)
    rw [hlen]
    refine (Try.slices_Equal_string b1 0 n c1 b2 o2 n c ps ps w (by omega) (by omega) (by omega) (by omega) (fun j hj => by rw [Nat.zero_add, hc1 j hj]; simp [List.getD, hj]) (fun j hj => by rw [hc2 j (by simpa using hj)]; simp [List.getD, hj])).mono ?_
    rintro e w' ⟨rfl, q, rfl⟩
    exact ⟨by simp, ⟨rfl, rfl, rfl, Nat.le_refl _, fun _ _ => rfl⟩⟩
end Go.Proofs.Ytjoiimhifogbhaa
