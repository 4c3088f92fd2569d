/- The law of the sums: up to its last line. -/
import Derived.Test.YtcbfnbmkogeehaaDoorSj
import Derived.Test.YtcbfnbmkogeehaaDoorT9
import Derived.Test.YtcbfnbmkogeehaaDoorShelf
namespace Go.Proofs.YtcbfnbmkogeehaaDoor
open Go.RowKit

theorem N8_mul (n : Nat) (hn : n < 72057594037927936) (w : World) : (binOp .mul 27 (N8 n) (.int .u64 256)).run Tryd.prog w = .ok (N8 (n * 256)) w := by
  show Result.ok (Value.int .u64 (IntKind.u64.wrap ((n : Int) * 256))) w = _
  rw [IntKind.wrap_u64]
  unfold N8
  congr 2
  omega
theorem N8_add (n : Nat) (hn : n < 72057594037927936) (b : UInt8) (w : World) : (binOp .add 27 (N8 (n * 256)) (N8 b.toNat)).run Tryd.prog w = .ok (N8 (n * 256 + b.toNat)) w := by
  have hb := b.toNat_lt
  show Result.ok (Value.int .u64 (IntKind.u64.wrap (((n * 256 : Nat) : Int) + (b.toNat : Int)))) w = _
  rw [IntKind.wrap_u64]
  unfold N8
  congr 2
  omega
theorem run_convI (x : UInt8) (w : World) : (convert 5 3 (U x)).run Tryd.prog w = .ok (.int .i64 (x.toNat : Int)) w := by
  have h1 : ∀ w, (underlying 5).run Tryd.prog w = .ok (.int .u8) w := fun w => by kernel_rfl
  have h2 : ∀ w, (underlying 3).run Tryd.prog w = .ok (.int .i64) w := fun w => by kernel_rfl
  have hx := x.toNat_lt
  simp only [convert, Sem.run_bind, h1, h2, Result.andThen_ok, U_def, Conv.intToInt]
  show Result.ok (Value.int .i64 (IntKind.i64.wrap (x.toNat : Int))) w = _
  rw [IntWalk.i64_in] <;> omega
/-- The letters a. -/
def rep (n : Nat) : ByteArray := ⟨(Lib.repeatL [97] n).toArray⟩
theorem rep_size (n : Nat) : (rep n).size = n := by
  show (Lib.repeatL [97] n).toArray.size = n
  rw [List.size_toArray, Lib.repeatL_length]
  simp
theorem rep_walk (c : UInt8) (w : World) : Calls Tryd.prog 7 #[.string ⟨#[97]⟩, .int .i64 (c.toNat : Int)] w fun e w' => e = .returned (.string (rep c.toNat)) ∧ Below w.heap.size w w' := by
  have hc := c.toNat_lt
  exact Tryd.strings_Repeat ⟨#[97]⟩ c.toNat w (by omega) (by show 1 * c.toNat ≤ _; omega)
def RV (l : List Value) (v : Value) (X : World) : Prop := ∃ b, v = .slice (some ⟨b, 0, none⟩) l.length l.length ∧ Blk X b 9 l.toArray
theorem RV.up {l : List Value} {v : Value} {X Y : World} (h : RV l v X) (hb : Below X.heap.size X Y) : RV l v Y := by
  obtain ⟨b, e, h1⟩ := h
  exact ⟨b, e, h1.kept hb h1.lt⟩
def spR (l : List Value) : Seq.Sp (fun a b => Below a.heap.size a b) := ⟨fun x X => RV l x X, fun _ _ _ h hx => h.up hx⟩
theorem sums_t (s : ByteArray) (c : UInt8) (b : Nat) (D : List UInt8) (hs : (s ++ rep c.toNat).size ≤ 2300) (hD : SUM (s.data.toList ++ (rep c.toNat).data.toList) = D) (W : World) (hb : Blk W b 9 ([.string (s ++ rep c.toNat)] : List Value).toArray) (hk : Kt W) :
    Calls Tryd.prog 9 #[.slice (some ⟨b, 0, none⟩) 1 1] W fun e W' => e = .returned (.agg (D.map U).toArray) ∧ Below W.heap.size W W' := by
  have h := sum_one W b (s ++ rep c.toNat) (by unfold maxLen; omega) hb hk
  rw [show (s ++ rep c.toNat).data.toList = s.data.toList ++ (rep c.toNat).data.toList by simp, hD] at h
  exact h
theorem sums_st (s : ByteArray) (c : UInt8) (b : Nat) (D : List UInt8) (h0 : s.size ≤ 2000) (hs : (s ++ rep c.toNat).size ≤ 2300) (hD : SUM (s.data.toList ++ (rep c.toNat).data.toList) = D) (W : World) (hb : Blk W b 9 ([.string s, .string (rep c.toNat)] : List Value).toArray) (hk : Kt W) :
    Calls Tryd.prog 9 #[.slice (some ⟨b, 0, none⟩) 2 2] W fun e W' => e = .returned (.agg (D.map U).toArray) ∧ Below W.heap.size W W' := by
  have hr : (rep c.toNat).size ≤ 2300 := by have := rep_size c.toNat; have := c.toNat_lt; omega
  have h := sum_is W b 2 [s, rep c.toNat] (s.data.toList ++ (rep c.toNat).data.toList) (by simp [joined]) hb rfl (by
    intro p hp
    simp only [List.mem_cons, List.not_mem_nil, or_false] at hp
    unfold maxLen
    rcases hp with rfl | rfl <;> omega) (by simp) hk
  rw [hD] at h
  exact h
theorem short_t (s : ByteArray) (c : UInt8) (b : Nat) (D : List UInt8) (hs : (s ++ rep c.toNat).size ≤ 2300) (hD : SUM (s.data.toList ++ (rep c.toNat).data.toList) = D) (W : World) (hb : Blk W b 9 ([.string (s ++ rep c.toNat)] : List Value).toArray) (hk : Kt W) :
    Calls Tryd.prog 10 #[.slice (some ⟨b, 0, none⟩) 1 1] W fun e W' => e = .returned (N8 (num8 D 8)) ∧ Below W.heap.size W W' := by
  have h := short_walk W b (s ++ rep c.toNat) (by unfold maxLen; omega) hb hk
  rw [show (s ++ rep c.toNat).data.toList = s.data.toList ++ (rep c.toNat).data.toList by simp, hD] at h
  exact h
attribute [local irreducible] wpList in
set_option maxHeartbeats 2000000 in
theorem sums_small (s : ByteArray) (c : UInt8) (w : World) (hk : Kt w) (hs : s.size ≤ 2000) :
    Calls Tryd.prog 3 #[.string s, U c] w fun e w' => e = .returned (.bool true) ∧ Below w.heap.size w w' := by
  have HK := Lib.hid hk
  have hr := rep_size c.toNat
  have hc := c.toNat_lt
  have hts : (s ++ rep c.toNat).size ≤ 2300 := by rw [ByteArray.size_append]; omega
  have HTS := Lib.hid hts
  have r1 := run_convI
  have hz := zero25y
  have hs1 : (s.size : Int) ≤ 2000 := by omega
  have ha : ¬ 9223372036854775807 < s.size + (rep c.toNat).size := by omega
  clear hk hts hr hc
  go_enter Tryd.func3, Tryd.ntmps3
  go_wp2_with (first
    | (go_at_call 6; refine (awake_walk _ HK.out).mono ?_; rintro e w1 ⟨rfl, hb1⟩; have HB1 := Lib.hid hb1; clear hb1)
    | (go_at_call 7; refine (rep_walk c _).mono ?_; rintro e w2 ⟨rfl, hb2⟩; have HB2 := Lib.hid (HB1.out.trans (hb2.mono HB1.out.size)); clear hb2)
    | (go_at_call 8; refine (qsum_walk _ _ (Nat.le_trans HTS.out (by decide))).mono ?_; rintro e w3 ⟨rfl, hb3⟩; have HB3 := Lib.hid (HB2.out.trans (hb3.mono HB2.out.size)); clear hb3)
    | (refine wpList_store_row rfl 25 _ _ rfl w3.heap.size _ rfl rfl 25 _ (Blk.fresh w3 25 _) (SUM_row _) (by simp [SUM_length]) (U_all _) ?_))
  have hw : Below w.heap.size w ((w3.alloc (.cells (Array.replicate 32 (.int .u8 0)) 25)).setRow w3.heap.size ((SUM (s.data.toList ++ (rep c.toNat).data.toList)).map U).toArray) := by
    have a := (HB3.out.alloc HB3.out.size (.cells (Array.replicate 32 (.int .u8 0)) 25))
    have c := Ex.setRow w3.heap.size (w3.alloc (.cells (Array.replicate 32 (.int .u8 0)) 25)) ((SUM (s.data.toList ++ (rep c.toNat).data.toList)).map U).toArray
    exact Ex.below a c HB3.out.size a.size
  have hr := (Blk.fresh w3 25 (Array.replicate 32 (Value.int .u8 0))).setRow ((SUM (s.data.toList ++ (rep c.toNat).data.toList)).map U).toArray
  have hl := SUM_length (s.data.toList ++ (rep c.toNat).data.toList)
  have HW := Lib.hid hw
  have HR := Lib.hid hr
  clear hw hr hz HB3 HB2 HB1
  generalize hD : SUM (s.data.toList ++ (rep c.toNat).data.toList) = D at *
  have HL := Lib.hid hl
  have HD := Lib.hid hD
  clear hl hD
  generalize (w3.alloc (.cells (Array.replicate 32 (.int .u8 0)) 25)).setRow w3.heap.size (D.map U).toArray = w4 at *
  generalize w3.heap.size = ob at *
  go_loopw [7, 21] (fun v i wr => ∃ j : Nat, j ≤ 8 ∧ v = N8 (num8 D j) ∧ i = .int .i64 j ∧ wr = w4) (fun _ i _ => 8 - (intOf i).toNat)
  case atStart => exact ⟨0, Nat.zero_le _, rfl, rfl, rfl⟩
  case round =>
    obtain ⟨j, hj, rfl, rfl, rfl⟩ := hrel
    by_cases hlt : j < 8
    · have hj8 : (j : Int) < 8 := by omega
      have hj32 : (j : Int) < 32 := by omega
      have hc : wr.cell? ⟨ob, j, none⟩ = some (U (D.getD j 0)) := by
        rw [HR.out.cell j]
        have h32 := HL.out
        simp [List.getD, show j < D.length by omega]
      have hn := num8_lt8 D j hlt
      have r1 := fun w => N8_mul (num8 D j) hn w
      have r2 := fun w => N8_add (num8 D j) hn (D.getD j 0) w
      have r3 := N8_conv
      have HN : Hid (num8 D (j + 1) = num8 D j * 256 + (D.getD j 0).toNat) := rfl
      clear hn
      generalize num8 D j = n at *
      generalize D.getD j 0 = x at *
      go_wp2
      go_roundw
      case rel => exact ⟨j + 1, by omega, by rw [HN.out], by go_num, trivial⟩
      case measure => simp [intOf]; omega
    · obtain rfl : j = 8 := by omega
      go_wp2
      have FK : Hid (∀ W0, Below wr.drew.heap.size wr.drew W0 → Kt W0) := fun W0 h => HK.out.below (HW.out.drew.trans (h.mono HW.out.size)) HK.out.1
      have FB : Hid (∀ W0, Below wr.drew.heap.size wr.drew W0 → Blk W0 ob 25 (D.map U).toArray) := fun W0 h => HR.out.drew.kept h HR.out.lt
      have HS0 : Hid (s.size ≤ 2000) := hs
      clear hlt hj hs1 ha r1
      refine Seq.wp_region_seq (by kernel_rfl) (R := (fun a b => Below a.heap.size a b)) (fun a => Below.refl _ a) (fun _ _ _ h k => h.trans (k.mono h.size)) (fun _ _ => True) [] [[5], [32], [33], [6], [34, 35], [36], [0, 37], [1, 37], [39, 37], [40, 37], [38, 41, 37], [42, 37], [6, 37], [43, 44, 37], [37, 45], [46], [5, 47], [48, 47], [49, 47], [7, 47], [50, 51, 47], [47, 52], [53]] [(32, spIs (.string (s ++ rep c.toNat))), (33, spR [.string (s ++ rep c.toNat)]), (34, spIs (.agg (D.map U).toArray)), (35, spIs (.agg (D.map U).toArray)), (36, spIs (.bool true)), (37, spIs (.bool true)), (38, spIs (.string s)), (39, spIs (U c)), (40, spIs (.int .i64 (c.toNat : Int))), (41, spIs (.string (rep c.toNat))), (42, spR [.string s, .string (rep c.toNat)]), (43, spIs (.agg (D.map U).toArray)), (44, spIs (.agg (D.map U).toArray)), (45, spIs (.bool true)), (46, spIs (.bool true)), (47, spIs (.bool true)), (48, spIs (.string (s ++ rep c.toNat))), (49, spR [.string (s ++ rep c.toNat)]), (50, spIs (N8 (num8 D 8))), (51, spIs (N8 (num8 D 8))), (52, spIs (.bool true)), (53, spIs (.bool true)), (4, spIs (.bool true))] 54 rfl (by kernel_rfl) (by kernel_rfl) (by kernel_rfl) (by kernel_rfl) ?_ ?_ ?_
      · trivial
      · refine ⟨?_, ?_, ?_, ?_, ?_, ?_, ?_, ?_, ?_, ?_, ?_, ?_, ?_, ?_, ?_, ?_, ?_, ?_, ?_, ?_, ?_, ?_, ?_, trivial⟩
        · as_aux_lemma =>
          refine Seq.UpOb.plain (by decide) (fun _ _ _ _ _ => trivial) (fun _ _ h => h) rfl fun a W m hR hS hl K hK => ?_
          have h5 : a.tmps.getD 5 undef = (.string (s ++ rep c.toNat)) := hl 5 (by decide)
          replace hK : ∀ v W2, Below W.heap.size W W2 → v = (.string (s ++ rep c.toNat)) → K (a.put (some 32) v) W2 := fun v W2 h1 h2 => hK v W2 h1 (fun d hd => by cases hd; exact h2)
          clear hl
          simp only [Array.getD_eq_getD_getElem?] at h5
          go_simp
          exact hK _ W (Below.refl _ W) rfl
        · as_aux_lemma =>
          refine Seq.UpOb.plain (by decide) (fun _ _ _ _ _ => trivial) (fun _ _ h => h) rfl fun a W m hR hS hl K hK => ?_
          have h32 : a.tmps.getD 32 undef = (.string (s ++ rep c.toNat)) := hl 32 (by decide)
          replace hK : ∀ v W2, Below W.heap.size W W2 → RV [.string (s ++ rep c.toNat)] v W2 → K (a.put (some 33) v) W2 := fun v W2 h1 h2 => hK v W2 h1 (fun d hd => by cases hd; exact h2)
          clear hl
          simp only [Array.getD_eq_getD_getElem?] at h32
          go_simp
          exact hK _ _ ((Below.refl _ W).alloc (Nat.le_refl _) _) ⟨_, rfl, Blk.fresh W 9 _⟩
        · as_aux_lemma =>
          refine Seq.UpOb.plain (by decide) (fun _ _ _ _ _ => trivial) (fun _ _ h => h) rfl fun a W m hR hS hl K hK => ?_
          have h33 : RV [.string (s ++ rep c.toNat)] (a.tmps.getD 33 undef) W := hl 33 (by decide)
          generalize hv33 : a.tmps.getD 33 undef = v33 at h33
          replace hK : ∀ v W2, Below W.heap.size W W2 → v = (.agg (D.map U).toArray) → K (a.put (some 34) v) W2 := fun v W2 h1 h2 => hK v W2 h1 (fun d hd => by cases hd; exact h2)
          clear hl
          obtain ⟨b, e33, hb⟩ := h33
          subst e33
          have hh := FK.out W hR
          clear hR hS
          simp only [Array.getD_eq_getD_getElem?] at hv33
          go_simp
          refine (sums_t s c b D HTS.out HD.out W hb hh).mono ?_
          rintro e w5 ⟨rfl, hb5⟩
          exact hK _ w5 hb5 rfl
        · as_aux_lemma =>
          refine Seq.UpOb.plain (by decide) (fun _ _ _ _ _ => trivial) (fun _ _ h => h) rfl fun a W m hR hS hl K hK => ?_
          have h6 : a.tmps.getD 6 undef = (.pointer (some ⟨ob, 0, none⟩)) := hl 6 (by decide)
          replace hK : ∀ v W2, Below W.heap.size W W2 → v = (.agg (D.map U).toArray) → K (a.put (some 35) v) W2 := fun v W2 h1 h2 => hK v W2 h1 (fun d hd => by cases hd; exact h2)
          clear hl
          have hbw := FB.out W hR
          have hi32 : (Tryd.prog.info? 25).map (·.size) = some (D.map U).toArray.size := by simp only [List.size_toArray, List.length_map, HL.out]; rfl
          exact wp_load_row 25 (.tmp 6) rfl ob h6 25 _ (0, 0) _ hbw Tryd.underlying25 rfl hi32 (hK _ W (Below.refl _ W) rfl)
        · as_aux_lemma =>
          refine Seq.UpOb.plain (by decide) (fun _ _ _ _ _ => trivial) (fun _ _ h => h) rfl fun a W m hR hS hl K hK => ?_
          have h34 : a.tmps.getD 34 undef = (.agg (D.map U).toArray) := hl 34 (by decide)
          have h35 : a.tmps.getD 35 undef = (.agg (D.map U).toArray) := hl 35 (by decide)
          replace hK : ∀ v W2, Below W.heap.size W W2 → v = (.bool true) → K (a.put (some 36) v) W2 := fun v W2 h1 h2 => hK v W2 h1 (fun d hd => by cases hd; exact h2)
          clear hl
          exact wp_eq25 _ _ _ rfl D HL.out h34 h35 (hK _ W (Below.refl _ W) rfl)
        · as_aux_lemma =>
          refine Seq.UpOb.plain (by decide) (fun _ _ _ _ _ => trivial) (fun _ _ h => h) rfl fun a W m hR hS hl K hK => ?_
          have h36 : a.tmps.getD 36 undef = (.bool true) := hl 36 (by decide)
          replace hK : ∀ v W2, Below W.heap.size W W2 → v = (.bool true) → K (a.put (some 37) v) W2 := fun v W2 h1 h2 => hK v W2 h1 (fun d hd => by cases hd; exact h2)
          clear hl
          simp only [Array.getD_eq_getD_getElem?] at h36
          go_simp
          exact hK _ W (Below.refl _ W) rfl
        · as_aux_lemma =>
          refine Seq.UpOb.guarded (d := 37) (by decide) (fun _ _ _ _ _ => trivial) (fun _ _ h => h) rfl rfl (fun a W hl => hl 37 (by decide)) fun a W m hR hS hl K hK => ?_
          have h0 : a.tmps.getD 0 undef = (.string s) := hl 0 (by decide)
          have h37 : a.tmps.getD 37 undef = (.bool true) := hl 37 (by decide)
          replace hK : ∀ v W2, Below W.heap.size W W2 → v = (.string s) → K (a.put (some 38) v) W2 := fun v W2 h1 h2 => hK v W2 h1 (fun d hd => by cases hd; exact h2)
          clear hl
          simp only [Array.getD_eq_getD_getElem?] at h0 h37
          go_simp
          exact hK _ W (Below.refl _ W) rfl
        · as_aux_lemma =>
          refine Seq.UpOb.guarded (d := 37) (by decide) (fun _ _ _ _ _ => trivial) (fun _ _ h => h) rfl rfl (fun a W hl => hl 37 (by decide)) fun a W m hR hS hl K hK => ?_
          have h1 : a.tmps.getD 1 undef = (U c) := hl 1 (by decide)
          have h37 : a.tmps.getD 37 undef = (.bool true) := hl 37 (by decide)
          replace hK : ∀ v W2, Below W.heap.size W W2 → v = (U c) → K (a.put (some 39) v) W2 := fun v W2 h1 h2 => hK v W2 h1 (fun d hd => by cases hd; exact h2)
          clear hl
          simp only [Array.getD_eq_getD_getElem?] at h1 h37
          go_simp
          exact hK _ W (Below.refl _ W) rfl
        · as_aux_lemma =>
          refine Seq.UpOb.guarded (d := 37) (by decide) (fun _ _ _ _ _ => trivial) (fun _ _ h => h) rfl rfl (fun a W hl => hl 37 (by decide)) fun a W m hR hS hl K hK => ?_
          have h39 : a.tmps.getD 39 undef = (U c) := hl 39 (by decide)
          have h37 : a.tmps.getD 37 undef = (.bool true) := hl 37 (by decide)
          replace hK : ∀ v W2, Below W.heap.size W W2 → v = (.int .i64 (c.toNat : Int)) → K (a.put (some 40) v) W2 := fun v W2 h1 h2 => hK v W2 h1 (fun d hd => by cases hd; exact h2)
          clear hl
          have r1 := run_convI
          simp only [Array.getD_eq_getD_getElem?] at h39 h37
          go_simp
          exact hK _ W (Below.refl _ W) rfl
        · as_aux_lemma =>
          refine Seq.UpOb.guarded (d := 37) (by decide) (fun _ _ _ _ _ => trivial) (fun _ _ h => h) rfl rfl (fun a W hl => hl 37 (by decide)) fun a W m hR hS hl K hK => ?_
          have h40 : a.tmps.getD 40 undef = (.int .i64 (c.toNat : Int)) := hl 40 (by decide)
          have h37 : a.tmps.getD 37 undef = (.bool true) := hl 37 (by decide)
          replace hK : ∀ v W2, Below W.heap.size W W2 → v = (.string (rep c.toNat)) → K (a.put (some 41) v) W2 := fun v W2 h1 h2 => hK v W2 h1 (fun d hd => by cases hd; exact h2)
          clear hl
          clear hR hS
          simp only [Array.getD_eq_getD_getElem?] at h40 h37
          go_simp
          refine (rep_walk c W).mono ?_
          rintro e w5 ⟨rfl, hb5⟩
          exact hK _ w5 hb5 rfl
        · as_aux_lemma =>
          refine Seq.UpOb.guarded (d := 37) (by decide) (fun _ _ _ _ _ => trivial) (fun _ _ h => h) rfl rfl (fun a W hl => hl 37 (by decide)) fun a W m hR hS hl K hK => ?_
          have h38 : a.tmps.getD 38 undef = (.string s) := hl 38 (by decide)
          have h41 : a.tmps.getD 41 undef = (.string (rep c.toNat)) := hl 41 (by decide)
          have h37 : a.tmps.getD 37 undef = (.bool true) := hl 37 (by decide)
          replace hK : ∀ v W2, Below W.heap.size W W2 → RV [.string s, .string (rep c.toNat)] v W2 → K (a.put (some 42) v) W2 := fun v W2 h1 h2 => hK v W2 h1 (fun d hd => by cases hd; exact h2)
          clear hl
          simp only [Array.getD_eq_getD_getElem?] at h38 h41 h37
          go_simp
          exact hK _ _ ((Below.refl _ W).alloc (Nat.le_refl _) _) ⟨_, rfl, Blk.fresh W 9 _⟩
        · as_aux_lemma =>
          refine Seq.UpOb.guarded (d := 37) (by decide) (fun _ _ _ _ _ => trivial) (fun _ _ h => h) rfl rfl (fun a W hl => hl 37 (by decide)) fun a W m hR hS hl K hK => ?_
          have h42 : RV [.string s, .string (rep c.toNat)] (a.tmps.getD 42 undef) W := hl 42 (by decide)
          generalize hv42 : a.tmps.getD 42 undef = v42 at h42
          have h37 : a.tmps.getD 37 undef = (.bool true) := hl 37 (by decide)
          replace hK : ∀ v W2, Below W.heap.size W W2 → v = (.agg (D.map U).toArray) → K (a.put (some 43) v) W2 := fun v W2 h1 h2 => hK v W2 h1 (fun d hd => by cases hd; exact h2)
          clear hl
          obtain ⟨b, e42, hb⟩ := h42
          subst e42
          have hh := FK.out W hR
          clear hR hS
          simp only [Array.getD_eq_getD_getElem?] at hv42 h37
          go_simp
          refine (sums_st s c b D HS0.out HTS.out HD.out W hb hh).mono ?_
          rintro e w5 ⟨rfl, hb5⟩
          exact hK _ w5 hb5 rfl
        · as_aux_lemma =>
          refine Seq.UpOb.guarded (d := 37) (by decide) (fun _ _ _ _ _ => trivial) (fun _ _ h => h) rfl rfl (fun a W hl => hl 37 (by decide)) fun a W m hR hS hl K hK => ?_
          have h6 : a.tmps.getD 6 undef = (.pointer (some ⟨ob, 0, none⟩)) := hl 6 (by decide)
          have h37 : a.tmps.getD 37 undef = (.bool true) := hl 37 (by decide)
          replace hK : ∀ v W2, Below W.heap.size W W2 → v = (.agg (D.map U).toArray) → K (a.put (some 44) v) W2 := fun v W2 h1 h2 => hK v W2 h1 (fun d hd => by cases hd; exact h2)
          clear hl
          have hbw := FB.out W hR
          have hi32 : (Tryd.prog.info? 25).map (·.size) = some (D.map U).toArray.size := by simp only [List.size_toArray, List.length_map, HL.out]; rfl
          exact wp_load_row 25 (.tmp 6) rfl ob h6 25 _ (0, 0) _ hbw Tryd.underlying25 rfl hi32 (hK _ W (Below.refl _ W) rfl)
        · as_aux_lemma =>
          refine Seq.UpOb.guarded (d := 37) (by decide) (fun _ _ _ _ _ => trivial) (fun _ _ h => h) rfl rfl (fun a W hl => hl 37 (by decide)) fun a W m hR hS hl K hK => ?_
          have h43 : a.tmps.getD 43 undef = (.agg (D.map U).toArray) := hl 43 (by decide)
          have h44 : a.tmps.getD 44 undef = (.agg (D.map U).toArray) := hl 44 (by decide)
          have h37 : a.tmps.getD 37 undef = (.bool true) := hl 37 (by decide)
          replace hK : ∀ v W2, Below W.heap.size W W2 → v = (.bool true) → K (a.put (some 45) v) W2 := fun v W2 h1 h2 => hK v W2 h1 (fun d hd => by cases hd; exact h2)
          clear hl
          exact wp_eq25 _ _ _ rfl D HL.out h43 h44 (hK _ W (Below.refl _ W) rfl)
        · as_aux_lemma =>
          refine Seq.UpOb.plain (by decide) (fun _ _ _ _ _ => trivial) (fun _ _ h => h) rfl fun a W m hR hS hl K hK => ?_
          have h37 : a.tmps.getD 37 undef = (.bool true) := hl 37 (by decide)
          have h45 : a.tmps.getD 45 undef = (.bool true) := hl 45 (by decide)
          replace hK : ∀ v W2, Below W.heap.size W W2 → v = (.bool true) → K (a.put (some 46) v) W2 := fun v W2 h1 h2 => hK v W2 h1 (fun d hd => by cases hd; exact h2)
          clear hl
          simp only [Array.getD_eq_getD_getElem?] at h37 h45
          go_simp
          exact hK _ W (Below.refl _ W) rfl
        · as_aux_lemma =>
          refine Seq.UpOb.plain (by decide) (fun _ _ _ _ _ => trivial) (fun _ _ h => h) rfl fun a W m hR hS hl K hK => ?_
          have h46 : a.tmps.getD 46 undef = (.bool true) := hl 46 (by decide)
          replace hK : ∀ v W2, Below W.heap.size W W2 → v = (.bool true) → K (a.put (some 47) v) W2 := fun v W2 h1 h2 => hK v W2 h1 (fun d hd => by cases hd; exact h2)
          clear hl
          simp only [Array.getD_eq_getD_getElem?] at h46
          go_simp
          exact hK _ W (Below.refl _ W) rfl
        · as_aux_lemma =>
          refine Seq.UpOb.guarded (d := 47) (by decide) (fun _ _ _ _ _ => trivial) (fun _ _ h => h) rfl rfl (fun a W hl => hl 47 (by decide)) fun a W m hR hS hl K hK => ?_
          have h5 : a.tmps.getD 5 undef = (.string (s ++ rep c.toNat)) := hl 5 (by decide)
          have h47 : a.tmps.getD 47 undef = (.bool true) := hl 47 (by decide)
          replace hK : ∀ v W2, Below W.heap.size W W2 → v = (.string (s ++ rep c.toNat)) → K (a.put (some 48) v) W2 := fun v W2 h1 h2 => hK v W2 h1 (fun d hd => by cases hd; exact h2)
          clear hl
          simp only [Array.getD_eq_getD_getElem?] at h5 h47
          go_simp
          exact hK _ W (Below.refl _ W) rfl
        · as_aux_lemma =>
          refine Seq.UpOb.guarded (d := 47) (by decide) (fun _ _ _ _ _ => trivial) (fun _ _ h => h) rfl rfl (fun a W hl => hl 47 (by decide)) fun a W m hR hS hl K hK => ?_
          have h48 : a.tmps.getD 48 undef = (.string (s ++ rep c.toNat)) := hl 48 (by decide)
          have h47 : a.tmps.getD 47 undef = (.bool true) := hl 47 (by decide)
          replace hK : ∀ v W2, Below W.heap.size W W2 → RV [.string (s ++ rep c.toNat)] v W2 → K (a.put (some 49) v) W2 := fun v W2 h1 h2 => hK v W2 h1 (fun d hd => by cases hd; exact h2)
          clear hl
          simp only [Array.getD_eq_getD_getElem?] at h48 h47
          go_simp
          exact hK _ _ ((Below.refl _ W).alloc (Nat.le_refl _) _) ⟨_, rfl, Blk.fresh W 9 _⟩
        · as_aux_lemma =>
          refine Seq.UpOb.guarded (d := 47) (by decide) (fun _ _ _ _ _ => trivial) (fun _ _ h => h) rfl rfl (fun a W hl => hl 47 (by decide)) fun a W m hR hS hl K hK => ?_
          have h49 : RV [.string (s ++ rep c.toNat)] (a.tmps.getD 49 undef) W := hl 49 (by decide)
          generalize hv49 : a.tmps.getD 49 undef = v49 at h49
          have h47 : a.tmps.getD 47 undef = (.bool true) := hl 47 (by decide)
          replace hK : ∀ v W2, Below W.heap.size W W2 → v = (N8 (num8 D 8)) → K (a.put (some 50) v) W2 := fun v W2 h1 h2 => hK v W2 h1 (fun d hd => by cases hd; exact h2)
          clear hl
          obtain ⟨b, e49, hb⟩ := h49
          subst e49
          have hh := FK.out W hR
          clear hR hS
          simp only [Array.getD_eq_getD_getElem?] at hv49 h47
          go_simp
          refine (short_t s c b D HTS.out HD.out W hb hh).mono ?_
          rintro e w5 ⟨rfl, hb5⟩
          exact hK _ w5 hb5 rfl
        · as_aux_lemma =>
          refine Seq.UpOb.guarded (d := 47) (by decide) (fun _ _ _ _ _ => trivial) (fun _ _ h => h) rfl rfl (fun a W hl => hl 47 (by decide)) fun a W m hR hS hl K hK => ?_
          have h7 : a.tmps.getD 7 undef = (N8 (num8 D 8)) := hl 7 (by decide)
          have h47 : a.tmps.getD 47 undef = (.bool true) := hl 47 (by decide)
          replace hK : ∀ v W2, Below W.heap.size W W2 → v = (N8 (num8 D 8)) → K (a.put (some 51) v) W2 := fun v W2 h1 h2 => hK v W2 h1 (fun d hd => by cases hd; exact h2)
          clear hl
          simp only [Array.getD_eq_getD_getElem?] at h7 h47
          go_simp
          exact hK _ W (Below.refl _ W) rfl
        · as_aux_lemma =>
          refine Seq.UpOb.guarded (d := 47) (by decide) (fun _ _ _ _ _ => trivial) (fun _ _ h => h) rfl rfl (fun a W hl => hl 47 (by decide)) fun a W m hR hS hl K hK => ?_
          have h50 : a.tmps.getD 50 undef = (N8 (num8 D 8)) := hl 50 (by decide)
          have h51 : a.tmps.getD 51 undef = (N8 (num8 D 8)) := hl 51 (by decide)
          have h47 : a.tmps.getD 47 undef = (.bool true) := hl 47 (by decide)
          replace hK : ∀ v W2, Below W.heap.size W W2 → v = (.bool true) → K (a.put (some 52) v) W2 := fun v W2 h1 h2 => hK v W2 h1 (fun d hd => by cases hd; exact h2)
          clear hl
          unfold N8 at h50 h51
          simp only [Array.getD_eq_getD_getElem?] at h50 h51 h47
          go_simp
          exact hK _ W (Below.refl _ W) rfl
        · as_aux_lemma =>
          refine Seq.UpOb.plain (by decide) (fun _ _ _ _ _ => trivial) (fun _ _ h => h) rfl fun a W m hR hS hl K hK => ?_
          have h47 : a.tmps.getD 47 undef = (.bool true) := hl 47 (by decide)
          have h52 : a.tmps.getD 52 undef = (.bool true) := hl 52 (by decide)
          replace hK : ∀ v W2, Below W.heap.size W W2 → v = (.bool true) → K (a.put (some 53) v) W2 := fun v W2 h1 h2 => hK v W2 h1 (fun d hd => by cases hd; exact h2)
          clear hl
          simp only [Array.getD_eq_getD_getElem?] at h47 h52
          go_simp
          exact hK _ W (Below.refl _ W) rfl
        · as_aux_lemma =>
          refine Seq.UpOb.plain (by decide) (fun _ _ _ _ _ => trivial) (fun _ _ h => h) rfl fun a W m hR hS hl K hK => ?_
          have h53 : a.tmps.getD 53 undef = (.bool true) := hl 53 (by decide)
          replace hK : ∀ v W2, Below W.heap.size W W2 → v = (.bool true) → K (a.put (some 4) v) W2 := fun v W2 h1 h2 => hK v W2 h1 (fun d hd => by cases hd; exact h2)
          clear hl
          simp only [Array.getD_eq_getD_getElem?] at h53
          go_simp
          exact hK _ W (Below.refl _ W) rfl
      · intro a W3 hd hsz hR3 hl _
        have h4 : a.tmps.getD 4 undef = .bool true := hl 4
        go_wp2
        refine bodyPost_ret (v := .bool true) ?_ hd ⟨rfl, ?_⟩
        · rw [results_tmp rfl, h4]
        · exact HW.out.drew.trans (hR3.mono HW.out.size)

end Go.Proofs.YtcbfnbmkogeehaaDoor
