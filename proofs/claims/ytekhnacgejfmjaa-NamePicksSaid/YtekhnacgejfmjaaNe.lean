/- The statement on files' names: the law's walk. -/
import Derived.Test.YtekhnacgejfmjaaNd
import Derived.Test.YtekhnacgejfmjaaR3
namespace Go.Proofs.Ytekhnacgejfmjaa
open Go.RowKit

theorem hexD_in : ∀ n, n < 16 → 33 ≤ (hexD n).toNat ∧ (hexD n).toNat ≤ 126 := by decide
theorem hexOf_in : ∀ (ds : List UInt8) (c : UInt8), c ∈ hexOf ds → 33 ≤ c.toNat ∧ c.toNat ≤ 126
  | [], c, h => by cases h
  | d :: ds, c, h => by
    have hd := d.toNat_lt
    have h' : c ∈ hexD (d.toNat / 16) :: hexD (d.toNat % 16) :: hexOf ds := h
    rcases List.mem_cons.1 h' with rfl | h'
    · exact hexD_in _ (by omega)
    · rcases List.mem_cons.1 h' with rfl | h'
      · exact hexD_in _ (by omega)
      · exact hexOf_in ds c h'
theorem nmT_in (k : UInt8) (hk : 33 ≤ k.toNat ∧ k.toNat ≤ 126) (ds : List UInt8) (j : Nat) (h : j < (bstr (nmT k ds)).size) : 33 ≤ (bstr (nmT k ds))[j].toNat ∧ (bstr (nmT k ds))[j].toNat ≤ 126 := by
  have e : (bstr (nmT k ds))[j] = (nmT k ds)[j]'h := rfl
  rw [e]
  have hm : (nmT k ds)[j]'h ∈ nmT k ds := List.getElem_mem _
  generalize (nmT k ds)[j]'h = c at hm
  unfold nmT at hm
  rcases List.mem_cons.1 hm with rfl | hm
  · exact hk
  · rcases List.mem_cons.1 hm with rfl | hm
    · decide
    · exact hexOf_in ds c hm
theorem parseN_nm (m k : UInt8) (ds : List UInt8) (h : ds.length = 32) : parseN m (nmT k ds) = if k = m then some ds else none := by
  unfold parseN nmT
  simp only [List.take_succ_cons, List.take_zero, List.drop_succ_cons, List.drop_zero, parseL_hex ds h]
  by_cases e : k = m
  · subst e; simp
  · simp [e]
theorem resN_o (ds : List UInt8) (h : ds.length = 32) : resN (nmT 111 ds) = (111, ds, true) := by
  unfold resN; rw [parseN_nm 111 111 ds h, if_pos rfl]
theorem resN_p (ds : List UInt8) (h : ds.length = 32) : resN (nmT 112 ds) = (112, ds, true) := by
  unfold resN; rw [parseN_nm 111 112 ds h, parseN_nm 112 112 ds h, if_neg (by decide), if_pos rfl]
theorem parseN_len32 {m : UInt8} {l d : List UInt8} (h : parseN m l = some d) : d.length = 32 := by
  unfold parseN at h
  split at h
  · exact parseL_len h
  · cases h
theorem resN_len (l : List UInt8) : (resN l).2.1.length = 32 := by
  unfold resN
  cases h : parseN 111 l with
  | some d => exact parseN_len32 h
  | none =>
    cases h2 : parseN 112 l with
    | some d => exact parseN_len32 h2
    | none => exact zero_len
theorem nm_ne (ds es : List UInt8) : (nmT 111 ds == nmT 112 es) = false := by
  rw [beq_eq_false_iff_ne]
  unfold nmT
  intro h
  injection h with h
  exact absurd h (by decide)
/-- What is made so far: rows of 32 bytes. -/
def Rs (w wk : World) (L : List (Nat × List UInt8)) : Prop := Below w.heap.size w wk ∧ ∀ p ∈ L, Blk wk p.1 25 (p.2.map U).toArray
theorem Rs.step {w wk w' : World} {L : List (Nat × List UInt8)} (h : Rs w wk L) (hb : Below wk.heap.size wk w') : Rs w w' L :=
  ⟨h.1.trans (Below.mono hb h.1.size), fun p hp => (h.2 p hp).kept hb (h.2 p hp).lt⟩
theorem Rs.more {w wk w' : World} {L : List (Nat × List UInt8)} (h : Rs w wk L) {D : List UInt8} (hb : Below wk.heap.size wk w') (hd : Blk w' wk.heap.size 25 (D.map U).toArray) : Rs w w' ((wk.heap.size, D) :: L) :=
  ⟨(h.step hb).1, fun p hp => by
    rcases List.mem_cons.1 hp with rfl | hp
    · exact hd
    · exact (h.step hb).2 p hp⟩
/-- Here the walk stops. -/
structure Stop (p : Prop) : Prop where
  go : p
theorem stop_load {ops : Array Oper} {rest : List Oper} {o : Oper} {a : Act} {w : World} {Q : Exit → Act → World → Prop} (_ho : o.op = .load 25 (.tmp 2)) (h : Stop (wpList Try.prog ops Q (o :: rest) a w)) : wpList Try.prog ops Q (o :: rest) a w := h.go
attribute [local irreducible] bstr nmT hexOf resN Rs
set_option maxRecDepth 100000 in
set_option maxHeartbeats 8000000 in
theorem files_walk (w : World) (la : List UInt8) (s : ByteArray) (ha : la.length = 32) (hs : s.size ≤ maxLen) :
    Calls Try.prog 4 #[.agg (la.map U).toArray, .string s] w fun e w' => e = .returned (.bool true) ∧ Below w.heap.size w w' := by
  have HLA := Lib.hid ha
  have HIA := Lib.hid (b_size la ha)
  have HR0 : Hid (Rs w (w.alloc (.cells (la.map U).toArray 25)) [(w.heap.size, la)]) := by
    show Rs _ _ _
    unfold Rs
    exact ⟨(Below.refl _ w).alloc (Nat.le_refl _) _, fun p hp => by simp only [List.mem_singleton] at hp; subst hp; exact Blk.fresh w 25 _⟩
  have HB0 : Hid (∀ wk L, Rs w wk L → Below w.heap.size w wk) := fun wk L h => by unfold Rs at h; exact h.1
  have BR : Hid (∀ wk L, Rs w wk L → ∀ W, Below wk.heap.size wk W → ∀ g D, (g, D) ∈ L → Blk W g 25 (D.map U).toArray) := fun wk L h W hb g D hm => by
    have := h.step hb
    unfold Rs at this
    exact this.2 _ hm
  by_cases h : s.size ≤ 200
  · have h' : (s.size : Int) ≤ 200 := by omega
    have HA15 : Hid (∀ W, Calls Try.prog 15 #[.string (bstr (nmT 111 la))] W fun e w' => e = .returned (.tuple #[.int .u8 111, .agg (la.map U).toArray, .bool true]) ∧ Below W.heap.size W w') := fun W => by
      have h := nparse_walk (bstr (nmT 111 la)) W (by rw [bstr_size, nmT_length 111 la ha]; decide)
      rw [show (bstr (nmT 111 la)).data.toList = nmT 111 la by unfold bstr; simp, resN_o la ha] at h
      exact h
    have HP15 : Hid (∀ W, Calls Try.prog 15 #[.string (bstr (nmT 112 la))] W fun e w' => e = .returned (.tuple #[.int .u8 112, .agg (la.map U).toArray, .bool true]) ∧ Below W.heap.size W w') := fun W => by
      have h := nparse_walk (bstr (nmT 112 la)) W (by rw [bstr_size, nmT_length 112 la ha]; decide)
      rw [show (bstr (nmT 112 la)).data.toList = nmT 112 la by unfold bstr; simp, resN_p la ha] at h
      exact h
    have hS15 := fun W => nparse_walk s W hs
    have hS16 := rparse_walk s
    have HNA : Hid (∀ W, Calls Try.prog 18 #[.string (bstr (nmT 111 la))] W fun e w' => e = .returned (.bool true) ∧ Below W.heap.size W w') := fun W =>
      named_walk (bstr (nmT 111 la)) W (by rw [bstr_size, nmT_length 111 la ha]) (nmT_in 111 (by decide) la)
    have HNP : Hid (∀ W, Calls Try.prog 18 #[.string (bstr (nmT 112 la))] W fun e w' => e = .returned (.bool true) ∧ Below W.heap.size W w') := fun W =>
      named_walk (bstr (nmT 112 la)) W (by rw [bstr_size, nmT_length 112 la ha]) (nmT_in 112 (by decide) la)
    have hlen := resN_len s.data.toList
    generalize resN s.data.toList = r at hS15 hS16 hlen
    obtain ⟨q, D, ok⟩ := r
    unfold resV at hS15 hS16
    simp only at hS15 hS16 hlen
    have HS15 := Lib.hid hS15
    have HS16 := Lib.hid hS16
    have HLD := Lib.hid hlen
    have HID := Lib.hid (b_size D hlen)
    have HZA : Hid (32 = (la.map U).toArray.size) := by show _ = _; simp [ha]
    have HZD : Hid (32 = (D.map U).toArray.size) := by show _ = _; simp [hlen]
    clear hS15 hS16 hlen ha hs
    go_enter Try.func4, Try.ntmps4
    go_wp2_with fail
    generalize hga : w.heap.size = ga at *
    generalize World.alloc _ _ = w0 at *
    go_wp2_with (go_at_call 10; refine (awake7_walk w0).mono ?_; rintro e w1 ⟨rfl, hb1⟩; have HR1 := Lib.hid (HR0.out.step hb1); clear hb1)
    have BA : Hid (∀ W, Below w1.heap.size w1 W → Blk W ga 25 (la.map U).toArray) := fun W hb => BR.out _ _ HR1.out W hb _ _ (by simp)
    refine Seq.wp_region_seq (by kernel_rfl) (R := UpN) UpN.refl UpN.trans (fun _ _ => True) [] [[2], [24], [2], [26], [25], [27]] [(24, spU (.agg (la.map U).toArray)), (25, spU (.string (bstr (nmT 111 la)))), (26, spU (.agg (la.map U).toArray)), (27, spU (.string (bstr (nmT 112 la)))), (5, spU (.string (bstr (nmT 111 la)))), (6, spU (.string (bstr (nmT 112 la))))] 114 rfl (by kernel_rfl) (by kernel_rfl) (by kernel_rfl) (by kernel_rfl) trivial ?_ ?_
    · refine ⟨?_, ?_, ?_, ?_, ?_, ?_, trivial⟩
      · as_aux_lemma =>
        refine Seq.UpOb.plain (by decide) (fun _ _ _ h _ => h) (fun _ _ h => h) rfl fun a W m hR _ hl K hK => ?_
        have h2 : a.tmps.getD 2 undef = (.pointer (some ⟨ga, 0, none⟩)) := hl 2 (by decide)
        replace hK : ∀ v W2, Below W.heap.size W W2 → v = (.agg (la.map U).toArray) → K (a.put (some 24) v) W2 := fun v W2 h1 h2 => hK v W2 h1 (fun d hd => by cases hd; exact h2)
        clear hl
        exact wp_load_row 25 (.tmp 2) rfl ga h2 25 _ (0, 0) _ (BA.out W ⟨hR.os, hR.tape, hR.output, hR.size, fun k hk => hR.block k hk⟩) Try.underlying25 rfl HIA.out (hK _ W (Below.refl _ W) rfl)
      · as_aux_lemma =>
        refine Seq.UpOb.plain (by decide) (fun _ _ _ h _ => h) (fun _ _ h => h) rfl fun a W m hR _ hl K hK => ?_
        have h24 : a.tmps.getD 24 undef = (.agg (la.map U).toArray) := hl 24 (by decide)
        replace hK : ∀ v W2, Below W.heap.size W W2 → v = (.string (bstr (nmT 111 la))) → K (a.put (some 25) v) W2 := fun v W2 h1 h2 => hK v W2 h1 (fun d hd => by cases hd; exact h2)
        clear hl
        simp only [Array.getD_eq_getD_getElem?] at h24
        go_simp
        refine (object_walk W la HLA.out).mono ?_
        rintro e w4 ⟨rfl, hb4⟩
        exact hK _ w4 hb4 rfl
      · as_aux_lemma =>
        refine Seq.UpOb.plain (by decide) (fun _ _ _ h _ => h) (fun _ _ h => h) rfl fun a W m hR _ hl K hK => ?_
        have h2 : a.tmps.getD 2 undef = (.pointer (some ⟨ga, 0, none⟩)) := hl 2 (by decide)
        replace hK : ∀ v W2, Below W.heap.size W W2 → v = (.agg (la.map U).toArray) → K (a.put (some 26) v) W2 := fun v W2 h1 h2 => hK v W2 h1 (fun d hd => by cases hd; exact h2)
        clear hl
        exact wp_load_row 25 (.tmp 2) rfl ga h2 25 _ (0, 0) _ (BA.out W ⟨hR.os, hR.tape, hR.output, hR.size, fun k hk => hR.block k hk⟩) Try.underlying25 rfl HIA.out (hK _ W (Below.refl _ W) rfl)
      · as_aux_lemma =>
        refine Seq.UpOb.plain (by decide) (fun _ _ _ h _ => h) (fun _ _ h => h) rfl fun a W m hR _ hl K hK => ?_
        have h26 : a.tmps.getD 26 undef = (.agg (la.map U).toArray) := hl 26 (by decide)
        replace hK : ∀ v W2, Below W.heap.size W W2 → v = (.string (bstr (nmT 112 la))) → K (a.put (some 27) v) W2 := fun v W2 h1 h2 => hK v W2 h1 (fun d hd => by cases hd; exact h2)
        clear hl
        simp only [Array.getD_eq_getD_getElem?] at h26
        go_simp
        refine (pack_walk W la HLA.out).mono ?_
        rintro e w4 ⟨rfl, hb4⟩
        exact hK _ w4 hb4 rfl
      · as_aux_lemma =>
        refine Seq.UpOb.plain (by decide) (fun _ _ _ h _ => h) (fun _ _ h => h) rfl fun a W m hR _ hl K hK => ?_
        have h25 : a.tmps.getD 25 undef = (.string (bstr (nmT 111 la))) := hl 25 (by decide)
        replace hK : ∀ v W2, Below W.heap.size W W2 → v = (.string (bstr (nmT 111 la))) → K (a.put (some 5) v) W2 := fun v W2 h1 h2 => hK v W2 h1 (fun d hd => by cases hd; exact h2)
        clear hl
        simp only [Array.getD_eq_getD_getElem?] at h25
        go_simp
        exact hK _ W (Below.refl _ W) rfl
      · as_aux_lemma =>
        refine Seq.UpOb.plain (by decide) (fun _ _ _ h _ => h) (fun _ _ h => h) rfl fun a W m hR _ hl K hK => ?_
        have h27 : a.tmps.getD 27 undef = (.string (bstr (nmT 112 la))) := hl 27 (by decide)
        replace hK : ∀ v W2, Below W.heap.size W W2 → v = (.string (bstr (nmT 112 la))) → K (a.put (some 6) v) W2 := fun v W2 h1 h2 => hK v W2 h1 (fun d hd => by cases hd; exact h2)
        clear hl
        simp only [Array.getD_eq_getD_getElem?] at h27
        go_simp
        exact hK _ W (Below.refl _ W) rfl
    · intro a W hd hsz hR hl _
      have hl' : ∀ t, Seq.SpOf _ _ t (a.tmps.getD t undef) W := hl
      have htm := Seq.tmps_eq (hsz.trans rfl) [24, 25, 26, 27, 5, 6] [(24, .agg (la.map U).toArray), (25, .string (bstr (nmT 111 la))), (26, .agg (la.map U).toArray), (27, .string (bstr (nmT 112 la))), (5, .string (bstr (nmT 111 la))), (6, .string (bstr (nmT 112 la)))] rfl rfl (by decide) 114 rfl (by decide) hl' (by
        intro p hp
        simp only [List.mem_cons, List.not_mem_nil, or_false] at hp
        rcases hp with rfl | rfl | rfl | rfl | rfl | rfl
        · exact hl 24
        · exact hl 25
        · exact hl 26
        · exact hl 27
        · exact hl 5
        · exact hl 6
        )
      clear hl hl' hsz
      have hact : a = ⟨_, []⟩ := Seq.act_eq hd htm
      clear htm hd
      rw [hact]
      clear hact
      simp only [List.foldl, List.setIfInBounds_toArray, List.set]
      have hW : Below w1.heap.size w1 W := ⟨hR.os, hR.tape, hR.output, hR.size, fun k hk => hR.block k hk⟩
      have HR2 := Lib.hid (HR1.out.step hW)
      clear hR hW BA HR0 HR1
      go_wp2_with (first
        | (have T := HRz; refine stop_load rfl ?_; clear T)
        | (have T := HR2; go_at_call 15; refine (HA15.out _).mono ?_; rintro e w3 ⟨rfl, hb⟩; have HR3 := Lib.hid (HR2.out.step hb); clear hb HR2 T)
        | (have T := HR3; refine wpList_store_fresh rfl 25 _ _ rfl _ rfl rfl HIA.out HZA.out (SAll la) ?_; intro w4 hb hs hd; have HR4 := Lib.hid (HR3.out.more hb hd); clear hb hs hd HR3 T)
        | (have T := HR4; go_at_call 15; refine (HP15.out _).mono ?_; rintro e w5 ⟨rfl, hb⟩; have HR5 := Lib.hid (HR4.out.step hb); clear hb HR4 T)
        | (have T := HR5; refine wpList_store_fresh rfl 25 _ _ rfl _ rfl rfl HIA.out HZA.out (SAll la) ?_; intro w6 hb hs hd; have HR6 := Lib.hid (HR5.out.more hb hd); clear hb hs hd HR5 T)
        | (have T := HR6; go_at_call 15; refine (HS15.out _).mono ?_; rintro e w7 ⟨rfl, hb⟩; have HR7 := Lib.hid (HR6.out.step hb); clear hb HR6 T)
        | (have T := HR7; refine wpList_store_fresh rfl 25 _ _ rfl _ rfl rfl HID.out HZD.out (SAll D) ?_; intro w8 hb hs hd; have HR8 := Lib.hid (HR7.out.more hb hd); clear hb hs hd HR7 T)
        | (have T := HR8; go_at_call 16; refine (HS16.out _).mono ?_; rintro e w9 ⟨rfl, hb⟩; have HR9 := Lib.hid (HR8.out.step hb); clear hb HR8 T)
        | (have T := HR9; refine wpList_store_fresh rfl 25 _ _ rfl _ rfl rfl HID.out HZD.out (SAll D) ?_; intro wz hb hs hd; have HRz := Lib.hid (HR9.out.more hb hd); clear hb hs hd HR9 T))
      refine ⟨?_⟩
      have HZ := HRz.out
      have B8 : Hid (∀ W, Below wz.heap.size wz W → Blk W w3.heap.size 25 (la.map U).toArray) := fun W hb => BR.out _ _ HZ W hb _ _ (by simp)
      have B11 : Hid (∀ W, Below wz.heap.size wz W → Blk W w5.heap.size 25 (la.map U).toArray) := fun W hb => BR.out _ _ HZ W hb _ _ (by simp)
      have B14 : Hid (∀ W, Below wz.heap.size wz W → Blk W w7.heap.size 25 (D.map U).toArray) := fun W hb => BR.out _ _ HZ W hb _ _ (by simp)
      have B17 : Hid (∀ W, Below wz.heap.size wz W → Blk W w9.heap.size 25 (D.map U).toArray) := fun W hb => BR.out _ _ HZ W hb _ _ (by simp)
      have BA : Hid (∀ W, Below wz.heap.size wz W → Blk W ga 25 (la.map U).toArray) := fun W hb => BR.out _ _ HZ W hb _ _ (by simp)
      refine Seq.wpList_line 1 (R := UpN) UpN.refl UpN.trans [[2], [53], [52, 54], [55], [6, 56], [2, 56], [58, 56], [57, 59, 56], [56, 60], [61], [7, 62], [63, 62], [62, 64], [65], [8, 66], [2, 66], [67, 68, 66], [66, 69], [70], [9, 71], [71, 72], [73], [10, 74], [75, 74], [74, 76], [77], [11, 78], [2, 78], [79, 80, 78], [78, 81], [82], [12, 83], [83, 84], [85], [13, 86], [16, 86], [87, 88, 86], [86, 89], [90], [14, 91], [17, 91], [92, 93, 91], [91, 94], [95], [15, 96], [18, 96], [97, 98, 96], [96, 99], [100], [5, 101], [102, 101], [101, 103], [104], [6, 105], [106, 105], [105, 107], [108], [5, 109], [6, 109], [110, 111, 109], [109, 112], [113]] [(53, spU (.agg (la.map U).toArray)), (54, spU (.string (bstr (nmT 111 la)))), (55, spU (.bool true)), (56, spU (.bool true)), (57, spU (.string (bstr (nmT 112 la)))), (58, spU (.agg (la.map U).toArray)), (59, spU (.string (bstr (nmT 112 la)))), (60, spU (.bool true)), (61, spU (.bool true)), (62, spU (.bool true)), (63, spU (.int .u8 111)), (64, spU (.bool true)), (65, spU (.bool true)), (66, spU (.bool true)), (67, spU (.agg (la.map U).toArray)), (68, spU (.agg (la.map U).toArray)), (69, spU (.bool true)), (70, spU (.bool true)), (71, spU (.bool true)), (72, spU (.bool true)), (73, spU (.bool true)), (74, spU (.bool true)), (75, spU (.int .u8 112)), (76, spU (.bool true)), (77, spU (.bool true)), (78, spU (.bool true)), (79, spU (.agg (la.map U).toArray)), (80, spU (.agg (la.map U).toArray)), (81, spU (.bool true)), (82, spU (.bool true)), (83, spU (.bool true)), (84, spU (.bool true)), (85, spU (.bool true)), (86, spU (.bool true)), (87, spU (.int .u8 (q.toNat : Int))), (88, spU (.int .u8 (q.toNat : Int))), (89, spU (.bool true)), (90, spU (.bool true)), (91, spU (.bool true)), (92, spU (.agg (D.map U).toArray)), (93, spU (.agg (D.map U).toArray)), (94, spU (.bool true)), (95, spU (.bool true)), (96, spU (.bool true)), (97, spU (.bool ok)), (98, spU (.bool ok)), (99, spU (.bool true)), (100, spU (.bool true)), (101, spU (.bool true)), (102, spU (.string (bstr (nmT 111 la)))), (103, spU (.bool true)), (104, spU (.bool true)), (105, spU (.bool true)), (106, spU (.string (bstr (nmT 112 la)))), (107, spU (.bool true)), (108, spU (.bool true)), (109, spU (.bool true)), (110, spU (.string (bstr (nmT 111 la)))), (111, spU (.string (bstr (nmT 112 la)))), (112, spU (.bool true)), (113, spU (.bool true)), (4, spU (.bool true))] 114 ?hn ?hc ?hd ?hs ?_ ?_
      case hn => rfl
      case hc => kernel_rfl
      case hd => kernel_rfl
      case hs => kernel_rfl
      · refine ⟨?_, ?_, ?_, ?_, ?_, ?_, ?_, ?_, ?_, ?_, ?_, ?_, ?_, ?_, ?_, ?_, ?_, ?_, ?_, ?_, ?_, ?_, ?_, ?_, ?_, ?_, ?_, ?_, ?_, ?_, ?_, ?_, ?_, ?_, ?_, ?_, ?_, ?_, ?_, ?_, ?_, ?_, ?_, ?_, ?_, ?_, ?_, ?_, ?_, ?_, ?_, ?_, ?_, ?_, ?_, ?_, ?_, ?_, ?_, ?_, ?_, ?_, trivial⟩
        · as_aux_lemma =>
          refine Seq.UpOb.plain (by decide) (fun _ _ _ h _ => h) (fun _ _ h => h) rfl fun a W m hR _ hl K hK => ?_
          have h2 : a.tmps.getD 2 undef = (.pointer (some ⟨ga, 0, none⟩)) := hl 2 (by decide)
          replace hK : ∀ v W2, Below W.heap.size W W2 → v = (.agg (la.map U).toArray) → K (a.put (some 53) v) W2 := fun v W2 h1 h2 => hK v W2 h1 (fun d hd => by cases hd; exact h2)
          clear hl
          exact wp_load_row 25 (.tmp 2) rfl ga h2 25 _ (0, 0) _ (BA.out W ⟨hR.os, hR.tape, hR.output, hR.size, fun k hk => hR.block k hk⟩) Try.underlying25 rfl HIA.out (hK _ W (Below.refl _ W) rfl)
        · as_aux_lemma =>
          refine Seq.UpOb.plain (by decide) (fun _ _ _ h _ => h) (fun _ _ h => h) rfl fun a W m hR _ hl K hK => ?_
          have h53 : a.tmps.getD 53 undef = (.agg (la.map U).toArray) := hl 53 (by decide)
          replace hK : ∀ v W2, Below W.heap.size W W2 → v = (.string (bstr (nmT 111 la))) → K (a.put (some 54) v) W2 := fun v W2 h1 h2 => hK v W2 h1 (fun d hd => by cases hd; exact h2)
          clear hl
          simp only [Array.getD_eq_getD_getElem?] at h53
          go_simp
          refine (file_walk W 111 la HLA.out).mono ?_
          rintro e w4 ⟨rfl, hb4⟩
          exact hK _ w4 hb4 rfl
        · as_aux_lemma =>
          refine Seq.UpOb.plain (by decide) (fun _ _ _ h _ => h) (fun _ _ h => h) rfl fun a W m hR _ hl K hK => ?_
          have h52 : a.tmps.getD 52 undef = (.string (bstr (nmT 111 la))) := hl 52 (by decide)
          have h54 : a.tmps.getD 54 undef = (.string (bstr (nmT 111 la))) := hl 54 (by decide)
          replace hK : ∀ v W2, Below W.heap.size W W2 → v = (.bool true) → K (a.put (some 55) v) W2 := fun v W2 h1 h2 => hK v W2 h1 (fun d hd => by cases hd; exact h2)
          clear hl
          exact wp_eqS (.tmp 52) (.tmp 54) 9 rfl _ _ true (beq_self_eq_true _) h52 h54 (hK _ W (Below.refl _ W) rfl)
        · as_aux_lemma =>
          refine Seq.UpOb.plain (by decide) (fun _ _ _ h _ => h) (fun _ _ h => h) rfl fun a W m hR _ hl K hK => ?_
          have h55 : a.tmps.getD 55 undef = (.bool true) := hl 55 (by decide)
          replace hK : ∀ v W2, Below W.heap.size W W2 → v = (.bool true) → K (a.put (some 56) v) W2 := fun v W2 h1 h2 => hK v W2 h1 (fun d hd => by cases hd; exact h2)
          clear hl
          simp only [Array.getD_eq_getD_getElem?] at h55
          go_simp
          exact hK _ W (Below.refl _ W) rfl
        · as_aux_lemma =>
          refine Seq.UpOb.guarded (d := 56) (by decide) (fun _ _ _ h _ => h) (fun _ _ h => h) rfl rfl (fun a W hl => hl 56 (by decide)) fun a W m hR _ hl K hK => ?_
          have h6 : a.tmps.getD 6 undef = (.string (bstr (nmT 112 la))) := hl 6 (by decide)
          have h56 : a.tmps.getD 56 undef = (.bool true) := hl 56 (by decide)
          replace hK : ∀ v W2, Below W.heap.size W W2 → v = (.string (bstr (nmT 112 la))) → K (a.put (some 57) v) W2 := fun v W2 h1 h2 => hK v W2 h1 (fun d hd => by cases hd; exact h2)
          clear hl
          simp only [Array.getD_eq_getD_getElem?] at h6 h56
          go_simp
          exact hK _ W (Below.refl _ W) rfl
        · as_aux_lemma =>
          refine Seq.UpOb.guarded (d := 56) (by decide) (fun _ _ _ h _ => h) (fun _ _ h => h) rfl rfl (fun a W hl => hl 56 (by decide)) fun a W m hR _ hl K hK => ?_
          have h2 : a.tmps.getD 2 undef = (.pointer (some ⟨ga, 0, none⟩)) := hl 2 (by decide)
          have h56 : a.tmps.getD 56 undef = (.bool true) := hl 56 (by decide)
          replace hK : ∀ v W2, Below W.heap.size W W2 → v = (.agg (la.map U).toArray) → K (a.put (some 58) v) W2 := fun v W2 h1 h2 => hK v W2 h1 (fun d hd => by cases hd; exact h2)
          clear hl
          exact wp_load_row 25 (.tmp 2) rfl ga h2 25 _ (0, 0) _ (BA.out W ⟨hR.os, hR.tape, hR.output, hR.size, fun k hk => hR.block k hk⟩) Try.underlying25 rfl HIA.out (hK _ W (Below.refl _ W) rfl)
        · as_aux_lemma =>
          refine Seq.UpOb.guarded (d := 56) (by decide) (fun _ _ _ h _ => h) (fun _ _ h => h) rfl rfl (fun a W hl => hl 56 (by decide)) fun a W m hR _ hl K hK => ?_
          have h58 : a.tmps.getD 58 undef = (.agg (la.map U).toArray) := hl 58 (by decide)
          have h56 : a.tmps.getD 56 undef = (.bool true) := hl 56 (by decide)
          replace hK : ∀ v W2, Below W.heap.size W W2 → v = (.string (bstr (nmT 112 la))) → K (a.put (some 59) v) W2 := fun v W2 h1 h2 => hK v W2 h1 (fun d hd => by cases hd; exact h2)
          clear hl
          simp only [Array.getD_eq_getD_getElem?] at h58 h56
          go_simp
          refine (file_walk W 112 la HLA.out).mono ?_
          rintro e w4 ⟨rfl, hb4⟩
          exact hK _ w4 hb4 rfl
        · as_aux_lemma =>
          refine Seq.UpOb.guarded (d := 56) (by decide) (fun _ _ _ h _ => h) (fun _ _ h => h) rfl rfl (fun a W hl => hl 56 (by decide)) fun a W m hR _ hl K hK => ?_
          have h57 : a.tmps.getD 57 undef = (.string (bstr (nmT 112 la))) := hl 57 (by decide)
          have h59 : a.tmps.getD 59 undef = (.string (bstr (nmT 112 la))) := hl 59 (by decide)
          have h56 : a.tmps.getD 56 undef = (.bool true) := hl 56 (by decide)
          replace hK : ∀ v W2, Below W.heap.size W W2 → v = (.bool true) → K (a.put (some 60) v) W2 := fun v W2 h1 h2 => hK v W2 h1 (fun d hd => by cases hd; exact h2)
          clear hl
          exact wp_eqS (.tmp 57) (.tmp 59) 9 rfl _ _ true (beq_self_eq_true _) h57 h59 (hK _ W (Below.refl _ W) rfl)
        · as_aux_lemma =>
          refine Seq.UpOb.plain (by decide) (fun _ _ _ h _ => h) (fun _ _ h => h) rfl fun a W m hR _ hl K hK => ?_
          have h56 : a.tmps.getD 56 undef = (.bool true) := hl 56 (by decide)
          have h60 : a.tmps.getD 60 undef = (.bool true) := hl 60 (by decide)
          replace hK : ∀ v W2, Below W.heap.size W W2 → v = (.bool true) → K (a.put (some 61) v) W2 := fun v W2 h1 h2 => hK v W2 h1 (fun d hd => by cases hd; exact h2)
          clear hl
          simp only [Array.getD_eq_getD_getElem?] at h56 h60
          go_simp
          exact hK _ W (Below.refl _ W) rfl
        · as_aux_lemma =>
          refine Seq.UpOb.plain (by decide) (fun _ _ _ h _ => h) (fun _ _ h => h) rfl fun a W m hR _ hl K hK => ?_
          have h61 : a.tmps.getD 61 undef = (.bool true) := hl 61 (by decide)
          replace hK : ∀ v W2, Below W.heap.size W W2 → v = (.bool true) → K (a.put (some 62) v) W2 := fun v W2 h1 h2 => hK v W2 h1 (fun d hd => by cases hd; exact h2)
          clear hl
          simp only [Array.getD_eq_getD_getElem?] at h61
          go_simp
          exact hK _ W (Below.refl _ W) rfl
        · as_aux_lemma =>
          refine Seq.UpOb.guarded (d := 62) (by decide) (fun _ _ _ h _ => h) (fun _ _ h => h) rfl rfl (fun a W hl => hl 62 (by decide)) fun a W m hR _ hl K hK => ?_
          have h7 : a.tmps.getD 7 undef = (.int .u8 111) := hl 7 (by decide)
          have h62 : a.tmps.getD 62 undef = (.bool true) := hl 62 (by decide)
          replace hK : ∀ v W2, Below W.heap.size W W2 → v = (.int .u8 111) → K (a.put (some 63) v) W2 := fun v W2 h1 h2 => hK v W2 h1 (fun d hd => by cases hd; exact h2)
          clear hl
          simp only [Array.getD_eq_getD_getElem?] at h7 h62
          go_simp
          exact hK _ W (Below.refl _ W) rfl
        · as_aux_lemma =>
          refine Seq.UpOb.guarded (d := 62) (by decide) (fun _ _ _ h _ => h) (fun _ _ h => h) rfl rfl (fun a W hl => hl 62 (by decide)) fun a W m hR _ hl K hK => ?_
          have h63 : a.tmps.getD 63 undef = (.int .u8 111) := hl 63 (by decide)
          have h62 : a.tmps.getD 62 undef = (.bool true) := hl 62 (by decide)
          replace hK : ∀ v W2, Below W.heap.size W W2 → v = (.bool true) → K (a.put (some 64) v) W2 := fun v W2 h1 h2 => hK v W2 h1 (fun d hd => by cases hd; exact h2)
          clear hl
          simp only [Array.getD_eq_getD_getElem?] at h63 h62
          go_simp
          exact hK _ W (Below.refl _ W) rfl
        · as_aux_lemma =>
          refine Seq.UpOb.plain (by decide) (fun _ _ _ h _ => h) (fun _ _ h => h) rfl fun a W m hR _ hl K hK => ?_
          have h62 : a.tmps.getD 62 undef = (.bool true) := hl 62 (by decide)
          have h64 : a.tmps.getD 64 undef = (.bool true) := hl 64 (by decide)
          replace hK : ∀ v W2, Below W.heap.size W W2 → v = (.bool true) → K (a.put (some 65) v) W2 := fun v W2 h1 h2 => hK v W2 h1 (fun d hd => by cases hd; exact h2)
          clear hl
          simp only [Array.getD_eq_getD_getElem?] at h62 h64
          go_simp
          exact hK _ W (Below.refl _ W) rfl
        · as_aux_lemma =>
          refine Seq.UpOb.plain (by decide) (fun _ _ _ h _ => h) (fun _ _ h => h) rfl fun a W m hR _ hl K hK => ?_
          have h65 : a.tmps.getD 65 undef = (.bool true) := hl 65 (by decide)
          replace hK : ∀ v W2, Below W.heap.size W W2 → v = (.bool true) → K (a.put (some 66) v) W2 := fun v W2 h1 h2 => hK v W2 h1 (fun d hd => by cases hd; exact h2)
          clear hl
          simp only [Array.getD_eq_getD_getElem?] at h65
          go_simp
          exact hK _ W (Below.refl _ W) rfl
        · as_aux_lemma =>
          refine Seq.UpOb.guarded (d := 66) (by decide) (fun _ _ _ h _ => h) (fun _ _ h => h) rfl rfl (fun a W hl => hl 66 (by decide)) fun a W m hR _ hl K hK => ?_
          have h8 : a.tmps.getD 8 undef = (.pointer (some ⟨w3.heap.size, 0, none⟩)) := hl 8 (by decide)
          have h66 : a.tmps.getD 66 undef = (.bool true) := hl 66 (by decide)
          replace hK : ∀ v W2, Below W.heap.size W W2 → v = (.agg (la.map U).toArray) → K (a.put (some 67) v) W2 := fun v W2 h1 h2 => hK v W2 h1 (fun d hd => by cases hd; exact h2)
          clear hl
          exact wp_load_row 25 (.tmp 8) rfl w3.heap.size h8 25 _ (0, 0) _ (B8.out W ⟨hR.os, hR.tape, hR.output, hR.size, fun k hk => hR.block k hk⟩) Try.underlying25 rfl HIA.out (hK _ W (Below.refl _ W) rfl)
        · as_aux_lemma =>
          refine Seq.UpOb.guarded (d := 66) (by decide) (fun _ _ _ h _ => h) (fun _ _ h => h) rfl rfl (fun a W hl => hl 66 (by decide)) fun a W m hR _ hl K hK => ?_
          have h2 : a.tmps.getD 2 undef = (.pointer (some ⟨ga, 0, none⟩)) := hl 2 (by decide)
          have h66 : a.tmps.getD 66 undef = (.bool true) := hl 66 (by decide)
          replace hK : ∀ v W2, Below W.heap.size W W2 → v = (.agg (la.map U).toArray) → K (a.put (some 68) v) W2 := fun v W2 h1 h2 => hK v W2 h1 (fun d hd => by cases hd; exact h2)
          clear hl
          exact wp_load_row 25 (.tmp 2) rfl ga h2 25 _ (0, 0) _ (BA.out W ⟨hR.os, hR.tape, hR.output, hR.size, fun k hk => hR.block k hk⟩) Try.underlying25 rfl HIA.out (hK _ W (Below.refl _ W) rfl)
        · as_aux_lemma =>
          refine Seq.UpOb.guarded (d := 66) (by decide) (fun _ _ _ h _ => h) (fun _ _ h => h) rfl rfl (fun a W hl => hl 66 (by decide)) fun a W m hR _ hl K hK => ?_
          have h67 : a.tmps.getD 67 undef = (.agg (la.map U).toArray) := hl 67 (by decide)
          have h68 : a.tmps.getD 68 undef = (.agg (la.map U).toArray) := hl 68 (by decide)
          have h66 : a.tmps.getD 66 undef = (.bool true) := hl 66 (by decide)
          replace hK : ∀ v W2, Below W.heap.size W W2 → v = (.bool true) → K (a.put (some 69) v) W2 := fun v W2 h1 h2 => hK v W2 h1 (fun d hd => by cases hd; exact h2)
          clear hl
          exact wp_eqD .eql rfl (.tmp 67) (.tmp 68) 25 rfl la la HLA.out HLA.out true (beq_self_eq_true _) h67 h68 (hK _ W (Below.refl _ W) rfl)
        · as_aux_lemma =>
          refine Seq.UpOb.plain (by decide) (fun _ _ _ h _ => h) (fun _ _ h => h) rfl fun a W m hR _ hl K hK => ?_
          have h66 : a.tmps.getD 66 undef = (.bool true) := hl 66 (by decide)
          have h69 : a.tmps.getD 69 undef = (.bool true) := hl 69 (by decide)
          replace hK : ∀ v W2, Below W.heap.size W W2 → v = (.bool true) → K (a.put (some 70) v) W2 := fun v W2 h1 h2 => hK v W2 h1 (fun d hd => by cases hd; exact h2)
          clear hl
          simp only [Array.getD_eq_getD_getElem?] at h66 h69
          go_simp
          exact hK _ W (Below.refl _ W) rfl
        · as_aux_lemma =>
          refine Seq.UpOb.plain (by decide) (fun _ _ _ h _ => h) (fun _ _ h => h) rfl fun a W m hR _ hl K hK => ?_
          have h70 : a.tmps.getD 70 undef = (.bool true) := hl 70 (by decide)
          replace hK : ∀ v W2, Below W.heap.size W W2 → v = (.bool true) → K (a.put (some 71) v) W2 := fun v W2 h1 h2 => hK v W2 h1 (fun d hd => by cases hd; exact h2)
          clear hl
          simp only [Array.getD_eq_getD_getElem?] at h70
          go_simp
          exact hK _ W (Below.refl _ W) rfl
        · as_aux_lemma =>
          refine Seq.UpOb.guarded (d := 71) (by decide) (fun _ _ _ h _ => h) (fun _ _ h => h) rfl rfl (fun a W hl => hl 71 (by decide)) fun a W m hR _ hl K hK => ?_
          have h9 : a.tmps.getD 9 undef = (.bool true) := hl 9 (by decide)
          have h71 : a.tmps.getD 71 undef = (.bool true) := hl 71 (by decide)
          replace hK : ∀ v W2, Below W.heap.size W W2 → v = (.bool true) → K (a.put (some 72) v) W2 := fun v W2 h1 h2 => hK v W2 h1 (fun d hd => by cases hd; exact h2)
          clear hl
          simp only [Array.getD_eq_getD_getElem?] at h9 h71
          go_simp
          exact hK _ W (Below.refl _ W) rfl
        · as_aux_lemma =>
          refine Seq.UpOb.plain (by decide) (fun _ _ _ h _ => h) (fun _ _ h => h) rfl fun a W m hR _ hl K hK => ?_
          have h71 : a.tmps.getD 71 undef = (.bool true) := hl 71 (by decide)
          have h72 : a.tmps.getD 72 undef = (.bool true) := hl 72 (by decide)
          replace hK : ∀ v W2, Below W.heap.size W W2 → v = (.bool true) → K (a.put (some 73) v) W2 := fun v W2 h1 h2 => hK v W2 h1 (fun d hd => by cases hd; exact h2)
          clear hl
          simp only [Array.getD_eq_getD_getElem?] at h71 h72
          go_simp
          exact hK _ W (Below.refl _ W) rfl
        · as_aux_lemma =>
          refine Seq.UpOb.plain (by decide) (fun _ _ _ h _ => h) (fun _ _ h => h) rfl fun a W m hR _ hl K hK => ?_
          have h73 : a.tmps.getD 73 undef = (.bool true) := hl 73 (by decide)
          replace hK : ∀ v W2, Below W.heap.size W W2 → v = (.bool true) → K (a.put (some 74) v) W2 := fun v W2 h1 h2 => hK v W2 h1 (fun d hd => by cases hd; exact h2)
          clear hl
          simp only [Array.getD_eq_getD_getElem?] at h73
          go_simp
          exact hK _ W (Below.refl _ W) rfl
        · as_aux_lemma =>
          refine Seq.UpOb.guarded (d := 74) (by decide) (fun _ _ _ h _ => h) (fun _ _ h => h) rfl rfl (fun a W hl => hl 74 (by decide)) fun a W m hR _ hl K hK => ?_
          have h10 : a.tmps.getD 10 undef = (.int .u8 112) := hl 10 (by decide)
          have h74 : a.tmps.getD 74 undef = (.bool true) := hl 74 (by decide)
          replace hK : ∀ v W2, Below W.heap.size W W2 → v = (.int .u8 112) → K (a.put (some 75) v) W2 := fun v W2 h1 h2 => hK v W2 h1 (fun d hd => by cases hd; exact h2)
          clear hl
          simp only [Array.getD_eq_getD_getElem?] at h10 h74
          go_simp
          exact hK _ W (Below.refl _ W) rfl
        · as_aux_lemma =>
          refine Seq.UpOb.guarded (d := 74) (by decide) (fun _ _ _ h _ => h) (fun _ _ h => h) rfl rfl (fun a W hl => hl 74 (by decide)) fun a W m hR _ hl K hK => ?_
          have h75 : a.tmps.getD 75 undef = (.int .u8 112) := hl 75 (by decide)
          have h74 : a.tmps.getD 74 undef = (.bool true) := hl 74 (by decide)
          replace hK : ∀ v W2, Below W.heap.size W W2 → v = (.bool true) → K (a.put (some 76) v) W2 := fun v W2 h1 h2 => hK v W2 h1 (fun d hd => by cases hd; exact h2)
          clear hl
          simp only [Array.getD_eq_getD_getElem?] at h75 h74
          go_simp
          exact hK _ W (Below.refl _ W) rfl
        · as_aux_lemma =>
          refine Seq.UpOb.plain (by decide) (fun _ _ _ h _ => h) (fun _ _ h => h) rfl fun a W m hR _ hl K hK => ?_
          have h74 : a.tmps.getD 74 undef = (.bool true) := hl 74 (by decide)
          have h76 : a.tmps.getD 76 undef = (.bool true) := hl 76 (by decide)
          replace hK : ∀ v W2, Below W.heap.size W W2 → v = (.bool true) → K (a.put (some 77) v) W2 := fun v W2 h1 h2 => hK v W2 h1 (fun d hd => by cases hd; exact h2)
          clear hl
          simp only [Array.getD_eq_getD_getElem?] at h74 h76
          go_simp
          exact hK _ W (Below.refl _ W) rfl
        · as_aux_lemma =>
          refine Seq.UpOb.plain (by decide) (fun _ _ _ h _ => h) (fun _ _ h => h) rfl fun a W m hR _ hl K hK => ?_
          have h77 : a.tmps.getD 77 undef = (.bool true) := hl 77 (by decide)
          replace hK : ∀ v W2, Below W.heap.size W W2 → v = (.bool true) → K (a.put (some 78) v) W2 := fun v W2 h1 h2 => hK v W2 h1 (fun d hd => by cases hd; exact h2)
          clear hl
          simp only [Array.getD_eq_getD_getElem?] at h77
          go_simp
          exact hK _ W (Below.refl _ W) rfl
        · as_aux_lemma =>
          refine Seq.UpOb.guarded (d := 78) (by decide) (fun _ _ _ h _ => h) (fun _ _ h => h) rfl rfl (fun a W hl => hl 78 (by decide)) fun a W m hR _ hl K hK => ?_
          have h11 : a.tmps.getD 11 undef = (.pointer (some ⟨w5.heap.size, 0, none⟩)) := hl 11 (by decide)
          have h78 : a.tmps.getD 78 undef = (.bool true) := hl 78 (by decide)
          replace hK : ∀ v W2, Below W.heap.size W W2 → v = (.agg (la.map U).toArray) → K (a.put (some 79) v) W2 := fun v W2 h1 h2 => hK v W2 h1 (fun d hd => by cases hd; exact h2)
          clear hl
          exact wp_load_row 25 (.tmp 11) rfl w5.heap.size h11 25 _ (0, 0) _ (B11.out W ⟨hR.os, hR.tape, hR.output, hR.size, fun k hk => hR.block k hk⟩) Try.underlying25 rfl HIA.out (hK _ W (Below.refl _ W) rfl)
        · as_aux_lemma =>
          refine Seq.UpOb.guarded (d := 78) (by decide) (fun _ _ _ h _ => h) (fun _ _ h => h) rfl rfl (fun a W hl => hl 78 (by decide)) fun a W m hR _ hl K hK => ?_
          have h2 : a.tmps.getD 2 undef = (.pointer (some ⟨ga, 0, none⟩)) := hl 2 (by decide)
          have h78 : a.tmps.getD 78 undef = (.bool true) := hl 78 (by decide)
          replace hK : ∀ v W2, Below W.heap.size W W2 → v = (.agg (la.map U).toArray) → K (a.put (some 80) v) W2 := fun v W2 h1 h2 => hK v W2 h1 (fun d hd => by cases hd; exact h2)
          clear hl
          exact wp_load_row 25 (.tmp 2) rfl ga h2 25 _ (0, 0) _ (BA.out W ⟨hR.os, hR.tape, hR.output, hR.size, fun k hk => hR.block k hk⟩) Try.underlying25 rfl HIA.out (hK _ W (Below.refl _ W) rfl)
        · as_aux_lemma =>
          refine Seq.UpOb.guarded (d := 78) (by decide) (fun _ _ _ h _ => h) (fun _ _ h => h) rfl rfl (fun a W hl => hl 78 (by decide)) fun a W m hR _ hl K hK => ?_
          have h79 : a.tmps.getD 79 undef = (.agg (la.map U).toArray) := hl 79 (by decide)
          have h80 : a.tmps.getD 80 undef = (.agg (la.map U).toArray) := hl 80 (by decide)
          have h78 : a.tmps.getD 78 undef = (.bool true) := hl 78 (by decide)
          replace hK : ∀ v W2, Below W.heap.size W W2 → v = (.bool true) → K (a.put (some 81) v) W2 := fun v W2 h1 h2 => hK v W2 h1 (fun d hd => by cases hd; exact h2)
          clear hl
          exact wp_eqD .eql rfl (.tmp 79) (.tmp 80) 25 rfl la la HLA.out HLA.out true (beq_self_eq_true _) h79 h80 (hK _ W (Below.refl _ W) rfl)
        · as_aux_lemma =>
          refine Seq.UpOb.plain (by decide) (fun _ _ _ h _ => h) (fun _ _ h => h) rfl fun a W m hR _ hl K hK => ?_
          have h78 : a.tmps.getD 78 undef = (.bool true) := hl 78 (by decide)
          have h81 : a.tmps.getD 81 undef = (.bool true) := hl 81 (by decide)
          replace hK : ∀ v W2, Below W.heap.size W W2 → v = (.bool true) → K (a.put (some 82) v) W2 := fun v W2 h1 h2 => hK v W2 h1 (fun d hd => by cases hd; exact h2)
          clear hl
          simp only [Array.getD_eq_getD_getElem?] at h78 h81
          go_simp
          exact hK _ W (Below.refl _ W) rfl
        · as_aux_lemma =>
          refine Seq.UpOb.plain (by decide) (fun _ _ _ h _ => h) (fun _ _ h => h) rfl fun a W m hR _ hl K hK => ?_
          have h82 : a.tmps.getD 82 undef = (.bool true) := hl 82 (by decide)
          replace hK : ∀ v W2, Below W.heap.size W W2 → v = (.bool true) → K (a.put (some 83) v) W2 := fun v W2 h1 h2 => hK v W2 h1 (fun d hd => by cases hd; exact h2)
          clear hl
          simp only [Array.getD_eq_getD_getElem?] at h82
          go_simp
          exact hK _ W (Below.refl _ W) rfl
        · as_aux_lemma =>
          refine Seq.UpOb.guarded (d := 83) (by decide) (fun _ _ _ h _ => h) (fun _ _ h => h) rfl rfl (fun a W hl => hl 83 (by decide)) fun a W m hR _ hl K hK => ?_
          have h12 : a.tmps.getD 12 undef = (.bool true) := hl 12 (by decide)
          have h83 : a.tmps.getD 83 undef = (.bool true) := hl 83 (by decide)
          replace hK : ∀ v W2, Below W.heap.size W W2 → v = (.bool true) → K (a.put (some 84) v) W2 := fun v W2 h1 h2 => hK v W2 h1 (fun d hd => by cases hd; exact h2)
          clear hl
          simp only [Array.getD_eq_getD_getElem?] at h12 h83
          go_simp
          exact hK _ W (Below.refl _ W) rfl
        · as_aux_lemma =>
          refine Seq.UpOb.plain (by decide) (fun _ _ _ h _ => h) (fun _ _ h => h) rfl fun a W m hR _ hl K hK => ?_
          have h83 : a.tmps.getD 83 undef = (.bool true) := hl 83 (by decide)
          have h84 : a.tmps.getD 84 undef = (.bool true) := hl 84 (by decide)
          replace hK : ∀ v W2, Below W.heap.size W W2 → v = (.bool true) → K (a.put (some 85) v) W2 := fun v W2 h1 h2 => hK v W2 h1 (fun d hd => by cases hd; exact h2)
          clear hl
          simp only [Array.getD_eq_getD_getElem?] at h83 h84
          go_simp
          exact hK _ W (Below.refl _ W) rfl
        · as_aux_lemma =>
          refine Seq.UpOb.plain (by decide) (fun _ _ _ h _ => h) (fun _ _ h => h) rfl fun a W m hR _ hl K hK => ?_
          have h85 : a.tmps.getD 85 undef = (.bool true) := hl 85 (by decide)
          replace hK : ∀ v W2, Below W.heap.size W W2 → v = (.bool true) → K (a.put (some 86) v) W2 := fun v W2 h1 h2 => hK v W2 h1 (fun d hd => by cases hd; exact h2)
          clear hl
          simp only [Array.getD_eq_getD_getElem?] at h85
          go_simp
          exact hK _ W (Below.refl _ W) rfl
        · as_aux_lemma =>
          refine Seq.UpOb.guarded (d := 86) (by decide) (fun _ _ _ h _ => h) (fun _ _ h => h) rfl rfl (fun a W hl => hl 86 (by decide)) fun a W m hR _ hl K hK => ?_
          have h13 : a.tmps.getD 13 undef = (.int .u8 (q.toNat : Int)) := hl 13 (by decide)
          have h86 : a.tmps.getD 86 undef = (.bool true) := hl 86 (by decide)
          replace hK : ∀ v W2, Below W.heap.size W W2 → v = (.int .u8 (q.toNat : Int)) → K (a.put (some 87) v) W2 := fun v W2 h1 h2 => hK v W2 h1 (fun d hd => by cases hd; exact h2)
          clear hl
          simp only [Array.getD_eq_getD_getElem?] at h13 h86
          go_simp
          exact hK _ W (Below.refl _ W) rfl
        · as_aux_lemma =>
          refine Seq.UpOb.guarded (d := 86) (by decide) (fun _ _ _ h _ => h) (fun _ _ h => h) rfl rfl (fun a W hl => hl 86 (by decide)) fun a W m hR _ hl K hK => ?_
          have h16 : a.tmps.getD 16 undef = (.int .u8 (q.toNat : Int)) := hl 16 (by decide)
          have h86 : a.tmps.getD 86 undef = (.bool true) := hl 86 (by decide)
          replace hK : ∀ v W2, Below W.heap.size W W2 → v = (.int .u8 (q.toNat : Int)) → K (a.put (some 88) v) W2 := fun v W2 h1 h2 => hK v W2 h1 (fun d hd => by cases hd; exact h2)
          clear hl
          simp only [Array.getD_eq_getD_getElem?] at h16 h86
          go_simp
          exact hK _ W (Below.refl _ W) rfl
        · as_aux_lemma =>
          refine Seq.UpOb.guarded (d := 86) (by decide) (fun _ _ _ h _ => h) (fun _ _ h => h) rfl rfl (fun a W hl => hl 86 (by decide)) fun a W m hR _ hl K hK => ?_
          have h87 : a.tmps.getD 87 undef = (.int .u8 (q.toNat : Int)) := hl 87 (by decide)
          have h88 : a.tmps.getD 88 undef = (.int .u8 (q.toNat : Int)) := hl 88 (by decide)
          have h86 : a.tmps.getD 86 undef = (.bool true) := hl 86 (by decide)
          replace hK : ∀ v W2, Below W.heap.size W W2 → v = (.bool true) → K (a.put (some 89) v) W2 := fun v W2 h1 h2 => hK v W2 h1 (fun d hd => by cases hd; exact h2)
          clear hl
          simp only [Array.getD_eq_getD_getElem?] at h87 h88 h86
          go_simp
          exact hK _ W (Below.refl _ W) (by simp)
        · as_aux_lemma =>
          refine Seq.UpOb.plain (by decide) (fun _ _ _ h _ => h) (fun _ _ h => h) rfl fun a W m hR _ hl K hK => ?_
          have h86 : a.tmps.getD 86 undef = (.bool true) := hl 86 (by decide)
          have h89 : a.tmps.getD 89 undef = (.bool true) := hl 89 (by decide)
          replace hK : ∀ v W2, Below W.heap.size W W2 → v = (.bool true) → K (a.put (some 90) v) W2 := fun v W2 h1 h2 => hK v W2 h1 (fun d hd => by cases hd; exact h2)
          clear hl
          simp only [Array.getD_eq_getD_getElem?] at h86 h89
          go_simp
          exact hK _ W (Below.refl _ W) rfl
        · as_aux_lemma =>
          refine Seq.UpOb.plain (by decide) (fun _ _ _ h _ => h) (fun _ _ h => h) rfl fun a W m hR _ hl K hK => ?_
          have h90 : a.tmps.getD 90 undef = (.bool true) := hl 90 (by decide)
          replace hK : ∀ v W2, Below W.heap.size W W2 → v = (.bool true) → K (a.put (some 91) v) W2 := fun v W2 h1 h2 => hK v W2 h1 (fun d hd => by cases hd; exact h2)
          clear hl
          simp only [Array.getD_eq_getD_getElem?] at h90
          go_simp
          exact hK _ W (Below.refl _ W) rfl
        · as_aux_lemma =>
          refine Seq.UpOb.guarded (d := 91) (by decide) (fun _ _ _ h _ => h) (fun _ _ h => h) rfl rfl (fun a W hl => hl 91 (by decide)) fun a W m hR _ hl K hK => ?_
          have h14 : a.tmps.getD 14 undef = (.pointer (some ⟨w7.heap.size, 0, none⟩)) := hl 14 (by decide)
          have h91 : a.tmps.getD 91 undef = (.bool true) := hl 91 (by decide)
          replace hK : ∀ v W2, Below W.heap.size W W2 → v = (.agg (D.map U).toArray) → K (a.put (some 92) v) W2 := fun v W2 h1 h2 => hK v W2 h1 (fun d hd => by cases hd; exact h2)
          clear hl
          exact wp_load_row 25 (.tmp 14) rfl w7.heap.size h14 25 _ (0, 0) _ (B14.out W ⟨hR.os, hR.tape, hR.output, hR.size, fun k hk => hR.block k hk⟩) Try.underlying25 rfl HID.out (hK _ W (Below.refl _ W) rfl)
        · as_aux_lemma =>
          refine Seq.UpOb.guarded (d := 91) (by decide) (fun _ _ _ h _ => h) (fun _ _ h => h) rfl rfl (fun a W hl => hl 91 (by decide)) fun a W m hR _ hl K hK => ?_
          have h17 : a.tmps.getD 17 undef = (.pointer (some ⟨w9.heap.size, 0, none⟩)) := hl 17 (by decide)
          have h91 : a.tmps.getD 91 undef = (.bool true) := hl 91 (by decide)
          replace hK : ∀ v W2, Below W.heap.size W W2 → v = (.agg (D.map U).toArray) → K (a.put (some 93) v) W2 := fun v W2 h1 h2 => hK v W2 h1 (fun d hd => by cases hd; exact h2)
          clear hl
          exact wp_load_row 25 (.tmp 17) rfl w9.heap.size h17 25 _ (0, 0) _ (B17.out W ⟨hR.os, hR.tape, hR.output, hR.size, fun k hk => hR.block k hk⟩) Try.underlying25 rfl HID.out (hK _ W (Below.refl _ W) rfl)
        · as_aux_lemma =>
          refine Seq.UpOb.guarded (d := 91) (by decide) (fun _ _ _ h _ => h) (fun _ _ h => h) rfl rfl (fun a W hl => hl 91 (by decide)) fun a W m hR _ hl K hK => ?_
          have h92 : a.tmps.getD 92 undef = (.agg (D.map U).toArray) := hl 92 (by decide)
          have h93 : a.tmps.getD 93 undef = (.agg (D.map U).toArray) := hl 93 (by decide)
          have h91 : a.tmps.getD 91 undef = (.bool true) := hl 91 (by decide)
          replace hK : ∀ v W2, Below W.heap.size W W2 → v = (.bool true) → K (a.put (some 94) v) W2 := fun v W2 h1 h2 => hK v W2 h1 (fun d hd => by cases hd; exact h2)
          clear hl
          exact wp_eqD .eql rfl (.tmp 92) (.tmp 93) 25 rfl D D HLD.out HLD.out true (beq_self_eq_true _) h92 h93 (hK _ W (Below.refl _ W) rfl)
        · as_aux_lemma =>
          refine Seq.UpOb.plain (by decide) (fun _ _ _ h _ => h) (fun _ _ h => h) rfl fun a W m hR _ hl K hK => ?_
          have h91 : a.tmps.getD 91 undef = (.bool true) := hl 91 (by decide)
          have h94 : a.tmps.getD 94 undef = (.bool true) := hl 94 (by decide)
          replace hK : ∀ v W2, Below W.heap.size W W2 → v = (.bool true) → K (a.put (some 95) v) W2 := fun v W2 h1 h2 => hK v W2 h1 (fun d hd => by cases hd; exact h2)
          clear hl
          simp only [Array.getD_eq_getD_getElem?] at h91 h94
          go_simp
          exact hK _ W (Below.refl _ W) rfl
        · as_aux_lemma =>
          refine Seq.UpOb.plain (by decide) (fun _ _ _ h _ => h) (fun _ _ h => h) rfl fun a W m hR _ hl K hK => ?_
          have h95 : a.tmps.getD 95 undef = (.bool true) := hl 95 (by decide)
          replace hK : ∀ v W2, Below W.heap.size W W2 → v = (.bool true) → K (a.put (some 96) v) W2 := fun v W2 h1 h2 => hK v W2 h1 (fun d hd => by cases hd; exact h2)
          clear hl
          simp only [Array.getD_eq_getD_getElem?] at h95
          go_simp
          exact hK _ W (Below.refl _ W) rfl
        · as_aux_lemma =>
          refine Seq.UpOb.guarded (d := 96) (by decide) (fun _ _ _ h _ => h) (fun _ _ h => h) rfl rfl (fun a W hl => hl 96 (by decide)) fun a W m hR _ hl K hK => ?_
          have h15 : a.tmps.getD 15 undef = (.bool ok) := hl 15 (by decide)
          have h96 : a.tmps.getD 96 undef = (.bool true) := hl 96 (by decide)
          replace hK : ∀ v W2, Below W.heap.size W W2 → v = (.bool ok) → K (a.put (some 97) v) W2 := fun v W2 h1 h2 => hK v W2 h1 (fun d hd => by cases hd; exact h2)
          clear hl
          simp only [Array.getD_eq_getD_getElem?] at h15 h96
          go_simp
          exact hK _ W (Below.refl _ W) rfl
        · as_aux_lemma =>
          refine Seq.UpOb.guarded (d := 96) (by decide) (fun _ _ _ h _ => h) (fun _ _ h => h) rfl rfl (fun a W hl => hl 96 (by decide)) fun a W m hR _ hl K hK => ?_
          have h18 : a.tmps.getD 18 undef = (.bool ok) := hl 18 (by decide)
          have h96 : a.tmps.getD 96 undef = (.bool true) := hl 96 (by decide)
          replace hK : ∀ v W2, Below W.heap.size W W2 → v = (.bool ok) → K (a.put (some 98) v) W2 := fun v W2 h1 h2 => hK v W2 h1 (fun d hd => by cases hd; exact h2)
          clear hl
          simp only [Array.getD_eq_getD_getElem?] at h18 h96
          go_simp
          exact hK _ W (Below.refl _ W) rfl
        · as_aux_lemma =>
          refine Seq.UpOb.guarded (d := 96) (by decide) (fun _ _ _ h _ => h) (fun _ _ h => h) rfl rfl (fun a W hl => hl 96 (by decide)) fun a W m hR _ hl K hK => ?_
          have h97 : a.tmps.getD 97 undef = (.bool ok) := hl 97 (by decide)
          have h98 : a.tmps.getD 98 undef = (.bool ok) := hl 98 (by decide)
          have h96 : a.tmps.getD 96 undef = (.bool true) := hl 96 (by decide)
          replace hK : ∀ v W2, Below W.heap.size W W2 → v = (.bool true) → K (a.put (some 99) v) W2 := fun v W2 h1 h2 => hK v W2 h1 (fun d hd => by cases hd; exact h2)
          clear hl
          exact wp_eqB (.tmp 97) (.tmp 98) 4 rfl _ _ rfl h97 h98 (hK _ W (Below.refl _ W) rfl)
        · as_aux_lemma =>
          refine Seq.UpOb.plain (by decide) (fun _ _ _ h _ => h) (fun _ _ h => h) rfl fun a W m hR _ hl K hK => ?_
          have h96 : a.tmps.getD 96 undef = (.bool true) := hl 96 (by decide)
          have h99 : a.tmps.getD 99 undef = (.bool true) := hl 99 (by decide)
          replace hK : ∀ v W2, Below W.heap.size W W2 → v = (.bool true) → K (a.put (some 100) v) W2 := fun v W2 h1 h2 => hK v W2 h1 (fun d hd => by cases hd; exact h2)
          clear hl
          simp only [Array.getD_eq_getD_getElem?] at h96 h99
          go_simp
          exact hK _ W (Below.refl _ W) rfl
        · as_aux_lemma =>
          refine Seq.UpOb.plain (by decide) (fun _ _ _ h _ => h) (fun _ _ h => h) rfl fun a W m hR _ hl K hK => ?_
          have h100 : a.tmps.getD 100 undef = (.bool true) := hl 100 (by decide)
          replace hK : ∀ v W2, Below W.heap.size W W2 → v = (.bool true) → K (a.put (some 101) v) W2 := fun v W2 h1 h2 => hK v W2 h1 (fun d hd => by cases hd; exact h2)
          clear hl
          simp only [Array.getD_eq_getD_getElem?] at h100
          go_simp
          exact hK _ W (Below.refl _ W) rfl
        · as_aux_lemma =>
          refine Seq.UpOb.guarded (d := 101) (by decide) (fun _ _ _ h _ => h) (fun _ _ h => h) rfl rfl (fun a W hl => hl 101 (by decide)) fun a W m hR _ hl K hK => ?_
          have h5 : a.tmps.getD 5 undef = (.string (bstr (nmT 111 la))) := hl 5 (by decide)
          have h101 : a.tmps.getD 101 undef = (.bool true) := hl 101 (by decide)
          replace hK : ∀ v W2, Below W.heap.size W W2 → v = (.string (bstr (nmT 111 la))) → K (a.put (some 102) v) W2 := fun v W2 h1 h2 => hK v W2 h1 (fun d hd => by cases hd; exact h2)
          clear hl
          simp only [Array.getD_eq_getD_getElem?] at h5 h101
          go_simp
          exact hK _ W (Below.refl _ W) rfl
        · as_aux_lemma =>
          refine Seq.UpOb.guarded (d := 101) (by decide) (fun _ _ _ h _ => h) (fun _ _ h => h) rfl rfl (fun a W hl => hl 101 (by decide)) fun a W m hR _ hl K hK => ?_
          have h102 : a.tmps.getD 102 undef = (.string (bstr (nmT 111 la))) := hl 102 (by decide)
          have h101 : a.tmps.getD 101 undef = (.bool true) := hl 101 (by decide)
          replace hK : ∀ v W2, Below W.heap.size W W2 → v = (.bool true) → K (a.put (some 103) v) W2 := fun v W2 h1 h2 => hK v W2 h1 (fun d hd => by cases hd; exact h2)
          clear hl
          simp only [Array.getD_eq_getD_getElem?] at h102 h101
          go_simp
          refine (HNA.out W).mono ?_
          rintro e w4 ⟨rfl, hb4⟩
          exact hK _ w4 hb4 rfl
        · as_aux_lemma =>
          refine Seq.UpOb.plain (by decide) (fun _ _ _ h _ => h) (fun _ _ h => h) rfl fun a W m hR _ hl K hK => ?_
          have h101 : a.tmps.getD 101 undef = (.bool true) := hl 101 (by decide)
          have h103 : a.tmps.getD 103 undef = (.bool true) := hl 103 (by decide)
          replace hK : ∀ v W2, Below W.heap.size W W2 → v = (.bool true) → K (a.put (some 104) v) W2 := fun v W2 h1 h2 => hK v W2 h1 (fun d hd => by cases hd; exact h2)
          clear hl
          simp only [Array.getD_eq_getD_getElem?] at h101 h103
          go_simp
          exact hK _ W (Below.refl _ W) rfl
        · as_aux_lemma =>
          refine Seq.UpOb.plain (by decide) (fun _ _ _ h _ => h) (fun _ _ h => h) rfl fun a W m hR _ hl K hK => ?_
          have h104 : a.tmps.getD 104 undef = (.bool true) := hl 104 (by decide)
          replace hK : ∀ v W2, Below W.heap.size W W2 → v = (.bool true) → K (a.put (some 105) v) W2 := fun v W2 h1 h2 => hK v W2 h1 (fun d hd => by cases hd; exact h2)
          clear hl
          simp only [Array.getD_eq_getD_getElem?] at h104
          go_simp
          exact hK _ W (Below.refl _ W) rfl
        · as_aux_lemma =>
          refine Seq.UpOb.guarded (d := 105) (by decide) (fun _ _ _ h _ => h) (fun _ _ h => h) rfl rfl (fun a W hl => hl 105 (by decide)) fun a W m hR _ hl K hK => ?_
          have h6 : a.tmps.getD 6 undef = (.string (bstr (nmT 112 la))) := hl 6 (by decide)
          have h105 : a.tmps.getD 105 undef = (.bool true) := hl 105 (by decide)
          replace hK : ∀ v W2, Below W.heap.size W W2 → v = (.string (bstr (nmT 112 la))) → K (a.put (some 106) v) W2 := fun v W2 h1 h2 => hK v W2 h1 (fun d hd => by cases hd; exact h2)
          clear hl
          simp only [Array.getD_eq_getD_getElem?] at h6 h105
          go_simp
          exact hK _ W (Below.refl _ W) rfl
        · as_aux_lemma =>
          refine Seq.UpOb.guarded (d := 105) (by decide) (fun _ _ _ h _ => h) (fun _ _ h => h) rfl rfl (fun a W hl => hl 105 (by decide)) fun a W m hR _ hl K hK => ?_
          have h106 : a.tmps.getD 106 undef = (.string (bstr (nmT 112 la))) := hl 106 (by decide)
          have h105 : a.tmps.getD 105 undef = (.bool true) := hl 105 (by decide)
          replace hK : ∀ v W2, Below W.heap.size W W2 → v = (.bool true) → K (a.put (some 107) v) W2 := fun v W2 h1 h2 => hK v W2 h1 (fun d hd => by cases hd; exact h2)
          clear hl
          simp only [Array.getD_eq_getD_getElem?] at h106 h105
          go_simp
          refine (HNP.out W).mono ?_
          rintro e w4 ⟨rfl, hb4⟩
          exact hK _ w4 hb4 rfl
        · as_aux_lemma =>
          refine Seq.UpOb.plain (by decide) (fun _ _ _ h _ => h) (fun _ _ h => h) rfl fun a W m hR _ hl K hK => ?_
          have h105 : a.tmps.getD 105 undef = (.bool true) := hl 105 (by decide)
          have h107 : a.tmps.getD 107 undef = (.bool true) := hl 107 (by decide)
          replace hK : ∀ v W2, Below W.heap.size W W2 → v = (.bool true) → K (a.put (some 108) v) W2 := fun v W2 h1 h2 => hK v W2 h1 (fun d hd => by cases hd; exact h2)
          clear hl
          simp only [Array.getD_eq_getD_getElem?] at h105 h107
          go_simp
          exact hK _ W (Below.refl _ W) rfl
        · as_aux_lemma =>
          refine Seq.UpOb.plain (by decide) (fun _ _ _ h _ => h) (fun _ _ h => h) rfl fun a W m hR _ hl K hK => ?_
          have h108 : a.tmps.getD 108 undef = (.bool true) := hl 108 (by decide)
          replace hK : ∀ v W2, Below W.heap.size W W2 → v = (.bool true) → K (a.put (some 109) v) W2 := fun v W2 h1 h2 => hK v W2 h1 (fun d hd => by cases hd; exact h2)
          clear hl
          simp only [Array.getD_eq_getD_getElem?] at h108
          go_simp
          exact hK _ W (Below.refl _ W) rfl
        · as_aux_lemma =>
          refine Seq.UpOb.guarded (d := 109) (by decide) (fun _ _ _ h _ => h) (fun _ _ h => h) rfl rfl (fun a W hl => hl 109 (by decide)) fun a W m hR _ hl K hK => ?_
          have h5 : a.tmps.getD 5 undef = (.string (bstr (nmT 111 la))) := hl 5 (by decide)
          have h109 : a.tmps.getD 109 undef = (.bool true) := hl 109 (by decide)
          replace hK : ∀ v W2, Below W.heap.size W W2 → v = (.string (bstr (nmT 111 la))) → K (a.put (some 110) v) W2 := fun v W2 h1 h2 => hK v W2 h1 (fun d hd => by cases hd; exact h2)
          clear hl
          simp only [Array.getD_eq_getD_getElem?] at h5 h109
          go_simp
          exact hK _ W (Below.refl _ W) rfl
        · as_aux_lemma =>
          refine Seq.UpOb.guarded (d := 109) (by decide) (fun _ _ _ h _ => h) (fun _ _ h => h) rfl rfl (fun a W hl => hl 109 (by decide)) fun a W m hR _ hl K hK => ?_
          have h6 : a.tmps.getD 6 undef = (.string (bstr (nmT 112 la))) := hl 6 (by decide)
          have h109 : a.tmps.getD 109 undef = (.bool true) := hl 109 (by decide)
          replace hK : ∀ v W2, Below W.heap.size W W2 → v = (.string (bstr (nmT 112 la))) → K (a.put (some 111) v) W2 := fun v W2 h1 h2 => hK v W2 h1 (fun d hd => by cases hd; exact h2)
          clear hl
          simp only [Array.getD_eq_getD_getElem?] at h6 h109
          go_simp
          exact hK _ W (Below.refl _ W) rfl
        · as_aux_lemma =>
          refine Seq.UpOb.guarded (d := 109) (by decide) (fun _ _ _ h _ => h) (fun _ _ h => h) rfl rfl (fun a W hl => hl 109 (by decide)) fun a W m hR _ hl K hK => ?_
          have h110 : a.tmps.getD 110 undef = (.string (bstr (nmT 111 la))) := hl 110 (by decide)
          have h111 : a.tmps.getD 111 undef = (.string (bstr (nmT 112 la))) := hl 111 (by decide)
          have h109 : a.tmps.getD 109 undef = (.bool true) := hl 109 (by decide)
          replace hK : ∀ v W2, Below W.heap.size W W2 → v = (.bool true) → K (a.put (some 112) v) W2 := fun v W2 h1 h2 => hK v W2 h1 (fun d hd => by cases hd; exact h2)
          clear hl
          exact wp_neS (.tmp 110) (.tmp 111) 9 rfl _ _ true (by rw [nm_ne]; rfl) h110 h111 (hK _ W (Below.refl _ W) rfl)
        · as_aux_lemma =>
          refine Seq.UpOb.plain (by decide) (fun _ _ _ h _ => h) (fun _ _ h => h) rfl fun a W m hR _ hl K hK => ?_
          have h109 : a.tmps.getD 109 undef = (.bool true) := hl 109 (by decide)
          have h112 : a.tmps.getD 112 undef = (.bool true) := hl 112 (by decide)
          replace hK : ∀ v W2, Below W.heap.size W W2 → v = (.bool true) → K (a.put (some 113) v) W2 := fun v W2 h1 h2 => hK v W2 h1 (fun d hd => by cases hd; exact h2)
          clear hl
          simp only [Array.getD_eq_getD_getElem?] at h109 h112
          go_simp
          exact hK _ W (Below.refl _ W) rfl
        · as_aux_lemma =>
          refine Seq.UpOb.plain (by decide) (fun _ _ _ h _ => h) (fun _ _ h => h) rfl fun a W m hR _ hl K hK => ?_
          have h113 : a.tmps.getD 113 undef = (.bool true) := hl 113 (by decide)
          replace hK : ∀ v W2, Below W.heap.size W W2 → v = (.bool true) → K (a.put (some 4) v) W2 := fun v W2 h1 h2 => hK v W2 h1 (fun d hd => by cases hd; exact h2)
          clear hl
          simp only [Array.getD_eq_getD_getElem?] at h113
          go_simp
          exact hK _ W (Below.refl _ W) rfl
      · intro a Wz hd hsz hR hl
        have h4 : a.tmps.getD 4 undef = .bool true := hl 4
        have hbz := HB0.out _ _ (HRz.out.step (w' := Wz) ⟨hR.os, hR.tape, hR.output, hR.size, fun k hk => hR.block k hk⟩)
        rw [← hga] at hbz
        clear hl hR
        go_wp2
        refine bodyPost_ret (v := .bool true) ?_ hd ⟨rfl, hbz⟩
        rw [results_tmp rfl, h4]
  · have h' : ¬ (s.size : Int) ≤ 200 := by omega
    clear ha hs
    go_enter Try.func4, Try.ntmps4
    go_wp2_with fail
    generalize World.alloc _ _ = w0 at *
    go_wp2_with (go_at_call 10; refine (awake7_walk w0).mono ?_; rintro e w1 ⟨rfl, hb1⟩; have HR1 := Lib.hid (HR0.out.step hb1); clear hb1)
    go_ret
    exact ⟨by simp, HB0.out _ _ HR1.out⟩
end Go.Proofs.Ytekhnacgejfmjaa
