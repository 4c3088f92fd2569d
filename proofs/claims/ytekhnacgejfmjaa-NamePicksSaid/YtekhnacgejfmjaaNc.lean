/- The document's File. -/
import Derived.Test.YtekhnacgejfmjaaNb
namespace Go.Proofs.Ytekhnacgejfmjaa
open Go.RowKit

def BuiltB (W : World) (v : Value) (k : UInt8) : Prop := ∃ b, v = .slice (some ⟨b, 0, none⟩) 1 1 ∧ Blk W b 5 #[.int .u8 (k.toNat : Int)]
def spB (k : UInt8) : Seq.Sp UpN := ⟨fun v W => BuiltB W v k, fun _ _ _ ⟨b, hv, hb⟩ hr => ⟨b, hv, hb.kept hr hb.lt⟩⟩
theorem conv_one {W : World} {b : Nat} {k : UInt8} (h : Blk W b 5 #[.int .u8 (k.toNat : Int)]) : (convert 54 9 (.slice (some ⟨b, 0, none⟩) 1 1)).run Try.prog W = .ok (.string (bstr [k])) W := by
  have h := run_convert_bytes_arg (P := Try.prog) W 54 5 Try.underlying54 Try.underlying5 b 0 1 1 ([k].map fun b => (b.toNat : Int)) rfl (fun i hi => by
    obtain rfl : i = 0 := by omega
    rw [Nat.zero_add, h.cell]; rfl) 9 Try.underlying9
  rw [h, nums_bytes]
theorem cat_dot (k : UInt8) (w : World) : (binOp .add 9 (.string (bstr [k])) (.string ⟨#[46]⟩)).run Try.prog w = .ok (.string (bstr [k, 46])) w := cat [k] [46] (by simp) w
theorem cat_nm (k : UInt8) (ds : List UInt8) (h : ds.length = 32) (w : World) : (binOp .add 9 (.string (bstr [k, 46])) (.string (bstr (hexOf ds)))).run Try.prog w = .ok (.string (bstr (nmT k ds))) w :=
  cat [k, 46] (hexOf ds) (by rw [hexOf_length, h]; simp) w
section
variable {o : Oper} {a : Act} {w : World} {K : Act → World → Prop} {Q : Exit → Act → World → Prop}
theorem wp_conv (x : Operand) (ho : o.op = .convert 54 9 x) (v r : Value) (hx : a.eval x = v) (hr : (convert 54 9 v).run Try.prog w = .ok r w) (h : K (a.put o.dst r) w) : o.wp Try.prog a w K Q := by
  unfold Oper.wp execOp
  simp only [ho, hx, Sem.run_bind, hr, Result.andThen_ok, Sem.run_pure]
  exact h
theorem wp_catS (x y : Operand) (t2 : TypeId) (ho : o.op = .binOp .add 9 x y t2) (p q r : ByteArray) (hx : a.eval x = .string p) (hy : a.eval y = .string q)
    (hr : ∀ w, (binOp .add 9 (.string p) (.string q)).run Try.prog w = .ok (.string r) w) (h : K (a.put o.dst (.string r)) w) : o.wp Try.prog a w K Q := by
  have hg : (eqGuard .add 9 x y (.string p) (.string q)).run Try.prog w = .ok () w := rfl
  unfold Oper.wp execOp
  simp only [ho, hx, hy, Sem.run_bind, hg, hr, Result.andThen_ok, Sem.run_pure]
  exact h
end
attribute [local irreducible] bstr nmT hexOf
set_option maxRecDepth 100000 in
set_option maxHeartbeats 2000000 in
theorem file_walk (w : World) (k : UInt8) (ds : List UInt8) (hds : ds.length = 32) :
    Calls Try.prog 17 #[.int .u8 (k.toNat : Int), .agg (ds.map U).toArray] w fun e w' => e = .returned (.string (bstr (nmT k ds))) ∧ Below w.heap.size w w' := by
  have HL := Lib.hid hds
  have HI := Lib.hid (b_size ds hds)
  have HB : Hid (Below w.heap.size w (w.alloc (.cells (ds.map U).toArray 25))) := (Below.refl _ w).alloc (Nat.le_refl _) _
  have BA : Hid (∀ W, Below (w.alloc (.cells (ds.map U).toArray 25)).heap.size (w.alloc (.cells (ds.map U).toArray 25)) W → Blk W w.heap.size 25 (ds.map U).toArray) := fun W h => (Blk.fresh w 25 _).kept h (by simp)
  clear hds
  go_enter Try.func17, Try.ntmps17
  go_wp2
  generalize World.alloc _ _ = w1 at *
  refine Seq.wp_region_seq (by kernel_rfl) (R := UpN) UpN.refl UpN.trans (fun _ _ => True) [] [[0], [5], [6], [7], [3], [9], [8, 10], [11]] [(5, spU (.int .u8 (k.toNat : Int))), (6, spB k), (7, spU (.string (bstr [k]))), (8, spU (.string (bstr [k, 46]))), (9, spU (.agg (ds.map U).toArray)), (10, spU (.string (bstr (hexOf ds)))), (11, spU (.string (bstr (nmT k ds)))), (4, spU (.string (bstr (nmT k ds))))] 12 rfl (by kernel_rfl) (by kernel_rfl) (by kernel_rfl) (by kernel_rfl) trivial ?_ ?_
  · refine ⟨?_, ?_, ?_, ?_, ?_, ?_, ?_, ?_, trivial⟩
    · as_aux_lemma =>
      refine Seq.UpOb.plain (by decide) (fun _ _ _ h _ => h) (fun _ _ h => h) rfl fun a W m hR _ hl K hK => ?_
      have h0 : a.tmps.getD 0 undef = (.int .u8 (k.toNat : Int)) := hl 0 (by decide)
      replace hK : ∀ v W2, Below W.heap.size W W2 → v = (.int .u8 (k.toNat : Int)) → K (a.put (some 5) v) W2 := fun v W2 h1 h2 => hK v W2 h1 (fun d hd => by cases hd; exact h2)
      clear hl
      simp only [Array.getD_eq_getD_getElem?] at h0
      go_simp
      exact hK _ W (Below.refl _ W) rfl
    · as_aux_lemma =>
      refine Seq.UpOb.plain (by decide) (fun _ _ _ h _ => h) (fun _ _ h => h) rfl fun a W m hR _ hl K hK => ?_
      have h5 : a.tmps.getD 5 undef = (.int .u8 (k.toNat : Int)) := hl 5 (by decide)
      replace hK : ∀ v W2, Below W.heap.size W W2 → BuiltB W2 v k → K (a.put (some 6) v) W2 := fun v W2 h1 h2 => hK v W2 h1 (fun d hd => by cases hd; exact h2)
      clear hl
      simp only [Array.getD_eq_getD_getElem?] at h5
      go_simp
      exact hK _ _ ((Below.refl _ W).alloc (Nat.le_refl _) _) ⟨W.heap.size, rfl, Blk.fresh W 5 _⟩
    · as_aux_lemma =>
      refine Seq.UpOb.plain (by decide) (fun _ _ _ h _ => h) (fun _ _ h => h) rfl fun a W m hR _ hl K hK => ?_
      have h6 : BuiltB W (a.tmps.getD 6 undef) k := hl 6 (by decide)
      generalize hv6 : a.tmps.getD 6 undef = v6 at h6
      replace hK : ∀ v W2, Below W.heap.size W W2 → v = (.string (bstr [k])) → K (a.put (some 7) v) W2 := fun v W2 h1 h2 => hK v W2 h1 (fun d hd => by cases hd; exact h2)
      clear hl
      obtain ⟨b, rfl, hb⟩ := h6
      exact wp_conv (.tmp 6) rfl _ _ hv6 (conv_one hb) (hK _ W (Below.refl _ W) rfl)
    · as_aux_lemma =>
      refine Seq.UpOb.plain (by decide) (fun _ _ _ h _ => h) (fun _ _ h => h) rfl fun a W m hR _ hl K hK => ?_
      have h7 : a.tmps.getD 7 undef = (.string (bstr [k])) := hl 7 (by decide)
      replace hK : ∀ v W2, Below W.heap.size W W2 → v = (.string (bstr [k, 46])) → K (a.put (some 8) v) W2 := fun v W2 h1 h2 => hK v W2 h1 (fun d hd => by cases hd; exact h2)
      clear hl
      exact wp_catS (.tmp 7) _ 9 rfl _ _ _ h7 rfl (cat_dot k) (hK _ W (Below.refl _ W) rfl)
    · as_aux_lemma =>
      refine Seq.UpOb.plain (by decide) (fun _ _ _ h _ => h) (fun _ _ h => h) rfl fun a W m hR _ hl K hK => ?_
      have h3 : a.tmps.getD 3 undef = (.pointer (some ⟨w.heap.size, 0, none⟩)) := hl 3 (by decide)
      replace hK : ∀ v W2, Below W.heap.size W W2 → v = (.agg (ds.map U).toArray) → K (a.put (some 9) v) W2 := fun v W2 h1 h2 => hK v W2 h1 (fun d hd => by cases hd; exact h2)
      clear hl
      exact wp_load_row 25 (.tmp 3) rfl w.heap.size h3 25 _ (0, 0) _ (BA.out W ⟨hR.os, hR.tape, hR.output, hR.size, fun k hk => hR.block k hk⟩) Try.underlying25 rfl HI.out (hK _ W (Below.refl _ W) rfl)
    · as_aux_lemma =>
      refine Seq.UpOb.plain (by decide) (fun _ _ _ h _ => h) (fun _ _ h => h) rfl fun a W m hR _ hl K hK => ?_
      have h9 : a.tmps.getD 9 undef = (.agg (ds.map U).toArray) := hl 9 (by decide)
      replace hK : ∀ v W2, Below W.heap.size W W2 → v = (.string (bstr (hexOf ds))) → K (a.put (some 10) v) W2 := fun v W2 h1 h2 => hK v W2 h1 (fun d hd => by cases hd; exact h2)
      clear hl
      simp only [Array.getD_eq_getD_getElem?] at h9
      go_simp
      refine (refhex_walk W ds HL.out).mono ?_
      rintro e w4 ⟨rfl, hb4⟩
      exact hK _ w4 hb4 rfl
    · as_aux_lemma =>
      refine Seq.UpOb.plain (by decide) (fun _ _ _ h _ => h) (fun _ _ h => h) rfl fun a W m hR _ hl K hK => ?_
      have h8 : a.tmps.getD 8 undef = (.string (bstr [k, 46])) := hl 8 (by decide)
      have h10 : a.tmps.getD 10 undef = (.string (bstr (hexOf ds))) := hl 10 (by decide)
      replace hK : ∀ v W2, Below W.heap.size W W2 → v = (.string (bstr (nmT k ds))) → K (a.put (some 11) v) W2 := fun v W2 h1 h2 => hK v W2 h1 (fun d hd => by cases hd; exact h2)
      clear hl
      exact wp_catS (.tmp 8) (.tmp 10) 9 rfl _ _ _ h8 h10 (cat_nm k ds HL.out) (hK _ W (Below.refl _ W) rfl)
    · as_aux_lemma =>
      refine Seq.UpOb.plain (by decide) (fun _ _ _ h _ => h) (fun _ _ h => h) rfl fun a W m hR _ hl K hK => ?_
      have h11 : a.tmps.getD 11 undef = (.string (bstr (nmT k ds))) := hl 11 (by decide)
      replace hK : ∀ v W2, Below W.heap.size W W2 → v = (.string (bstr (nmT k ds))) → K (a.put (some 4) v) W2 := fun v W2 h1 h2 => hK v W2 h1 (fun d hd => by cases hd; exact h2)
      clear hl
      simp only [Array.getD_eq_getD_getElem?] at h11
      go_simp
      exact hK _ W (Below.refl _ W) rfl
  · intro a W hd hsz hR hl _
    have h4 : a.tmps.getD 4 undef = .string (bstr (nmT k ds)) := hl 4
    go_wp2
    refine bodyPost_ret (v := .string (bstr (nmT k ds))) ?_ hd ⟨rfl, HB.out.trans (Below.mono (show Below w1.heap.size w1 W from ⟨hR.os, hR.tape, hR.output, hR.size, fun k hk => hR.block k hk⟩) HB.out.size)⟩
    rw [results_tmp rfl, h4]
end Go.Proofs.Ytekhnacgejfmjaa
