/- name.Parse. -/
import Derived.Test.YtekhnacgejfmjaaN9
namespace Go.Proofs.Ytekhnacgejfmjaa
open Go.RowKit

def parseN (m : UInt8) (l : List UInt8) : Option (List UInt8) := if l.take 2 == [m, 46] then parseL (l.drop 2) else none
/-- What a text is of. -/
def resN (l : List UInt8) : UInt8 × List UInt8 × Bool := match parseN 111 l with
  | some d => (111, d, true)
  | none => match parseN 112 l with
    | some d => (112, d, true)
    | none => (0, zero32, false)
def resV (r : UInt8 × List UInt8 × Bool) : Value := .tuple #[.int .u8 (r.1.toNat : Int), .agg (r.2.1.map U).toArray, .bool r.2.2]
def mk (k : Nat) : UInt8 := if k = 0 then 111 else 112
theorem parseL_len {l d : List UInt8} (h : parseL l = some d) : d.length = 32 := (hex_parseL h).2
def spX {R : World → World → Prop} (x : Value) : Seq.Sp R := ⟨fun v _ => v = x, fun _ _ _ h _ => h⟩
theorem Ex.up {g : Nat} {w w' : World} (h : Below w.heap.size w w') : Ex g w w' := Ex.of_below h
theorem pair_len (l : List UInt8) : (parseD l).1.length = 32 := by
  unfold parseD
  cases h : parseL l with
  | none => rfl
  | some d => exact parseL_len h
theorem cut_size (s : ByteArray) (m : UInt8) (h : s.size ≤ maxLen) : (cutP m s).size ≤ maxLen := by
  unfold cutP
  split
  · rw [ByteArray.size_extract]; unfold maxLen at *; omega
  · exact h
theorem parseN_of (m : UInt8) (s : ByteArray) : parseN m s.data.toList = if hasP m s && (parseD (cutP m s).data.toList).2 then some (parseD (cutP m s).data.toList).1 else none := by
  unfold parseN
  have e : (s.data.toList.take 2 == [m, 46]) = hasP m s := rfl
  rw [e]
  cases h : hasP m s with
  | false => simp
  | true =>
    have hc : (cutP m s).data.toList = s.data.toList.drop 2 := by
      unfold cutP; rw [h, if_pos rfl]; exact ext2 s 2
    rw [hc]
    unfold parseD
    cases parseL (s.data.toList.drop 2) <;> simp
theorem wpList_ix {ops : Array Oper} {rest : List Oper} {o : Oper} {a : Act} {w : World} {Q : Exit → Act → World → Prop} (hgd : o.guard = none) (t : TypeId) (x y : Operand) (ho : o.op = .index t x y) (v j r : Value)
    (hx : a.eval x = v) (hy : a.eval y = j) (hr : ∀ w, (Instr.index t v j).run Try.prog w = .ok r w) (h : wpList Try.prog ops Q rest (a.put o.dst r) w) : wpList Try.prog ops Q (o :: rest) a w := by
  refine wpList_plain hgd fun K hK => ?_
  unfold Oper.wp execOp
  simp only [ho, hx, hy, Sem.run_bind, hr, Result.andThen_ok, Sem.run_pure]
  exact hK _ _ h
theorem ix_o (w : World) : (Instr.index 55 (.agg #[.string ⟨#[111, 46]⟩, .string ⟨#[112, 46]⟩]) (.int .i64 0)).run Try.prog w = .ok (.string ⟨#[111, 46]⟩) w := by kernel_rfl
theorem ix_p (w : World) : (Instr.index 55 (.agg #[.string ⟨#[111, 46]⟩, .string ⟨#[112, 46]⟩]) (.int .i64 1)).run Try.prog w = .ok (.string ⟨#[112, 46]⟩) w := by kernel_rfl
/-- How the result's row stands. -/
def StP (g : Nat) (D : List UInt8) (m : Nat) (W : World) : Prop := Blk W g 25 (match m with | 0 => (zero32.map U).toArray | _ => (D.map U).toArray)
theorem StP_keep {g : Nat} {D : List UInt8} (m : Nat) (W W' : World) (h : StP g D m W) (hb : Below W.heap.size W W') : StP g D m W' := Blk.kept h hb (Blk.lt h)
attribute [local irreducible] parseD parseL hasP cutP
set_option maxRecDepth 100000 in
set_option maxHeartbeats 4000000 in
theorem nparse_walk (s : ByteArray) (w : World) (hs : s.size ≤ maxLen) :
    Calls Try.prog 15 #[.string s] w fun e w' => e = .returned (resV (resN s.data.toList)) ∧ Below w.heap.size w w' := by
  have HS := Lib.hid hs
  have HZ : Hid (Blk (w.alloc (.cells (zero32.map U).toArray 25)) w.heap.size 25 (zero32.map U).toArray) := Blk.fresh w 25 _
  have HB0 : Hid (Below w.heap.size w (w.alloc (.cells (zero32.map U).toArray 25))) := (Below.refl _ w).alloc (Nat.le_refl _) _
  have HI0 := Lib.hid (b_size zero32 zero_len)
  rw [← zeros_eq] at HZ HB0
  go_enter Try.func15, Try.ntmps15
  go_wp2
  rw [zeros_eq] at HZ HB0 ⊢
  generalize World.alloc _ _ = w1 at *
  go_loopw [12] (fun i wr => ∃ k : Nat, k ≤ 2 ∧ i = .int .i64 k ∧ Blk wr w.heap.size 25 (zero32.map U).toArray ∧ Below w.heap.size w wr ∧ ∀ j, j < k → parseN (mk j) s.data.toList = none) (fun i _ => 2 - (intOf i).toNat)
  case atStart => exact ⟨0, by omega, rfl, HZ.out, HB0.out, fun j hj => absurd hj (by omega)⟩
  case round =>
    clear HZ HB0
    obtain ⟨k, hk, rfl, hz, hb, hno⟩ := hrel
    have HZ := Lib.hid hz
    have HB := Lib.hid hb
    have HNO := Lib.hid hno
    have HGL := Lib.hid hz.lt
    clear hz hb hno
    have hk3 : k = 0 ∨ k = 1 ∨ k = 2 := by omega
    rcases hk3 with rfl | rfl | rfl
    · skip
      have hpw := parse_walk (cutP 111 s) wr (cut_size s 111 HS.out)
      have hof := parseN_of 111 s
      have hDl := pair_len (cutP 111 s).data.toList
      generalize hq : parseD (cutP 111 s).data.toList = pd at hpw hof hDl
      obtain ⟨D, ok⟩ := pd
      clear hq
      have HW := Lib.hid hpw
      have HI := Lib.hid (b_size D hDl)
      have HSZ : Hid ((zero32.map U).toArray.size = (D.map U).toArray.size) := by show _ = _; simp [zero32, hDl]
      clear hpw hDl
      cases hb : hasP 111 s with
      | false =>
        rw [hb] at hof
        have HNN : Hid (parseN (mk 0) s.data.toList = none) := hof
        clear hof
        go_wp2_with (first
        | (refine wpList_ix rfl 55 (.tmp 11) (.tmp 12) rfl _ _ _ rfl rfl ix_o ?_)
        | (go_at_call 40; refine (cutp_walk s 111 wr HS.out).mono ?_; rintro e w' ⟨rfl, rfl⟩)
        | (go_at_call 41; refine HW.out.mono ?_; rintro e w2 ⟨rfl, hb2⟩; have HB2 := Lib.hid (HB.out.trans (Below.mono hb2 HB.out.size)); have HZ2 := Lib.hid (HZ.out.kept hb2 HZ.out.lt); clear hb2)
        | (refine wpList_store_fresh rfl 25 _ _ rfl (D.map U).toArray rfl rfl HI.out HSZ.out (SAll D) ?_; intro w3 hb3 hs3 hB3; have HB9 := Lib.hid hB3; have HZ3 := Lib.hid (HZ2.out.kept hb3 HZ2.out.lt); have HNE : Hid (w2.heap.size ≠ w.heap.size) := (fun e => by have := HZ2.out.lt; omega); have HB3 := Lib.hid (HB2.out.trans (Below.mono hb3 HB2.out.size)); clear hb3 hs3 hB3))
        go_roundw
        case rel => exact ⟨1, by omega, rfl, HZ3.out, HB3.out, fun j hj => (by have hjk : j < 0 ∨ j = 0 := (by omega); rcases hjk with h | h; exact HNO.out j h; subst h; exact HNN.out)⟩
        case measure => simp [intOf]
      | true =>
        rw [hb] at hof
        cases hok : ok with
        | false =>
          rw [hok] at hof
          subst hok
          have HNN : Hid (parseN (mk 0) s.data.toList = none) := hof
          clear hof
          go_wp2_with (first
          | (refine wpList_ix rfl 55 (.tmp 11) (.tmp 12) rfl _ _ _ rfl rfl ix_o ?_)
          | (go_at_call 40; refine (cutp_walk s 111 wr HS.out).mono ?_; rintro e w' ⟨rfl, rfl⟩)
          | (go_at_call 41; refine HW.out.mono ?_; rintro e w2 ⟨rfl, hb2⟩; have HB2 := Lib.hid (HB.out.trans (Below.mono hb2 HB.out.size)); have HZ2 := Lib.hid (HZ.out.kept hb2 HZ.out.lt); clear hb2)
          | (refine wpList_store_fresh rfl 25 _ _ rfl (D.map U).toArray rfl rfl HI.out HSZ.out (SAll D) ?_; intro w3 hb3 hs3 hB3; have HB9 := Lib.hid hB3; have HZ3 := Lib.hid (HZ2.out.kept hb3 HZ2.out.lt); have HNE : Hid (w2.heap.size ≠ w.heap.size) := (fun e => by have := HZ2.out.lt; omega); have HB3 := Lib.hid (HB2.out.trans (Below.mono hb3 HB2.out.size)); clear hb3 hs3 hB3))
          go_roundw
          case rel => exact ⟨1, by omega, rfl, HZ3.out, HB3.out, fun j hj => (by have hjk : j < 0 ∨ j = 0 := (by omega); rcases hjk with h | h; exact HNO.out j h; subst h; exact HNN.out)⟩
          case measure => simp [intOf]
        | true =>
          rw [hok] at hof
          subst hok
          have HRES : Hid (resN s.data.toList = (111, D, true)) := by
            show _ = _
            have hp : parseN 111 s.data.toList = some D := hof
            unfold resN; rw [hp]
          clear hof
          go_wp2_with (first
        | (refine wpList_ix rfl 55 (.tmp 11) (.tmp 12) rfl _ _ _ rfl rfl ix_o ?_)
        | (go_at_call 40; refine (cutp_walk s 111 wr HS.out).mono ?_; rintro e w' ⟨rfl, rfl⟩)
        | (go_at_call 41; refine HW.out.mono ?_; rintro e w2 ⟨rfl, hb2⟩; have HB2 := Lib.hid (HB.out.trans (Below.mono hb2 HB.out.size)); have HZ2 := Lib.hid (HZ.out.kept hb2 HZ.out.lt); clear hb2)
        | (refine wpList_store_fresh rfl 25 _ _ rfl (D.map U).toArray rfl rfl HI.out HSZ.out (SAll D) ?_; intro w3 hb3 hs3 hB3; have HB9 := Lib.hid hB3; have HZ3 := Lib.hid (HZ2.out.kept hb3 HZ2.out.lt); have HNE : Hid (w2.heap.size ≠ w.heap.size) := (fun e => by have := HZ2.out.lt; omega); have HB3 := Lib.hid (HB2.out.trans (Below.mono hb3 HB2.out.size)); clear hb3 hs3 hB3))
          refine Seq.wp_region_seq (by kernel_rfl) (R := Ex w.heap.size) (Ex.refl _) (fun _ _ _ => Ex.trans) (StP w.heap.size D) [4] [[6], [30], [9], [31], [3, 32], []] [(30, spX (.string ⟨#[111, 46]⟩)), (31, spX (.int .u8 111)), (32, spX (.agg (D.map U).toArray)), (2, spX (.int .u8 111)), (4, spX (.bool true))] 35 rfl (by kernel_rfl) (by kernel_rfl) (by kernel_rfl) (by kernel_rfl) HZ3.out ?_ ?_
          · refine ⟨?_, ?_, ?_, ?_, ?_, ?_, trivial⟩
            · refine Seq.UpOb.plain (by decide) StP_keep (fun _ _ h => Ex.of_below h) rfl fun a W m hR _ hl K hK => ?_
              have h6 : a.tmps.getD 6 undef = (.string ⟨#[111, 46]⟩) := hl 6 (by decide)
              replace hK : ∀ v W2, Below W.heap.size W W2 → v = (.string ⟨#[111, 46]⟩) → K (a.put (some 30) v) W2 := fun v W2 h1 h2 => hK v W2 h1 (fun d hd => by cases hd; exact h2)
              clear hl
              simp only [Array.getD_eq_getD_getElem?] at h6
              go_simp
              exact hK _ W (Below.refl _ W) rfl
            · refine Seq.UpOb.plain (by decide) StP_keep (fun _ _ h => Ex.of_below h) rfl fun a W m hR _ hl K hK => ?_
              have h30 : a.tmps.getD 30 undef = (.string ⟨#[111, 46]⟩) := hl 30 (by decide)
              replace hK : ∀ v W2, Below W.heap.size W W2 → v = (.int .u8 111) → K (a.put (some 31) v) W2 := fun v W2 h1 h2 => hK v W2 h1 (fun d hd => by cases hd; exact h2)
              clear hl
              simp only [Array.getD_eq_getD_getElem?] at h30
              go_simp
              exact hK _ W (Below.refl _ W) rfl
            · refine Seq.UpOb.plain (by decide) StP_keep (fun _ _ h => Ex.of_below h) rfl fun a W m hR _ hl K hK => ?_
              have h9 : a.tmps.getD 9 undef = (.pointer (some ⟨w2.heap.size, 0, none⟩)) := hl 9 (by decide)
              replace hK : ∀ v W2, Below W.heap.size W W2 → v = (.agg (D.map U).toArray) → K (a.put (some 32) v) W2 := fun v W2 h1 h2 => hK v W2 h1 (fun d hd => by cases hd; exact h2)
              clear hl
              exact wp_load_row 25 (.tmp 9) rfl w2.heap.size h9 25 _ (0, 0) _ (hR.blk HB9.out HNE.out) Try.underlying25 rfl HI.out (hK _ W (Below.refl _ W) rfl)
            · refine Seq.UpOb.plain (by decide) StP_keep (fun _ _ h => Ex.of_below h) rfl fun a W m hR _ hl K hK => ?_
              have h31 : a.tmps.getD 31 undef = (.int .u8 111) := hl 31 (by decide)
              replace hK : ∀ v W2, Below W.heap.size W W2 → v = (.int .u8 111) → K (a.put (some 2) v) W2 := fun v W2 h1 h2 => hK v W2 h1 (fun d hd => by cases hd; exact h2)
              clear hl
              simp only [Array.getD_eq_getD_getElem?] at h31
              go_simp
              exact hK _ W (Below.refl _ W) rfl
            · refine Seq.UpOb.turns 0 rfl rfl fun a W hl hR hS K hK => ?_
              have h3 : a.tmps.getD 3 undef = (.pointer (some ⟨w.heap.size, 0, none⟩)) := hl 3 (by decide)
              have h32 : a.tmps.getD 32 undef = (.agg (D.map U).toArray) := hl 32 (by decide)
              exact wp_store_row 25 (.tmp 3) (.tmp 32) rfl w.heap.size _ h3 h32 25 _ hS HI.out HSZ.out (SAll D) (hK _ _ (Ex.setRow _ W _) (fun d hd => by cases hd) (Blk.setRow hS _))
            · refine Seq.UpOb.plain (by decide) StP_keep (fun _ _ h => Ex.of_below h) rfl fun a W m hR _ hl K hK => ?_
              replace hK : ∀ v W2, Below W.heap.size W W2 → v = (.bool true) → K (a.put (some 4) v) W2 := fun v W2 h1 h2 => hK v W2 h1 (fun d hd => by cases hd; exact h2)
              clear hl
              go_simp
              exact hK _ W (Below.refl _ W) rfl
          · intro a W hd hsz hR hl hS
            have h2 : a.tmps.getD 2 undef = .int .u8 111 := hl 2
            have h4 : a.tmps.getD 4 undef = .bool true := hl 4
            have h3 : a.tmps.getD 3 undef = .pointer (some ⟨w.heap.size, 0, none⟩) := hl 3
            have hS1 : Blk W w.heap.size 25 (D.map U).toArray := hS
            have hbW : Below w.heap.size w W := Ex.below HB3.out (show Ex w.heap.size w3 W from ⟨hR.os, hR.tape, hR.output, hR.size, fun k hk hne => hR.block k hk hne⟩) (Nat.le_refl _) HB3.out.size
            clear hl hsz hR hS
            go_wp2
            refine bodyPost_ret (results_three rfl _ W w.heap.size 25 _ _ h3 hS1 Try.underlying25 rfl HI.out) hd ⟨?_, hbW⟩
            rw [HRES.out, h2, h4]
            rfl
    · skip
      have hpw := parse_walk (cutP 112 s) wr (cut_size s 112 HS.out)
      have hof := parseN_of 112 s
      have hDl := pair_len (cutP 112 s).data.toList
      generalize hq : parseD (cutP 112 s).data.toList = pd at hpw hof hDl
      obtain ⟨D, ok⟩ := pd
      clear hq
      have HW := Lib.hid hpw
      have HI := Lib.hid (b_size D hDl)
      have HSZ : Hid ((zero32.map U).toArray.size = (D.map U).toArray.size) := by show _ = _; simp [zero32, hDl]
      clear hpw hDl
      cases hb : hasP 112 s with
      | false =>
        rw [hb] at hof
        have HNN : Hid (parseN (mk 1) s.data.toList = none) := hof
        clear hof
        go_wp2_with (first
        | (refine wpList_ix rfl 55 (.tmp 11) (.tmp 12) rfl _ _ _ rfl rfl ix_p ?_)
        | (go_at_call 40; refine (cutp_walk s 112 wr HS.out).mono ?_; rintro e w' ⟨rfl, rfl⟩)
        | (go_at_call 41; refine HW.out.mono ?_; rintro e w2 ⟨rfl, hb2⟩; have HB2 := Lib.hid (HB.out.trans (Below.mono hb2 HB.out.size)); have HZ2 := Lib.hid (HZ.out.kept hb2 HZ.out.lt); clear hb2)
        | (refine wpList_store_fresh rfl 25 _ _ rfl (D.map U).toArray rfl rfl HI.out HSZ.out (SAll D) ?_; intro w3 hb3 hs3 hB3; have HB9 := Lib.hid hB3; have HZ3 := Lib.hid (HZ2.out.kept hb3 HZ2.out.lt); have HNE : Hid (w2.heap.size ≠ w.heap.size) := (fun e => by have := HZ2.out.lt; omega); have HB3 := Lib.hid (HB2.out.trans (Below.mono hb3 HB2.out.size)); clear hb3 hs3 hB3))
        go_roundw
        case rel => exact ⟨2, by omega, rfl, HZ3.out, HB3.out, fun j hj => (by have hjk : j < 1 ∨ j = 1 := (by omega); rcases hjk with h | h; exact HNO.out j h; subst h; exact HNN.out)⟩
        case measure => simp [intOf]
      | true =>
        rw [hb] at hof
        cases hok : ok with
        | false =>
          rw [hok] at hof
          subst hok
          have HNN : Hid (parseN (mk 1) s.data.toList = none) := hof
          clear hof
          go_wp2_with (first
          | (refine wpList_ix rfl 55 (.tmp 11) (.tmp 12) rfl _ _ _ rfl rfl ix_p ?_)
          | (go_at_call 40; refine (cutp_walk s 112 wr HS.out).mono ?_; rintro e w' ⟨rfl, rfl⟩)
          | (go_at_call 41; refine HW.out.mono ?_; rintro e w2 ⟨rfl, hb2⟩; have HB2 := Lib.hid (HB.out.trans (Below.mono hb2 HB.out.size)); have HZ2 := Lib.hid (HZ.out.kept hb2 HZ.out.lt); clear hb2)
          | (refine wpList_store_fresh rfl 25 _ _ rfl (D.map U).toArray rfl rfl HI.out HSZ.out (SAll D) ?_; intro w3 hb3 hs3 hB3; have HB9 := Lib.hid hB3; have HZ3 := Lib.hid (HZ2.out.kept hb3 HZ2.out.lt); have HNE : Hid (w2.heap.size ≠ w.heap.size) := (fun e => by have := HZ2.out.lt; omega); have HB3 := Lib.hid (HB2.out.trans (Below.mono hb3 HB2.out.size)); clear hb3 hs3 hB3))
          go_roundw
          case rel => exact ⟨2, by omega, rfl, HZ3.out, HB3.out, fun j hj => (by have hjk : j < 1 ∨ j = 1 := (by omega); rcases hjk with h | h; exact HNO.out j h; subst h; exact HNN.out)⟩
          case measure => simp [intOf]
        | true =>
          rw [hok] at hof
          subst hok
          have HRES : Hid (resN s.data.toList = (112, D, true)) := by
            show _ = _
            have hp : parseN 112 s.data.toList = some D := hof
            unfold resN; rw [show parseN 111 s.data.toList = none from HNO.out 0 (by omega), hp]
          clear hof
          go_wp2_with (first
        | (refine wpList_ix rfl 55 (.tmp 11) (.tmp 12) rfl _ _ _ rfl rfl ix_p ?_)
        | (go_at_call 40; refine (cutp_walk s 112 wr HS.out).mono ?_; rintro e w' ⟨rfl, rfl⟩)
        | (go_at_call 41; refine HW.out.mono ?_; rintro e w2 ⟨rfl, hb2⟩; have HB2 := Lib.hid (HB.out.trans (Below.mono hb2 HB.out.size)); have HZ2 := Lib.hid (HZ.out.kept hb2 HZ.out.lt); clear hb2)
        | (refine wpList_store_fresh rfl 25 _ _ rfl (D.map U).toArray rfl rfl HI.out HSZ.out (SAll D) ?_; intro w3 hb3 hs3 hB3; have HB9 := Lib.hid hB3; have HZ3 := Lib.hid (HZ2.out.kept hb3 HZ2.out.lt); have HNE : Hid (w2.heap.size ≠ w.heap.size) := (fun e => by have := HZ2.out.lt; omega); have HB3 := Lib.hid (HB2.out.trans (Below.mono hb3 HB2.out.size)); clear hb3 hs3 hB3))
          refine Seq.wp_region_seq (by kernel_rfl) (R := Ex w.heap.size) (Ex.refl _) (fun _ _ _ => Ex.trans) (StP w.heap.size D) [4] [[6], [30], [9], [31], [3, 32], []] [(30, spX (.string ⟨#[112, 46]⟩)), (31, spX (.int .u8 112)), (32, spX (.agg (D.map U).toArray)), (2, spX (.int .u8 112)), (4, spX (.bool true))] 35 rfl (by kernel_rfl) (by kernel_rfl) (by kernel_rfl) (by kernel_rfl) HZ3.out ?_ ?_
          · refine ⟨?_, ?_, ?_, ?_, ?_, ?_, trivial⟩
            · refine Seq.UpOb.plain (by decide) StP_keep (fun _ _ h => Ex.of_below h) rfl fun a W m hR _ hl K hK => ?_
              have h6 : a.tmps.getD 6 undef = (.string ⟨#[112, 46]⟩) := hl 6 (by decide)
              replace hK : ∀ v W2, Below W.heap.size W W2 → v = (.string ⟨#[112, 46]⟩) → K (a.put (some 30) v) W2 := fun v W2 h1 h2 => hK v W2 h1 (fun d hd => by cases hd; exact h2)
              clear hl
              simp only [Array.getD_eq_getD_getElem?] at h6
              go_simp
              exact hK _ W (Below.refl _ W) rfl
            · refine Seq.UpOb.plain (by decide) StP_keep (fun _ _ h => Ex.of_below h) rfl fun a W m hR _ hl K hK => ?_
              have h30 : a.tmps.getD 30 undef = (.string ⟨#[112, 46]⟩) := hl 30 (by decide)
              replace hK : ∀ v W2, Below W.heap.size W W2 → v = (.int .u8 112) → K (a.put (some 31) v) W2 := fun v W2 h1 h2 => hK v W2 h1 (fun d hd => by cases hd; exact h2)
              clear hl
              simp only [Array.getD_eq_getD_getElem?] at h30
              go_simp
              exact hK _ W (Below.refl _ W) rfl
            · refine Seq.UpOb.plain (by decide) StP_keep (fun _ _ h => Ex.of_below h) rfl fun a W m hR _ hl K hK => ?_
              have h9 : a.tmps.getD 9 undef = (.pointer (some ⟨w2.heap.size, 0, none⟩)) := hl 9 (by decide)
              replace hK : ∀ v W2, Below W.heap.size W W2 → v = (.agg (D.map U).toArray) → K (a.put (some 32) v) W2 := fun v W2 h1 h2 => hK v W2 h1 (fun d hd => by cases hd; exact h2)
              clear hl
              exact wp_load_row 25 (.tmp 9) rfl w2.heap.size h9 25 _ (0, 0) _ (hR.blk HB9.out HNE.out) Try.underlying25 rfl HI.out (hK _ W (Below.refl _ W) rfl)
            · refine Seq.UpOb.plain (by decide) StP_keep (fun _ _ h => Ex.of_below h) rfl fun a W m hR _ hl K hK => ?_
              have h31 : a.tmps.getD 31 undef = (.int .u8 112) := hl 31 (by decide)
              replace hK : ∀ v W2, Below W.heap.size W W2 → v = (.int .u8 112) → K (a.put (some 2) v) W2 := fun v W2 h1 h2 => hK v W2 h1 (fun d hd => by cases hd; exact h2)
              clear hl
              simp only [Array.getD_eq_getD_getElem?] at h31
              go_simp
              exact hK _ W (Below.refl _ W) rfl
            · refine Seq.UpOb.turns 0 rfl rfl fun a W hl hR hS K hK => ?_
              have h3 : a.tmps.getD 3 undef = (.pointer (some ⟨w.heap.size, 0, none⟩)) := hl 3 (by decide)
              have h32 : a.tmps.getD 32 undef = (.agg (D.map U).toArray) := hl 32 (by decide)
              exact wp_store_row 25 (.tmp 3) (.tmp 32) rfl w.heap.size _ h3 h32 25 _ hS HI.out HSZ.out (SAll D) (hK _ _ (Ex.setRow _ W _) (fun d hd => by cases hd) (Blk.setRow hS _))
            · refine Seq.UpOb.plain (by decide) StP_keep (fun _ _ h => Ex.of_below h) rfl fun a W m hR _ hl K hK => ?_
              replace hK : ∀ v W2, Below W.heap.size W W2 → v = (.bool true) → K (a.put (some 4) v) W2 := fun v W2 h1 h2 => hK v W2 h1 (fun d hd => by cases hd; exact h2)
              clear hl
              go_simp
              exact hK _ W (Below.refl _ W) rfl
          · intro a W hd hsz hR hl hS
            have h2 : a.tmps.getD 2 undef = .int .u8 112 := hl 2
            have h4 : a.tmps.getD 4 undef = .bool true := hl 4
            have h3 : a.tmps.getD 3 undef = .pointer (some ⟨w.heap.size, 0, none⟩) := hl 3
            have hS1 : Blk W w.heap.size 25 (D.map U).toArray := hS
            have hbW : Below w.heap.size w W := Ex.below HB3.out (show Ex w.heap.size w3 W from ⟨hR.os, hR.tape, hR.output, hR.size, fun k hk hne => hR.block k hk hne⟩) (Nat.le_refl _) HB3.out.size
            clear hl hsz hR hS
            go_wp2
            refine bodyPost_ret (results_three rfl _ W w.heap.size 25 _ _ h3 hS1 Try.underlying25 rfl HI.out) hd ⟨?_, hbW⟩
            rw [HRES.out, h2, h4]
            rfl
    · have HRES : Hid (resN s.data.toList = (0, zero32, false)) := by
        show _ = _
        unfold resN
        rw [show parseN 111 s.data.toList = none from HNO.out 0 (by omega), show parseN 112 s.data.toList = none from HNO.out 1 (by omega)]
      go_wp2_with (refine wpList_store_blk rfl 25 _ _ rfl w.heap.size _ rfl rfl 25 _ HZ.out (by kernel_rfl) rfl (by kernel_rfl) ?_; intro w2 hx2 hb2; have HX2 := Lib.hid hx2; have HB2 := Lib.hid hb2; clear hx2 hb2)
      exact bodyPost_ret (results_three rfl _ w2 w.heap.size 25 (zero32.map U).toArray _ rfl HB2.out Try.underlying25 rfl (by kernel_rfl)) rfl ⟨by rw [HRES.out]; rfl, Ex.below HB.out HX2.out (Nat.le_refl _) HB.out.size⟩
end Go.Proofs.Ytekhnacgejfmjaa
