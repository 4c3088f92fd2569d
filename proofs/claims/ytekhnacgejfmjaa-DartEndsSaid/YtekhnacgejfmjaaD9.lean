/- The document's Insert and Without. -/
import Derived.Test.YtekhnacgejfmjaaD8
namespace Go.Proofs.Ytekhnacgejfmjaa
open Go.RowKit

/-- What is laid, behind so many. -/
def insK (l : List UInt32) (P : Nat) (m : List UInt32) (k : Nat) : List UInt32 := if k < P then l.take k else l.take P ++ (m ++ (l.drop P).take (k - P))
theorem insK_zero (l : List UInt32) (P : Nat) (m : List UInt32) (h : 0 < P) : insK l P m 0 = [] := by unfold insK; rw [if_pos h]; rfl
theorem insK_put (l : List UInt32) (P : Nat) (m : List UInt32) (k : Nat) (hk : k < l.length) (h : k + 1 = P) : insK l P m k ++ [l.getD k 0] ++ m = insK l P m (k + 1) := by
  subst h
  unfold insK
  rw [if_pos (by omega), if_neg (by omega), ← getD_at hk, ← List.take_succ_eq_append_getElem hk]
  simp
theorem insK_on (l : List UInt32) (P : Nat) (m : List UInt32) (k : Nat) (hk : k < l.length) (h : k + 1 ≠ P) : insK l P m k ++ [l.getD k 0] = insK l P m (k + 1) := by
  unfold insK
  by_cases c : k < P
  · rw [if_pos c, if_pos (by omega), ← getD_at hk, ← List.take_succ_eq_append_getElem hk]
  · rw [if_neg c, if_neg (by omega), List.append_assoc, List.append_assoc]
    congr 2
    rw [show k + 1 - P = (k - P) + 1 by omega, List.take_succ_eq_append_getElem (by rw [List.length_drop]; omega), List.getElem_drop]
    congr 2
    rw [getD_at (by omega)]
    congr 1
    omega
theorem insK_end (l : List UInt32) (P : Nat) (m : List UInt32) (h : P ≤ l.length) (h0 : 0 < l.length) : insK l P m l.length = l.take P ++ (m ++ l.drop P) := by
  unfold insK
  rw [if_neg (by omega)]
  congr 2
  rw [List.take_of_length_le]
  rw [List.length_drop]; omega
theorem insK_len (l : List UInt32) (P : Nat) (m : List UInt32) (k : Nat) (hk : k ≤ l.length) : (insK l P m k).length ≤ k + m.length := by
  unfold insK
  split
  · rw [List.length_take]; omega
  · rw [List.length_append, List.length_append, List.length_take, List.length_take, List.length_drop]; omega
/-- Whether it isn't in there. -/
def out (m : List UInt32) (x : UInt32) : Bool := !decide (fst m x < m.length)
/-- Without these. -/
def wo (l m : List UInt32) : List UInt32 := norm (l.filter (out m))
theorem filt_succ (l : List UInt32) (p : UInt32 → Bool) (k : Nat) (h : k < l.length) : (l.take (k + 1)).filter p = (l.take k).filter p ++ if p (l.getD k 0) then [l.getD k 0] else [] := by
  rw [List.take_succ_eq_append_getElem h, List.filter_append, getD_at h]
  generalize l.getD k 0 = x
  cases hp : p x <;> simp [hp]
theorem filt_len (l : List UInt32) (p : UInt32 → Bool) (k : Nat) (h : k ≤ l.length) : ((l.take k).filter p).length ≤ k := by
  have := List.length_filter_le p (l.take k)
  rw [List.length_take] at this
  omega
attribute [local irreducible] V
set_option maxHeartbeats 1000000 in
theorem rinsert_rv (w : World) (v u : Value) (l m : List UInt32) (d : UInt32) (h : RV w v l) (h2 : RV w u m) (hlm : l.length + m.length ≤ 1000000) :
    Calls Try.prog 32 #[v, V d, u] w fun e w' => ∃ x, e = .returned x ∧ RV w' x (ins l d m) ∧ Below w.heap.size w w' := by
  have HI := Lib.hid (find_rv w v l d h)
  have hRV := h
  obtain ⟨A, c, rfl, hc, hr⟩ := h
  obtain ⟨B, c2, rfl, hc2, hr2⟩ := h2
  have hlen := hr.len
  have HLM := Lib.hid hlm
  have H := Lib.hid hr
  have H2 := Lib.hid hr2
  clear hr hr2 hRV hc hc2
  have HIP := Lib.hid (ip_le l d)
  by_cases h0 : l.length = 0
  · obtain rfl : l = [] := List.length_eq_zero_iff.1 h0
    have hi := HI.out
    have e1 : ix ([] : List UInt32) d = -1 := rfl
    have HE : Hid (ins [] d m = norm m) := by show norm _ = _; simp
    rw [e1] at hi
    have HI2 := Lib.hid hi
    rw [HE.out]
    clear hi HI hlm e1
    go_enter Try.func32, Try.ntmps32
    go_wp2_with (go_at_call 48; refine HI2.out.mono ?_; rintro e w' ⟨rfl, rfl⟩)
    go_loopw [8, 21] (fun v i wr => v = .slice none 0 0 ∧ i = .int .i64 0 ∧ wr = w) (fun _ _ _ => 0)
    case atStart => exact ⟨rfl, rfl, rfl⟩
    case round =>
      obtain ⟨rfl, rfl, rfl⟩ := hrel
      go_wp2_with (first
        | (refine wpList_append_rd rfl (.tmp 40) (.tmp 41) rfl wr.heap.size (.slice none 0 0) [] m B c2 rfl rfl (Ow.nil _ _) H2.out (by simpa using HLM.out) (Nat.le_refl _) ?_; intro v2 w2 ho2 hb2; have HO2 := Lib.hid ho2; have HB2 := Lib.hid hb2; clear ho2 hb2)
        | (go_at_call 26; refine (rnorm_rv _ _ m (HO2.out.rv (by simpa using HLM.out))).mono ?_; rintro e w3 ⟨v3, rfl, h3, hb3⟩; have H3 := Lib.hid h3; have HB3 := Lib.hid hb3; clear h3 hb3))
      go_ret
      exact ⟨_, rfl, H3.out, HB2.out.trans (Below.mono HB3.out HB2.out.size)⟩
  · have hl0 : 0 < l.length := by omega
    have HL0 := Lib.hid hl0
    have HP : Hid (0 < ip l d) := by
      show 0 < ip l d
      unfold ip
      split <;> omega
    have ht0 : ((l.length : Int) == 0) = false := beq_false_of_ne (by omega)
    have key : ∀ (at' : Int), at' = (ip l d : Int) - 1 → ∀ (Q : Exit → Act → World → Prop) (T : Array Value) , True := fun _ _ _ _ => trivial
    clear key
    unfold ins
    have HC : Hid ((l.take (ip l d) ++ (m ++ l.drop (ip l d))).length ≤ 1000000) := by
      show _ ≤ _
      simp only [List.length_append, List.length_take, List.length_drop]
      have := HIP.out
      omega
    by_cases hlt : fst l d < l.length
    all_goals
      have hi := HI.out
      first | rw [ix_lt hlt] at hi | rw [ix_ge hlt] at hi
      have HI2 := Lib.hid hi
      have hat : ∃ at' : Int, Hid (at' = (ip l d : Int) - 1) ∧ Hid (at' = if fst l d < l.length then (fst l d : Int) else (l.length : Int) - 1) := by
        refine ⟨(ip l d : Int) - 1, rfl, ?_⟩
        show _ = _
        unfold ip
        split <;> omega
      obtain ⟨at', HA, HB⟩ := hat
      first | (have hb' : at' = (fst l d : Int) := by rw [HB.out, if_pos hlt]) | (have hb' : at' = (l.length : Int) - 1 := by rw [HB.out, if_neg hlt])
      have HAT := Lib.hid hb'
      clear hi HI hb' HB h0 hl0
      go_enter Try.func32, Try.ntmps32
      go_wp2_with (go_at_call 48; refine HI2.out.mono ?_; rintro e w' ⟨rfl, rfl⟩)
      rw [← HAT.out]
      generalize hPE : ip l d = P at *
      have HPE := Lib.hid hPE
      clear hPE
      clear HAT HI2 hlt
      go_loopw [8, 21] (fun v i wr => ∃ k : Nat, k ≤ l.length ∧ i = .int .i64 k ∧ Ow wr w.heap.size v (insK l P m k) ∧ Below w.heap.size w wr) (fun _ i _ => l.length - (intOf i).toNat)
      case atStart => exact ⟨0, by omega, rfl, by rw [insK_zero l P m HP.out]; exact Ow.nil _ _, Below.refl _ _⟩
      case round =>
        obtain ⟨k, hk, rfl, ho, hb⟩ := hrel
        have HO := Lib.hid ho
        have HBL := Lib.hid hb
        clear ho hb
        have HKL := Lib.hid (insK_len l P m k hk)
        by_cases hlt : k < l.length
        · obtain ⟨b, o, hA, hcell⟩ := (H.out.kept HBL.out (Nat.le_refl _)).spot (by omega)
          subst hA
          have hc1 := hcell k hlt
          rw [getD_at hlt] at hc1
          clear hcell
          by_cases hP : k + 1 = P
          · have HS := Lib.hid (insK_put l P m k hlt hP)
            have hq : ((k : Int) == at') = true := by
              have := HA.out
              rw [beq_iff_eq]; omega
            have hlm2 : (insK l P m k).length + 1 + m.length ≤ 1000000 ∨ True := .inr trivial
            have HLS : Hid ((insK l P m k ++ [l.getD k 0]).length + m.length ≤ 1000000) := by
              show _ ≤ _
              have e : (insK l P m k).length = k := by unfold insK; rw [if_pos (by omega), List.length_take]; omega
              have := HLM.out
              rw [List.length_append, e, List.length_singleton]
              omega
            clear hlm2 hP
            generalize l.getD k 0 = x at *
            have r6 := V_cells x
            unfold Value.cells at r6
            go_wp2_with (first
              | (refine wpList_append_rd rfl (.tmp 26) (.tmp 28) rfl w.heap.size _ _ [x] (some ⟨wr.heap.size, 0, none⟩) 1 rfl rfl (HO.out.alloc _) (Rd.fresh wr [x] (by simp)) (by have := HKL.out; have := HLM.out; simp; omega) (by have := HBL.out.size; simp; omega) ?_; intro v2 w2 ho2 hb2; have HO2 := Lib.hid ho2; have HB2 := Lib.hid ((HBL.out.alloc HBL.out.size _).trans hb2); clear ho2 hb2)
              | (refine wpList_append_rd rfl (.tmp 33) (.tmp 34) rfl w.heap.size _ _ m B c2 rfl rfl HO2.out (H2.out.kept HB2.out (Nat.le_refl _)) HLS.out HB2.out.size ?_; intro v3 w3 ho3 hb3; have HO3 := Lib.hid ho3; have HB3 := Lib.hid (HB2.out.trans hb3); clear ho3 hb3))
            go_roundw
            case rel => exact ⟨k + 1, by omega, by go_num, by rw [← HS.out]; exact HO3.out, HB3.out⟩
            case measure => simp [intOf]; omega
          · have HS := Lib.hid (insK_on l P m k hlt hP)
            have hq : ((k : Int) == at') = false := by
              have := HA.out
              exact beq_false_of_ne (by omega)
            clear hP
            generalize l.getD k 0 = x at *
            have r6 := V_cells x
            unfold Value.cells at r6
            go_wp2_with (refine wpList_append_rd rfl (.tmp 26) (.tmp 28) rfl w.heap.size _ _ [x] (some ⟨wr.heap.size, 0, none⟩) 1 rfl rfl (HO.out.alloc _) (Rd.fresh wr [x] (by simp)) (by have := HKL.out; have := HLM.out; simp; omega) (by have := HBL.out.size; simp; omega) ?_; intro v2 w2 ho2 hb2; have HO2 := Lib.hid ho2; have HB2 := Lib.hid ((HBL.out.alloc HBL.out.size _).trans hb2); clear ho2 hb2)
            go_roundw
            case rel => exact ⟨k + 1, by omega, by go_num, by rw [← HS.out]; exact HO2.out, HB2.out⟩
            case measure => simp [intOf]; omega
        · obtain rfl : k = l.length := by omega
          have hE := insK_end l P m HIP.out HL0.out
          have ho := HO.out
          rw [hE] at ho
          have HV := Lib.hid (ho.rv HC.out)
          clear hE ho
          generalize hQE : l.take P ++ (m ++ l.drop P) = q at *
          have HQE := Lib.hid hQE
          clear hQE
          go_wp2_with (go_at_call 26; refine (rnorm_rv _ _ _ HV.out).mono ?_; rintro e w3 ⟨v3, rfl, h3, hb3⟩; have H3 := Lib.hid h3; have HB3 := Lib.hid hb3; clear h3 hb3)
          go_ret
          exact ⟨_, rfl, by rw [HPE.out, HQE.out]; exact H3.out, HBL.out.trans (Below.mono HB3.out HBL.out.size)⟩
set_option maxHeartbeats 1000000 in
theorem rwithout_rv (w : World) (v u : Value) (l m : List UInt32) (h : RV w v l) (h2 : RV w u m) :
    Calls Try.prog 34 #[v, u] w fun e w' => ∃ x, e = .returned x ∧ RV w' x (wo l m) ∧ Below w.heap.size w w' := by
  obtain ⟨A, c, rfl, hc, hr⟩ := h
  have hlen := hr.len
  have H := Lib.hid hr
  have H2 := Lib.hid h2
  clear hr hc h2
  unfold wo
  go_enter Try.func34, Try.ntmps34
  go_wp2
  go_loopw [5, 10] (fun v i wr => ∃ k : Nat, k ≤ l.length ∧ i = .int .i64 k ∧ Ow wr w.heap.size v ((l.take k).filter (out m)) ∧ Below w.heap.size w wr) (fun _ i _ => l.length - (intOf i).toNat)
  case atStart => exact ⟨0, by omega, rfl, Ow.nil _ _, Below.refl _ _⟩
  case round =>
    obtain ⟨k, hk, rfl, ho, hb⟩ := hrel
    have HO := Lib.hid ho
    have HB := Lib.hid hb
    clear ho hb
    by_cases hlt : k < l.length
    · obtain ⟨b, o, rfl, hcell⟩ := (H.out.kept HB.out (Nat.le_refl _)).spot (by omega)
      have hc1 := hcell k hlt
      rw [getD_at hlt] at hc1
      clear hcell
      have hs := filt_succ l (out m) k hlt
      have HFL := Lib.hid (filt_len l (out m) k (by omega))
      generalize l.getD k 0 = x at *
      have hf := find_rv wr u m x (H2.out.kept HB.out)
      have r6 := V_cells x
      unfold Value.cells at r6
      by_cases hx : fst m x < m.length
      · rw [ix_lt hx] at hf
        have hp : out m x = false := by unfold out; simp [hx]
        rw [hp, if_neg (by decide), List.append_nil] at hs
        have HS := Lib.hid hs
        have HF := Lib.hid hf
        clear hs hf hp hx
        go_wp2_with (go_at_call 48; refine HF.out.mono ?_; rintro e w' ⟨rfl, rfl⟩)
        go_roundw
        case rel => exact ⟨k + 1, by omega, by go_num, by rw [HS.out]; exact HO.out, HB.out⟩
        case measure => simp [intOf]; omega
      · rw [ix_ge hx] at hf
        have hp : out m x = true := by unfold out; simp [hx]
        rw [hp, if_pos rfl] at hs
        have HS := Lib.hid hs
        have HF := Lib.hid hf
        clear hs hf hp hx
        go_wp2_with (first
          | (go_at_call 48; refine HF.out.mono ?_; rintro e w' ⟨rfl, rfl⟩)
          | (refine wpList_append_rd rfl (.tmp 18) (.tmp 20) rfl w.heap.size _ _ [x] (some ⟨wr.heap.size, 0, none⟩) 1 rfl rfl (HO.out.alloc _) (Rd.fresh wr [x] (by simp)) (by have := HFL.out; simp only [List.length_singleton]; omega) (by have := HB.out.size; simp; omega) ?_; intro v2 w2 ho2 hb2; have HO2 := Lib.hid ho2; have HB2 := Lib.hid ((HB.out.alloc HB.out.size _).trans hb2); clear ho2 hb2))
        go_roundw
        case rel => exact ⟨k + 1, by omega, by go_num, by rw [HS.out]; exact HO2.out, HB2.out⟩
        case measure => simp [intOf]; omega
    · obtain rfl : k = l.length := by omega
      have ho := HO.out
      have hfl := filt_len l (out m) l.length (Nat.le_refl _)
      rw [List.take_length] at ho hfl
      have HV := Lib.hid (ho.rv (by omega))
      clear ho hfl
      generalize hQE : l.filter (out m) = q at *
      have HQE := Lib.hid hQE
      clear hQE
      go_wp2_with (go_at_call 26; refine (rnorm_rv _ _ _ HV.out).mono ?_; rintro e w3 ⟨v3, rfl, h3, hb3⟩; have H3 := Lib.hid h3; have HB3 := Lib.hid hb3; clear h3 hb3)
      go_ret
      exact ⟨_, rfl, by rw [HQE.out]; exact H3.out, HB.out.trans (Below.mono HB3.out HB.out.size)⟩
end Go.Proofs.Ytekhnacgejfmjaa
