/- Which texts are refs' names: both walks. -/
import Derived.Test.YtekhnacgejfmjaaN1
import Derived.Laws.IdiomStrings
import Derived.Laws.AppendOwn
import Derived.Laws.CopyRow
namespace Go.Proofs.Ytekhnacgejfmjaa
open Go.RowKit

theorem wpList_bytes {ops : Array Oper} {rest : List Oper} {o : Oper} {a : Act} {w : World} {Q : Exit → Act → World → Prop} (y : Operand) (ho : o.op = .convert 9 54 y) (hgd : o.guard = none) (s : ByteArray) (hy : a.eval y = .string s)
    (hk : ∀ g cap w', (∀ j (h : j < s.size), w'.cell? ⟨g, j, none⟩ = some (.int .u8 (s[j].toNat : Int))) → Below w.heap.size w w' → wpList Try.prog ops Q rest (a.put o.dst (.slice (some ⟨g, 0, none⟩) s.size cap)) w') : wpList Try.prog ops Q (o :: rest) a w := by
  refine wpList_plain hgd fun K hK => ?_
  have hr := run_bytes_of_string (P := Try.prog) w 9 54 5 s Try.underlying9 Try.underlying54 Try.underlying5
  unfold Oper.wp execOp
  simp only [ho, hy, Sem.run_bind, Sem.run_pure, Result.andThen_ok, hr]
  refine hK _ _ (hk _ _ _ (fun j hj => ?_) ((Below.refl _ w).drew.alloc (Nat.le_refl _) _))
  rw [cell_of_row _ w.heap.size j _ 5 _ (heap_alloc_new w.drew _)]
  unfold bytesRow
  rw [Array.getElem?_append_left (by simpa using hj), Array.getElem?_map]
  rw [show s.data[j]? = some s[j] from by rw [Array.getElem?_eq_getElem hj]; rfl]
  rfl
def ltr (c : UInt8) : Bool := decide (97 ≤ c.toNat ∧ c.toNat ≤ 122)
def dig (c : UInt8) : Bool := decide (48 ≤ c.toNat ∧ c.toNat ≤ 57)
def okc (c : UInt8) : Bool := ltr c || dig c || decide (c.toNat = 45) || decide (c.toNat = 95)
/-- Whether it is a ref's name. -/
def refB (l : List UInt8) : Bool := decide (0 < l.length) && (decide (l.length ≤ 24) && (ltr (l.getD 0 0) && l.all okc))
theorem ltr_walk (c : UInt8) (w : World) : Calls Try.prog 37 #[.int .u8 (c.toNat : Int)] w fun e w' => e = .returned (.bool (ltr c)) ∧ w = w' := by
  unfold ltr
  by_cases h1 : 97 ≤ c.toNat
  · by_cases h2 : c.toNat ≤ 122
    · have h3 : (97 : Int) ≤ (c.toNat : Int) := by omega
      have h4 : (c.toNat : Int) ≤ 122 := by omega
      rw [decide_eq_true ⟨h1, h2⟩]
      go_enter Try.func37, Try.ntmps37
      go_wp2
      go_ret
      exact ⟨rfl, rfl⟩
    · have h3 : (97 : Int) ≤ (c.toNat : Int) := by omega
      have h4 : ¬ (c.toNat : Int) ≤ 122 := by omega
      rw [decide_eq_false (fun h => h2 h.2)]
      go_enter Try.func37, Try.ntmps37
      go_wp2
      go_ret
      exact ⟨rfl, rfl⟩
  · have h3 : ¬ (97 : Int) ≤ (c.toNat : Int) := by omega
    rw [decide_eq_false (fun h => h1 h.1)]
    go_enter Try.func37, Try.ntmps37
    go_wp2
    go_ret
    exact ⟨rfl, rfl⟩
theorem dig_walk (c : UInt8) (w : World) : Calls Try.prog 38 #[.int .u8 (c.toNat : Int)] w fun e w' => e = .returned (.bool (dig c)) ∧ w = w' := by
  unfold dig
  by_cases h1 : 48 ≤ c.toNat
  · by_cases h2 : c.toNat ≤ 57
    · have h3 : (48 : Int) ≤ (c.toNat : Int) := by omega
      have h4 : (c.toNat : Int) ≤ 57 := by omega
      rw [decide_eq_true ⟨h1, h2⟩]
      go_enter Try.func38, Try.ntmps38
      go_wp2
      go_ret
      exact ⟨rfl, rfl⟩
    · have h3 : (48 : Int) ≤ (c.toNat : Int) := by omega
      have h4 : ¬ (c.toNat : Int) ≤ 57 := by omega
      rw [decide_eq_false (fun h => h2 h.2)]
      go_enter Try.func38, Try.ntmps38
      go_wp2
      go_ret
      exact ⟨rfl, rfl⟩
  · have h3 : ¬ (48 : Int) ≤ (c.toNat : Int) := by omega
    rw [decide_eq_false (fun h => h1 h.1)]
    go_enter Try.func38, Try.ntmps38
    go_wp2
    go_ret
    exact ⟨rfl, rfl⟩
theorem all_drop {l : List UInt8} {k : Nat} (h : k < l.length) (p : UInt8 → Bool) : (l.drop k).all p = (p l[k] && (l.drop (k + 1)).all p) := by
  rw [List.drop_eq_getElem_cons h, List.all_cons]
theorem ret_bool {a b : Bool} (h : a = b) : Ending.returned (.bool a) = .returned (.bool b) := by rw [h]
set_option maxRecDepth 100000 in
set_option maxHeartbeats 4000000 in
/-- name.Ref. -/
theorem ref_walk (s : ByteArray) (w : World) (hs : s.size ≤ maxLen) :
    Calls Try.prog 11 #[.string s] w fun e w' => e = .returned (.bool (refB s.data.toList)) ∧ Below w.heap.size w w' := by
  unfold maxLen at hs
  have HL : Hid (s.data.toList.length = s.size) := by show _ = _; simp
  by_cases h0 : s.size = 0
  · have e1 : refB s.data.toList = false := by unfold refB; rw [HL.out, h0]; rfl
    obtain rfl : s = ⟨#[]⟩ := by cases s; congr 1; exact Array.eq_empty_of_size_eq_zero h0
    rw [e1]
    clear e1 h0 HL hs
    go_enter Try.func11, Try.ntmps11
    go_wp2
    go_ret
    exact ⟨rfl, Below.refl _ _⟩
  · have t1 : ¬ s.toList = [] := by
      rw [ByteArray.toList_eq]
      intro h
      have := HL.out
      rw [h] at this
      exact h0 this.symm
    have t2 : s.toList.isEmpty = false := by cases hl : s.toList with | nil => exact absurd hl t1 | cons _ _ => rfl
    by_cases h24 : s.size ≤ 24
    · have hp : 0 < s.size := by omega
      have hg0 : s.data.toList.getD 0 0 = s[0] := by
        rw [List.getD_eq_getElem?_getD, Array.getElem?_toList, Array.getElem?_eq_getElem hp]; rfl
      have hr : refB s.data.toList = (ltr s[0] && s.data.toList.all okc) := by
        unfold refB
        rw [HL.out, hg0, decide_eq_true hp, decide_eq_true h24]
        rfl
      have h24' : (s.size : Int) ≤ 24 := by omega
      have HR := Lib.hid hr
      have h0w := ltr_walk s[0] w
      by_cases hlf : ltr s[0] = true
      · rw [hlf] at h0w
        have HW := Lib.hid h0w
        have HF : Hid (refB s.data.toList = s.data.toList.all okc) := by show _ = _; rw [HR.out, hlf]; rfl
        rw [HF.out]
        clear h0w hr hlf hg0 h0 HR HF
        generalize hq : s.data.toList.all okc = q
        have HQ := Lib.hid hq
        clear hq
        go_enter Try.func11, Try.ntmps11
        go_wp2_with (first
          | (go_at_call 37; refine HW.out.mono ?_; rintro e w' ⟨rfl, rfl⟩)
          | (refine wpList_bytes _ rfl rfl s rfl ?_; intro g cap w1 hc1 hb1; have HC := Lib.hid hc1; have HB := Lib.hid hb1; clear hc1 hb1))
        go_loop [21] (fun i => ∃ k : Nat, k ≤ s.size ∧ i = .int .i64 k ∧ q = (s.data.toList.drop k).all okc) (fun i => s.size - (intOf i).toNat)
        case atStart => exact ⟨0, by omega, rfl, by rw [← HQ.out]; rfl⟩
        case round =>
          obtain ⟨k, hk, rfl, hall⟩ := hrel
          by_cases hlt : k < s.size
          · have hd := all_drop (l := s.data.toList) (k := k) (by rw [HL.out]; exact hlt) okc
            have hsk : s.data.toList[k]'(by rw [HL.out]; exact hlt) = s[k] := rfl
            rw [hsk] at hd
            rw [hd] at hall
            have HA := Lib.hid hall
            have hcell := HC.out k hlt
            have hl := fun w => ltr_walk s[k] w
            have hdg := fun w => dig_walk s[k] w
            clear hall hd hsk
            generalize s[k] = c at *
            have hcl : ltr c = true ∨ (ltr c = false ∧ dig c = true) ∨ (ltr c = false ∧ dig c = false ∧ c.toNat = 45) ∨ (ltr c = false ∧ dig c = false ∧ c.toNat ≠ 45 ∧ c.toNat = 95) ∨ (ltr c = false ∧ dig c = false ∧ c.toNat ≠ 45 ∧ c.toNat ≠ 95) := by
              cases ltr c <;> cases dig c <;> simp <;> omega
            rcases hcl with h | ⟨h1, h2⟩ | ⟨h1, h2, h3⟩ | ⟨h1, h2, h3, h4⟩ | ⟨h1, h2, h3, h4⟩
            · have hok : okc c = true := by unfold okc; rw [h]; rfl
              rw [hok, Bool.true_and] at HA
              have hl1 := hl w1
              rw [h] at hl1
              have HL1 := Lib.hid hl1
              clear hl hdg hl1 h hok
              go_wp2_with (go_at_call 37; refine HL1.out.mono ?_; rintro e w' ⟨rfl, rfl⟩)
              go_round
              case rel => exact ⟨k + 1, by omega, by go_num, HA.out⟩
              case measure => simp [intOf]; omega
            · have hok : okc c = true := by unfold okc; rw [h1, h2]; rfl
              rw [hok, Bool.true_and] at HA
              have hl1 := hl w1
              have hl2 := hdg w1
              rw [h1] at hl1
              rw [h2] at hl2
              have HL1 := Lib.hid hl1
              have HL2 := Lib.hid hl2
              clear hl hdg hl1 hl2 h1 h2 hok
              go_wp2_with (first | (go_at_call 37; refine HL1.out.mono ?_; rintro e w' ⟨rfl, rfl⟩) | (go_at_call 38; refine HL2.out.mono ?_; rintro e w' ⟨rfl, rfl⟩))
              go_round
              case rel => exact ⟨k + 1, by omega, by go_num, HA.out⟩
              case measure => simp [intOf]; omega
            · have hok : okc c = true := by unfold okc; rw [h1, h2, h3]; rfl
              rw [hok, Bool.true_and] at HA
              have hl1 := hl w1
              have hl2 := hdg w1
              rw [h1] at hl1
              rw [h2] at hl2
              have HL1 := Lib.hid hl1
              have HL2 := Lib.hid hl2
              have t3 : ((c.toNat : Int) != 45) = false := by rw [h3]; rfl
              clear hl hdg hl1 hl2 h1 h2 hok h3
              go_wp2_with (first | (go_at_call 37; refine HL1.out.mono ?_; rintro e w' ⟨rfl, rfl⟩) | (go_at_call 38; refine HL2.out.mono ?_; rintro e w' ⟨rfl, rfl⟩))
              go_round
              case rel => exact ⟨k + 1, by omega, by go_num, HA.out⟩
              case measure => simp [intOf]; omega
            · have hok : okc c = true := by unfold okc; rw [h1, h2, h4]; rfl
              rw [hok, Bool.true_and] at HA
              have hl1 := hl w1
              have hl2 := hdg w1
              rw [h1] at hl1
              rw [h2] at hl2
              have HL1 := Lib.hid hl1
              have HL2 := Lib.hid hl2
              have t3 : ((c.toNat : Int) != 45) = true := by rw [h4]; rfl
              have t4 : ((c.toNat : Int) != 95) = false := by rw [h4]; rfl
              clear hl hdg hl1 hl2 h1 h2 hok h3 h4
              go_wp2_with (first | (go_at_call 37; refine HL1.out.mono ?_; rintro e w' ⟨rfl, rfl⟩) | (go_at_call 38; refine HL2.out.mono ?_; rintro e w' ⟨rfl, rfl⟩))
              go_round
              case rel => exact ⟨k + 1, by omega, by go_num, HA.out⟩
              case measure => simp [intOf]; omega
            · have hok : okc c = false := by unfold okc; rw [h1, h2, decide_eq_false h3, decide_eq_false h4]; rfl
              rw [hok, Bool.false_and] at HA
              have hl1 := hl w1
              have hl2 := hdg w1
              rw [h1] at hl1
              rw [h2] at hl2
              have HL1 := Lib.hid hl1
              have HL2 := Lib.hid hl2
              have t3 : ((c.toNat : Int) != 45) = true := by simp; omega
              have t4 : ((c.toNat : Int) != 95) = true := by simp; omega
              clear hl hdg hl1 hl2 h1 h2 hok h3 h4
              go_wp2_with (first | (go_at_call 37; refine HL1.out.mono ?_; rintro e w' ⟨rfl, rfl⟩) | (go_at_call 38; refine HL2.out.mono ?_; rintro e w' ⟨rfl, rfl⟩))
              go_ret
              exact ⟨ret_bool HA.out.symm, HB.out⟩
          · obtain rfl : k = s.size := by omega
            rw [List.drop_eq_nil_of_le (by rw [HL.out]; exact Nat.le_refl _)] at hall
            have HA := Lib.hid hall
            clear hall
            go_wp2
            go_ret
            exact ⟨ret_bool HA.out.symm, HB.out⟩
      · have hlf2 : ltr s[0] = false := by simpa using hlf
        rw [hlf2] at h0w
        have HW := Lib.hid h0w
        have HF : Hid (refB s.data.toList = false) := by show _ = _; rw [HR.out, hlf2]; rfl
        rw [HF.out]
        clear h0w hr hlf hlf2 hg0 h0 HR HF
        go_enter Try.func11, Try.ntmps11
        go_wp2_with (go_at_call 37; refine HW.out.mono ?_; rintro e w' ⟨rfl, rfl⟩)
        go_ret
        exact ⟨rfl, Below.refl _ _⟩
    · have HF : Hid (refB s.data.toList = false) := by
        show _ = _
        unfold refB
        rw [HL.out, decide_eq_false h24, Bool.false_and, Bool.and_false]
      have h24' : ¬ (s.size : Int) ≤ 24 := by omega
      rw [HF.out]
      clear h0 HF
      go_enter Try.func11, Try.ntmps11
      go_wp2
      go_ret
      exact ⟨rfl, Below.refl _ _⟩
end Go.Proofs.Ytekhnacgejfmjaa
