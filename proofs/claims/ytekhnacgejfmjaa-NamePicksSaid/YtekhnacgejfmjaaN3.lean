/- Which texts are refs' names: the document's answer. -/
import Derived.Test.YtekhnacgejfmjaaN2
namespace Go.Proofs.Ytekhnacgejfmjaa
open Go.RowKit

/-- What a byte is, by numbers. -/
theorem byte_cases (c : UInt8) : (okc c = true ∧ ltr c = true ∧ (97 : Int) ≤ c.toNat ∧ (c.toNat : Int) ≤ 122) ∨ (okc c = true ∧ ltr c = false ∧ (48 : Int) ≤ c.toNat ∧ (c.toNat : Int) ≤ 57) ∨
    (okc c = true ∧ ltr c = false ∧ c.toNat = 45) ∨ (okc c = true ∧ ltr c = false ∧ c.toNat = 95) ∨
    (okc c = false ∧ ltr c = false ∧ (c.toNat : Int) < 48 ∧ c.toNat ≠ 45) ∨ (okc c = false ∧ ltr c = false ∧ (57 : Int) < c.toNat ∧ (c.toNat : Int) < 97 ∧ c.toNat ≠ 95) ∨ (okc c = false ∧ ltr c = false ∧ (122 : Int) < c.toNat) := by
  unfold okc ltr dig
  simp only [Bool.or_eq_true, Bool.or_eq_false_iff, decide_eq_true_eq, decide_eq_false_iff_not]
  omega
set_option maxRecDepth 100000 in
set_option maxHeartbeats 4000000 in
/-- The document's Ref. -/
theorem rref_walk (s : ByteArray) (w : World) (hs : s.size ≤ maxLen) :
    Calls Try.prog 12 #[.string s] w fun e w' => e = .returned (.bool (refB s.data.toList)) ∧ w = w' := by
  unfold maxLen at hs
  have HL : Hid (s.data.toList.length = s.size) := by show _ = _; simp
  by_cases h0 : s.size = 0
  · have HF : Hid (refB s.data.toList = false) := by show _ = _; unfold refB; rw [HL.out, h0]; rfl
    have h1 : (s.size : Int) < 1 := by omega
    rw [HF.out]
    clear h0 HF
    go_enter Try.func12, Try.ntmps12
    go_wp2
    go_ret
    exact ⟨rfl, rfl⟩
  · by_cases h24 : s.size ≤ 24
    · have hp : 0 < s.size := by omega
      have hg0 : s.data.toList.getD 0 0 = s[0] := by
        rw [List.getD_eq_getElem?_getD, Array.getElem?_toList, Array.getElem?_eq_getElem hp]; rfl
      have hr : refB s.data.toList = (ltr s[0] && s.data.toList.all okc) := by
        unfold refB
        rw [HL.out, hg0, decide_eq_true hp, decide_eq_true h24]
        rfl
      have h24' : (s.size : Int) ≤ 24 := by omega
      have hge : ¬ (s.size : Int) < 1 := by omega
      have HR := Lib.hid hr
      by_cases hlf : ltr s[0] = true
      · have HF : Hid (refB s.data.toList = s.data.toList.all okc) := by show _ = _; rw [HR.out, hlf]; rfl
        have HLF := Lib.hid hlf
        rw [HF.out]
        clear hr hlf hg0 h0 HR HF
        generalize hq : s.data.toList.all okc = q
        have HQ := Lib.hid hq
        clear hq
        go_enter Try.func12, Try.ntmps12
        go_wp2
        go_loop [3] (fun i => ∃ k : Nat, k ≤ s.size ∧ i = .int .i64 k ∧ q = (s.data.toList.drop k).all okc) (fun i => s.size - (intOf i).toNat)
        case atStart => exact ⟨0, by omega, rfl, by rw [← HQ.out]; rfl⟩
        case round =>
          obtain ⟨k, hk, rfl, hall⟩ := hrel
          by_cases hlt : k < s.size
          · have hd := all_drop (l := s.data.toList) (k := k) (by rw [HL.out]; exact hlt) okc
            have hsk : s.data.toList[k]'(by rw [HL.out]; exact hlt) = s[k] := rfl
            rw [hsk] at hd
            rw [hd] at hall
            have HA := Lib.hid hall
            have HK : Hid (k = 0 → ltr s[k] = true) := fun h => by subst h; exact HLF.out
            clear hall hd hsk
            rcases byte_cases s[k] with ⟨h1, h2, h3, h4⟩ | ⟨h1, h2, h3, h4⟩ | ⟨h1, h2, h3⟩ | ⟨h1, h2, h3⟩ | ⟨h1, h2, h3, h4⟩ | ⟨h1, h2, h3, h4, h5⟩ | ⟨h1, h2, h3⟩
            · rw [h1, Bool.true_and] at HA
              clear h1 h2
              by_cases hk0 : k = 0
              · have tk : ((k : Int) == 0) = true := by rw [hk0]; rfl
                clear hk0
                go_wp2
                go_round
                case rel => exact ⟨k + 1, by omega, by go_num, HA.out⟩
                case measure => simp [intOf]; omega
              · have tk : ((k : Int) == 0) = false := beq_false_of_ne (by omega)
                clear hk0
                go_wp2
                go_round
                case rel => exact ⟨k + 1, by omega, by go_num, HA.out⟩
                case measure => simp [intOf]; omega
            all_goals
              have hk0 : ¬ k = 0 := fun e => by have := HK.out e; rw [h2] at this; cases this
              have tk : ((k : Int) == 0) = false := beq_false_of_ne (by omega)
            · rw [h1, Bool.true_and] at HA
              have h5 : ¬ (97 : Int) ≤ (s[k].toNat : Int) := by omega
              clear h1 h2 hk0
              go_wp2
              go_round
              case rel => exact ⟨k + 1, by omega, by go_num, HA.out⟩
              case measure => simp [intOf]; omega
            · rw [h1, Bool.true_and] at HA
              have h5 : ¬ (97 : Int) ≤ (s[k].toNat : Int) := by omega
              have h6 : ¬ (48 : Int) ≤ (s[k].toNat : Int) := by omega
              have t3 : ((s[k].toNat : Int) != 45) = false := by rw [h3]; rfl
              clear h1 h2 hk0 h3
              go_wp2
              go_round
              case rel => exact ⟨k + 1, by omega, by go_num, HA.out⟩
              case measure => simp [intOf]; omega
            · rw [h1, Bool.true_and] at HA
              have h5 : ¬ (97 : Int) ≤ (s[k].toNat : Int) := by omega
              have h6 : (48 : Int) ≤ (s[k].toNat : Int) := by omega
              have h7 : ¬ (s[k].toNat : Int) ≤ 57 := by omega
              have t3 : ((s[k].toNat : Int) != 45) = true := by rw [h3]; rfl
              have t4 : ((s[k].toNat : Int) != 95) = false := by rw [h3]; rfl
              clear h1 h2 hk0 h3
              go_wp2
              go_round
              case rel => exact ⟨k + 1, by omega, by go_num, HA.out⟩
              case measure => simp [intOf]; omega
            · rw [h1, Bool.false_and] at HA
              have h5 : ¬ (97 : Int) ≤ (s[k].toNat : Int) := by omega
              have h6 : ¬ (48 : Int) ≤ (s[k].toNat : Int) := by omega
              have t3 : ((s[k].toNat : Int) != 45) = true := by simp; omega
              have t4 : ((s[k].toNat : Int) != 95) = true := by simp; omega
              clear h1 h2 hk0 h4
              go_wp2
              go_ret
              exact ⟨ret_bool HA.out.symm, rfl⟩
            · rw [h1, Bool.false_and] at HA
              have h6 : ¬ (97 : Int) ≤ (s[k].toNat : Int) := by omega
              have h7 : (48 : Int) ≤ (s[k].toNat : Int) := by omega
              have h8 : ¬ (s[k].toNat : Int) ≤ 57 := by omega
              have t3 : ((s[k].toNat : Int) != 45) = true := by simp; omega
              have t4 : ((s[k].toNat : Int) != 95) = true := by simp; omega
              clear h1 h2 hk0 h5
              go_wp2
              go_ret
              exact ⟨ret_bool HA.out.symm, rfl⟩
            · rw [h1, Bool.false_and] at HA
              have h6 : (97 : Int) ≤ (s[k].toNat : Int) := by omega
              have h7 : ¬ (s[k].toNat : Int) ≤ 122 := by omega
              have h8 : (48 : Int) ≤ (s[k].toNat : Int) := by omega
              have h9 : ¬ (s[k].toNat : Int) ≤ 57 := by omega
              have t3 : ((s[k].toNat : Int) != 45) = true := by simp; omega
              have t4 : ((s[k].toNat : Int) != 95) = true := by simp; omega
              clear h1 h2 hk0
              go_wp2
              go_ret
              exact ⟨ret_bool HA.out.symm, rfl⟩
          · obtain rfl : k = s.size := by omega
            rw [List.drop_eq_nil_of_le (by rw [HL.out]; exact Nat.le_refl _)] at hall
            have HA := Lib.hid hall
            clear hall
            go_wp2
            go_ret
            exact ⟨ret_bool HA.out.symm, rfl⟩
      · have hlf2 : ltr s[0] = false := by simpa using hlf
        have HF : Hid (refB s.data.toList = false) := by show _ = _; rw [HR.out, hlf2]; rfl
        rw [HF.out]
        have hc : (s[0].toNat : Int) < 97 ∨ (122 : Int) < s[0].toNat := by
          unfold ltr at hlf2
          rw [decide_eq_false_iff_not] at hlf2
          omega
        clear hr hlf hlf2 hg0 h0 HR HF
        rcases hc with hc | hc
        · have h5 : ¬ (97 : Int) ≤ (s[0].toNat : Int) := by omega
          go_enter Try.func12, Try.ntmps12
          go_wp2
          go_loop [3] (fun i => i = .int .i64 0) (fun _ => 0)
          case atStart => exact rfl
          case round =>
            obtain rfl := hrel
            go_wp2
            go_ret
            exact ⟨rfl, rfl⟩
        · have h5 : (97 : Int) ≤ (s[0].toNat : Int) := by omega
          have h6 : ¬ (s[0].toNat : Int) ≤ 122 := by omega
          have t6 : decide ((s[0].toNat : Int) ≤ 122) = false := decide_eq_false h6
          go_enter Try.func12, Try.ntmps12
          go_wp2
          go_loop [3] (fun i => i = .int .i64 0) (fun _ => 0)
          case atStart => exact rfl
          case round =>
            obtain rfl := hrel
            go_wp2
            go_ret
            exact ⟨rfl, rfl⟩
    · have HF : Hid (refB s.data.toList = false) := by
        show _ = _
        unfold refB
        rw [HL.out, decide_eq_false h24, Bool.false_and, Bool.and_false]
      have h24' : ¬ (s.size : Int) ≤ 24 := by omega
      have hge : ¬ (s.size : Int) < 1 := by omega
      rw [HF.out]
      clear h0 HF
      go_enter Try.func12, Try.ntmps12
      go_wp2
      go_ret
      exact ⟨rfl, rfl⟩
end Go.Proofs.Ytekhnacgejfmjaa
