/- Digests as text, and back: what is said of lists. -/
import Derived.Test.YtcbfnbmkogeehaaDoorX2
import Derived.Lib.Bytealg
namespace Go.Proofs.YtcbfnbmkogeehaaDoor
open Go.RowKit
def hexV (c : UInt8) : Option Nat := if 48 ≤ c.toNat ∧ c.toNat ≤ 57 then some (c.toNat - 48) else if 97 ≤ c.toNat ∧ c.toNat ≤ 102 then some (c.toNat - 87) else none
theorem hexV_lt {c : UInt8} {v : Nat} (h : hexV c = some v) : v < 16 := by
  unfold hexV at h
  split at h
  · injection h with h; omega
  · split at h
    · injection h with h; omega
    · cases h
theorem hexV_D : ∀ n, n < 16 → hexV (hexD n) = some n := by decide
theorem hexD_V {c : UInt8} {v : Nat} (h : hexV c = some v) : hexD v = c := by
  have hv := hexV_lt h
  apply UInt8.toNat_inj.1
  unfold hexV at h
  unfold hexD
  split at h
  · injection h with h
    rw [if_pos (by omega)]
    show (48 + v) % 256 = _
    omega
  · split at h
    · injection h with h
      rw [if_neg (by omega)]
      show (87 + v) % 256 = _
      omega
    · cases h
theorem nib : ∀ x, x < 16 → ∀ y, y < 16 → ((0 : UInt8) <<< 4 ||| UInt8.ofNat x) <<< 4 ||| UInt8.ofNat y = UInt8.ofNat (16 * x + y) := by decide
/-- One digit more laid into the row. -/
def stepP (D : List UInt8) (i v : Nat) : List UInt8 := D.set (i / 2) (D.getD (i / 2) 0 <<< 4 ||| UInt8.ofNat v)
def goP : Nat → List UInt8 → List UInt8 → Option (List UInt8)
  | _, [], D => some D
  | i, c :: r, D => match hexV c with | some v => goP (i + 1) r (stepP D i v) | none => none
def zero32 : List UInt8 := List.replicate 32 0
def parseL (l : List UInt8) : Option (List UInt8) := if l.length = 64 then goP 0 l zero32 else none
def pairs : List UInt8 → Option (List UInt8)
  | a :: b :: r => match hexV a, hexV b with | some x, some y => (pairs r).map (UInt8.ofNat (16 * x + y) :: ·) | _, _ => none
  | [] => some []
  | _ => none
theorem stepP_length (D : List UInt8) (i v : Nat) : (stepP D i v).length = D.length := by simp [stepP]
theorem goP_pairs : ∀ (n k : Nat) (l pre : List UInt8), l.length = 2 * n → pre.length = k → goP (2 * k) l (pre ++ List.replicate n 0) = (pairs l).map (pre ++ ·)
  | 0, k, l, pre, hl, _ => by
    obtain rfl : l = [] := List.eq_nil_of_length_eq_zero (by omega)
    simp [goP, pairs]
  | n + 1, k, a :: b :: r, pre, hl, hp => by
    cases ha : hexV a with
    | none => simp [goP, pairs, ha]
    | some x =>
      cases hb : hexV b with
      | none => simp [goP, pairs, ha, hb]
      | some y =>
        have e1 : stepP (pre ++ List.replicate (n + 1) 0) (2 * k) x = pre ++ ((0 : UInt8) <<< 4 ||| UInt8.ofNat x) :: List.replicate n 0 := by
          unfold stepP
          rw [show 2 * k / 2 = k by omega, List.set_append_right _ _ (by omega)]
          simp [hp, List.replicate_succ, List.getD]
        have e2 : stepP (pre ++ ((0 : UInt8) <<< 4 ||| UInt8.ofNat x) :: List.replicate n 0) (2 * k + 1) y = (pre ++ [UInt8.ofNat (16 * x + y)]) ++ List.replicate n 0 := by
          unfold stepP
          rw [show (2 * k + 1) / 2 = k by omega, List.set_append_right _ _ (by omega)]
          have := nib x (hexV_lt ha) y (hexV_lt hb)
          simp only [hp, Nat.sub_self, List.set_cons_zero, List.getD]
          rw [List.getElem?_append_right (by omega)]
          simp only [hp, Nat.sub_self, List.getElem?_cons_zero, Option.getD_some, this]
          simp
        have ih := goP_pairs n (k + 1) r (pre ++ [UInt8.ofNat (16 * x + y)]) (by simp at hl; omega) (by simp [hp])
        simp only [goP, ha, hb, pairs, e1, e2]
        rw [show 2 * k + 1 + 1 = 2 * (k + 1) by omega, ih]
        cases pairs r <;> simp
  | n + 1, k, [a], pre, hl, _ => by simp at hl; omega
  | n + 1, k, [], pre, hl, _ => by simp at hl
theorem parseL_pairs (l : List UInt8) (h : l.length = 64) : parseL l = pairs l := by
  unfold parseL
  rw [if_pos h]
  have := goP_pairs 32 0 l [] (by omega) rfl
  simp only [List.nil_append, Nat.mul_zero] at this
  rw [zero32, this]
  cases pairs l <;> simp
theorem pairs_hex (ds : List UInt8) : pairs (hexOf ds) = some ds := by
  induction ds with
  | nil => rfl
  | cons d ds ih =>
    show pairs (hexD (d.toNat / 16) :: hexD (d.toNat % 16) :: hexOf ds) = _
    have h := d.toNat_lt
    simp only [pairs, hexV_D _ (show d.toNat / 16 < 16 by omega), hexV_D _ (show d.toNat % 16 < 16 by omega), ih]
    simp only [Option.map_some, Option.some.injEq, List.cons.injEq, and_true]
    rw [show 16 * (d.toNat / 16) + d.toNat % 16 = d.toNat by omega]
    exact UInt8.ofNat_toNat
theorem hex_pairs : ∀ (l ds : List UInt8), pairs l = some ds → hexOf ds = l ∧ l.length = 2 * ds.length
  | [], ds, h => by simp only [pairs, Option.some.injEq] at h; subst h; exact ⟨rfl, rfl⟩
  | [a], ds, h => by simp [pairs] at h
  | a :: b :: r, ds, h => by
    simp only [pairs] at h
    cases ha : hexV a with
    | none => simp [ha] at h
    | some x =>
      cases hb : hexV b with
      | none => simp [ha, hb] at h
      | some y =>
        simp only [ha, hb] at h
        obtain ⟨d, hd, rfl⟩ := Option.map_eq_some_iff.1 h
        obtain ⟨e, el⟩ := hex_pairs r d hd
        have hx := hexV_lt ha
        have hy := hexV_lt hb
        have ev : (UInt8.ofNat (16 * x + y)).toNat = 16 * x + y := by show (16 * x + y) % 256 = _; omega
        refine ⟨?_, by simp; omega⟩
        show hexD _ :: hexD _ :: hexOf d = _
        rw [ev, show (16 * x + y) / 16 = x by omega, show (16 * x + y) % 16 = y by omega, hexD_V ha, hexD_V hb, e]
theorem parseL_hex (ds : List UInt8) (h : ds.length = 32) : parseL (hexOf ds) = some ds := by
  rw [parseL_pairs _ (by rw [hexOf_length, h]), pairs_hex]
theorem hex_parseL {l ds : List UInt8} (h : parseL l = some ds) : hexOf ds = l ∧ ds.length = 32 := by
  have hl : l.length = 64 := by
    unfold parseL at h
    split at h
    · assumption
    · cases h
  rw [parseL_pairs l hl] at h
  have := hex_pairs l ds h
  exact ⟨this.1, by omega⟩
end Go.Proofs.YtcbfnbmkogeehaaDoor
