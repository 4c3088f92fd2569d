/- Numbers that are taken. -/
import Derived.Test.YtjoiimhifogbhaaA9
import Derived.Laws.IdiomStrings
import Derived.Laws.BitsLemmas
namespace Go.Proofs.Ytjoiimhifogbhaa
open Go.RowKit

/-- The number that bytes are, the highest first. -/
def num (l : List UInt8) : Nat := l.foldl (fun n b => n * 256 + b.toNat) 0
theorem num_snoc (l : List UInt8) (b : UInt8) : num (l ++ [b]) = num l * 256 + b.toNat := by simp [num]
theorem foldl_num (l : List UInt8) (n : Nat) : l.foldl (fun n b => n * 256 + b.toNat) n = n * 256 ^ l.length + num l := by
  induction l generalizing n with
  | nil => simp [num]
  | cons b r ih =>
    simp only [List.foldl_cons, List.length_cons, num]
    rw [ih, ih (0 * 256 + b.toNat), Nat.pow_succ, Nat.add_mul, Nat.mul_assoc, Nat.mul_comm 256]
    simp only [Nat.zero_mul, Nat.zero_add]
    omega
theorem num_cons (b : UInt8) (r : List UInt8) : num (b :: r) = b.toNat * 256 ^ r.length + num r := by
  show (b :: r).foldl _ 0 = _
  rw [List.foldl_cons, foldl_num]; simp
theorem num_lt (l : List UInt8) : num l < 256 ^ l.length := by
  induction l with
  | nil => simp [num]
  | cons b r ih =>
    rw [num_cons, List.length_cons, Nat.pow_succ]
    have hb := b.toNat_lt
    have : b.toNat * 256 ^ r.length ≤ 255 * 256 ^ r.length := Nat.mul_le_mul_right _ (by omega)
    omega
theorem num_be (k x : Nat) : num (be k x) = x % 256 ^ k := by
  induction k with
  | zero => simp [be, num, Nat.mod_one]
  | succ k ih =>
    rw [be, num_cons, ih, be_length, Nat.pow_succ, Nat.mod_mul]
    simp
    rw [Nat.mul_comm]; omega
theorem shl8 (x : Nat) (hx : x < 72057594037927936) (w : World) : (binOp .shl 30 (V8 x) (.int .u64 8)).run Try.prog w = .ok (V8 (x * 256)) w := by
  have h := show (binOp .shl 30 (V8 x) (.int .u64 8)).run Try.prog w = .ok (.int .u64 (IntKind.u64.wrap ((x : Int) * 256))) w from rfl
  rw [h, IntKind.wrap_u64, V8]
  have e : ((x : Int) * 256) % 18446744073709551616 = ((x * 256 : Nat) : Int) := by omega
  rw [e]
theorem up8 (b : UInt8) (w : World) : (convert 5 30 (U b)).run Try.prog w = .ok (V8 b.toNat) w := by
  have hb := b.toNat_lt
  have h := show (convert 5 30 (U b)).run Try.prog w = .ok (.int .u64 (IntKind.u64.wrap (b.toNat : Int))) w from rfl
  rw [h, IntKind.wrap_u64, V8]
  have e : (b.toNat : Int) % 18446744073709551616 = (b.toNat : Int) := by omega
  rw [e]
theorem or8 (x : Nat) (b : UInt8) (hx : x < 72057594037927936) (w : World) : (binOp .or 30 (V8 (x * 256)) (V8 b.toNat)).run Try.prog w = .ok (V8 (x * 256 + b.toNat)) w := by
  have hb := b.toNat_lt
  have h := show (binOp .or 30 (V8 (x * 256)) (V8 b.toNat)).run Try.prog w = .ok (.int .u64 (bits .or .u64 ((x * 256 : Nat) : Int) (b.toNat : Int))) w from rfl
  rw [h, bits_join .u64 64 (by decide) (by intro n h1 h2; rw [IntKind.wrap_u64]; omega) 8 _ _ (by omega) (by omega) (by omega) (by omega) (by omega) (by omega), V8]
  rfl

set_option maxRecDepth 100000 in
set_option maxHeartbeats 2000000 in
theorem number_of (w : World) (pv : Value) (size : Int) (a : List UInt8) (ha : a.length ≤ 8) (Q : World → Prop)
    (hraw : Calls Try.prog 33 #[pv, .int .i64 size] w fun e w' => e = .returned (.string (bstr a)) ∧ Q w') (hQ : ∀ w1 w2, Q w1 → Below w1.heap.size w1 w2 → Q w2) :
    Calls Try.prog 40 #[pv, .int .i64 size] w fun e w' => e = .returned (V8 (num a)) ∧ Q w' := by
  have hcv : ∀ w, (convert 9 27 (.string (bstr a))).run Try.prog w = .ok (.slice (some ⟨w.heap.size, 0, none⟩) a.length (grownCap w a.length 0 5)) (w.drew.alloc (.cells (bytesRow (bstr a) (grownCap w a.length 0 5)) 5 ((bytesRow (bstr a) (grownCap w a.length 0 5)).size, (bytesRow (bstr a) (grownCap w a.length 0 5)).size + 1))) := by
    intro w
    have h := run_bytes_of_string (P := Try.prog) w 9 27 5 (bstr a) Try.underlying9 Try.underlying27 Try.underlying5
    rw [bstr_size] at h
    exact h
  have HRAW := Lib.hid hraw
  have HQ := Lib.hid hQ
  have HA := Lib.hid ha
  clear hraw hQ ha
  have r0 : Value.int .u64 0 = V8 0 := rfl
  go_enter Try.func40, Try.ntmps40
  go_wp2_with (go_at_call 33; refine HRAW.out.mono ?_; rintro e w1 ⟨rfl, hq⟩; have HQ1 := Lib.hid hq; clear hq)
  have hcell : ∀ k (h : k < a.length), (w1.alloc (.cells (bytesRow (bstr a) (grownCap w1 a.length 0 5)) 5 ((bytesRow (bstr a) (grownCap w1 a.length 0 5)).size, (bytesRow (bstr a) (grownCap w1 a.length 0 5)).size + 1))).drew.cell? ⟨w1.heap.size, k, none⟩ = some (U a[k]) := by
    intro k h
    have h1 := bytesRow_at (bstr a) (grownCap w1 a.length 0 5) k (by simpa [bstr] using h)
    have hd : ∀ (W : World) (x : Addr), W.drew.cell? x = W.cell? x := fun _ _ => rfl
    rw [hd, cell_of_row _ w1.heap.size k (bytesRow (bstr a) (grownCap w1 a.length 0 5)) 5 _ (heap_alloc_new w1 _), h1]
    simp [bstr, U_def]
  have hq3 := HQ.out w1 _ HQ1.out ((Below.refl _ w1).alloc (Nat.le_refl _) (.cells (bytesRow (bstr a) (grownCap w1 a.length 0 5)) 5 ((bytesRow (bstr a) (grownCap w1 a.length 0 5)).size, (bytesRow (bstr a) (grownCap w1 a.length 0 5)).size + 1))).drew
  clear hcv
  generalize (w1.alloc (.cells (bytesRow (bstr a) (grownCap w1 a.length 0 5)) 5 ((bytesRow (bstr a) (grownCap w1 a.length 0 5)).size, (bytesRow (bstr a) (grownCap w1 a.length 0 5)).size + 1))).drew = w3 at *
  have HC := Lib.hid hcell
  have HQ3 := Lib.hid hq3
  clear hcell hq3
  go_loopw [5, 13] (fun v i wr => wr = w3 ∧ ∃ k : Nat, k ≤ a.length ∧ i = .int .i64 k ∧ v = V8 (num (a.take k))) (fun _ i _ => a.length - (intOf i).toNat)
  case atStart => exact ⟨rfl, 0, Nat.zero_le _, rfl, rfl⟩
  case round =>
    obtain ⟨rfl, k, hk, rfl, rfl⟩ := hrel
    have ha8 := HA.out
    by_cases hlt : k < a.length
    · have c0 := HC.out k hlt
      have hsn : num (a.take (k + 1)) = num (a.take k) * 256 + a[k].toNat := by rw [List.take_succ_eq_append_getElem hlt, num_snoc]
      have hb : num (a.take k) < 72057594037927936 := by
        have h := num_lt (a.take k)
        have h2 : (a.take k).length ≤ 7 := by rw [List.length_take]; omega
        have h3 : 256 ^ (a.take k).length ≤ 256 ^ 7 := Nat.pow_le_pow_right (by decide) h2
        exact Nat.lt_of_lt_of_le h h3
      generalize a[k] = b at *
      generalize num (a.take k) = x at *
      have HS := Lib.hid hsn
      have q1 := shl8 x hb
      have q2 := up8 b
      have q3 := or8 x b hb
      clear hsn hb
      go_wp2
      go_roundw
      case rel => exact ⟨trivial, k + 1, by omega, by go_num, by rw [HS.out]⟩
      case measure => simp [intOf]; omega
    · obtain rfl : k = a.length := by omega
      go_wp2
      go_ret
      exact ⟨by show Ending.returned (V8 (num (a.take a.length))) = _; rw [List.take_length], HQ3.out⟩

/-- What is taken as it stands ahead: bytes of an In without an error. -/
theorem InIs.more {w w' : World} {g : Nat} {e : Int} {l : List UInt8} (h : InIs w g e l) (hb : Below w.heap.size w w') : InIs w' g e l := Blk.kept h hb (Blk.lt h)
theorem Ex.more {g : Nat} {w w1 w2 : World} (h : Ex g w w1) (hb : Below w1.heap.size w1 w2) : Ex g w w2 := h.trans (Ex.of_below hb)
theorem number_walk (w : World) (g : Nat) (a r : List UInt8) (ha : a.length ≤ 8) (h : InIs w g 0 (a ++ r)) :
    Calls Try.prog 40 #[inP g, .int .i64 (a.length : Int)] w fun e w' => e = .returned (V8 (num a)) ∧ InIs w' g 0 r ∧ Ex g w w' :=
  number_of w (inP g) a.length a ha (fun w' => InIs w' g 0 r ∧ Ex g w w') (take_walk w g a r h) (fun w1 w2 ⟨h1, h2⟩ hb => ⟨h1.more hb, h2.more hb⟩)
theorem number_nil (w : World) (n : Int) : Calls Try.prog 40 #[.pointer none, .int .i64 n] w fun e w' => e = .returned (V8 0) ∧ Below w.heap.size w w' :=
  number_of w (.pointer none) n [] (Nat.zero_le _) (fun w' => Below w.heap.size w w') ((raw_nil w n).mono (by rintro e w' ⟨rfl, rfl⟩; exact ⟨rfl, Below.refl _ _⟩)) (fun w1 w2 h hb => h.trans (hb.mono h.size))

theorem eight_take (w : World) (g : Nat) (a r : List UInt8) (ha : a.length = 8) (h : InIs w g 0 (a ++ r)) :
    Calls Try.prog 23 #[inP g] w fun e w' => e = .returned (V8 (num a)) ∧ InIs w' g 0 r ∧ Ex g w w' := by
  have hn := number_walk w g a r (by omega) h
  rw [ha] at hn
  unfold inP at hn ⊢
  go_enter Try.func23, Try.ntmps23
  go_wp2_with (go_at_call 40; refine hn.mono ?_; rintro e w1 ⟨rfl, h2, h3⟩)
  go_ret
  exact ⟨rfl, h2, h3⟩
theorem eight_nil (w : World) : Calls Try.prog 23 #[.pointer none] w fun e w' => e = .returned (V8 0) ∧ Below w.heap.size w w' := by
  go_enter Try.func23, Try.ntmps23
  go_wp2_with (go_at_call 40; refine (number_nil w 8).mono ?_; rintro e w1 ⟨rfl, h2⟩)
  go_ret
  exact ⟨rfl, h2⟩
theorem to4 (x : Nat) (hx : x < 4294967296) (w : World) : (convert 30 28 (V8 x)).run Try.prog w = .ok (V4 x) w := by
  have h := show (convert 30 28 (V8 x)).run Try.prog w = .ok (.int .u32 (IntKind.u32.wrap (x : Int))) w from rfl
  rw [h, IntKind.wrap_u32, V4]
  have e : (x : Int) % 4294967296 = (x : Int) := by omega
  rw [e]
theorem to1 (x : Nat) (w : World) : (convert 30 5 (V8 x)).run Try.prog w = .ok (U (UInt8.ofNat x)) w := cut8 x w
theorem four_take (w : World) (g : Nat) (a r : List UInt8) (ha : a.length = 4) (h : InIs w g 0 (a ++ r)) :
    Calls Try.prog 31 #[inP g] w fun e w' => e = .returned (V4 (num a)) ∧ InIs w' g 0 r ∧ Ex g w w' := by
  have hn := number_walk w g a r (by omega) h
  have hl := num_lt a
  rw [ha] at hn hl
  have q := to4 (num a) hl
  clear hl
  generalize num a = x at *
  unfold inP at hn ⊢
  go_enter Try.func31, Try.ntmps31
  go_wp2_with (go_at_call 40; refine hn.mono ?_; rintro e w1 ⟨rfl, h2, h3⟩)
  go_ret
  exact ⟨rfl, h2, h3⟩
theorem four_nil (w : World) : Calls Try.prog 31 #[.pointer none] w fun e w' => e = .returned (V4 0) ∧ Below w.heap.size w w' := by
  have q := to4 0 (by decide)
  go_enter Try.func31, Try.ntmps31
  go_wp2_with (go_at_call 40; refine (number_nil w 4).mono ?_; rintro e w1 ⟨rfl, h2⟩)
  go_ret
  exact ⟨rfl, h2⟩
theorem byte_nil (w : World) : Calls Try.prog 30 #[.pointer none] w fun e w' => e = .returned (U 0) ∧ Below w.heap.size w w' := by
  have q := to1 0
  go_enter Try.func30, Try.ntmps30
  go_wp2_with (go_at_call 40; refine (number_nil w 1).mono ?_; rintro e w1 ⟨rfl, h2⟩)
  go_ret
  exact ⟨rfl, h2⟩
end Go.Proofs.Ytjoiimhifogbhaa
