/- The document's way to the digest: the padded text, block by block. -/
import Derived.Test.YtcbfnbmkogeehaaDoorX1
namespace Go.Proofs.YtcbfnbmkogeehaaDoor
open Go.RowKit

theorem push_length (h : Hs) (hp : h.p.length < 64) (c : UInt8) : (h.push c).p.length = (h.p.length + 1) % 64 := by
  unfold Hs.push
  split
  · rename_i e
    rw [e]
    rfl
  · rename_i e
    show (h.p ++ [c]).length = _
    rw [List.length_append, List.length_singleton]
    omega
theorem feed_length (l : List UInt8) : ∀ h : Hs, h.p.length < 64 → (h.feed l).p.length = (h.p.length + l.length) % 64 := by
  induction l with
  | nil => intro h hp; show h.p.length = _; rw [List.length_nil]; omega
  | cons c l ih =>
    intro h hp
    have h1 := push_length h hp c
    show ((h.push c).feed l).p.length = _
    rw [ih _ (by rw [h1]; omega), h1, List.length_cons]
    omega
/-- The text with its mark, zeros, and its length. -/
def padded (l : List UInt8) (z : Nat) (N : Int) : List UInt8 := l ++ (128 :: List.replicate z 0) ++ lenBytes N
theorem lenBytes_length (N : Int) : (lenBytes N).length = 8 := by unfold lenBytes; rw [List.length_map, List.length_range]
theorem feed_padded (l : List UInt8) (z : Nat) (N : Int) (hz : z < 64) (hm : (l.length + 1 + z) % 64 = 56) : hs0.feed (padded l z N) = ⟨(hs0.feed l).fin N, []⟩ := by
  have hp : (hs0.feed l).p.length = l.length % 64 := by rw [feed_length l hs0 (by decide)]; show (0 + l.length) % 64 = _; rw [Nat.zero_add]
  have h8 := lenBytes_length N
  unfold padded
  rw [List.append_assoc, Hs.feed_append]
  unfold Hs.fin Hs.pad
  generalize hs0.feed l = h at *
  obtain ⟨s, p⟩ := h
  simp only at hp ⊢
  by_cases h56 : p.length < 56
  · rw [if_pos h56]
    have ez : z = 55 - p.length := by omega
    rw [Hs.feed_full _ _ (by simp only [List.length_append, List.length_cons, List.length_replicate, h8]; omega) (by simp)]
    show (⟨comp s (bytes (p ++ (128 :: List.replicate z 0 ++ lenBytes N))), []⟩ : Hs) = _
    have e : (Hs.full ⟨s, p⟩).take 56 = p ++ (128 :: List.replicate z 0) := by
      unfold Hs.full
      show (p ++ 128 :: List.replicate (63 - p.length) 0).take 56 = _
      rw [List.take_append, List.take_of_length_le (by omega), show 56 - p.length = (55 - p.length) + 1 by omega, List.take_succ_cons, List.take_replicate, ez]
      congr 3
      omega
    rw [e, List.append_assoc]
  · rw [if_neg h56]
    have hp64 : p.length < 64 := by omega
    have ez : z = (63 - p.length) + 56 := by omega
    have e : 128 :: List.replicate z (0 : UInt8) ++ lenBytes N = (128 :: List.replicate (63 - p.length) 0) ++ (List.replicate 56 0 ++ lenBytes N) := by
      rw [ez, ← List.replicate_append_replicate]
      simp
    rw [e, Hs.feed_append, Hs.feed_full ⟨s, p⟩ _ (by simp only [List.length_cons, List.length_replicate]; omega) (by simp)]
    rw [Hs.feed_full _ _ (by simp only [List.length_append, List.length_replicate, h8, List.length_nil]) (by simp)]
    show (⟨comp (comp s (bytes (p ++ (128 :: List.replicate (63 - p.length) 0)))) (bytes ([] ++ (List.replicate 56 0 ++ lenBytes N))), []⟩ : Hs) = _
    rw [List.nil_append, List.take_replicate]
    rfl

theorem wd_congr {m n : Nat → UInt8} (h : ∀ j, j < 64 → m j = n j) (j : Nat) (hj : j < 16) : wd m j = wd n j := by
  unfold wd
  rw [h _ (by omega), h _ (by omega), h _ (by omega), h _ (by omega)]
theorem sched_congr {m n : Nat → UInt8} (h : ∀ j, j < 64 → m j = n j) : sched m = sched n := by
  unfold sched first16
  rw [List.map_congr_left fun j hj => wd_congr h j (List.mem_range.1 hj)]
theorem comp_congr {m n : Nat → UInt8} (h : ∀ j, j < 64 → m j = n j) (s : St) : comp s m = comp s n := by
  unfold comp
  rw [sched_congr h]
/-- The state behind the first k blocks. -/
def Bst (P : List UInt8) (k : Nat) : St := (hs0.feed (P.take (64 * k))).s
theorem Bst_zero (P : List UInt8) : Bst P 0 = st0 := rfl
theorem feed_block (P : List UInt8) : ∀ k, 64 * k ≤ P.length → hs0.feed (P.take (64 * k)) = ⟨Bst P k, []⟩
  | 0, _ => rfl
  | k + 1, hk => by
    have ih := feed_block P k (by omega)
    have e : P.take (64 * (k + 1)) = P.take (64 * k) ++ (P.drop (64 * k)).take 64 := by
      rw [show 64 * (k + 1) = 64 * k + 64 by omega, List.take_add]
    have hl : ((P.drop (64 * k)).take 64).length = 64 := by rw [List.length_take, List.length_drop]; omega
    unfold Bst
    rw [e, Hs.feed_append, ih, Hs.feed_full _ _ (by rw [List.length_nil, hl]) (by omega)]
theorem Bst_succ (P : List UInt8) (k : Nat) (hk : 64 * (k + 1) ≤ P.length) : Bst P (k + 1) = comp (Bst P k) (fun j => P.getD (64 * k + j) 0) := by
  have ih := feed_block P k (by omega)
  have e : P.take (64 * (k + 1)) = P.take (64 * k) ++ (P.drop (64 * k)).take 64 := by
    rw [show 64 * (k + 1) = 64 * k + 64 by omega, List.take_add]
  have hl : ((P.drop (64 * k)).take 64).length = 64 := by rw [List.length_take, List.length_drop]; omega
  have h := congrArg Hs.s (show hs0.feed (P.take (64 * (k + 1))) = _ by rw [e, Hs.feed_append, ih, Hs.feed_full _ _ (by rw [List.length_nil, hl]) (by omega)])
  refine (show Bst P (k + 1) = _ from h).trans ?_
  show comp (Bst P k) (bytes ([] ++ (P.drop (64 * k)).take 64)) = _
  refine comp_congr (fun j hj => ?_) _
  unfold bytes
  rw [List.nil_append, List.getD_eq_getElem?_getD, List.getD_eq_getElem?_getD, List.getElem?_take_of_lt hj, List.getElem?_drop]
theorem SUM_padded (l : List UInt8) (z K : Nat) (hz : z < 64) (hm : (l.length + 1 + z) % 64 = 56) (hK : (padded l z (IntKind.u64.wrap l.length)).length = 64 * K) :
    SUM l = (List.range 32).map (digB (Bst (padded l z (IntKind.u64.wrap l.length)) K)) := by
  unfold SUM Hs.dig
  have h := feed_padded l z (IntKind.u64.wrap l.length) hz hm
  unfold Bst
  rw [List.take_of_length_le (by omega), h]

/-- The document's words: their order in the sums. -/
theorem nextW_alt (l : List UInt32) : nextW l = l.getD (l.length - 16) 0 + sg0 (l.getD (l.length - 15) 0) + l.getD (l.length - 7) 0 + sg1 (l.getD (l.length - 2) 0) := by
  unfold nextW
  generalize l.getD (l.length - 16) 0 = a
  generalize sg0 (l.getD (l.length - 15) 0) = b
  generalize l.getD (l.length - 7) 0 = c
  generalize sg1 (l.getD (l.length - 2) 0) = d
  rw [UInt32.add_comm d c, UInt32.add_assoc c d b, UInt32.add_comm (c + (d + b)) a, UInt32.add_comm d b, ← UInt32.add_assoc c b d, UInt32.add_comm c b, ← UInt32.add_assoc a, ← UInt32.add_assoc a]
theorem not_alt (x : UInt32) : 4294967295 - x = ~~~x := by
  apply UInt32.eq_of_toBitVec_eq
  rw [UInt32.toBitVec_sub, UInt32.toBitVec_not]
  exact BitVec.allOnes_sub_eq_not x.toBitVec
/-- One round, as the document has it. -/
def St.qturn (s : St) (k w : UInt32) : St :=
  let s1 := rotr s.e 6 ^^^ rotr s.e 11 ^^^ rotr s.e 25
  let ch := s.e &&& s.f ^^^ (4294967295 - s.e) &&& s.g
  let t1 := s.h + s1 + ch + k + w
  let s0 := rotr s.a 2 ^^^ rotr s.a 13 ^^^ rotr s.a 22
  let maj := s.a &&& s.b ^^^ s.a &&& s.c ^^^ s.b &&& s.c
  ⟨t1 + (s0 + maj), s.a, s.b, s.c, s.d + t1, s.e, s.f, s.g⟩
theorem sum5 (a b c d e : UInt32) : a + b + c + d + e = a + d + e + c + b := by
  rw [UInt32.add_comm (a + d + e + c) b, UInt32.add_comm (a + d + e) c, ← UInt32.add_assoc b c, UInt32.add_assoc a d e, ← UInt32.add_assoc (b + c) a, UInt32.add_comm (b + c) a, ← UInt32.add_assoc a b c, ← UInt32.add_assoc]
theorem qturn_eq (s : St) (k w : UInt32) : s.qturn k w = s.turn k w := by
  unfold St.qturn St.turn
  simp only [not_alt, sum5 s.h]
end Go.Proofs.YtcbfnbmkogeehaaDoor
