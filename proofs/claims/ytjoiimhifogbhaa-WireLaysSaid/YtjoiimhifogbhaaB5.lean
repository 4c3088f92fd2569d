/- The statement on things as bytes: for every byte, numbers, texts and digests the call returns true, and they read as before. -/
import Derived.Test.YtjoiimhifogbhaaB4
import Derived.ProofKit
import Derived.OpenShut
namespace Go.Proofs.Ytjoiimhifogbhaa
open Go.ChangeShapes Go.WideShapes Go.ChangeAt Go.RowKit

theorem lays_any (w : World) (b : UInt8) (A1 A2 A3 A4 : Option Addr) (n1 c1 n2 c2 n3 c3 n4 c4 : Nat) (ns ms : List Nat) (ps : List ByteArray) (ds : List (List UInt8))
    (hs : n1 + n2 + n3 + n4 < 4611686018427387904) (h1 : Row w A1 n1 (ns.map V4)) (h2 : Row w A2 n2 (ms.map V8)) (h3 : Row w A3 n3 (ps.map Value.string)) (h4 : Digs w A4 n4 ds)
    (hns : ∀ x ∈ ns, x < 4294967296) (hms : ∀ x ∈ ms, x < 18446744073709551616) (hps : ∀ x ∈ ps, x.size ≤ maxLen) :
    Calls Try.prog 3 #[U b, .slice A1 n1 c1, .slice A2 n2 c2, .slice A3 n3 c3, .slice A4 n4 c4] w fun e w' => e = .returned (.bool true) ∧ Below w.heap.size w w' := by
  by_cases hm : n1 + n2 + n3 + n4 ≤ 100
  · exact lays_walk w b A1 A2 A3 A4 n1 c1 n2 c2 n3 c3 n4 c4 ns ms ps ds hm h1 h2 h3 h4 hns hms (fun x hx => by have := hps x hx; unfold maxLen at this; omega)
  · exact lays_many w (U b) A1 A2 A3 A4 n1 c1 n2 c2 n3 c3 n4 c4 hs (by omega)

/-- How long a slice may be that came in. -/
theorem sized_len {H : Type} {enc : TypeId × Value → H} {W : World} {base : Nat} {sp : Nat → Bool} {hd : Bool} {t e : TypeId} {A : Option Addr} {n c : Nat} {d : DataW H} {p : List MemPlace} {ts : List TypeId} {ds : List (DataW H)} {j : Nat}
    (hw : (DataW.weightsEach Try.prog ts ds).all (· ≤ reachBytes) = true) (htj : ts[j]? = some t) (hdj : ds[j]? = some d) (ht : Try.prog.underlying t = some (.slice e)) (hb : 1 ≤ Try.prog.bytesOf e)
    (h : DataW.Trod enc Try.prog W base sp hd t (.slice A n c) d p) : n ≤ 140737488351232 := by
  obtain ⟨fuel, hf⟩ := h
  rcases Go.Deep.open_slice ht hf with ⟨hcs, _⟩ | ⟨a, len, cap, m, k, D, Pl, hcs, _, hl, _, hm, hx, _⟩
  · simp [Value.cells] at hcs
    obtain ⟨-, rfl, -⟩ := hcs
    exact Nat.zero_le _
  · simp [Value.cells] at hcs
    obtain ⟨-, rfl, rfl⟩ := hcs
    have hd1 : d = _ := congrArg Prod.fst hx
    subst hd1
    have h1 := sized_slice hw htj hdj ht
    simp only [List.length_map, List.length_range, reachBytes] at h1
    have h2 : (n + (m - n)) * 1 ≤ (n + (m - n)) * Try.prog.bytesOf e := Nat.mul_le_mul_left _ hb
    omega
theorem bytes28 : 1 ≤ Try.prog.bytesOf 28 := by rw [show Try.prog.bytesOf 28 = 4 from by kernel_rfl]; decide
theorem bytes30 : 1 ≤ Try.prog.bytesOf 30 := by rw [show Try.prog.bytesOf 30 = 8 from by kernel_rfl]; decide
theorem bytes9 : 1 ≤ Try.prog.bytesOf 9 := by rw [show Try.prog.bytesOf 9 = 16 from by kernel_rfl]; decide
theorem bytes33 : 1 ≤ Try.prog.bytesOf 33 := by rw [show Try.prog.bytesOf 33 = 32 from by kernel_rfl]; decide
set_option maxRecDepth 100000 in
theorem lays_lifted (os : Os) (started : os.Started) (H : Type) (enc : TypeId × Value → H) :
    ReturnsInHanded {} Try.checked os 3 .any (Rows.wireLaysSpec.pre6 enc Try.prog Try.f3 Rows.wireLaysRow.domain false) (Rows.wireLaysSpec.post enc Try.prog Try.f3 false true false false) := by
  refine returnsInHanded_of_change_sized (C := Try.checked) own started (by kernel_rfl) Try.func3
    (ChangeSpec.witness6 (enc := enc) (C := Try.checked) false ⟨#[], #[.int .u8 0, .slice none 0 0, .slice none 0 0, .slice none 0 0, .slice none 0 0], []⟩ 8 (by kernel_rfl) (by kernel_rfl) (by kernel_rfl) (by kernel_rfl)) ?_
  intro W base args ds gs before hval0 hW _ hsz0 _
  have hsz : (DataW.weightsEach Try.prog (Try.f3.params.toList ++ Rows.wireLaysSpec.plain.varTypes Try.prog) (ds ++ gs)).all (· ≤ reachBytes) = true := hsz0
  clear hsz0
  have hval : ∀ (j : Nat) t v, Try.f3.params[j]? = some t → args[j]? = some v → Value.okWide Try.prog W .any base t v := hval0
  have hW' := hW
  obtain ⟨p, q, hA0, hV, rfl, _, _⟩ := hW
  have hA : DataW.TrodAll enc Try.prog W 0 (fun _ => true) true Try.f3.params.toList args.toList ds p := hA0
  rw [Try.params3] at hA hval hsz
  obtain ⟨v0, vs0, d0, ds0, p0, q0, hargs, rfl, rfl, h0, r0⟩ := trodAll_cons hA
  obtain ⟨v1, vs1, d1, ds1, p1, q1, rfl, rfl, rfl, h1, r1⟩ := trodAll_cons r0
  obtain ⟨v2, vs2, d2, ds2, p2, q2, rfl, rfl, rfl, h2, r2⟩ := trodAll_cons r1
  obtain ⟨v3, vs3, d3, ds3, p3, q3, rfl, rfl, rfl, h3, r3⟩ := trodAll_cons r2
  obtain ⟨v4, vs4, d4, ds4, p4, q4, rfl, rfl, rfl, h4, r4⟩ := trodAll_cons r3
  obtain ⟨rfl, rfl, rfl⟩ := trodAll_nil r4
  obtain rfl : args = #[v0, v1, v2, v3, v4] := by cases args; simp_all
  obtain ⟨rfl, rfl⟩ := trodVars_none hV
  clear hA0 hval0
  simp only [List.append_nil] at hW'
  obtain ⟨x, rfl, rfl, rfl, wx⟩ := open_int Try.underlying5 (hval 0 5 v0 rfl rfl) h0
  obtain ⟨a1, l1, c1, rfl⟩ := okWide_slice Try.underlying22 (hval 1 22 v1 rfl rfl)
  obtain ⟨a2, l2, c2, rfl⟩ := okWide_slice Try.underlying23 (hval 2 23 v2 rfl rfl)
  obtain ⟨a3, l3, c3, rfl⟩ := okWide_slice Try.underlying24 (hval 3 24 v3 rfl rfl)
  obtain ⟨a4, l4, c4, rfl⟩ := okWide_slice Try.underlying25 (hval 4 25 v4 rfl rfl)
  obtain ⟨ns, hn1, hn2⟩ := open_row4 h1
  obtain ⟨ms, hm1, hm2⟩ := open_row8 h2
  obtain ⟨ps, hp1, hp2⟩ := open_rowS h3
  obtain ⟨ds, hd⟩ := open_rowD h4
  have z1 := sized_len (j := 1) hsz rfl rfl Try.underlying22 bytes28 h1
  have z2 := sized_len (j := 2) hsz rfl rfl Try.underlying23 bytes30 h2
  have z3 := sized_len (j := 3) hsz rfl rfl Try.underlying24 bytes9 h3
  have z4 := sized_len (j := 4) hsz rfl rfl Try.underlying25 bytes33 h4
  have hlt : ∀ x ∈ [] ++ (p1 ++ (p2 ++ (p3 ++ p4))), x.block < W.heap.size := fun x hx => by simpa using hW'.lt x hx
  have hb8 := bounds_u8 wx
  obtain ⟨b, rfl⟩ : ∃ b : UInt8, x = (b.toNat : Int) := ⟨UInt8.ofNat x.toNat, by
    have : (UInt8.ofNat x.toNat).toNat = x.toNat := by show x.toNat % 256 = _; omega
    rw [this]; omega⟩
  refine (lays_any W b a1 a2 a3 a4 l1 c1 l2 c2 l3 c3 l4 c4 ns ms ps ds (by omega) hn1 hm1 hp1 hd hn2 hm2 hp2).mono fun e W' ⟨he, hb⟩ => ?_
  subst he
  have hk : ∀ (t : TypeId) (v : Value) (d : DataW H) (pl : List MemPlace), (∀ x ∈ pl, x.block < W.heap.size) → Try.prog.readableRec t = true → t < Try.prog.types.size → DataW.Trod enc Try.prog W 0 (fun _ => true) true t v d pl →
      DataW.Trod enc Try.prog W' 0 (fun b => decide (b < W.heap.size)) true t v d pl := fun t v d pl hl hr hts h => Below.trod laidOut hr hts h hb hl
  have hkeep := trodAll_cons_mk (shut_int Try.underlying5 wx) (trodAll_cons_mk (hk 22 _ _ _ (fun x hx => hlt x (by simp [hx])) (by kernel_rfl) (of_decide_eq_true (by kernel_rfl)) h1) (trodAll_cons_mk (hk 23 _ _ _ (fun x hx => hlt x (by simp [hx])) (by kernel_rfl) (of_decide_eq_true (by kernel_rfl)) h2)
    (trodAll_cons_mk (hk 24 _ _ _ (fun x hx => hlt x (by simp [hx])) (by kernel_rfl) (of_decide_eq_true (by kernel_rfl)) h3) (trodAll_cons_mk (hk 25 _ _ _ (fun x hx => hlt x (by simp [hx])) (by kernel_rfl) (of_decide_eq_true (by kernel_rfl)) h4) trodAll_mk0))))
  exact ⟨_, rfl, _, _, _, [], _, [], hW', trodAll_cons_mk (shut_bool Try.underlying4 _) trodAll_mk0, hkeep, rfl, hb.frame _, fun h => by cases h⟩

theorem lays_said : Rows.WireLaysSaid :=
  OpenClaim.holds_of_wide 3 Try.f3 rfl rfl rfl rfl rfl rfl rfl ⟨rfl, rfl, rfl, rfl, rfl⟩ rfl rfl rfl rfl rfl (by kernel_rfl) Try.func3 (by kernel_rfl)
    (of_decide_eq_true (by kernel_rfl)) (by unfold Func.isWrapper; first | (rw [if_pos (by decide +kernel)]; kernel_rfl) | (rw [if_neg (by decide +kernel)]; exact ⟨rfl, rfl⟩))
    (fun os started H enc _ => lays_lifted os started H enc)
end Go.Proofs.Ytjoiimhifogbhaa
