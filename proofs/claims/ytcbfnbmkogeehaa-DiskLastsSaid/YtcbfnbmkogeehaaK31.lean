/- The statement on what lasts: for every two rows of acts and every row of Booleans the call returns true, and they read as before. -/
import Derived.Test.YtcbfnbmkogeehaaK30
import Derived.Test.YtcbfnbmkogeehaaK29
import Derived.ProofKit
import Derived.OpenShut
namespace Go.Proofs.Ytcbfnbmkogeehaa
open Go.ChangeShapes Go.WideShapes Go.ChangeAt Go.RowKit

theorem lasts_many (w : World) (A1 A2 A3 : Option Addr) (n1 c1 n2 c2 n3 c3 : Nat) (hs : n1 + n2 < 4611686018427387904) (hm : 60 < n1 + n2 ∨ 100 < n3) :
    Calls Try.prog 4 #[.slice A1 n1 c1, .slice A2 n2 c2, .slice A3 n3 c3] w fun e w' => e = .returned (.bool true) ∧ Below w.heap.size w w' := by
  have q1 : IntKind.i64.wrap ((n1 : Int) + n2) = (n1 : Int) + n2 := by rw [IntWalk.i64_in]; omega
  by_cases h1 : 60 < n1 + n2
  · have q2 : (60 : Int) < (n1 : Int) + n2 := by omega
    clear hs hm h1
    go_enter Try.func4, Try.ntmps4
    go_wp2_with (go_at_call 6; refine (awake_walk _).mono ?_; rintro e w0 ⟨rfl, hb0⟩; have HB0 := Lib.hid hb0; clear hb0)
    go_ret
    exact ⟨rfl, HB0.out⟩
  · have q2 : ¬ (60 : Int) < (n1 : Int) + n2 := by omega
    have q3 : (100 : Int) < (n3 : Int) := by omega
    clear hs hm h1
    go_enter Try.func4, Try.ntmps4
    go_wp2_with (go_at_call 6; refine (awake_walk _).mono ?_; rintro e w0 ⟨rfl, hb0⟩; have HB0 := Lib.hid hb0; clear hb0)
    go_ret
    exact ⟨rfl, HB0.out⟩

theorem own2 : ownKnob Try.prog.godebug = none := by kernel_rfl
/-- How long a slice may be that came in. -/
theorem sized_len {H : Type} {enc : TypeId × Value → H} {W : World} {base : Nat} {sp : Nat → Bool} {hd : Bool} {t e : TypeId} {A : Option Addr} {n c : Nat} {d : DataW H} {p : List MemPlace} {ts : List TypeId} {ds : List (DataW H)} {j : Nat}
    (hw : (DataW.weightsEach Try.prog ts ds).all (· ≤ reachBytes) = true) (htj : ts[j]? = some t) (hdj : ds[j]? = some d) (ht : Try.prog.underlying t = some (.slice e)) (hb : 1 ≤ Try.prog.bytesOf e)
    (h : DataW.Trod enc Try.prog W base sp hd t (.slice A n c) d p) : n ≤ 140737488351232 := by
  obtain ⟨fuel, hf⟩ := h
  rcases Go.Deep.open_slice ht hf with ⟨hcs, _⟩ | ⟨a, len, cap, m, k, D, Pl, hcs, _, hl, _, hm, hx, _⟩
  · simp [Value.cells] at hcs
    obtain ⟨-, rfl, -⟩ := hcs
    exact Nat.zero_le _
  · simp [Value.cells] at hcs
    obtain ⟨-, rfl, rfl⟩ := hcs
    have hd1 : d = _ := congrArg Prod.fst hx
    subst hd1
    have h1 := sized_slice hw htj hdj ht
    simp only [List.length_map, List.length_range, reachBytes] at h1
    have h2 : (n + (m - n)) * 1 ≤ (n + (m - n)) * Try.prog.bytesOf e := Nat.mul_le_mul_left _ hb
    omega
theorem bytes32 : 1 ≤ Try.prog.bytesOf 32 := by rw [show Try.prog.bytesOf 32 = 48 from by kernel_rfl]; decide
theorem bytes4 : 1 ≤ Try.prog.bytesOf 4 := by rw [show Try.prog.bytesOf 4 = 1 from by kernel_rfl]; decide
theorem lasts_any (w : World) (A1 A2 A3 : Option Addr) (n1 c1 n2 c2 n3 c3 : Nat) (l1 l2 : List (Int × UInt8)) (kb : List Bool) (hs : n1 + n2 < 4611686018427387904) (h1 : Acts w A1 n1 l1) (h2 : Acts w A2 n2 l2) (hkb : n3 = kb.length)
    (h3 : 0 < n3 → ∃ b o, A3 = some ⟨b, o, none⟩ ∧ b < w.heap.size ∧ ∀ i (h : i < kb.length), w.cell? ⟨b, o + i, none⟩ = some (.bool kb[i])) :
    Calls Try.prog 4 #[.slice A1 n1 c1, .slice A2 n2 c2, .slice A3 n3 c3] w fun e w' => e = .returned (.bool true) ∧ Below w.heap.size w w' := by
  by_cases hm : n1 + n2 ≤ 60 ∧ n3 ≤ 100
  · exact law_walk w A1 A2 A3 n1 c1 n2 c2 n3 c3 l1 l2 kb h1 h2 hkb h3 hm.1 hm.2
  · exact lasts_many w A1 A2 A3 n1 c1 n2 c2 n3 c3 hs (by omega)
set_option maxRecDepth 100000 in
theorem lasts_lifted (os : Os) (started : os.Started) (H : Type) (enc : TypeId × Value → H) :
    ReturnsInHanded {} Try.checked os 4 .any (Rows.diskLastsSpec.pre6 enc Try.prog Try.f4 Rows.diskLastsRow.domain false) (Rows.diskLastsSpec.post enc Try.prog Try.f4 false true false false) := by
  refine returnsInHanded_of_change_sized (C := Try.checked) own2 started (by kernel_rfl) Try.func4
    (ChangeSpec.witness6 (enc := enc) (C := Try.checked) false ⟨#[], #[.slice none 0 0, .slice none 0 0, .slice none 0 0], []⟩ 8 (by kernel_rfl) (by kernel_rfl) (by kernel_rfl) (by kernel_rfl)) ?_
  intro W base args ds gs before hval0 hW _ hsz0 _
  have hsz : (DataW.weightsEach Try.prog (Try.f4.params.toList ++ Rows.diskLastsSpec.plain.varTypes Try.prog) (ds ++ gs)).all (· ≤ reachBytes) = true := hsz0
  clear hsz0
  have hval : ∀ (j : Nat) t v, Try.f4.params[j]? = some t → args[j]? = some v → Value.okWide Try.prog W .any base t v := hval0
  have hW' := hW
  obtain ⟨p, q, hA0, hV, rfl, _, _⟩ := hW
  have hA : DataW.TrodAll enc Try.prog W 0 (fun _ => true) true Try.f4.params.toList args.toList ds p := hA0
  rw [Try.params4] at hA hval hsz
  obtain ⟨v1, vs1, d1, ds1, p1, q1, hargs, rfl, rfl, h1, r1⟩ := trodAll_cons hA
  obtain ⟨v2, vs2, d2, ds2, p2, q2, rfl, rfl, rfl, h2, r2⟩ := trodAll_cons r1
  obtain ⟨v3, vs3, d3, ds3, p3, q3, rfl, rfl, rfl, h3, r3⟩ := trodAll_cons r2
  obtain ⟨rfl, rfl, rfl⟩ := trodAll_nil r3
  obtain rfl : args = #[v1, v2, v3] := by cases args; simp_all
  obtain ⟨rfl, rfl⟩ := trodVars_none hV
  clear hA0 hval0
  simp only [List.append_nil] at hW'
  obtain ⟨a1, m1, c1, rfl⟩ := okWide_slice Try.underlying22 (hval 0 22 v1 rfl rfl)
  obtain ⟨a2, m2, c2, rfl⟩ := okWide_slice Try.underlying22 (hval 1 22 v2 rfl rfl)
  obtain ⟨a3, m3, c3, rfl⟩ := okWide_slice Try.underlying30 (hval 2 30 v3 rfl rfl)
  obtain ⟨l1, hl1⟩ := open_acts h1
  obtain ⟨l2, hl2⟩ := open_acts h2
  obtain ⟨kb, hk1, hk2⟩ := open_kept h3
  have z1 := sized_len (j := 0) hsz rfl rfl Try.underlying22 bytes32 h1
  have z2 := sized_len (j := 1) hsz rfl rfl Try.underlying22 bytes32 h2
  have hlt : ∀ x ∈ p1 ++ (p2 ++ p3), x.block < W.heap.size := fun x hx => by simpa using hW'.lt x hx
  refine (lasts_any W a1 a2 a3 m1 c1 m2 c2 m3 c3 l1 l2 kb (by omega) hl1 hl2 hk1 hk2).mono fun e W' ⟨he, hb⟩ => ?_
  subst he
  have hk : ∀ (t : TypeId) (v : Value) (d : DataW H) (pl : List MemPlace), (∀ x ∈ pl, x.block < W.heap.size) → Try.prog.readableRec t = true → t < Try.prog.types.size → DataW.Trod enc Try.prog W 0 (fun _ => true) true t v d pl →
      DataW.Trod enc Try.prog W' 0 (fun b => decide (b < W.heap.size)) true t v d pl := fun t v d pl hl hr hts h => Below.trod laidOut hr hts h hb hl
  have hkeep := trodAll_cons_mk (hk 22 _ _ _ (fun x hx => hlt x (by simp [hx])) (by kernel_rfl) (of_decide_eq_true (by kernel_rfl)) h1) (trodAll_cons_mk (hk 22 _ _ _ (fun x hx => hlt x (by simp [hx])) (by kernel_rfl) (of_decide_eq_true (by kernel_rfl)) h2)
    (trodAll_cons_mk (hk 30 _ _ _ (fun x hx => hlt x (by simp [hx])) (by kernel_rfl) (of_decide_eq_true (by kernel_rfl)) h3) trodAll_mk0))
  exact ⟨_, rfl, _, _, _, [], _, [], hW', trodAll_cons_mk (shut_bool Try.underlying4 _) trodAll_mk0, hkeep, rfl, hb.frame _, fun h => by cases h⟩

theorem lasts_said : Rows.DiskLastsSaid :=
  OpenClaim.holds_of_wide 4 Try.f4 rfl rfl rfl rfl rfl rfl rfl ⟨rfl, rfl, rfl, rfl, rfl⟩ rfl rfl rfl rfl rfl (by kernel_rfl) Try.func4 (by kernel_rfl)
    (of_decide_eq_true (by kernel_rfl)) (by unfold Func.isWrapper; first | (rw [if_pos (by decide +kernel)]; kernel_rfl) | (rw [if_neg (by decide +kernel)]; exact ⟨rfl, rfl⟩))
    (fun os started H enc _ => lasts_lifted os started H enc)
end Go.Proofs.Ytcbfnbmkogeehaa
