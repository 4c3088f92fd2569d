/- The statement on what is laid and taken again: for all texts, every number, digest and bound the call returns true, and they read as before. -/
import Derived.Test.YtjoiimhifogbhaaC1
import Derived.Test.YtjoiimhifogbhaaB4
import Derived.ProofKit
import Derived.OpenShut
namespace Go.Proofs.Ytjoiimhifogbhaa
open Go.ChangeShapes Go.WideShapes Go.ChangeAt Go.RowKit

set_option maxRecDepth 100000 in
set_option maxHeartbeats 1000000 in
theorem back_many (w : World) (A : Option Addr) (n c : Nat) (N : Nat) (D : List UInt8) (m : UInt8) (hn : 100 < n) :
    Calls Try.prog 4 #[.slice A n c, V8 N, digV D, U m] w fun e w' => e = .returned (.bool true) ∧ Below w.heap.size w w' := by
  have hn' : (100 : Int) < (n : Int) := by omega
  clear hn
  unfold digV
  go_enter Try.func4, Try.ntmps4
  go_wp2_with (go_at_call 6; refine (awake_walk _).mono ?_; rintro e w1 ⟨rfl, hb1⟩; have HB : Hid (Below w.heap.size w w1) := ((Below.refl _ w).alloc (Nat.le_refl _) _).trans (hb1.mono (by simp)); clear hb1)
  go_ret
  exact ⟨rfl, HB.out⟩
theorem back_any (w : World) (A : Option Addr) (n c : Nat) (ps : List ByteArray) (N : Nat) (D : List UInt8) (m : UInt8)
    (h1 : Row w A n (ps.map Value.string)) (hN : N < 18446744073709551616) (hD : D.length = 32) :
    Calls Try.prog 4 #[.slice A n c, V8 N, digV D, U m] w fun e w' => e = .returned (.bool true) ∧ Below w.heap.size w w' := by
  by_cases h : n ≤ 100
  · exact back_walk w A n c ps N D m h h1 hN hD
  · exact back_many w A n c N D m (by omega)

/-- A digest that came in by value: 32 bytes. -/
theorem open_dig {H : Type} {enc : TypeId × Value → H} {W : World} {r : Reach} {base b : Nat} {sp : Nat → Bool} {hd : Bool} {v : Value} {d : DataW H} {p : List MemPlace} (hv : Value.okWide Try.prog W r base 33 v) (h : DataW.Trod enc Try.prog W b sp hd 33 v d p) :
    ∃ l : List UInt8, l.length = 32 ∧ v = digV l := by
  simp only [Value.okWide, Try.underlying33] at hv
  obtain ⟨cs, rfl, hsz, _⟩ := hv
  obtain ⟨fuel, hf⟩ := h
  obtain ⟨l, hl, hc⟩ := dig_cells hf
  refine ⟨l, hl, ?_⟩
  unfold digV
  congr 1
  apply Array.ext'
  simpa [Value.cells] using hc

set_option maxRecDepth 100000 in
theorem back_lifted (os : Os) (started : os.Started) (H : Type) (enc : TypeId × Value → H) :
    ReturnsInHanded {} Try.checked os 4 .any (Rows.wireBackSpec.pre6 enc Try.prog Try.f4 Rows.wireBackRow.domain false) (Rows.wireBackSpec.post enc Try.prog Try.f4 false true false false) := by
  refine returnsInHanded_of_change (C := Try.checked) own started (by kernel_rfl) Try.func4
    (ChangeSpec.witness6 (enc := enc) (C := Try.checked) false ⟨#[], #[.slice none 0 0, .int .u64 0, .agg z32, .int .u8 0], []⟩ 8 (by kernel_rfl) (by kernel_rfl) (by kernel_rfl) (by kernel_rfl)) ?_
  intro W base args ds gs before hval0 hW _ _
  have hval : ∀ (j : Nat) t v, Try.f4.params[j]? = some t → args[j]? = some v → Value.okWide Try.prog W .any base t v := hval0
  have hW' := hW
  obtain ⟨p, q, hA0, hV, rfl, _, _⟩ := hW
  have hA : DataW.TrodAll enc Try.prog W 0 (fun _ => true) true Try.f4.params.toList args.toList ds p := hA0
  rw [Try.params4] at hA hval
  obtain ⟨v0, vs0, d0, ds0, p0, q0, hargs, rfl, rfl, h0, r0⟩ := trodAll_cons hA
  obtain ⟨v1, vs1, d1, ds1, p1, q1, rfl, rfl, rfl, h1, r1⟩ := trodAll_cons r0
  obtain ⟨v2, vs2, d2, ds2, p2, q2, rfl, rfl, rfl, h2, r2⟩ := trodAll_cons r1
  obtain ⟨v3, vs3, d3, ds3, p3, q3, rfl, rfl, rfl, h3, r3⟩ := trodAll_cons r2
  obtain ⟨rfl, rfl, rfl⟩ := trodAll_nil r3
  obtain rfl : args = #[v0, v1, v2, v3] := by cases args; simp_all
  obtain ⟨rfl, rfl⟩ := trodVars_none hV
  clear hA0 hval0
  simp only [List.append_nil] at hW'
  obtain ⟨a1, l1, c1, rfl⟩ := okWide_slice Try.underlying24 (hval 0 24 v0 rfl rfl)
  obtain ⟨x, rfl, rfl, rfl, wx⟩ := open_int Try.underlying30 (hval 1 30 v1 rfl rfl) h1
  obtain ⟨D, hD, rfl⟩ := open_dig (hval 2 33 v2 rfl rfl) h2
  obtain ⟨y, rfl, rfl, rfl, wy⟩ := open_int Try.underlying5 (hval 3 5 v3 rfl rfl) h3
  obtain ⟨ps, hp1, _⟩ := open_rowS h0
  have hlt : ∀ x ∈ p0 ++ ([] ++ (p2 ++ [])), x.block < W.heap.size := fun x hx => by simpa using hW'.lt x (by simpa using hx)
  have hb8 := bounds_u8 wy
  have hb64 := bounds_u64 wx
  obtain ⟨m, rfl⟩ : ∃ b : UInt8, y = (b.toNat : Int) := ⟨UInt8.ofNat y.toNat, by
    have : (UInt8.ofNat y.toNat).toNat = y.toNat := by show y.toNat % 256 = _; omega
    rw [this]; omega⟩
  obtain ⟨N, rfl⟩ : ∃ N : Nat, x = (N : Int) := ⟨x.toNat, by omega⟩
  refine (back_any W a1 l1 c1 ps N D m hp1 (by omega) hD).mono fun e W' ⟨he, hb⟩ => ?_
  subst he
  have hk : ∀ (t : TypeId) (v : Value) (d : DataW H) (pl : List MemPlace), (∀ x ∈ pl, x.block < W.heap.size) → Try.prog.readableRec t = true → t < Try.prog.types.size → DataW.Trod enc Try.prog W 0 (fun _ => true) true t v d pl →
      DataW.Trod enc Try.prog W' 0 (fun b => decide (b < W.heap.size)) true t v d pl := fun t v d pl hl hr hts h => Below.trod laidOut hr hts h hb hl
  have hkeep := trodAll_cons_mk (hk 24 _ _ _ (fun x hx => hlt x (by simp [hx])) (by kernel_rfl) (of_decide_eq_true (by kernel_rfl)) h0) (trodAll_cons_mk (shut_int Try.underlying30 wx) (trodAll_cons_mk (hk 33 _ _ _ (fun x hx => hlt x (by simp [hx])) (by kernel_rfl) (of_decide_eq_true (by kernel_rfl)) h2)
    (trodAll_cons_mk (shut_int Try.underlying5 wy) trodAll_mk0)))
  exact ⟨_, rfl, _, _, _, [], _, [], hW', trodAll_cons_mk (shut_bool Try.underlying4 _) trodAll_mk0, hkeep, rfl, hb.frame _, fun h => by cases h⟩

theorem back_said : Rows.WireBackSaid :=
  OpenClaim.holds_of_wide 4 Try.f4 rfl rfl rfl rfl rfl rfl rfl ⟨rfl, rfl, rfl, rfl, rfl⟩ rfl rfl rfl rfl rfl (by kernel_rfl) Try.func4 (by kernel_rfl)
    (of_decide_eq_true (by kernel_rfl)) (by unfold Func.isWrapper; first | (rw [if_pos (by decide +kernel)]; kernel_rfl) | (rw [if_neg (by decide +kernel)]; exact ⟨rfl, rfl⟩))
    (fun os started H enc _ => back_lifted os started H enc)
end Go.Proofs.Ytjoiimhifogbhaa
