/- The statement on both disks: for every number and every row of acts the call returns true, and they read as before. -/
import Derived.Test.YtcbfnbmkogeehaaQb
import Derived.Test.YtcbfnbmkogeehaaK29
import Derived.ProofKit
import Derived.OpenShut
namespace Go.Proofs.Ytcbfnbmkogeehaa
open Go.ChangeShapes Go.WideShapes Go.ChangeAt Go.RowKit

section
variable {H : Type} {enc : TypeId × Value → H} {W : World} {base : Nat} {hd : Bool} {d : DataW H} {p : List MemPlace}
theorem sact_cells {fuel : Nat} {cs : List Value} {x : DataW H × List MemPlace} (h : DataW.trod enc Try.prog W base (fun _ => true) hd fuel 32 cs = some x) :
    ∃ a : Sact, cs = [.int .i64 a.x, .int .i64 a.k, U a.b, .slice a.A a.n a.c] ∧ (-9223372036854775808 ≤ a.k ∧ a.k ≤ 9223372036854775807) ∧
      (a.n = a.kb.length ∧ (0 < a.n → ∃ b o, a.A = some ⟨b, o, none⟩ ∧ b < W.heap.size ∧ ∀ i (h : i < a.kb.length), W.cell? ⟨b, o + i, none⟩ = some (.bool a.kb[i]))) := by
  obtain ⟨y0, y1, y2, y3, n, _, hl, h0, h1, h2, h3⟩ := Go.Joins.trod_struct4 Try.underlying32 h
  rw [cells32] at hl
  obtain ⟨c0, c1, c2, c3, rfl⟩ := list4 hl
  clear hl
  obtain ⟨n0, e0, _, w0⟩ := DataW.trod_int Try.underlying3 h0
  obtain ⟨n1, e1, _, w1⟩ := DataW.trod_int Try.underlying3 h1
  obtain ⟨n2, e2, _, w2⟩ := DataW.trod_int Try.underlying5 h2
  simp [cells3] at e0
  simp [cells3] at e1
  simp [cells5] at e2
  subst e0 e1 e2
  have hb := bounds_u8 w2
  have e2 : Value.int .u8 n2 = U (UInt8.ofNat n2.toNat) := by
    rw [U_def]
    have : (UInt8.ofNat n2.toNat).toNat = n2.toNat := by show n2.toNat % 256 = _; omega
    have e3 : ((n2.toNat : Nat) : Int) = n2 := by omega
    rw [this, e3]
  have hs : ∃ A m c, c3 = .slice A m c := by
    rcases Go.Deep.open_slice Try.underlying30 h3 with ⟨hcs, _⟩ | ⟨a, len, cap, m, k, D, Pl, hcs, _⟩
    · simp [cells30] at hcs
      exact ⟨_, _, _, hcs⟩
    · simp [cells30] at hcs
      exact ⟨_, _, _, hcs⟩
  obtain ⟨A, m, c, rfl⟩ := hs
  have h3' : DataW.Trod enc Try.prog W base (fun _ => true) hd 30 (.slice A m c) y3.1 y3.2 := by
    refine ⟨n, ?_⟩
    simp only [List.drop_succ_cons, List.drop_zero, cells30] at h3
    exact h3
  obtain ⟨kb, hk1, hk2⟩ := open_kept h3'
  exact ⟨⟨n0, n1, UInt8.ofNat n2.toNat, A, m, c, kb⟩, by rw [e2], bounds_i64 w1, hk1, hk2⟩
theorem open_scr {A : Option Addr} {n c : Nat} (h : DataW.Trod enc Try.prog W base (fun _ => true) hd 22 (.slice A n c) d p) : ∃ l, Scr W A n l := by
  obtain ⟨fuel, hf⟩ := h
  rcases Go.Deep.open_slice Try.underlying22 hf with ⟨hcs, _⟩ | ⟨a, len, cap, m, k, D, Pl, hcs, _, hl, _, hm, _, hel⟩
  · simp [Value.cells] at hcs
    obtain ⟨rfl, rfl, rfl⟩ := hcs
    exact ⟨[], rfl, by simp, fun h => absurd h (by omega), by simp⟩
  · simp [Value.cells] at hcs
    obtain ⟨rfl, rfl, rfl⟩ := hcs
    have hle : n ≤ m := by rw [hm]; split <;> omega
    have hone : ∀ i, i < n → ∃ s : Sact, (-9223372036854775808 ≤ s.k ∧ s.k ≤ 9223372036854775807) ∧
        (s.n = s.kb.length ∧ (0 < s.n → ∃ b o, s.A = some ⟨b, o, none⟩ ∧ b < W.heap.size ∧ ∀ i (h : i < s.kb.length), W.cell? ⟨b, o + i, none⟩ = some (.bool s.kb[i]))) ∧
        ∀ j v, [.int .i64 s.x, .int .i64 s.k, U s.b, .slice s.A s.n s.c][j]? = some v → W.cell? ((a.add (i * 4)).add j) = some v := by
      intro i hi
      obtain ⟨cs', hc, ht⟩ := hel i (by omega)
      rw [cells32] at hc
      obtain ⟨s, rfl, hk, hkp⟩ := sact_cells ht
      refine ⟨s, hk, hkp, fun j v hv => ?_⟩
      unfold World.cells? at hc
      split at hc
      · have hj : j < 4 := by have := (List.getElem?_eq_some_iff.1 hv).1; simpa using this
        have := mapM_some_get hc j j (by simp [hj])
        rw [this, hv]
      · cases hc
    have hall : ∀ k, k ≤ n → ∃ l : List Sact, l.length = k ∧ (∀ s ∈ l, -9223372036854775808 ≤ s.k ∧ s.k ≤ 9223372036854775807) ∧
        (∀ s ∈ l, s.n = s.kb.length ∧ (0 < s.n → ∃ b o, s.A = some ⟨b, o, none⟩ ∧ b < W.heap.size ∧ ∀ i (h : i < s.kb.length), W.cell? ⟨b, o + i, none⟩ = some (.bool s.kb[i]))) ∧
        ∀ i (h : i < l.length) j v, [.int .i64 l[i].x, .int .i64 l[i].k, U l[i].b, .slice l[i].A l[i].n l[i].c][j]? = some v → W.cell? ((a.add (i * 4)).add j) = some v := by
      intro k
      induction k with
      | zero => exact fun _ => ⟨[], rfl, by simp, by simp, fun i h => by simp at h⟩
      | succ k ih =>
        intro hk
        obtain ⟨l, hl2, hb, hkp, hi⟩ := ih (by omega)
        obtain ⟨q, hq, hq2, hc⟩ := hone k (by omega)
        refine ⟨l ++ [q], by simp [hl2], fun r hr => ?_, fun r hr => ?_, fun i h j v hv => ?_⟩
        · rcases List.mem_append.1 hr with h1 | h1
          · exact hb r h1
          · obtain rfl := List.mem_singleton.1 h1; exact hq
        · rcases List.mem_append.1 hr with h1 | h1
          · exact hkp r h1
          · obtain rfl := List.mem_singleton.1 h1; exact hq2
        · by_cases e : i < l.length
          · rw [List.getElem_append_left e] at hv; exact hi i e j v hv
          · have hik : i = l.length := by simp at h; omega
            subst hik
            simp only [List.getElem_append_right (Nat.le_refl _), Nat.sub_self, List.getElem_cons_zero] at hv
            rw [hl2]
            exact hc j v hv
    obtain ⟨l, hl2, hb, hkp, hc⟩ := hall n (Nat.le_refl _)
    refine ⟨l, hl2.symm, hb, fun h0 => ?_, hkp⟩
    have hd0 : 0 < l.length := by omega
    have h00 := hc 0 hd0 0 (.int .i64 l[0].x) rfl
    obtain ⟨b, off, spot⟩ := a
    have hspot : spot = none := by simpa [Addr.add] using World.cell?_spot h00
    subst hspot
    have hadd : ∀ f i, (⟨b, f, none⟩ : Addr).add i = ⟨b, f + i, none⟩ := fun f i => by unfold Addr.add; split <;> simp_all
    refine ⟨b, off, rfl, ?_, fun i hi j v hv => ?_⟩
    · have := World.block_lt_of_cell? W _ h00
      rw [hadd, hadd] at this
      exact this
    · have := hc i hi j v hv
      rw [hadd, hadd] at this
      exact this
end
attribute [local irreducible] wpList in
theorem plays_many (w : World) (m : Nat) (hm1 : 64 ≤ m) (hm2 : m ≤ 4096) (A1 : Option Addr) (n1 c1 : Nat) (hn : 40 < n1) :
    Calls Try.prog 3 #[.int .i64 (m : Int), .slice A1 n1 c1] w fun e w' => e = .returned (.bool true) ∧ Below w.heap.size w w' := by
  have q1 : (40 : Int) < (n1 : Int) := by omega
  clear hn
  go_enter Try.func3, Try.ntmps3
  go_wp2_with (first
    | (go_at_call 6; refine (awake_walk _).mono ?_; rintro e w0 ⟨rfl, hb0⟩; have HB0 := Lib.hid hb0; clear hb0)
    | (go_at_call 7; refine (new_walk _ m hm1 hm2).mono ?_; rintro e w1 ⟨g, lb, mb, rfl, hB1, hg, hlb, hmb, hr0⟩; have hs0 := HB0.out.size; have HB1 := Lib.hid (HB0.out.trans (hB1.mono hs0)); clear hB1 hg hlb hmb hs0 hr0)
    | (go_at_call 8; refine (qnew_walk w1 m hm1 hm2).mono ?_; rintro e w2 ⟨q, sb, lc, wb, rfl, hB2, hq, hsb, hlc, hwb, hq0⟩; have HB2 := Lib.hid (HB1.out.trans (hB2.mono HB1.out.size)); clear hB2 hq hsb hlc hwb hq0))
  go_ret
  exact ⟨rfl, HB2.out⟩
attribute [local irreducible] wpList in
theorem plays_none (w : World) (k : Int) (h : k < 64 ∨ 4096 < k) (A1 : Option Addr) (n1 c1 : Nat) :
    Calls Try.prog 3 #[.int .i64 k, .slice A1 n1 c1] w fun e w' => e = .returned (.bool true) ∧ Below w.heap.size w w' := by
  go_enter Try.func3, Try.ntmps3
  go_wp2_with (first
    | (go_at_call 6; refine (awake_walk _).mono ?_; rintro e w0 ⟨rfl, hb0⟩; have HB0 := Lib.hid hb0; clear hb0)
    | (go_at_call 7; refine (new_none _ k h).mono ?_; rintro e w1 ⟨rfl, rfl⟩)
    | (go_at_call 8; refine (qnew_none _ k h).mono ?_; rintro e w2 ⟨rfl, rfl⟩))
  go_ret
  exact ⟨rfl, HB0.out⟩
theorem plays_any (w : World) (k : Int) (A1 : Option Addr) (n1 c1 : Nat) (l : List Sact) (h1 : Scr w A1 n1 l) :
    Calls Try.prog 3 #[.int .i64 k, .slice A1 n1 c1] w fun e w' => e = .returned (.bool true) ∧ Below w.heap.size w w' := by
  by_cases h : k < 64 ∨ 4096 < k
  · exact plays_none w k h A1 n1 c1
  · obtain ⟨m, rfl⟩ := Int.eq_ofNat_of_zero_le (show 0 ≤ k by omega)
    by_cases hn : n1 ≤ 40
    · exact plays_walk w m (by omega) (by omega) A1 n1 c1 l h1 hn
    · exact plays_many w m (by omega) (by omega) A1 n1 c1 (by omega)
theorem own3 : ownKnob Try.prog.godebug = none := by kernel_rfl
set_option maxRecDepth 100000 in
theorem plays_lifted (os : Os) (started : os.Started) (H : Type) (enc : TypeId × Value → H) :
    ReturnsInHanded {} Try.checked os 3 .any (Rows.diskPlaysSpec.pre6 enc Try.prog Try.f3 Rows.diskPlaysRow.domain false) (Rows.diskPlaysSpec.post enc Try.prog Try.f3 false true false false) := by
  refine returnsInHanded_of_change (C := Try.checked) own3 started (by kernel_rfl) Try.func3
    (ChangeSpec.witness6 (enc := enc) (C := Try.checked) false ⟨#[], #[.int .i64 0, .slice none 0 0], []⟩ 8 (by kernel_rfl) (by kernel_rfl) (by kernel_rfl) (by kernel_rfl)) ?_
  intro W base args ds gs before hval0 hW _ _
  have hval : ∀ (j : Nat) t v, Try.f3.params[j]? = some t → args[j]? = some v → Value.okWide Try.prog W .any base t v := hval0
  have hW' := hW
  obtain ⟨p, q, hA0, hV, rfl, _, _⟩ := hW
  have hA : DataW.TrodAll enc Try.prog W 0 (fun _ => true) true Try.f3.params.toList args.toList ds p := hA0
  rw [Try.params3] at hA hval
  obtain ⟨v0, vs0, d0, ds0, p0, q0, hargs, rfl, rfl, h0, r0⟩ := trodAll_cons hA
  obtain ⟨v1, vs1, d1, ds1, p1, q1, rfl, rfl, rfl, h1, r1⟩ := trodAll_cons r0
  obtain ⟨rfl, rfl, rfl⟩ := trodAll_nil r1
  obtain rfl : args = #[v0, v1] := by cases args; simp_all
  obtain ⟨rfl, rfl⟩ := trodVars_none hV
  clear hA0 hval0
  simp only [List.append_nil] at hW'
  obtain ⟨x, rfl, rfl, rfl, wx⟩ := open_int Try.underlying3 (hval 0 3 v0 rfl rfl) h0
  obtain ⟨a1, m1, c1, rfl⟩ := okWide_slice Try.underlying22 (hval 1 22 v1 rfl rfl)
  obtain ⟨l1, hl1⟩ := open_scr h1
  have hlt : ∀ x ∈ [] ++ p1, x.block < W.heap.size := fun x hx => by simpa using hW'.lt x hx
  refine (plays_any W x a1 m1 c1 l1 hl1).mono fun e W' ⟨he, hb⟩ => ?_
  subst he
  have hk : ∀ (t : TypeId) (v : Value) (d : DataW H) (pl : List MemPlace), (∀ x ∈ pl, x.block < W.heap.size) → Try.prog.readableRec t = true → t < Try.prog.types.size → DataW.Trod enc Try.prog W 0 (fun _ => true) true t v d pl →
      DataW.Trod enc Try.prog W' 0 (fun b => decide (b < W.heap.size)) true t v d pl := fun t v d pl hl hr hts h => Below.trod laidOut hr hts h hb hl
  have hkeep := trodAll_cons_mk (shut_int Try.underlying3 wx) (trodAll_cons_mk (hk 22 _ _ _ (fun x hx => hlt x (by simp [hx])) (by kernel_rfl) (of_decide_eq_true (by kernel_rfl)) h1) trodAll_mk0)
  exact ⟨_, rfl, _, _, _, [], _, [], hW', trodAll_cons_mk (shut_bool Try.underlying4 _) trodAll_mk0, hkeep, rfl, hb.frame _, fun h => by cases h⟩

theorem plays_said : Rows.DiskPlaysSaid :=
  OpenClaim.holds_of_wide 3 Try.f3 rfl rfl rfl rfl rfl rfl rfl ⟨rfl, rfl, rfl, rfl, rfl⟩ rfl rfl rfl rfl rfl (by kernel_rfl) Try.func3 (by kernel_rfl)
    (of_decide_eq_true (by kernel_rfl)) (by unfold Func.isWrapper; first | (rw [if_pos (by decide +kernel)]; kernel_rfl) | (rw [if_neg (by decide +kernel)]; exact ⟨rfl, rfl⟩))
    (fun os started H enc _ => plays_lifted os started H enc)
end Go.Proofs.Ytcbfnbmkogeehaa
