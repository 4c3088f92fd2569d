/- The walk of Less; hexes stand in the order of their digests. -/
import Derived.Test.YtcbfnbmkogeehaaDoorH2
namespace Go.Proofs.YtcbfnbmkogeehaaDoor
open Go.RowKit
theorem add_one_add (a : Addr) (j : Nat) : (a.add 1).add j = a.add (j + 1) := by
  unfold Addr.add
  by_cases h : j = 0
  · subst h; rfl
  · simp [h, Nat.add_comm, Nat.add_left_comm]
theorem load_bytes {w : World} : ∀ (l : List UInt8) (a : Addr) (acc : ByteArray), (∀ j x, l[j]? = some x → w.cell? (a.add j) = some (U x)) → (Extern.Bytes.loadBytes a l.length acc).run Tryd.prog w = .ok ⟨acc.data ++ l.toArray⟩ w
  | [], a, acc, _ => by
    show Result.ok acc w = _
    congr 1
  | x :: l, a, acc, h => by
    have h0 : w.cell? a = some (U x) := by simpa [Addr.add] using h 0 x rfl
    have ih := load_bytes l (a.add 1) (acc.push x) (fun j y hj => by rw [add_one_add]; exact h (j + 1) y (by simpa using hj))
    have hl : (load a).run Tryd.prog w = .ok (U x) w := by simp [load, Sem.run, h0]
    simp only [List.length_cons, Extern.Bytes.loadBytes, Sem.run_bind, hl, Result.andThen_ok]
    show (Extern.Bytes.loadBytes (a.add 1) l.length (acc.push (((x.toNat : Int)).toNat.toUInt8))).run Tryd.prog w = _
    rw [show ((x.toNat : Int)).toNat.toUInt8 = x by simp, ih]
    congr 1
    simp
theorem load_blk {w : World} {b : Nat} {t : TypeId} {l : List UInt8} (h : Blk w b t (l.map U).toArray) : (Extern.Bytes.loadBytes ⟨b, 0, none⟩ l.length .empty).run Tryd.prog w = .ok (bstr l) w := by
  rw [load_bytes l ⟨b, 0, none⟩ .empty (fun j x hj => by
    rw [show (⟨b, 0, none⟩ : Addr).add j = ⟨b, j, none⟩ from by unfold Addr.add; split <;> simp_all, h.cell]
    simp [hj])]
  congr 1
  simp [bstr]
theorem run_cmp {w : World} {b1 b2 : Nat} {l m : List UInt8} (hl : l.length = 32) (hm : m.length = 32) (h1 : Blk w b1 25 (l.map U).toArray) (h2 : Blk w b2 25 (m.map U).toArray) :
    (callFunc 35 #[.slice (some ⟨b1, 0, none⟩) 32 32, .slice (some ⟨b2, 0, none⟩) 32 32]).run Tryd.prog w = .ok (.value (.int .i64 (Lib.compareBytes l m))) w := by
  rw [run_callFunc_extern (e := Extern.BytealgCompare.compare) Tryd.func35 (by kernel_rfl) (by kernel_rfl) (by kernel_rfl) (by kernel_rfl)]
  have e1 := load_blk h1
  have e2 := load_blk h2
  rw [hl] at e1
  rw [hm] at e2
  have : (Extern.BytealgCompare.compare #[.slice (some ⟨b1, 0, none⟩) 32 32, .slice (some ⟨b2, 0, none⟩) 32 32]).run Tryd.prog w = .ok (.int .i64 (Lib.compareBytes l m)) w := by
    show Sem.run Tryd.prog (do pure (goInt (Extern.BytealgCompare.cmp (← Extern.Bytes.loadBytes ⟨b1, 0, none⟩ 32 .empty) (← Extern.Bytes.loadBytes ⟨b2, 0, none⟩ 32 .empty)))) w = _
    simp only [Sem.run_bind, e1, e2, Result.andThen_ok, Sem.run_pure, Lib.cmp_eq]
    rfl
  rw [this]
  rfl
theorem cmp_walk {w : World} {b1 b2 : Nat} {l m : List UInt8} (hl : l.length = 32) (hm : m.length = 32) (h1 : Blk w b1 25 (l.map U).toArray) (h2 : Blk w b2 25 (m.map U).toArray) :
    Calls Tryd.prog 27 #[.slice (some ⟨b1, 0, none⟩) 32 32, .slice (some ⟨b2, 0, none⟩) 32 32] w fun e w' => e = .returned (.int .i64 (Lib.compareBytes l m)) ∧ w' = w := by
  have h := run_cmp hl hm h1 h2
  clear h1 h2 hl hm
  go_enter Tryd.func27, Tryd.ntmps27
  go_wp2
  go_ret
  exact ⟨rfl, rfl⟩
set_option maxHeartbeats 400000 in
theorem less_walk (w : World) (l m : List UInt8) (hl : l.length = 32) (hm : m.length = 32) :
    Calls Tryd.prog 14 #[.agg (l.map U).toArray, .agg (m.map U).toArray] w fun e w' => e = .returned (.bool (decide (Lib.compareBytes l m < 0))) ∧ Below w.heap.size w w' := by
  have H1 := Lib.hid hl
  have H2 := Lib.hid hm
  have b1 : Hid (Blk ((w.alloc (.cells (l.map U).toArray 25)).alloc (.cells (m.map U).toArray 25)) w.heap.size 25 (l.map U).toArray) := (Blk.fresh w 25 _).more _
  have b2 : Hid (Blk ((w.alloc (.cells (l.map U).toArray 25)).alloc (.cells (m.map U).toArray 25)) (w.heap.size + 1) 25 (m.map U).toArray) := Blk.fresh_at (by simp) _ _
  have HBE : Hid (Below w.heap.size w ((w.alloc (.cells (l.map U).toArray 25)).alloc (.cells (m.map U).toArray 25))) := ((Below.refl _ w).alloc (Nat.le_refl _) _).alloc (by simp) _
  clear hl hm
  go_enter Tryd.func14, Tryd.ntmps14
  go_wp2
  generalize World.alloc _ _ = w1 at *
  go_quiet ((go_at_call 27; exact Calls.quiet_of_same (cmp_walk H1.out H2.out (b1.out.drewN _) (b2.out.drewN _))))
  go_wp2
  go_ret
  exact ⟨rfl, Below.trans HBE.out ⟨rfl, rfl, rfl, Nat.le_refl _, fun _ _ => rfl⟩⟩
theorem hexD_lt : ∀ i, i < 16 → ∀ j, j < 16 → decide ((hexD i).toNat < (hexD j).toNat) = decide (i < j) ∧ (hexD i == hexD j) = decide (i = j) := by decide
theorem hex_less : ∀ l m : List UInt8, l.length = m.length → Op.bytesLess (hexOf l) (hexOf m) = decide (Lib.compareBytes l m < 0)
  | [], [], _ => rfl
  | x :: l, y :: m, h => by
    have ih := hex_less l m (by simpa using h)
    have hx := x.toNat_lt
    have hy := y.toNat_lt
    obtain ⟨a1, a2⟩ := hexD_lt (x.toNat / 16) (by omega) (y.toNat / 16) (by omega)
    obtain ⟨c1, c2⟩ := hexD_lt (x.toNat % 16) (by omega) (y.toNat % 16) (by omega)
    show Op.bytesLess (hexD (x.toNat / 16) :: hexD (x.toNat % 16) :: hexOf l) (hexD (y.toNat / 16) :: hexD (y.toNat % 16) :: hexOf m) = _
    simp only [Op.bytesLess, a1, a2, c1, c2, ih, Lib.compareBytes, UInt8.lt_iff_toNat_lt]
    by_cases h1 : x.toNat < y.toNat
    · rw [if_pos h1]
      by_cases h3 : x.toNat / 16 < y.toNat / 16
      · simp [h3]
      · have h4 : x.toNat / 16 = y.toNat / 16 := by omega
        have h5 : x.toNat % 16 < y.toNat % 16 := by omega
        simp [h4, h5]
    · rw [if_neg h1]
      have h3 : ¬ x.toNat / 16 < y.toNat / 16 := by omega
      by_cases h2 : y.toNat < x.toNat
      · rw [if_pos h2]
        by_cases h4 : x.toNat / 16 = y.toNat / 16
        · have h5 : ¬ x.toNat % 16 < y.toNat % 16 := by omega
          have h6 : ¬ x.toNat % 16 = y.toNat % 16 := by omega
          simp [h4, h5, h6]
        · simp [h3, h4]
      · rw [if_neg h2]
        have h4 : x.toNat = y.toNat := by omega
        simp [h4]
  | [], _ :: _, h => by simp at h
  | _ :: _, [], h => by simp at h
end Go.Proofs.YtcbfnbmkogeehaaDoor
