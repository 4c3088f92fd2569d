/- slices.Contains; rot.Turn. -/
import Derived.Test.YtcinbmekjlmdpaaGreatY0k
import Derived.Test.YtcinbmekjlmdpaaGreatY04

/-! slices.Contains; rot.Turn. -/
namespace Go.Proofs.YtcinbmekjlmdpaaGreat
open Go.RowKit

attribute [local irreducible] V
theorem contains_walk (w : World) (v : Value) (l : List UInt32) (d : UInt32) (h : RV w v l) :
    Calls Tryz.prog 52 #[v, V d] w fun e w' => e = .returned (.bool (l.contains d)) ∧ w = w' := by
  obtain ⟨A, c, rfl, _, hr⟩ := h
  have HI := Lib.hid (index_walk w A c l d hr)
  by_cases hd : d ∈ l
  · have hlt := fst_lt hd
    have hx : ix l d = (fst l d : Int) := ix_lt hlt
    have HC : Hid (l.contains d = true) := List.contains_iff_mem.2 hd
    rw [hx] at HI
    have hge : (0 : Int) ≤ (fst l d : Int) := by omega
    clear hd hlt hx hr
    generalize fst l d = p at *
    go_enter Tryz.func52, Tryz.ntmps52
    go_wp2_with (go_at_call 97; refine HI.out.mono ?_; rintro e w' ⟨rfl, rfl⟩)
    go_ret
    exact ⟨by rw [HC.out]; simp, rfl⟩
  · have hx : ix l d = -1 := ix_not hd
    have HC : Hid (l.contains d = false) := by
      show _ = _
      rw [Bool.eq_false_iff]; exact fun q => hd (List.contains_iff_mem.1 q)
    rw [hx] at HI
    clear hd hx hr
    go_enter Tryz.func52, Tryz.ntmps52
    go_wp2_with (go_at_call 97; refine HI.out.mono ?_; rintro e w' ⟨rfl, rfl⟩)
    go_ret
    exact ⟨by rw [HC.out]; rfl, rfl⟩
/-- The turn that has a dart; none. -/
def tro (rots : List (List UInt32)) (d : UInt32) : List UInt32 := rots.getD (rots.findIdx fun t => t.contains d) []
attribute [local irreducible] wpList in
set_option maxRecDepth 100000 in
set_option maxHeartbeats 2000000 in
/-- rot.Turn. -/
theorem turn_walk (w : World) (v : Value) (g : Gr) (rots : List (List UInt32)) (d : UInt32) (h : RM w v g rots) (hl : rots.length ≤ 1000) :
    Calls Tryz.prog 19 #[v, V d] w fun e w' => ∃ u, e = .returned u ∧ RV w' u (tro rots d) ∧ Below w.heap.size w w' := by
  obtain ⟨A, c, B, dd, C, ce, rfl, _, hr⟩ := h
  have HB : Hid (Below w.heap.size w (w.alloc (.cells #[.slice A g.vs.length c, .slice B g.es.length dd, .slice C rots.length ce] 28))) := (Below.refl _ w).alloc (Nat.le_refl _) _
  have HBK : Hid (Blk (w.alloc (.cells #[.slice A g.vs.length c, .slice B g.es.length dd, .slice C rots.length ce] 28)) w.heap.size 28 #[.slice A g.vs.length c, .slice B g.es.length dd, .slice C rots.length ce]) := Blk.fresh _ _ _
  have HR := Lib.hid (hr.kept HB.out)
  have HN : Hid (∀ j, j < rots.findIdx (fun t => t.contains d) → (rots.getD j []).contains d = false) := fun j hj => by
    have h1 : j < rots.length := Nat.lt_of_lt_of_le hj List.findIdx_le_length
    have := List.not_of_lt_findIdx hj
    rw [List.getD_eq_getElem?_getD, List.getElem?_eq_getElem h1]
    simpa using this
  have HY : Hid (rots.findIdx (fun t => t.contains d) < rots.length → (rots.getD (rots.findIdx (fun t => t.contains d)) []).contains d = true) := fun hj => by
    have := List.findIdx_getElem (p := fun t : List UInt32 => t.contains d) (xs := rots) (w := hj)
    rw [List.getD_eq_getElem?_getD, List.getElem?_eq_getElem hj]
    exact this
  have HX : Hid (tro rots d = rots.getD (rots.findIdx fun t => t.contains d) []) := rfl
  have HLE : Hid (rots.findIdx (fun t => t.contains d) ≤ rots.length) := List.findIdx_le_length
  clear hr
  generalize rots.findIdx (fun t => t.contains d) = q at *
  go_enter Tryz.func19, Tryz.ntmps19
  go_wp2
  generalize w.alloc (.cells #[.slice A g.vs.length c, .slice B g.es.length dd, .slice C rots.length ce] 28) = w1 at *
  have k2 : w1.cell? ⟨w.heap.size, 2, none⟩ = some (.slice C rots.length ce) := HBK.out.cell 2
  go_loop [10] (fun i => ∃ k : Nat, k ≤ q ∧ i = .int .i64 k) (fun i => rots.length - (intOf i).toNat)
  case atStart => exact ⟨0, Nat.zero_le _, rfl⟩
  case round =>
    obtain ⟨k, hk, rfl⟩ := hrel
    have hle := HLE.out
    by_cases hlt : k < rots.length
    · obtain ⟨_, _, q3, _, z3⟩ := HR.out
      injection q3 with q3 q3a q3b
      subst q3 q3b
      obtain ⟨b3, o3, rfl, _, h3⟩ := z3 (by omega)
      obtain ⟨u5, hc5, hr5⟩ := h3 k hlt
      have HF := Lib.hid (contains_walk w1 u5 _ d hr5)
      have HR5 := Lib.hid hr5
      obtain ⟨A5, c5, rfl, _, _⟩ := hr5
      clear z3 h3
      by_cases hkq : k < q
      · have h0 := HN.out k hkq
        rw [h0] at HF
        clear h0
        generalize rots.getD k [] = row at *
        go_wp2_with (go_at_call 52; refine HF.out.mono ?_; rintro e w' ⟨rfl, rfl⟩)
        go_round
        case rel => exact ⟨k + 1, by omega, by go_num⟩
        case measure => simp [intOf]; omega
      · obtain rfl : k = q := by omega
        have h0 := HY.out hlt
        rw [h0] at HF
        have hrl := HR5.out.len
        clear h0
        generalize rots.getD k [] = row at *
        go_wp2_with (first
          | (go_at_call 53; refine (clone_rv _ _ _ HR5.out).mono ?_; rintro e w3 ⟨u, rfl, hu, hb3⟩; have HU := Lib.hid (hu.rv hrl); have HB3 := Lib.hid hb3; clear hu hb3)
          | (go_at_call 52; refine HF.out.mono ?_; rintro e w' ⟨rfl, rfl⟩))
        go_ret
        exact ⟨_, rfl, by rw [HX.out]; exact HU.out, HB.out.trans (Below.mono HB3.out HB.out.size)⟩
    · have hq : q = rots.length ∨ q = rots.length := by omega
      obtain rfl : k = rots.length := by omega
      have hq2 : q = rots.length := by omega
      have HE : Hid (tro rots d = []) := by
        show _ = _
        rw [HX.out, hq2, List.getD_eq_getElem?_getD, List.getElem?_eq_none (Nat.le_refl _)]; rfl
      clear hq hq2
      go_wp2
      go_ret
      exact ⟨_, rfl, by rw [HE.out]; exact RV.nil _, HB.out⟩
end Go.Proofs.YtcinbmekjlmdpaaGreat
