/- rot.round's from: the face from a dart on. -/
import Derived.Test.YtcinbmekjlmdpaaGreatY0l

/-! rot.round's from: the face from a dart on. -/
namespace Go.Proofs.YtcinbmekjlmdpaaGreat
open Go.RowKit

/-- What was seen, as a map. -/
def sf (S : UInt32 → Bool) (x : UInt32) : Option Value := if S x then some (.agg #[]) else none
theorem sf_none : sf (fun _ => false) = fun _ => none := by funext x; rfl
theorem sf_isSome (S : UInt32 → Bool) (x : UInt32) : (sf S x).isSome = S x := by unfold sf; cases S x <;> rfl
theorem sf_get (S : UInt32 → Bool) (x : UInt32) : (sf S x).getD (.agg #[]) = .agg #[] := by unfold sf; cases S x <;> rfl
/-- With the first so many of a row. -/
def sk (S : UInt32 → Bool) (l : List UInt32) (x : UInt32) : Bool := S x || l.contains x
theorem sk_put (S : UInt32 → Bool) (l : List UInt32) (d : UInt32) : (fun y => if y = d then some (Value.agg #[]) else sf (sk S l) y) = sf (sk S (l ++ [d])) := by
  funext y
  unfold sf sk
  by_cases h : y = d
  · subst h; simp
  · rw [if_neg h]; simp [h]
theorem zero129 (w : World) : (zeroValue 129).run Tryz.prog w = .ok (.agg #[]) w := by kernel_rfl
theorem zero31 (w : World) : (zeroValue 34).run Tryz.prog w = .ok (.int .u32 0) w := by kernel_rfl
/-- The dart at a place of its face, or the first again. -/
def cu (l : List UInt32) (d : UInt32) (k : Nat) : UInt32 := if k < l.length then l.getD k 0 else d
theorem MapOk.bh_at {g : Gr} {rots : List (List UInt32)} (h : MapOk g rots) {x : UInt32} (hx : x ∈ dts g.es) : bh rots rots.flatten x = some (V (fx rots x)) := if_pos (h.flat.mem_iff.2 (tw2_mem h.may hx))
theorem MapOk.bh_out {g : Gr} {rots : List (List UInt32)} (h : MapOk g rots) {x : UInt32} (hx : ¬ x ∈ dts g.es) : bh rots rots.flatten x = none := if_neg fun q => hx (by
  have := tw2_mem h.may (h.flat.mem_iff.1 q)
  rwa [tw2_back] at this)
theorem not_in_take {l : List UInt32} (hn : l.Nodup) {k : Nat} (hk : k < l.length) : (l.take k).contains (l.getD k 0) = false := by
  rw [Bool.eq_false_iff]
  intro h
  rw [List.contains_iff_mem] at h
  obtain ⟨i, hi, e⟩ := List.getElem_of_mem h
  have hi2 : i < k := by rw [List.length_take] at hi; omega
  rw [List.getElem_take, ← getD_at hk] at e
  have := nodup_at hn (by omega) hk e
  omega
attribute [local irreducible] V
attribute [local irreducible] wpList in
set_option maxRecDepth 100000 in
set_option maxHeartbeats 4000000 in
/-- From a dart that was not seen. -/
theorem from_walk (w : World) (mb1 mb2 n m : Nat) (g : Gr) (rots : List (List UInt32)) (S : UInt32 → Bool) (d : UInt32) (hM : MapOk g rots) (h1 : Mu w mb1 n (bh rots rots.flatten)) (h2 : Mu w mb2 m (sf S)) (hne : mb1 ≠ mb2) (hm : m ≤ 1000000) (hd : d ∈ dts g.es) (hS : ∀ x ∈ fc g rots d, S x = false) :
    Calls Tryz.prog 47 #[.agg #[.map (some mb1), .map (some mb2)], V d] w fun e w' => ∃ v m', e = .returned v ∧ Oq w' w.heap.size v (fc g rots d) ∧ m' ≤ m + (fc g rots d).length ∧ Mu w' mb2 m' (sf (sk S (fc g rots d))) ∧ Ex mb2 w w' := by
  have HOK := Lib.hid hM
  have HD := Lib.hid hd
  have HM1 := Lib.hid h1
  have HM2 := Lib.hid h2
  have HS := Lib.hid hS
  have hlt1 := h1.lt
  have hlt2 := h2.lt
  have hfl := fc_len g rots d
  have hn160 := hM.may.ne
  obtain ⟨u, hfe, _, hnd, _⟩ := hM.face hd
  rw [← hfe] at hnd
  have HND := Lib.hid hnd
  have h00 : 0 < (fc g rots d).length ∧ (fc g rots d).getD 0 0 = d := by rw [hfe]; exact ⟨by simp, rfl⟩
  have H00 := Lib.hid h00
  have hz := zero129
  clear h1 h2 hM hd hS hnd h00 hfe
  go_enter Tryz.func47, Tryz.ntmps47
  go_wp2
  have HB1 : Hid (Below w.heap.size w (w.alloc (.cells #[.map (some mb1), .map (some mb2)] 78))) := (Below.refl _ w).alloc (Nat.le_refl _) _
  have HK1 : Hid (Blk (w.alloc (.cells #[.map (some mb1), .map (some mb2)] 78)) w.heap.size 78 #[.map (some mb1), .map (some mb2)]) := Blk.fresh _ _ _
  have HSZ : Hid ((w.alloc (.cells #[.map (some mb1), .map (some mb2)] 78)).heap.size = w.heap.size + 1) := by show _ = _; simp
  have HM11 : Hid (Mu (w.alloc (.cells #[.map (some mb1), .map (some mb2)] 78)) mb1 n (bh rots rots.flatten)) := HM1.out.kept (HB1.out.block _ hlt1)
  have HM21 : Hid (Mu (w.alloc (.cells #[.map (some mb1), .map (some mb2)] 78)) mb2 (m + 0) (sf (sk S ((fc g rots d).take 0)))) := by
    have e : sk S ((fc g rots d).take 0) = S := by funext x; simp [sk]
    rw [e]
    exact HM2.out.kept (HB1.out.block _ hlt2)
  generalize hw1 : w.alloc (.cells #[.map (some mb1), .map (some mb2)] 78) = w1 at *
  clear hw1
  go_loopw [1, 5] (fun dv pv wr => ∃ k : Nat, k ≤ (fc g rots d).length ∧ dv = V (cu (fc g rots d) d k) ∧ Oq wr (w.heap.size + 1) pv ((fc g rots d).take k) ∧ Mu wr mb2 (m + k) (sf (sk S ((fc g rots d).take k))) ∧ Ex mb2 w1 wr) (fun _ pv _ => (fc g rots d).length - lenV pv)
  case atStart => exact ⟨0, Nat.zero_le _, by unfold cu; rw [if_pos H00.out.1, H00.out.2], Oq.nil _ _, HM21.out, Ex.refl _ _⟩
  case round =>
    obtain ⟨k, hk, rfl, hq, hmu, hex⟩ := hrel
    have HQ := Lib.hid hq
    have HMU := Lib.hid hmu
    have HEX := Lib.hid hex
    have HKr := Lib.hid (hex.blk HK1.out (by omega))
    have k0 := HKr.out.cell 0
    have k1 := HKr.out.cell 1
    have HM1r := Lib.hid (HM11.out.kept (hex.block _ HM11.out.lt hne))
    have hlk : ((fc g rots d).take k).length = k := by rw [List.length_take]; omega
    obtain ⟨PA, pc, hpv, _⟩ := hq.is
    rw [hlk] at hpv
    subst hpv
    have HSZR : Hid (w.heap.size + 1 ≤ wr.heap.size) := by show _ ≤ _; have := hex.size; rw [HSZ.out] at this; exact this
    clear hq hmu hex
    by_cases hkt : k < (fc g rots d).length
    · have hcu : cu (fc g rots d) d k = (fc g rots d).getD k 0 := if_pos hkt
      have HST := Lib.hid (HOK.out.step HD.out hkt)
      have hin := HST.out.1
      have l1 := HM1r.out.look_ok 75 34 rfl (.int .u32 0) (zero31 wr) ((fc g rots d).getD k 0)
      rw [HOK.out.bh_at hin] at l1
      have hsn : sk S ((fc g rots d).take k) ((fc g rots d).getD k 0) = false := by
        unfold sk
        rw [HS.out _ (by rw [← getD_at hkt]; exact List.getElem_mem hkt), not_in_take HND.out hkt]; rfl
      have l2 := HMU.out.look_ok 76 129 rfl (.agg #[]) (zero129 wr) ((fc g rots d).getD k 0)
      rw [sf_get, sf_isSome, hsn] at l2
      simp only [Option.getD_some, Option.isSome_some] at l1
      have HTK := Lib.hid (take_next hkt)
      have HNX : Hid (fx rots ((fc g rots d).getD k 0) = cu (fc g rots d) d (k + 1)) := by
        show _ = _
        unfold cu
        by_cases q : k + 1 < (fc g rots d).length
        · rw [if_pos q]; exact (HST.out.2.1 q).1
        · rw [if_neg q]; exact HST.out.2.2 q
      have HPUT := Lib.hid (sk_put S ((fc g rots d).take k) ((fc g rots d).getD k 0))
      have HLE : Hid (((fc g rots d).take k).length < 1000000) := by show _ < _; rw [hlk]; omega
      have HLK1 : Hid (((fc g rots d).take (k + 1)).length = k + 1) := by show _ = _; rw [List.length_take]; omega
      rw [hcu]
      clear hcu hsn hin HST hlk
      generalize (fc g rots d).getD k 0 = x at *
      have r6 := V_cells x
      unfold Value.cells at r6
      generalize fx rots x = y at *
      have k1a : (wr.alloc (.cells #[] 129)).cell? ⟨w.heap.size, 1, none⟩ = some (.map (some mb2)) := (HKr.out.more _).cell 1
      have HMUa : Hid (Mu (wr.alloc (.cells #[] 129)) mb2 (m + k) (sf (sk S ((fc g rots d).take k)))) := HMU.out.kept (Below.heap_alloc wr _ _ HMU.out.lt)
      have HQa : Hid (Oq (wr.alloc (.cells #[] 129)) (w.heap.size + 1) (.slice PA k pc) ((fc g rots d).take k)) := HQ.out.still (Still.below ((Below.refl _ wr).alloc (Nat.le_refl _) _))
      have HEXa : Hid (Ex mb2 w1 (wr.alloc (.cells #[] 129))) := HEX.out.trans (Ex.alloc _ _ _)
      go_wp2_with (first
        | (refine wpList_mapM rfl (.tmp 31) (.tmp 32) (.tmp 33) 76 129 rfl rfl mb2 (m + k) _ x (.agg #[]) rfl rfl rfl HMUa.out (by unfold maxLen; omega) ?_; intro w5 hm5 hx5 hs5; rw [HPUT.out, ← HTK.out] at hm5; have HM5 := Lib.hid hm5; have HX5 := Lib.hid (HEXa.out.trans hx5); have HQ5 : Hid (Oq (w5.alloc (.cells #[V x] 34)) (w.heap.size + 1) (.slice PA k pc) ((fc g rots d).take k)) := (HQa.out.still (Still.ex HMUa.out hx5)).still (Still.below ((Below.refl _ w5).alloc (Nat.le_refl _) _)); have HS5 : Hid (w.heap.size + 1 ≤ (w5.alloc (.cells #[V x] 34)).heap.size) := (by show _ ≤ _; have h1 := HSZR.out; have h2 := hx5.size; simp at h2 ⊢; omega); clear hm5 hx5 hs5)
        | (refine wpList_pushq rfl (.tmp 34) (.tmp 36) rfl (w.heap.size + 1) _ ((fc g rots d).take k) x w5.heap.size rfl rfl HQ5.out HLE.out HS5.out (Blk.fresh _ _ _) ?_; intro v6 w6 ho6 hg6 hb6; rw [← HTK.out] at ho6; have HQ6 := Lib.hid ho6; obtain ⟨A6, c6, hv6, _⟩ := ho6.is; rw [HLK1.out] at hv6; subst hv6; have HG6 := Lib.hid ((HX5.out.trans (Ex.alloc _ w5 (.cells #[V x] 34))).push HQ5.out hg6 (by rw [HSZ.out]; exact Nat.le_refl _)); have HM6 := Lib.hid (Mu.grown (HM5.out.kept (Below.heap_alloc w5 (.cells #[V x] 34) _ HM5.out.lt)) HQ5.out hg6); clear ho6 hg6 hb6))
      go_roundw
      case rel => exact ⟨k + 1, by omega, by rw [HNX.out], HQ6.out, HM6.out, HG6.out⟩
      case measure => simp [lenV]; omega
    · obtain rfl : k = (fc g rots d).length := by omega
      have hcu : cu (fc g rots d) d (fc g rots d).length = d := if_neg (by omega)
      have l1 := HM1r.out.look_ok 75 34 rfl (.int .u32 0) (zero31 wr) d
      rw [HOK.out.bh_at HD.out] at l1
      have hsn : sk S ((fc g rots d).take (fc g rots d).length) d = true := by
        unfold sk
        rw [List.take_length, List.contains_iff_mem.2 (HOK.out.self HD.out), Bool.or_true]
      have l2 := HMU.out.look_ok 76 129 rfl (.agg #[]) (zero129 wr) d
      rw [sf_get, sf_isSome, hsn] at l2
      simp only [Option.getD_some, Option.isSome_some] at l1
      rw [List.take_length] at HQ HMU
      rw [hcu]
      clear hcu hsn
      generalize fx rots d = y at *
      go_wp2
      go_ret
      have hx := (Ex.of_below (g := mb2) (Below.mono HB1.out (Nat.le_refl _))).trans ((HEX.out).trans (Ex.alloc mb2 wr (.cells #[] 129)))
      exact ⟨_, _, rfl, (HQ.out.still (Still.below ((Below.refl _ wr).alloc (Nat.le_refl _) _))).base (by omega), Nat.le_refl _, HMU.out.kept (Below.heap_alloc wr _ _ HMU.out.lt), hx⟩
end Go.Proofs.YtcinbmekjlmdpaaGreat

/-! from of a dart that was seen, or isn't there; rot.Faces. -/
namespace Go.Proofs.YtcinbmekjlmdpaaGreat
open Go.RowKit

attribute [local irreducible] V
attribute [local irreducible] wpList in
set_option maxRecDepth 100000 in
set_option maxHeartbeats 2000000 in
theorem from_none (w : World) (mb1 mb2 n m : Nat) (f : UInt32 → Option Value) (S : UInt32 → Bool) (d : UInt32) (h1 : Mu w mb1 n f) (h2 : Mu w mb2 m (sf S)) (hf : f d = none ∨ ∃ y, f d = some (V y)) (hS : S d = true ∨ f d = none) :
    Calls Tryz.prog 47 #[.agg #[.map (some mb1), .map (some mb2)], V d] w fun e w' => e = .returned (.slice none 0 0) ∧ Below w.heap.size w w' := by
  have hz := zero129
  have HB1 : Hid (Below w.heap.size w (w.alloc (.cells #[.map (some mb1), .map (some mb2)] 78))) := (Below.refl _ w).alloc (Nat.le_refl _) _
  have HK1 : Hid (Blk (w.alloc (.cells #[.map (some mb1), .map (some mb2)] 78)) w.heap.size 78 #[.map (some mb1), .map (some mb2)]) := Blk.fresh _ _ _
  have k0 := HK1.out.cell 0
  have k1 := HK1.out.cell 1
  have hm1 := h1.kept (HB1.out.block _ h1.lt)
  have hm2 := h2.kept (HB1.out.block _ h2.lt)
  have l1 := hm1.look_ok 75 34 rfl (.int .u32 0) (zero31 _) d
  have l2 := hm2.look_ok 76 129 rfl (.agg #[]) (zero129 _) d
  rw [sf_get, sf_isSome] at l2
  have hcase : S d = true ∨ (S d = false ∧ f d = none) := by
    cases q : S d
    · right; rw [q] at hS; exact ⟨rfl, hS.resolve_left (by simp)⟩
    · left; rfl
  have HV : Hid (∃ y : UInt32, (f d).getD (.int .u32 0) = V y) := by
    rcases hf with hf | ⟨y, hf⟩
    · exact ⟨0, by rw [hf]; exact V0t⟩
    · exact ⟨y, by rw [hf]; rfl⟩
  clear hm1 hm2 h1 h2 hf
  rcases hcase with hc | ⟨hc, hn⟩
  · rw [hc] at l2
    obtain ⟨y, hy⟩ := HV.out
    rw [hy] at l1
    clear hS hc hy
    generalize (f d).isSome = b at *
    go_enter Tryz.func47, Tryz.ntmps47
    go_wp2
    go_loopw [1, 5] (fun dv pv wr => dv = V d ∧ pv = .slice none 0 0 ∧ wr = w.alloc (.cells #[.map (some mb1), .map (some mb2)] 78)) (fun _ _ _ => 0)
    case atStart => exact ⟨rfl, rfl, rfl⟩
    case round =>
      obtain ⟨rfl, rfl, rfl⟩ := hrel
      go_wp2
      go_ret
      exact ⟨rfl, (HB1.out).alloc HB1.out.size _⟩
  · rw [hc] at l2
    rw [hn] at l1
    simp only [Option.getD_none, Option.isSome_none] at l1
    clear hS hc hn
    go_enter Tryz.func47, Tryz.ntmps47
    go_wp2
    go_loopw [1, 5] (fun dv pv wr => dv = V d ∧ pv = .slice none 0 0 ∧ wr = w.alloc (.cells #[.map (some mb1), .map (some mb2)] 78)) (fun _ _ _ => 0)
    case atStart => exact ⟨rfl, rfl, rfl⟩
    case round =>
      obtain ⟨rfl, rfl, rfl⟩ := hrel
      go_wp2
      go_ret
      exact ⟨rfl, (HB1.out).alloc HB1.out.size _⟩
end Go.Proofs.YtcinbmekjlmdpaaGreat

/-! rot.Faces. -/
namespace Go.Proofs.YtcinbmekjlmdpaaGreat
open Go.RowKit

theorem dts_cons (e : Eg) (r : List Eg) : dts (e :: r) = 2 * e.id :: (2 * e.id + 1) :: dts r := rfl
theorem dts_at : ∀ {es : List Eg} {k : Nat}, k < es.length → (dts es).getD (2 * k) 0 = 2 * (es.getD k e0).id ∧ (dts es).getD (2 * k + 1) 0 = 2 * (es.getD k e0).id + 1
  | [], k, h => by simp at h
  | e :: r, 0, _ => ⟨rfl, rfl⟩
  | e :: r, k + 1, h => by
    obtain ⟨h1, h2⟩ := dts_at (es := r) (k := k) (by simpa using h)
    rw [dts_cons, show 2 * (k + 1) = 2 * k + 1 + 1 by omega]
    exact ⟨by simpa using h1, by simpa using h2⟩
theorem PL.ex {w w' : World} {B sm m : Nat} {s : UInt32 → Option Value} {pv : Value} {rows : List (List UInt32)} (h : PL w B pv rows) (hs : Mu w sm m s) (hx : Ex sm w w') : PL w' B pv rows :=
  h.keep (fun _ _ hk => hx.blk hk (hs.no_cells hk)) (Still.ex hs hx)
theorem Ex.growP {w wr w' : World} {sm B : Nat} {pv : Value} {rows : List (List UInt32)} (h : Ex sm w wr) (hp : PL wr B pv rows) (hg : wr.grownBy w' pv.ownBlock) (hb : w.heap.size ≤ B) : Ex sm w w' :=
  ⟨hg.os.trans h.os, hg.tape.trans h.tape, hg.output.trans h.output, Nat.le_trans h.size hg.size, fun k hk hne => (hg.block k (Nat.lt_of_lt_of_le hk h.size) (fun e => by
    have := (hp.own e.symm).1; omega)).trans (h.block k hk hne)⟩
theorem sn_yes (g : Gr) (rots : List (List UInt32)) {k : Nat} (hk : k < (dts g.es).length) (h : ls g rots ((dts g.es).getD k 0) = true) : sk (sn g rots ((dts g.es).take k)) (fc g rots ((dts g.es).getD k 0)) = sn g rots ((dts g.es).take (k + 1)) := by
  funext x; rw [sn_succ g rots hk, h, Bool.true_and]; rfl
theorem sn_no (g : Gr) (rots : List (List UInt32)) {k : Nat} (hk : k < (dts g.es).length) (h : ls g rots ((dts g.es).getD k 0) = false) : sn g rots ((dts g.es).take (k + 1)) = sn g rots ((dts g.es).take k) := by
  funext x; rw [sn_succ g rots hk, h, Bool.false_and, Bool.or_false]
theorem par_lt (e : Nat) (h : e < 2) : (e = 0 ∧ par (e : Nat) = 0) ∨ (e = 1 ∧ par (e : Nat) = 1) := by
  have : e = 0 ∨ e = 1 := by omega
  rcases this with rfl | rfl
  · left; exact ⟨rfl, rfl⟩
  · right; exact ⟨rfl, rfl⟩
/-- What dart.Of answers at the k-th edge's end. -/
theorem of_at {es : List Eg} {k e : Nat} (hk : k < es.length) (he : e < 2) : 2 * (es.getD k e0).id + par (e : Nat) = (dts es).getD (2 * k + e) 0 := by
  rcases par_lt e he with ⟨rfl, hp⟩ | ⟨rfl, hp⟩
  · rw [hp, Nat.add_zero, (dts_at hk).1, UInt32.add_zero]
  · rw [hp, (dts_at hk).2]
theorem round_ex (w : World) (v : Value) (g : Gr) (rots : List (List UInt32)) (h : RM w v g rots) (hM : MapOk g rots) :
    Calls Tryz.prog 46 #[v] w fun e w' => ∃ mb1 mb2 n, e = .returned (.agg #[.map (some mb1), .map (some mb2)]) ∧ Mu w' mb1 n (bh rots rots.flatten) ∧ Mu w' mb2 0 (fun _ => none) ∧ mb1 ≠ mb2 ∧ w.heap.size ≤ mb1 ∧ w.heap.size ≤ mb2 ∧ Below w.heap.size w w' :=
  (round_walk w v g rots h hM).mono fun _ _ ⟨n, h1, h2, h3, h4⟩ => ⟨_, _, n, h1, h2, h3, by omega, by omega, by omega, h4⟩
attribute [local irreducible] V
attribute [local irreducible] wpList in
set_option maxRecDepth 100000 in
set_option maxHeartbeats 4000000 in
/-- rot.Faces. -/
theorem faces_walk (w : World) (v : Value) (g : Gr) (rots : List (List UInt32)) (h : RM w v g rots) (hM : MapOk g rots) :
    Calls Tryz.prog 13 #[v] w fun e w' => ∃ u, e = .returned u ∧ PL w' w.heap.size u (allf g rots) ∧ Below w.heap.size w w' := by
  have HRM := Lib.hid h
  have HOK := Lib.hid hM
  obtain ⟨A, c, B, d, C, ce, rfl, hg, hr⟩ := h
  have hre : RdE w B g.es := by
    obtain ⟨_, _, _, _, q, _, _, _, h2⟩ := hg
    simp only [Value.agg.injEq, Array.mk.injEq, List.cons.injEq, Value.slice.injEq] at q
    rw [q.2.1.1]; exact h2
  have HRE := Lib.hid hre
  have hne := hM.may.ne
  have hdl := dts_len g.es
  have hz := zero78
  have hz2 := zero39
  have HB1 : Hid (Below w.heap.size w (w.alloc (.cells #[.slice A g.vs.length c, .slice B g.es.length d, .slice C rots.length ce] 28))) := (Below.refl _ w).alloc (Nat.le_refl _) _
  have HK1 : Hid (Blk (w.alloc (.cells #[.slice A g.vs.length c, .slice B g.es.length d, .slice C rots.length ce] 28)) w.heap.size 28 #[.slice A g.vs.length c, .slice B g.es.length d, .slice C rots.length ce]) := Blk.fresh _ _ _
  clear hg hr hM hre
  go_enter Tryz.func13, Tryz.ntmps13
  go_wp2_with (go_at_call 46; refine (round_ex _ (.agg #[.slice A g.vs.length c, .slice B g.es.length d, .slice C rots.length ce]) g rots (HRM.out.kept HB1.out) HOK.out).mono ?_; rintro e w2 ⟨mb1, mb2, n, rfl, h1, h2, hn12, hmb1, hmb2, hb2⟩; have HM1 := Lib.hid h1; have HM2 := Lib.hid h2; have HB2 := Lib.hid hb2; have HN12 := Lib.hid hn12; have HG2 : Hid (w.heap.size < mb2) := (by show _ < _; simp at hmb2; omega); have HK2 := Lib.hid (HK1.out.kept hb2 HK1.out.lt); have k11 : (w2.alloc (.cells #[.map (some mb1), .map (some mb2)] 78)).cell? ⟨w.heap.size, 1, none⟩ = some (.slice B g.es.length d) := (HK2.out.more _).cell 1; clear h1 h2 hb2 hn12 hmb1 hmb2)
  have HB3 : Hid (Below w.heap.size w (w2.alloc (.cells #[.map (some mb1), .map (some mb2)] 78))) := (HB1.out.trans (Below.mono HB2.out HB1.out.size)).alloc (HB1.out.trans (Below.mono HB2.out HB1.out.size)).size _
  have HM13 : Hid (Mu (w2.alloc (.cells #[.map (some mb1), .map (some mb2)] 78)) mb1 n (bh rots rots.flatten)) := HM1.out.kept (Below.heap_alloc w2 _ _ HM1.out.lt)
  have HM23 : Hid (Mu (w2.alloc (.cells #[.map (some mb1), .map (some mb2)] 78)) mb2 0 (sf (sn g rots ((dts g.es).take 0)))) := HM2.out.kept (Below.heap_alloc w2 _ _ HM2.out.lt)
  have HK3 : Hid (Blk (w2.alloc (.cells #[.map (some mb1), .map (some mb2)] 78)) w2.heap.size 78 #[.map (some mb1), .map (some mb2)]) := Blk.fresh _ _ _
  have HGB : Hid (w2.heap.size ≠ mb2) := by have := HM2.out.lt; show _ ≠ _; omega
  have HWS : Hid (w.heap.size ≤ (w2.alloc (.cells #[.map (some mb1), .map (some mb2)] 78)).heap.size) := HB3.out.size
  clear k11
  generalize hw3 : w2.alloc (.cells #[.map (some mb1), .map (some mb2)] 78) = w3 at *
  clear hw3
  go_loopw [4, 15] (fun pv i wr => ∃ (k m : Nat), k ≤ g.es.length ∧ i = .int .i64 k ∧ PL wr w3.heap.size pv (fcs g rots ((dts g.es).take (2 * k))) ∧ m ≤ 320 * (2 * k) ∧ Mu wr mb2 m (sf (sn g rots ((dts g.es).take (2 * k)))) ∧ Ex mb2 w3 wr) (fun _ i _ => g.es.length - (intOf i).toNat)
  case atStart => exact ⟨0, 0, Nat.zero_le _, rfl, PL.nil _ _, by omega, HM23.out, Ex.refl _ _⟩
  case round =>
    obtain ⟨k, m, hk, rfl, hpl, hm, hmu, hex⟩ := hrel
    have HPL := Lib.hid hpl
    have HMU := Lib.hid hmu
    have HEX := Lib.hid hex
    have HBW : Hid (Below w.heap.size w wr) := Ex.below HB3.out hex (Nat.le_of_lt HG2.out) HB3.out.size
    clear hpl hmu hex
    by_cases hlt : k < g.es.length
    · obtain ⟨b, o, rfl, hc⟩ := (HRE.out.kept HBW.out (Nat.le_refl _)).spot (by omega)
      obtain ⟨hc1, hc2, hc3⟩ := hc k hlt
      have HOF := Lib.hid (fun e (he : e < 2) => of_at (es := g.es) hlt he)
      clear hc
      generalize g.es.getD k e0 = x at *
      go_wp2_with (refine wpList_store_fresh rfl 67 (.tmp 6) (.tmp 18) rfl #[V x.id, V x.a, V x.b] rfl rfl (by kernel_rfl) rfl (all3 _ _ _) ?_; intro w5 hb5 hs5 hk5; have HB5 := Lib.hid hb5; have HK5 := Lib.hid hk5; clear hb5 hs5 hk5)
      have HE5 : Hid (Ex mb2 w3 w5) := HEX.out.trans (Ex.of_below HB5.out)
      have HP5 : Hid (PL w5 w3.heap.size u4 (fcs g rots ((dts g.es).take (2 * k + 0)))) := HPL.out.kept HB5.out
      have HM5 : Hid (Mu w5 mb2 m (sf (sn g rots ((dts g.es).take (2 * k + 0))))) := HMU.out.kept (HB5.out.block _ HMU.out.lt)
      have HN5 : Hid (wr.heap.size ≠ mb2) := by have := HMU.out.lt; show _ ≠ _; omega
      generalize wr.heap.size = eb at *
      clear hc1 hc2 hc3
      obtain ⟨wo, hwo⟩ : ∃ wo : World, wo = wr := ⟨_, rfl⟩
      subst hwo
      go_loopw [4, 19] (fun pv i wr => ∃ (e m' : Nat), e ≤ 2 ∧ i = .int .i64 e ∧ PL wr w3.heap.size pv (fcs g rots ((dts g.es).take (2 * k + e))) ∧ m' ≤ 320 * (2 * k + e) ∧ Mu wr mb2 m' (sf (sn g rots ((dts g.es).take (2 * k + e)))) ∧ Ex mb2 w3 wr ∧ Blk wr eb 67 #[V x.id, V x.a, V x.b]) (fun _ i _ => 2 - (intOf i).toNat)
      case atStart => exact ⟨0, m, by omega, rfl, HP5.out, by omega, HM5.out, HE5.out, HK5.out⟩
      case round =>
        obtain ⟨e, m', he, rfl, hpl, hm', hmu, hex, hkb⟩ := hrel
        have HPL2 := Lib.hid hpl
        have HMU2 := Lib.hid hmu
        have HEX2 := Lib.hid hex
        have HKB2 := Lib.hid hkb
        by_cases het : e < 2
        · have hq : 2 * k + e < (dts g.es).length := by omega
          have hof := HOF.out e het
          have HRD : Hid (Blk wr w2.heap.size 78 #[.map (some mb1), .map (some mb2)]) := hex.blk HK3.out HGB.out
          have HM1r : Hid (Mu wr mb1 n (bh rots rots.flatten)) := HM13.out.kept (hex.block _ HM13.out.lt HN12.out)
          have HDI : Hid ((dts g.es).getD (2 * k + e) 0 ∈ dts g.es) := by show _ ∈ _; rw [← getD_at hq]; exact List.getElem_mem hq
          have HOFC := Lib.hid (fun W => of_rv W x.id (e : Nat))
          rw [hof] at HOFC
          have hteq : decide ((e : Int) < 2) = true := decide_eq_true (by omega)
          clear hpl hmu hex hkb hof
          have S0 : Hid (wr.drew.cell? ⟨w2.heap.size, 0, none⟩ = some (.map (some mb1)) ∧ wr.drew.cell? ⟨w2.heap.size, 1, none⟩ = some (.map (some mb2)) ∧ wr.drew.cell? ⟨eb, 0, none⟩ = some (V x.id)) := ⟨HRD.out.cell 0, HRD.out.cell 1, HKB2.out.cell 0⟩
          have HM1d : Hid (Mu wr.drew mb1 n (bh rots rots.flatten)) := HM1r.out.kept rfl
          have HMUd : Hid (Mu wr.drew mb2 m' (sf (sn g rots ((dts g.es).take (2 * k + e))))) := HMU2.out.kept rfl
          have HWS3 : Hid (w3.heap.size ≤ wr.heap.size) := HEX2.out.size
          cases hl : ls g rots ((dts g.es).getD (2 * k + e) 0) with
          | true =>
            have HSF := Lib.hid (fun y hy => HOK.out.sn_face hq hl (x := y) hy)
            have HYES := Lib.hid (sn_yes g rots hq hl)
            have HFCS := Lib.hid (fcs_yes g rots hq hl)
            have hfl := fc_len g rots ((dts g.es).getD (2 * k + e) 0)
            have hfl0 : 0 < (fc g rots ((dts g.es).getD (2 * k + e) 0)).length := List.length_pos_of_mem (HOK.out.self HDI.out)
            have HFN : Hid ((fcs g rots ((dts g.es).take (2 * k + e))).length < 1000000) := by
              have h1 := fcs_len g rots ((dts g.es).take (2 * k + e))
              have h2 : ((dts g.es).take (2 * k + e)).length ≤ (dts g.es).length := List.length_take_le' _ _
              show _ < _; omega
            have HFW := Lib.hid (from_walk wr.drew mb1 mb2 n m' g rots (sn g rots ((dts g.es).take (2 * k + e))) ((dts g.es).getD (2 * k + e) 0) HOK.out HM1d.out HMUd.out HN12.out (by omega) HDI.out HSF.out)
            clear hl
            generalize fc g rots ((dts g.es).getD (2 * k + e) 0) = fl at *
            generalize (dts g.es).getD (2 * k + e) 0 = dd at *
            have q1 : decide ((0 : Int) < (fl.length : Int)) = true := decide_eq_true (by omega)
            have q1b : decide (0 < fl.length) = true := decide_eq_true hfl0
            go_wp2
            go_region_held3 (fun W => W.cell? ⟨w2.heap.size, 0, none⟩ = some (.map (some mb1)) ∧ W.cell? ⟨w2.heap.size, 1, none⟩ = some (.map (some mb2)) ∧ W.cell? ⟨eb, 0, none⟩ = some (V x.id)) (first | exact S1.out | exact S0.out) (first
              | (go_at_call 48; refine (HOFC.out _).mono ?_; rintro e0 w' ⟨rfl, rfl⟩)
              | (go_at_call 47; refine HFW.out.mono ?_; rintro e6 w6 ⟨v6, m6, rfl, ho6, hm6, hmu6, hx6⟩; obtain ⟨A6, c6, hv6, _⟩ := ho6.is; subst hv6; have HO6 := Lib.hid ho6; have HL6 := Lib.hid hm6; rw [HYES.out] at hmu6; have HU6 := Lib.hid hmu6; have HX6 := Lib.hid hx6; have S1 : Hid (w6.cell? ⟨w2.heap.size, 0, none⟩ = some (.map (some mb1)) ∧ w6.cell? ⟨w2.heap.size, 1, none⟩ = some (.map (some mb2)) ∧ w6.cell? ⟨eb, 0, none⟩ = some (V x.id)) := ⟨(Ex.blk (w := wr.drew) hx6 HRD.out HGB.out).cell 0, (Ex.blk (w := wr.drew) hx6 HRD.out HGB.out).cell 1, (Ex.blk (w := wr.drew) hx6 HKB2.out HN5.out).cell 0⟩; clear ho6 hm6 hmu6 hx6))
            all_goals
              clear S0 S1
              have HE6 : Hid (Ex mb2 w3 w6) := (HEX2.out.trans (Ex.drew _ wr)).trans HX6.out
              have HP6 : Hid (PL (w6.alloc (.cells #[.slice A6 fl.length c6] 22)) w3.heap.size u4 (fcs g rots ((dts g.es).take (2 * k + e)))) := (PL.ex (w := wr.drew) (HPL2.out.kept (Below.dr _ _)) HMUd.out HX6.out).kept ((Below.refl _ w6).alloc (Nat.le_refl _) _)
              have HO6' : Hid (Oq (w6.alloc (.cells #[.slice A6 fl.length c6] 22)) 0 (.slice A6 fl.length c6) fl) := (HO6.out.base (Nat.zero_le _)).still (Still.below ((Below.refl _ w6).alloc (Nat.le_refl _) _))
              have HS6 : Hid (w3.heap.size ≤ (w6.alloc (.cells #[.slice A6 fl.length c6] 22)).heap.size) := by
                have := HE6.out.size
                show _ ≤ _
                simp
                omega
              go_wp2_with (refine wpList_rowL rfl (.tmp 31) (.tmp 33) rfl w3.heap.size _ _ fl _ w6.heap.size rfl rfl HP6.out HFN.out HS6.out (Blk.fresh _ _ _) rfl HO6'.out ?_; intro v7 w7 hp7 hg7; rw [← HFCS.out] at hp7; have HP7 := Lib.hid hp7; have HE7 := Lib.hid ((HE6.out.trans (Ex.alloc _ w6 (.cells #[.slice A6 fl.length c6] 22))).growP HP6.out hg7 (Nat.le_refl _)); have HM7 := Lib.hid ((HU6.out.kept (Below.heap_alloc w6 (.cells #[.slice A6 fl.length c6] 22) _ HU6.out.lt)).grownP HP6.out hg7); have HK7 := Lib.hid (Blk.grownP ((Ex.blk (w := wr.drew) HX6.out HKB2.out HN5.out).more (.cells #[.slice A6 fl.length c6] 22)) HP6.out (by decide) hg7); clear hp7 hg7)
              go_roundw
              case rel => exact ⟨e + 1, m6, by omega, by go_num, HP7.out, by have := HL6.out; omega, HM7.out, HE7.out, HK7.out⟩
              case measure => simp [intOf]; omega
          | false =>
            have HNO := Lib.hid (sn_no g rots hq hl)
            have HFCS := Lib.hid (fcs_no g rots hq hl)
            have hseen : sn g rots ((dts g.es).take (2 * k + e)) ((dts g.es).getD (2 * k + e) 0) = true := by rw [HOK.out.sn_at hq, hl]; rfl
            have HFW := Lib.hid (from_none wr.drew mb1 mb2 n m' (bh rots rots.flatten) (sn g rots ((dts g.es).take (2 * k + e))) ((dts g.es).getD (2 * k + e) 0) HM1d.out HMUd.out (.inr ⟨_, HOK.out.bh_at HDI.out⟩) (.inl hseen))
            clear hl hseen
            generalize (dts g.es).getD (2 * k + e) 0 = dd at *
            go_wp2
            go_region_held3 (fun W => W.cell? ⟨w2.heap.size, 0, none⟩ = some (.map (some mb1)) ∧ W.cell? ⟨w2.heap.size, 1, none⟩ = some (.map (some mb2)) ∧ W.cell? ⟨eb, 0, none⟩ = some (V x.id)) (first | exact S1.out | exact S0.out) (first
              | (go_at_call 48; refine (HOFC.out _).mono ?_; rintro e0 w' ⟨rfl, rfl⟩)
              | (go_at_call 47; refine HFW.out.mono ?_; rintro e6 w6 ⟨rfl, hb6⟩; have HB6 := Lib.hid hb6; have S1 : Hid (w6.cell? ⟨w2.heap.size, 0, none⟩ = some (.map (some mb1)) ∧ w6.cell? ⟨w2.heap.size, 1, none⟩ = some (.map (some mb2)) ∧ w6.cell? ⟨eb, 0, none⟩ = some (V x.id)) := ⟨(Blk.kept (w := wr.drew) HRD.out hb6 HRD.out.lt).cell 0, (Blk.kept (w := wr.drew) HRD.out hb6 HRD.out.lt).cell 1, (Blk.kept (w := wr.drew) HKB2.out hb6 HKB2.out.lt).cell 0⟩; clear hb6))
            all_goals
              clear S0 S1
              go_wp2
              go_roundw
              case rel =>
                refine ⟨e + 1, m', by omega, by go_num, ?_, by omega, ?_, ?_, Blk.kept (w := wr.drew) HKB2.out HB6.out HKB2.out.lt⟩
                · rw [show 2 * k + (e + 1) = 2 * k + e + 1 by omega, HFCS.out]
                  exact PL.kept (w := wr.drew) (HPL2.out.kept (Below.dr _ _)) HB6.out
                · rw [show 2 * k + (e + 1) = 2 * k + e + 1 by omega, HNO.out]
                  exact HMUd.out.kept (HB6.out.block _ HMUd.out.lt)
                · exact (HEX2.out.trans (Ex.drew _ wr)).trans (Ex.of_below HB6.out)
              case measure => simp [intOf]; omega
        · obtain rfl : e = 2 := by omega
          have e2 : 2 * k + 2 = 2 * (k + 1) := by omega
          rw [e2] at HPL2 HMU2 hm'
          have hteq : decide ((2 : Int) < 2) = false := by decide
          clear hpl hmu hex hkb
          go_wp2
          go_roundw
          case rel => exact ⟨k + 1, m', by omega, by go_num, HPL2.out, hm', HMU2.out, HEX2.out⟩
          case measure => simp [intOf]; omega
    · obtain rfl : k = g.es.length := by omega
      rw [← hdl, List.take_length] at HPL
      go_wp2
      go_ret
      exact ⟨_, rfl, HPL.out.base HWS.out, HBW.out⟩
end Go.Proofs.YtcinbmekjlmdpaaGreat
