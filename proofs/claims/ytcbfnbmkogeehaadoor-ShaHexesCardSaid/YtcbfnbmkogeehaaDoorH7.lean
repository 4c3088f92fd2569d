/- ShaHexes: for every two digests and every text the law answers true, and they read as before. Conditions: the table of the rounds reads as its text lays it, which the card ties. -/
import Derived.Test.YtcbfnbmkogeehaaDoorH5
import Derived.Test.YtcbfnbmkogeehaaDoorH6
import Derived.Test.YtcbfnbmkogeehaaDoorCards
import Derived.Test.YtcbfnbmkogeehaaDoorTie
import Derived.ProofKit
import Derived.OpenShut
import Derived.Deep.DeepHandedRow
import Derived.Lib.LaidTab
namespace Go.Proofs.YtcbfnbmkogeehaaDoor.Hexes
open Go.ChangeShapes Go.WideShapes Go.ChangeAt Go.RowKit Go.WideMaps Go.WideElems
open Go.ChangeMaps (open_string shut_string)
set_option maxRecDepth 100000 in
set_option maxHeartbeats 1000000 in
theorem hexes_any (la lb : List UInt8) (s : ByteArray) (w : World) (hk : Kt w) (hs : s.size ≤ maxLen) (ha : la.length = 32) (hb : lb.length = 32) :
    Calls Tryd.prog 4 #[.agg (la.map U).toArray, .agg (lb.map U).toArray, .string s] w fun e w' => e = .returned (.bool true) ∧ Below w.heap.size w w' := by
  unfold maxLen at hs
  by_cases h : s.size ≤ 200
  · cases hp : parseL s.data.toList with
    | none => exact hexes_no la lb s w hk h ha hb hp
    | some yd =>
      obtain ⟨e1, e2⟩ := hex_parseL hp
      exact hexes_yes la lb s w hk h ha hb yd e2 hp (by rw [e1]; exact (bstr_data s).symm)
  · have HK := Lib.hid hk
    have HW0 : Hid (Below w.heap.size w ((w.alloc (.cells (la.map U).toArray 25)).alloc (.cells (lb.map U).toArray 25))) := ((Below.refl _ w).alloc (Nat.le_refl _) _).alloc (by simp) _
    clear hk ha hb
    have hb : (200 : Int) < s.size := by omega
    go_enter Tryd.func4, Tryd.ntmps4
    go_wp2_with fail
    generalize World.alloc _ _ = w0 at *
    go_wp2_with (go_at_call 6; refine (awake_walk _ (HK.out.below HW0.out HK.out.1)).mono ?_; rintro e w1 ⟨rfl, hb1⟩; have HB1 := Lib.hid hb1; clear hb1)
    go_ret
    exact ⟨rfl, HW0.out.trans (HB1.out.mono HW0.out.size)⟩

theorem own : ownKnob Tryd.prog.godebug = none := by kernel_rfl
theorem gTab : Tryd.prog.globalNamed "parterre/sha.rounds" = some 0 := by kernel_rfl
theorem gTabType : (Tryd.prog.globals[0]?).map (·.type) = some 75 := by kernel_rfl
theorem cells75 : Tryd.prog.cellsOf 75 = 64 := by kernel_rfl
theorem cells52 : Tryd.prog.cellsOf 52 = 1 := by kernel_rfl
theorem cells25 : Tryd.prog.cellsOf 25 = 32 := by kernel_rfl
theorem cells5 : Tryd.prog.cellsOf 5 = 1 := by kernel_rfl
def ktN : List Int := kt.map fun x => (x.toNat : Int)
/-- What the row's list gives: the table of the rounds. -/
theorem kt_of_laid {W : World} (h : laidMetH Tryd.prog Rows.shaHexesRow.laid W) : Kt W := by
  have h' : laidMetH Tryd.prog [("parterre/sha.rounds", Lib.tabData .u32 ktN)] W := h
  have ht : Lib.TabIs Tryd.prog W "parterre/sha.rounds" .u32 ktN := Lib.tabIs_of_head (rest := []) gTab gTabType Tryd.underlying75 Tryd.underlying52 cells52 cells75 h'
  have hc : ∀ i, i < 64 → W.cell? ⟨0, i, none⟩ = some (.int .u32 ((kt.getD i 0).toNat : Int)) := by
    intro i hi
    rw [ht.cell gTab i (by show i < 64; exact hi)]
    simp [ktN, List.getD, show i < kt.length from hi]
  exact ⟨block_lt_of_cell (hc 0 (by decide)), hc⟩

section
variable {H : Type} {enc : TypeId × Value → H} {W W' : World}
/-- A digest that came in: 32 bytes. -/
theorem open_dig {r : Reach} {base b : Nat} {sp : Nat → Bool} {hd : Bool} {v : Value} {d : DataW H} {p : List MemPlace} (hv : Value.okWide Tryd.prog W r base 25 v) (h : DataW.Trod enc Tryd.prog W b sp hd 25 v d p) :
    ∃ l : List UInt8, l.length = 32 ∧ v = .agg (l.map U).toArray := by
  simp only [Value.okWide, Tryd.underlying25] at hv
  obtain ⟨cs, rfl, hsz, _⟩ := hv
  rw [cells25] at hsz
  obtain ⟨fuel, hf⟩ := h
  obtain ⟨xs, m, _, _, _, hxl, hx⟩ := DataW.trod_array Tryd.underlying25 hf
  have hcell : ∀ i, i < 32 → ∃ b : UInt8, cs[i]? = some (U b) := by
    intro i hi
    have h1 := hx i hi
    rw [List.getElem?_eq_getElem (by omega)] at h1
    obtain ⟨n, hc, _, hwf⟩ := DataW.trod_int Tryd.underlying5 h1
    have hb := bounds_u8 hwf
    refine ⟨UInt8.ofNat n.toNat, ?_⟩
    have h2 := congrArg (fun l => l[0]?) hc
    simp only [cells5, Nat.mul_one, List.getElem?_take, List.getElem?_drop, Nat.add_zero, Nat.zero_lt_one, if_true, List.getElem?_cons_zero] at h2
    have h3 : cs[i]? = some (.int .u8 n) := by simpa [Value.cells] using h2
    rw [h3, U_def]
    have : (UInt8.ofNat n.toNat).toNat = n.toNat := by show n.toNat % 256 = _; omega
    rw [this]
    congr 2
    omega
  have hall : ∀ k, k ≤ 32 → ∃ l : List UInt8, l.length = k ∧ ∀ i (h : i < l.length), cs[i]? = some (U l[i]) := by
    intro k
    induction k with
    | zero => exact fun _ => ⟨[], rfl, fun i h => by simp at h⟩
    | succ k ih =>
      intro hk
      obtain ⟨l, hl, hi⟩ := ih (by omega)
      obtain ⟨b, hb⟩ := hcell k (by omega)
      refine ⟨l ++ [b], by simp [hl], fun i h => ?_⟩
      by_cases e : i < l.length
      · rw [List.getElem_append_left e]; exact hi i e
      · have : i = l.length := by simp at h; omega
        subst this
        simp [hl, hb]
  obtain ⟨l, hl, hi⟩ := hall 32 (Nat.le_refl _)
  refine ⟨l, hl, ?_⟩
  congr 1
  apply Array.ext_getElem?
  intro i
  by_cases hlt : i < 32
  · rw [hi i (by omega)]; simp [hl, hlt]
  · rw [Array.getElem?_eq_none (by omega), Array.getElem?_eq_none (by simp; omega)]
/-- Its reading hangs on no memory. -/
theorem keep_dig {b b' : Nat} {sp sp' : Nat → Bool} {hd hd' : Bool} {v : Value} {d : DataW H} {p : List MemPlace} (h : DataW.Trod enc Tryd.prog W b sp hd 25 v d p) : DataW.Trod enc Tryd.prog W' b' sp' hd' 25 v d p := by
  obtain ⟨fuel, hf⟩ := h
  refine ⟨fuel, ?_⟩
  rw [← hf]
  have inner : ∀ (m : Nat) (cs : List Value), DataW.trod enc Tryd.prog W' b' sp' hd' m 5 cs = DataW.trod enc Tryd.prog W b sp hd m 5 cs := by
    intro m cs
    cases m with
    | zero => rfl
    | succ m =>
      unfold DataW.trod
      rw [Tryd.underlying5]
      rcases cs with _ | ⟨v, _ | ⟨v2, r⟩⟩
      · rfl
      · cases v <;> rfl
      · cases v <;> rfl
  cases fuel with
  | zero => rfl
  | succ m => unfold DataW.trod; rw [Tryd.underlying25]; simp only [inner]
end

/-- What the walk gives, for every argument and every world that holds the table. -/
theorem contract (H : Type) (enc : TypeId × Value → H) (W : World) (base : Nat) (args : Array Value) (ds gs : List (DataW H)) (before : List MemPlace)
    (hval : ∀ (j : Nat) t v, Tryd.f4.params[j]? = some t → args[j]? = some v → Value.okWide Tryd.prog W .any base t v)
    (hW : DataW.Whole enc Tryd.prog Tryd.f4.params.toList Rows.shaHexesSpec.vars false W args.toList ds gs before) (hL : laidMetH Tryd.prog Rows.shaHexesRow.laid W) :
    Calls Tryd.prog 4 args W fun e W' => ∃ v, e = .returned v ∧ Rows.shaHexesSpec.post enc Tryd.prog Tryd.f4 false true false false W args v W' := by
  have hW' := hW
  obtain ⟨p, q, hA0, hV, rfl, hfz, hnd⟩ := hW
  have hA : DataW.TrodAll enc Tryd.prog W 0 (fun _ => true) true Tryd.f4.params.toList args.toList ds p := hA0
  rw [Tryd.params4] at hA hval
  obtain ⟨v0, vs0, d0, ds0, p0, q0, hargs, rfl, rfl, h0, r0⟩ := trodAll_cons hA
  obtain ⟨v1, vs1, d1, ds1, p1, q1, rfl, rfl, rfl, h1, r1⟩ := trodAll_cons r0
  obtain ⟨v2, vs2, d2, ds2, p2, q2, rfl, rfl, rfl, h2, r2⟩ := trodAll_cons r1
  obtain ⟨rfl, rfl, rfl⟩ := trodAll_nil r2
  obtain rfl : args = #[v0, v1, v2] := by cases args; simp_all
  obtain ⟨rfl, rfl⟩ := trodVars_none hV
  obtain ⟨la, ha, rfl⟩ := open_dig (hval 0 25 v0 rfl rfl) h0
  obtain ⟨lb, hb, rfl⟩ := open_dig (hval 1 25 v1 rfl rfl) h1
  obtain ⟨s, rfl, rfl, rfl, ws⟩ := open_string Tryd.underlying9 (hval 2 9 v2 rfl rfl) h2
  clear hA0
  refine (hexes_any la lb s W (kt_of_laid hL) ws ha hb).mono fun e W' ⟨he, hbe⟩ => ?_
  subst he
  exact ⟨_, rfl, _, _, _, [], p0 ++ (p1 ++ ([] ++ [])), [], hW', trodAll_cons_mk (shut_bool Tryd.underlying4 _) trodAll_mk0,
    trodAll_cons_mk (keep_dig h0) (trodAll_cons_mk (keep_dig h1) (trodAll_cons_mk (shut_string Tryd.underlying9 ws) trodAll_mk0)),
    rfl, hbe.frame _, fun h => by cases h⟩

/-- A world for the witness: the settled one, the table (block 0) holding what its initialiser lays. -/
noncomputable def laidWorld (os : Os) : World :=
  { World.holding Tryd.prog os ⟨#[], #[], []⟩ with heap := (World.holding Tryd.prog os ⟨#[], #[], []⟩).heap.modify 0 fun
      | .cells _ t frozen => .cells (kt.map W).toArray t frozen
      | o => o }
def args3 : Array Value := #[.agg (zero32.map U).toArray, .agg (zero32.map U).toArray, .string ByteArray.empty]
def dz {H : Type} : DataW H := .agg (List.replicate 32 (.lit (.int .u8 0)))
theorem met (os : Os) : laidMet Tryd.prog Rows.shaHexesRow.laid ((laidWorld os).forCall (fun _ _ => 0) ⟨#[], args3, []⟩).memory :=
  laidMet_of_run' 8 (by kernel_rfl) (by kernel_rfl)
theorem reads (os : Os) {H : Type} (enc : TypeId × Value → H) : ∃ places, DataW.whole enc Tryd.prog ((laidWorld os).forCall (fun _ _ => 0) ⟨#[], args3, []⟩).memory Tryd.f4.params.toList Rows.shaHexesSpec.vars false args3.toList 8 = some ([dz, dz, .lit (.string [])], [], places) :=
  ⟨[], by kernel_rfl⟩

set_option maxRecDepth 100000 in
theorem lifted (os : Os) (started : os.Started) (H : Type) (enc : TypeId × Value → H) (F : Stop.Interp) :
    ReturnsInHanded {} Tryd.checked os 4 .any ((OpenSpec.ofChange Rows.shaHexesSpec).preRow enc Tryd.prog Tryd.f4 Rows.shaHexesRow.domain false Rows.shaHexesRow.laid) (((OpenSpec.ofChange Rows.shaHexesSpec).at F).post enc Tryd.prog Tryd.f4 false true false false) := by
  obtain ⟨places, hx⟩ := reads os enc
  refine returnsInHanded_of_row (C := Tryd.checked) (s := OpenSpec.ofChange Rows.shaHexesSpec) own started (by kernel_rfl) Tryd.func4
    (witness_row_at (enc := enc) (C := Tryd.checked) false (laidWorld os) args3 rfl (by kernel_rfl) (by kernel_rfl) (by kernel_rfl)
      (OpenSpec.preRow_of_cond 8 hx (by kernel_rfl) (fun k hk => by cases hk) (by kernel_rfl) (met os))) ?_
  intro W base args ds gs before hval hW _ _ _ hL _ _
  exact contract H enc W base args ds gs before hval hW hL
theorem said : Rows.ShaHexesSaid :=
  OpenClaim.holds_of_cond 4 Tryd.f4 rfl rfl rfl rfl rfl rfl rfl ⟨rfl, rfl, rfl, rfl, rfl⟩ rfl rfl rfl rfl rfl (by kernel_rfl) Tryd.func4 (by kernel_rfl)
    (of_decide_eq_true (by kernel_rfl)) (by unfold Func.isWrapper; first | (rw [if_pos (by decide +kernel)]; kernel_rfl) | (rw [if_neg (by decide +kernel)]; exact ⟨rfl, rfl⟩))
    (fun os started H enc _ F => by rw [OpenClaim.pre_eq_preRow]; exact lifted os started H enc F)
theorem plain (f : FuncId) (fn : Func) (hf : Tryd.pinned.checked.prog.funcNamed "parterre/parterrelaw01.ShaHexes" = some f) (hfn : Tryd.pinned.checked.prog.funcs[f]? = some fn) :
    false = Tryd.pinned.checked.prog.looks [] ∧ ∀ (j : Nat) t, fn.params[j]? = some t → Tryd.pinned.checked.prog.wantsStandIn t = false := by
  obtain rfl : f = 4 := Option.some.inj ((show Tryd.prog.funcNamed "parterre/parterrelaw01.ShaHexes" = some 4 by kernel_rfl).symm.trans hf) |>.symm
  obtain rfl : fn = Tryd.f4 := (Option.some.inj (Tryd.func4.symm.trans hfn)).symm
  refine ⟨by kernel_rfl, fun j t ht => ?_⟩
  rw [Tryd.params4] at ht
  have h : t = 25 ∨ t = 25 ∨ t = 9 := by simpa using Array.mem_of_getElem? ht
  rcases h with rfl | rfl | rfl
  · exact (show Tryd.prog.wantsStandIn 25 = false by kernel_rfl)
  · exact (show Tryd.prog.wantsStandIn 25 = false by kernel_rfl)
  · exact (show Tryd.prog.wantsStandIn 9 = false by kernel_rfl)
theorem card : Rows.ShaHexesCardSaid :=
  Claim7.holds_tied_plain_at .later [] _ _ _ _ said (fun _ h => by cases h) (by kernel_rfl) (fun _ h => by cases h) shaHexes_row_tie rfl ⟨rfl, rfl⟩ (by kernel_rfl) rfl plain (by kernel_rfl)
end Go.Proofs.YtcbfnbmkogeehaaDoor.Hexes
