/- The walk of Parse. -/
import Derived.Test.YtcbfnbmkogeehaaDoorH0
namespace Go.Proofs.YtcbfnbmkogeehaaDoor
open Go.RowKit
def idxV (c : UInt8) : Int := match hexV c with | some v => v | none => -1
theorem idx_all : ∀ n, n < 256 → Lib.indexByte [48, 49, 50, 51, 52, 53, 54, 55, 56, 57, 97, 98, 99, 100, 101, 102] (UInt8.ofNat n) = idxV (UInt8.ofNat n) := by decide +kernel
theorem idx_run (c : UInt8) (w : World) : (Extern.BytealgIndexByte.indexByte #[.string ⟨#[48, 49, 50, 51, 52, 53, 54, 55, 56, 57, 97, 98, 99, 100, 101, 102]⟩, .int .u8 (c.toNat : Int)]).run Tryd.prog w = .ok (.int .i64 (idxV c)) w := by
  have h := run_indexByte_string (P := Tryd.prog) ⟨#[48, 49, 50, 51, 52, 53, 54, 55, 56, 57, 97, 98, 99, 100, 101, 102]⟩ (c.toNat : Int) w
  have h2 := Lib.run_indexByteString (P := Tryd.prog) ⟨#[48, 49, 50, 51, 52, 53, 54, 55, 56, 57, 97, 98, 99, 100, 101, 102]⟩ (c.toNat : Int) w
  have h3 := idx_all c.toNat c.toNat_lt
  rw [show UInt8.ofNat c.toNat = c from UInt8.ofNat_toNat] at h3
  rw [h2, ← h3]
  simp
set_option maxHeartbeats 400000 in
theorem idx_walk (c : UInt8) (w : World) : Calls Tryd.prog 26 #[.string ⟨#[48, 49, 50, 51, 52, 53, 54, 55, 56, 57, 97, 98, 99, 100, 101, 102]⟩, .int .u8 (c.toNat : Int)] w fun e w' => e = .returned (.int .i64 (idxV c)) ∧ w' = w := by
  have h : ∀ w, (callFunc 40 #[.string ⟨#[48, 49, 50, 51, 52, 53, 54, 55, 56, 57, 97, 98, 99, 100, 101, 102]⟩, .int .u8 (c.toNat : Int)]).run Tryd.prog w = .ok (.value (.int .i64 (idxV c))) w := by
    intro w
    rw [run_callFunc_extern (e := Extern.BytealgIndexByte.indexByte) Tryd.func40 (by kernel_rfl) (by kernel_rfl) (by kernel_rfl) (by kernel_rfl), idx_run c w]
    rfl
  go_enter Tryd.func26, Tryd.ntmps26
  go_wp2
  go_ret
  exact ⟨rfl, rfl⟩
theorem shl8 (b : UInt8) (w : World) : (binOp .shl 5 (U b) (.int .u64 4)).run Tryd.prog w = .ok (U (b <<< 4)) w := by
  show Result.ok (Value.int .u8 (IntKind.u8.wrap ((b.toNat : Int) * 2 ^ 4))) w = _
  rw [IntKind.wrap_u8, U_def, UInt8.toNat_shiftLeft, Nat.shiftLeft_eq]
  congr 2
theorem or8 (a b : UInt8) (w : World) : (binOp .or 5 (U a) (U b)).run Tryd.prog w = .ok (U (a ||| b)) w := by
  have h := u8_or_nat a.toNat b.toNat a.toNat_lt b.toNat_lt
  show Result.ok (Value.int .u8 (bits .or .u8 (a.toNat : Int) (b.toNat : Int))) w = _
  rw [h, U_def, UInt8.toNat_or]
theorem conv_half (v : Nat) (_hv : v < 16) (w : World) : (convert 3 5 (.int .i64 (v : Int))).run Tryd.prog w = .ok (U (UInt8.ofNat v)) w := by
  have h1 : ∀ w, (underlying 5).run Tryd.prog w = .ok (.int .u8) w := fun w => by kernel_rfl
  have h2 : ∀ w, (underlying 3).run Tryd.prog w = .ok (.int .i64) w := fun w => by kernel_rfl
  simp only [convert, Sem.run_bind, h1, h2, Result.andThen_ok, Conv.intToInt]
  show Result.ok (Value.int .u8 (IntKind.u8.wrap (v : Int))) w = _
  rw [IntKind.wrap_u8, U_def]
  congr 2
def parseD (l : List UInt8) : List UInt8 × Bool := match parseL l with | some d => (d, true) | none => (zero32, false)
/-- The two rows that Parse makes; the second is D. -/
def PInv (w wr : World) (D : List UInt8) : Prop :=
  Below w.heap.size w wr ∧ Blk wr w.heap.size 25 (zero32.map U).toArray ∧ Blk wr (w.heap.size + 1) 25 (D.map U).toArray ∧ D.length = 32
theorem zeros_eq : (#[.int .u8 0, .int .u8 0, .int .u8 0, .int .u8 0, .int .u8 0, .int .u8 0, .int .u8 0, .int .u8 0, .int .u8 0, .int .u8 0, .int .u8 0, .int .u8 0, .int .u8 0, .int .u8 0, .int .u8 0, .int .u8 0, .int .u8 0, .int .u8 0, .int .u8 0, .int .u8 0, .int .u8 0, .int .u8 0, .int .u8 0, .int .u8 0, .int .u8 0, .int .u8 0, .int .u8 0, .int .u8 0, .int .u8 0, .int .u8 0, .int .u8 0, .int .u8 0] : Array Value) = (zero32.map U).toArray := rfl
theorem PInv.start (w : World) : PInv w ((w.alloc (.cells (zero32.map U).toArray 25)).alloc (.cells (zero32.map U).toArray 25)) zero32 :=
  ⟨((Below.refl _ w).alloc (Nat.le_refl _) _).alloc (by simp) _, (Blk.fresh w _ _).more _, Blk.fresh_at (by simp) _ _, by simp [zero32]⟩
theorem results_pair {P : Program} {fn : Func} {p u : Tmp} {ty : TypeId} (h : fn.results = #[.cell p ty, .tmp u]) (tmps : Array Value) (w : World) (g : Nat) (t : TypeId) (cs : Array Value) (d : TypeDesc)
    (hp : tmps.getD p undef = .pointer (some ⟨g, 0, none⟩)) (hg : Blk w g t cs)
    (hu : P.underlying ty = some d) (hd : (match d with | .struct _ | .array _ _ => true | _ => false) = true) (hi : (P.info? ty).map (·.size) = some cs.size) :
    (results fn tmps).run P w = .ok (.tuple #[.agg cs, tmps.getD u undef]) w := by
  rw [results_cell_tmp h, hp]
  simp only [asAddr, Sem.run_pure, Result.andThen_ok]
  rw [run_loadVar_row w g t ty cs (0, 0) d hg hu hd hi]
  rfl
theorem wpList_store_blk {P : Program} {ops : Array Oper} {rest : List Oper} {o : Oper} {a : Act} {w : World} {Q : Exit → Act → World → Prop} (hgd : o.guard = none) (ty : TypeId) (x y : Operand) (ho : o.op = .store ty x y)
    (g : Nat) (cells : Array Value) (hx : a.eval x = .pointer (some ⟨g, 0, none⟩)) (hy : a.eval y = .agg cells) (t : TypeId) (old : Array Value) (hb : Blk w g t old)
    (hi : (P.info? ty).map (·.size) = some cells.size) (hold : old.size = cells.size) (h1 : cells.all (·.oneCell') = true)
    (h : ∀ w2, Ex g w w2 → Blk w2 g t cells → wpList P ops Q rest (a.put o.dst undef) w2) : wpList P ops Q (o :: rest) a w :=
  wpList_store_row hgd ty x y ho g cells hx hy t old hb hi hold h1 (h _ (Ex.setRow g w _) (hb.setRow _))
theorem b_size (D : List UInt8) (h : D.length = 32) : (Tryd.prog.info? 25).map (·.size) = some (D.map U).toArray.size := SRow D h
set_option maxRecDepth 100000 in
set_option maxHeartbeats 2000000 in
theorem parse_walk (s : ByteArray) (w : World) (hs : s.size ≤ maxLen) :
    Calls Tryd.prog 11 #[.string s] w fun e w' => e = .returned (.tuple #[.agg ((parseD s.data.toList).1.map U).toArray, .bool (parseD s.data.toList).2]) ∧ Below w.heap.size w w' := by
  unfold maxLen at hs
  have hst := PInv.start w
  rw [← zeros_eq] at hst
  have HST := Lib.hid hst
  clear hst
  by_cases h64 : s.size = 64
  · have ht : ((s.size : Int) != 64) = false := by simp; omega
    have H64 := Lib.hid h64
    have hlen : s.data.toList.length = 64 := by rw [← h64]; simp
    have hpe : parseD s.data.toList = match goP 0 s.data.toList zero32 with | some d => (d, true) | none => (zero32, false) := by
      unfold parseD parseL
      rw [if_pos hlen]
    have HPE := Lib.hid hpe
    have HLEN := Lib.hid hlen
    clear h64 hlen hpe
    go_enter Tryd.func11, Tryd.ntmps11
    go_wp2
    go_loopw [13] (fun i wr => ∃ (k : Nat) (D : List UInt8), k ≤ s.size ∧ i = .int .i64 k ∧ PInv w wr D ∧ goP k (s.data.toList.drop k) D = goP 0 s.data.toList zero32) (fun i _ => s.size - (intOf i).toNat)
    case atStart => exact ⟨0, zero32, by omega, rfl, HST.out, rfl⟩
    case round =>
      clear HST
      obtain ⟨k, D, hk, rfl, hinv, hgo⟩ := hrel
      by_cases hlt : k < s.size
      · have hdrop : s.data.toList.drop k = s[k] :: s.data.toList.drop (k + 1) := by
          rw [List.drop_eq_getElem_cons (by simpa using hlt)]
          rfl
        rw [hdrop] at hgo
        have HGO := Lib.hid hgo
        have hk64 : k < 64 := by have := H64.out; omega
        clear hdrop hgo
        obtain ⟨hbel, hr, hd, hD⟩ := hinv
        have HBEL := Lib.hid hbel
        have HR := Lib.hid hr
        have HD := Lib.hid hd
        have HDL := Lib.hid hD
        clear hbel hr hd hD
        cases hv : hexV s[k] with
        | none =>
          have hix : idxV s[k] = -1 := by simp [idxV, hv]
          have HV := Lib.hid hv
          clear hv
          go_wp2_with (first | (go_at_call 26; refine (idx_walk _ _).mono ?_; rintro e w' ⟨rfl, rfl⟩) | (refine wpList_store_blk rfl 25 _ _ rfl w.heap.size _ rfl rfl 25 _ HR.out (by kernel_rfl) (by kernel_rfl) (by kernel_rfl) ?_; intro w2 hx2 hb2; have HX2 := Lib.hid hx2; have HB2 := Lib.hid hb2; clear hx2 hb2))
          have hp2 : parseD s.data.toList = (zero32, false) := by
            rw [HPE.out, ← HGO.out]
            simp only [goP, HV.out]
          refine bodyPost_ret (results_pair rfl _ w2 w.heap.size 25 (zero32.map U).toArray _ rfl HB2.out Tryd.underlying25 rfl (by kernel_rfl)) rfl ⟨by rw [hp2]; rfl, ?_⟩
          exact Ex.below HBEL.out HX2.out (Nat.le_refl _) HBEL.out.size
        | some v =>
          have hix : idxV s[k] = (v : Int) := by simp [idxV, hv]
          have hv16 := hexV_lt hv
          have q0 : wr.cell? ⟨w.heap.size + 1, k / 2, none⟩ = some (U (D.getD (k / 2) 0)) := by
            rw [HD.out.cell]; simp [List.getD, HDL.out, show k / 2 < 32 by omega]
          have q1 := HD.out.thaw
          have r1 := shl8
          have r2 := or8
          have r3 := conv_half v hv16
          have r6 : ∀ x, (U x).cells = #[U x] := fun _ => rfl
          unfold Value.cells at r6
          have r7 := fun (x : UInt8) (a : Addr) (w : World) => run_store Tryd.prog w a (U x) .plain rfl
          have HV := Lib.hid hv
          clear hv
          go_wp2_with (go_at_call 26; refine (idx_walk _ _).mono ?_; rintro e w' ⟨rfl, rfl⟩)
          refine ⟨⟨k + 1, stepP D k v, by omega, by go_num, ⟨HBEL.out.setCell (by simp) _, HR.out.off (by simp) _, ?_, by rw [stepP_length, HDL.out]⟩, ?_⟩, by simp [intOf]; omega⟩
          · have h := HD.out.put (k / 2) (U (D.getD (k / 2) 0 <<< 4 ||| UInt8.ofNat v))
            have e : ((D.map U).toArray).setIfInBounds (k / 2) (U (D.getD (k / 2) 0 <<< 4 ||| UInt8.ofNat v)) = ((stepP D k v).map U).toArray := by
              unfold stepP
              rw [List.setIfInBounds_toArray, List.map_set]
            rw [e] at h
            simpa [List.getD] using h
          · rw [← HGO.out]
            simp only [goP, HV.out]
      · have hke : k = s.size := by omega
        subst hke
        obtain ⟨hbel, hr, hd, hD⟩ := hinv
        rw [List.drop_eq_nil_of_le (by simp)] at hgo
        have hp2 : parseD s.data.toList = (D, true) := by
          rw [HPE.out, ← hgo]
          rfl
        have HBEL := Lib.hid hbel
        have HR := Lib.hid hr
        have HD := Lib.hid hd
        have HP := Lib.hid hp2
        have HSI := Lib.hid (b_size D hD)
        have HSZ : Hid ((zero32.map U).toArray.size = (D.map U).toArray.size) := by show _ = _; simp [zero32, hD]
        clear hbel hr hd hD hgo hp2
        go_wp2_with (first | refine wpList_load_row rfl 25 _ rfl (w.heap.size + 1) rfl 25 _ (0, 0) _ HD.out Tryd.underlying25 rfl HSI.out ?_ | (refine wpList_store_blk rfl 25 _ _ rfl w.heap.size _ rfl rfl 25 _ HR.out HSI.out HSZ.out (SAll D) ?_; intro w2 hx2 hb2; have HX2 := Lib.hid hx2; have HB2 := Lib.hid hb2; clear hx2 hb2))
        refine bodyPost_ret (results_pair rfl _ w2 w.heap.size 25 (D.map U).toArray _ rfl HB2.out Tryd.underlying25 rfl HSI.out) rfl ⟨by rw [HP.out]; rfl, ?_⟩
        exact Ex.below HBEL.out HX2.out (Nat.le_refl _) HBEL.out.size
  · have ht : ((s.size : Int) != 64) = true := by simp; omega
    go_enter Tryd.func11, Tryd.ntmps11
    go_wp2_with (refine wpList_store_blk rfl 25 _ _ rfl w.heap.size _ rfl rfl 25 _ ((Blk.fresh w 25 _).more _) (by kernel_rfl) rfl (by kernel_rfl) ?_; intro w2 hx2 hb2; have HX2 := Lib.hid hx2; have HB2 := Lib.hid hb2; clear hx2 hb2)
    have hp2 : parseD s.data.toList = (zero32, false) := by
      unfold parseD parseL
      rw [if_neg (by simpa using h64)]
    refine bodyPost_ret (results_pair rfl _ w2 w.heap.size 25 (zero32.map U).toArray _ rfl HB2.out Tryd.underlying25 rfl (by kernel_rfl)) rfl ⟨by rw [hp2]; rfl, ?_⟩
    have h0 := HST.out.1
    exact Ex.below h0 HX2.out (Nat.le_refl _) h0.size
end Go.Proofs.YtcbfnbmkogeehaaDoor
