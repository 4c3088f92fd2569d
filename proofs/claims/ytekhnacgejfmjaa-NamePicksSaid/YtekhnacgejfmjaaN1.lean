/- Digests as text, and back: lists, and the walks of Parse and of the document's Hex. -/
import Derived.Test.YtekhnacgejfmjaaN0
import Derived.Lib.Bytealg
namespace Go.Proofs.Ytekhnacgejfmjaa
open Go.RowKit
theorem SRow (S : List UInt8) (h : S.length = 32) : (Try.prog.info? 25).map (·.size) = some (S.map U).toArray.size := by simp only [List.size_toArray, List.length_map, h]; rfl
theorem SAll (S : List UInt8) : (S.map U).toArray.all (·.oneCell') = true := by simp; intro x _; rfl
def hexV (c : UInt8) : Option Nat := if 48 ≤ c.toNat ∧ c.toNat ≤ 57 then some (c.toNat - 48) else if 97 ≤ c.toNat ∧ c.toNat ≤ 102 then some (c.toNat - 87) else none
theorem hexV_lt {c : UInt8} {v : Nat} (h : hexV c = some v) : v < 16 := by
  unfold hexV at h
  split at h
  · injection h with h; omega
  · split at h
    · injection h with h; omega
    · cases h
theorem hexV_D : ∀ n, n < 16 → hexV (hexD n) = some n := by decide
theorem hexD_V {c : UInt8} {v : Nat} (h : hexV c = some v) : hexD v = c := by
  have hv := hexV_lt h
  apply UInt8.toNat_inj.1
  unfold hexV at h
  unfold hexD
  split at h
  · injection h with h
    rw [if_pos (by omega)]
    show (48 + v) % 256 = _
    omega
  · split at h
    · injection h with h
      rw [if_neg (by omega)]
      show (87 + v) % 256 = _
      omega
    · cases h
theorem nib : ∀ x, x < 16 → ∀ y, y < 16 → ((0 : UInt8) <<< 4 ||| UInt8.ofNat x) <<< 4 ||| UInt8.ofNat y = UInt8.ofNat (16 * x + y) := by decide
/-- One digit more laid into the row. -/
def stepP (D : List UInt8) (i v : Nat) : List UInt8 := D.set (i / 2) (D.getD (i / 2) 0 <<< 4 ||| UInt8.ofNat v)
def goP : Nat → List UInt8 → List UInt8 → Option (List UInt8)
  | _, [], D => some D
  | i, c :: r, D => match hexV c with | some v => goP (i + 1) r (stepP D i v) | none => none
def zero32 : List UInt8 := List.replicate 32 0
def parseL (l : List UInt8) : Option (List UInt8) := if l.length = 64 then goP 0 l zero32 else none
def pairs : List UInt8 → Option (List UInt8)
  | a :: b :: r => match hexV a, hexV b with | some x, some y => (pairs r).map (UInt8.ofNat (16 * x + y) :: ·) | _, _ => none
  | [] => some []
  | _ => none
theorem stepP_length (D : List UInt8) (i v : Nat) : (stepP D i v).length = D.length := by simp [stepP]
theorem goP_pairs : ∀ (n k : Nat) (l pre : List UInt8), l.length = 2 * n → pre.length = k → goP (2 * k) l (pre ++ List.replicate n 0) = (pairs l).map (pre ++ ·)
  | 0, k, l, pre, hl, _ => by
    obtain rfl : l = [] := List.eq_nil_of_length_eq_zero (by omega)
    simp [goP, pairs]
  | n + 1, k, a :: b :: r, pre, hl, hp => by
    cases ha : hexV a with
    | none => simp [goP, pairs, ha]
    | some x =>
      cases hb : hexV b with
      | none => simp [goP, pairs, ha, hb]
      | some y =>
        have e1 : stepP (pre ++ List.replicate (n + 1) 0) (2 * k) x = pre ++ ((0 : UInt8) <<< 4 ||| UInt8.ofNat x) :: List.replicate n 0 := by
          unfold stepP
          rw [show 2 * k / 2 = k by omega, List.set_append_right _ _ (by omega)]
          simp [hp, List.replicate_succ, List.getD]
        have e2 : stepP (pre ++ ((0 : UInt8) <<< 4 ||| UInt8.ofNat x) :: List.replicate n 0) (2 * k + 1) y = (pre ++ [UInt8.ofNat (16 * x + y)]) ++ List.replicate n 0 := by
          unfold stepP
          rw [show (2 * k + 1) / 2 = k by omega, List.set_append_right _ _ (by omega)]
          have := nib x (hexV_lt ha) y (hexV_lt hb)
          simp only [hp, Nat.sub_self, List.set_cons_zero, List.getD]
          rw [List.getElem?_append_right (by omega)]
          simp only [hp, Nat.sub_self, List.getElem?_cons_zero, Option.getD_some, this]
          simp
        have ih := goP_pairs n (k + 1) r (pre ++ [UInt8.ofNat (16 * x + y)]) (by simp at hl; omega) (by simp [hp])
        simp only [goP, ha, hb, pairs, e1, e2]
        rw [show 2 * k + 1 + 1 = 2 * (k + 1) by omega, ih]
        cases pairs r <;> simp
  | n + 1, k, [a], pre, hl, _ => by simp at hl; omega
  | n + 1, k, [], pre, hl, _ => by simp at hl
theorem parseL_pairs (l : List UInt8) (h : l.length = 64) : parseL l = pairs l := by
  unfold parseL
  rw [if_pos h]
  have := goP_pairs 32 0 l [] (by omega) rfl
  simp only [List.nil_append, Nat.mul_zero] at this
  rw [zero32, this]
  cases pairs l <;> simp
theorem pairs_hex (ds : List UInt8) : pairs (hexOf ds) = some ds := by
  induction ds with
  | nil => rfl
  | cons d ds ih =>
    show pairs (hexD (d.toNat / 16) :: hexD (d.toNat % 16) :: hexOf ds) = _
    have h := d.toNat_lt
    simp only [pairs, hexV_D _ (show d.toNat / 16 < 16 by omega), hexV_D _ (show d.toNat % 16 < 16 by omega), ih]
    simp only [Option.map_some, Option.some.injEq, List.cons.injEq, and_true]
    rw [show 16 * (d.toNat / 16) + d.toNat % 16 = d.toNat by omega]
    exact UInt8.ofNat_toNat
theorem hex_pairs : ∀ (l ds : List UInt8), pairs l = some ds → hexOf ds = l ∧ l.length = 2 * ds.length
  | [], ds, h => by simp only [pairs, Option.some.injEq] at h; subst h; exact ⟨rfl, rfl⟩
  | [a], ds, h => by simp [pairs] at h
  | a :: b :: r, ds, h => by
    simp only [pairs] at h
    cases ha : hexV a with
    | none => simp [ha] at h
    | some x =>
      cases hb : hexV b with
      | none => simp [ha, hb] at h
      | some y =>
        simp only [ha, hb] at h
        obtain ⟨d, hd, rfl⟩ := Option.map_eq_some_iff.1 h
        obtain ⟨e, el⟩ := hex_pairs r d hd
        have hx := hexV_lt ha
        have hy := hexV_lt hb
        have ev : (UInt8.ofNat (16 * x + y)).toNat = 16 * x + y := by show (16 * x + y) % 256 = _; omega
        refine ⟨?_, by simp; omega⟩
        show hexD _ :: hexD _ :: hexOf d = _
        rw [ev, show (16 * x + y) / 16 = x by omega, show (16 * x + y) % 16 = y by omega, hexD_V ha, hexD_V hb, e]
theorem parseL_hex (ds : List UInt8) (h : ds.length = 32) : parseL (hexOf ds) = some ds := by
  rw [parseL_pairs _ (by rw [hexOf_length, h]), pairs_hex]
theorem hex_parseL {l ds : List UInt8} (h : parseL l = some ds) : hexOf ds = l ∧ ds.length = 32 := by
  have hl : l.length = 64 := by
    unfold parseL at h
    split at h
    · assumption
    · cases h
  rw [parseL_pairs l hl] at h
  have := hex_pairs l ds h
  exact ⟨this.1, by omega⟩
def idxV (c : UInt8) : Int := match hexV c with | some v => v | none => -1
theorem idx_all : ∀ n, n < 256 → Lib.indexByte [48, 49, 50, 51, 52, 53, 54, 55, 56, 57, 97, 98, 99, 100, 101, 102] (UInt8.ofNat n) = idxV (UInt8.ofNat n) := by decide +kernel
theorem idx_run (c : UInt8) (w : World) : (Extern.BytealgIndexByte.indexByte #[.string ⟨#[48, 49, 50, 51, 52, 53, 54, 55, 56, 57, 97, 98, 99, 100, 101, 102]⟩, .int .u8 (c.toNat : Int)]).run Try.prog w = .ok (.int .i64 (idxV c)) w := by
  have h := run_indexByte_string (P := Try.prog) ⟨#[48, 49, 50, 51, 52, 53, 54, 55, 56, 57, 97, 98, 99, 100, 101, 102]⟩ (c.toNat : Int) w
  have h2 := Lib.run_indexByteString (P := Try.prog) ⟨#[48, 49, 50, 51, 52, 53, 54, 55, 56, 57, 97, 98, 99, 100, 101, 102]⟩ (c.toNat : Int) w
  have h3 := idx_all c.toNat c.toNat_lt
  rw [show UInt8.ofNat c.toNat = c from UInt8.ofNat_toNat] at h3
  rw [h2, ← h3]
  simp
set_option maxHeartbeats 400000 in
theorem idx_walk (c : UInt8) (w : World) : Calls Try.prog 55 #[.string ⟨#[48, 49, 50, 51, 52, 53, 54, 55, 56, 57, 97, 98, 99, 100, 101, 102]⟩, .int .u8 (c.toNat : Int)] w fun e w' => e = .returned (.int .i64 (idxV c)) ∧ w' = w := by
  have h : ∀ w, (callFunc 60 #[.string ⟨#[48, 49, 50, 51, 52, 53, 54, 55, 56, 57, 97, 98, 99, 100, 101, 102]⟩, .int .u8 (c.toNat : Int)]).run Try.prog w = .ok (.value (.int .i64 (idxV c))) w := by
    intro w
    rw [run_callFunc_extern (e := Extern.BytealgIndexByte.indexByte) Try.func60 (by kernel_rfl) (by kernel_rfl) (by kernel_rfl) (by kernel_rfl), idx_run c w]
    rfl
  go_enter Try.func55, Try.ntmps55
  go_wp2
  go_ret
  exact ⟨rfl, rfl⟩
theorem shl8 (b : UInt8) (w : World) : (binOp .shl 5 (U b) (.int .u64 4)).run Try.prog w = .ok (U (b <<< 4)) w := by
  show Result.ok (Value.int .u8 (IntKind.u8.wrap ((b.toNat : Int) * 2 ^ 4))) w = _
  rw [IntKind.wrap_u8, U_def, UInt8.toNat_shiftLeft, Nat.shiftLeft_eq]
  congr 2
theorem or8 (a b : UInt8) (w : World) : (binOp .or 5 (U a) (U b)).run Try.prog w = .ok (U (a ||| b)) w := by
  have h := u8_or_nat a.toNat b.toNat a.toNat_lt b.toNat_lt
  show Result.ok (Value.int .u8 (bits .or .u8 (a.toNat : Int) (b.toNat : Int))) w = _
  rw [h, U_def, UInt8.toNat_or]
theorem conv_half (v : Nat) (_hv : v < 16) (w : World) : (convert 3 5 (.int .i64 (v : Int))).run Try.prog w = .ok (U (UInt8.ofNat v)) w := by
  have h1 : ∀ w, (underlying 5).run Try.prog w = .ok (.int .u8) w := fun w => by kernel_rfl
  have h2 : ∀ w, (underlying 3).run Try.prog w = .ok (.int .i64) w := fun w => by kernel_rfl
  simp only [convert, Sem.run_bind, h1, h2, Result.andThen_ok, Conv.intToInt]
  show Result.ok (Value.int .u8 (IntKind.u8.wrap (v : Int))) w = _
  rw [IntKind.wrap_u8, U_def]
  congr 2
def parseD (l : List UInt8) : List UInt8 × Bool := match parseL l with | some d => (d, true) | none => (zero32, false)
/-- The two rows that Parse makes; the second is D. -/
def PInv (w wr : World) (D : List UInt8) : Prop :=
  Below w.heap.size w wr ∧ Blk wr w.heap.size 25 (zero32.map U).toArray ∧ Blk wr (w.heap.size + 1) 25 (D.map U).toArray ∧ D.length = 32
theorem zeros_eq : (#[.int .u8 0, .int .u8 0, .int .u8 0, .int .u8 0, .int .u8 0, .int .u8 0, .int .u8 0, .int .u8 0, .int .u8 0, .int .u8 0, .int .u8 0, .int .u8 0, .int .u8 0, .int .u8 0, .int .u8 0, .int .u8 0, .int .u8 0, .int .u8 0, .int .u8 0, .int .u8 0, .int .u8 0, .int .u8 0, .int .u8 0, .int .u8 0, .int .u8 0, .int .u8 0, .int .u8 0, .int .u8 0, .int .u8 0, .int .u8 0, .int .u8 0, .int .u8 0] : Array Value) = (zero32.map U).toArray := rfl
theorem PInv.start (w : World) : PInv w ((w.alloc (.cells (zero32.map U).toArray 25)).alloc (.cells (zero32.map U).toArray 25)) zero32 :=
  ⟨((Below.refl _ w).alloc (Nat.le_refl _) _).alloc (by simp) _, (Blk.fresh w _ _).more _, Blk.fresh_at (by simp) _ _, by simp [zero32]⟩
theorem results_pair {P : Program} {fn : Func} {p u : Tmp} {ty : TypeId} (h : fn.results = #[.cell p ty, .tmp u]) (tmps : Array Value) (w : World) (g : Nat) (t : TypeId) (cs : Array Value) (d : TypeDesc)
    (hp : tmps.getD p undef = .pointer (some ⟨g, 0, none⟩)) (hg : Blk w g t cs)
    (hu : P.underlying ty = some d) (hd : (match d with | .struct _ | .array _ _ => true | _ => false) = true) (hi : (P.info? ty).map (·.size) = some cs.size) :
    (results fn tmps).run P w = .ok (.tuple #[.agg cs, tmps.getD u undef]) w := by
  rw [results_cell_tmp h, hp]
  simp only [asAddr, Sem.run_pure, Result.andThen_ok]
  rw [run_loadVar_row w g t ty cs (0, 0) d hg hu hd hi]
  rfl
theorem wpList_store_blk {P : Program} {ops : Array Oper} {rest : List Oper} {o : Oper} {a : Act} {w : World} {Q : Exit → Act → World → Prop} (hgd : o.guard = none) (ty : TypeId) (x y : Operand) (ho : o.op = .store ty x y)
    (g : Nat) (cells : Array Value) (hx : a.eval x = .pointer (some ⟨g, 0, none⟩)) (hy : a.eval y = .agg cells) (t : TypeId) (old : Array Value) (hb : Blk w g t old)
    (hi : (P.info? ty).map (·.size) = some cells.size) (hold : old.size = cells.size) (h1 : cells.all (·.oneCell') = true)
    (h : ∀ w2, Ex g w w2 → Blk w2 g t cells → wpList P ops Q rest (a.put o.dst undef) w2) : wpList P ops Q (o :: rest) a w :=
  wpList_store_row hgd ty x y ho g cells hx hy t old hb hi hold h1 (h _ (Ex.setRow g w _) (hb.setRow _))
theorem b_size (D : List UInt8) (h : D.length = 32) : (Try.prog.info? 25).map (·.size) = some (D.map U).toArray.size := SRow D h
set_option maxRecDepth 100000 in
set_option maxHeartbeats 2000000 in
theorem parse_walk (s : ByteArray) (w : World) (hs : s.size ≤ maxLen) :
    Calls Try.prog 41 #[.string s] w fun e w' => e = .returned (.tuple #[.agg ((parseD s.data.toList).1.map U).toArray, .bool (parseD s.data.toList).2]) ∧ Below w.heap.size w w' := by
  unfold maxLen at hs
  have hst := PInv.start w
  rw [← zeros_eq] at hst
  have HST := Lib.hid hst
  clear hst
  by_cases h64 : s.size = 64
  · have ht : ((s.size : Int) != 64) = false := by simp; omega
    have H64 := Lib.hid h64
    have hlen : s.data.toList.length = 64 := by rw [← h64]; simp
    have hpe : parseD s.data.toList = match goP 0 s.data.toList zero32 with | some d => (d, true) | none => (zero32, false) := by
      unfold parseD parseL
      rw [if_pos hlen]
    have HPE := Lib.hid hpe
    have HLEN := Lib.hid hlen
    clear h64 hlen hpe
    go_enter Try.func41, Try.ntmps41
    go_wp2
    go_loopw [13] (fun i wr => ∃ (k : Nat) (D : List UInt8), k ≤ s.size ∧ i = .int .i64 k ∧ PInv w wr D ∧ goP k (s.data.toList.drop k) D = goP 0 s.data.toList zero32) (fun i _ => s.size - (intOf i).toNat)
    case atStart => exact ⟨0, zero32, by omega, rfl, HST.out, rfl⟩
    case round =>
      clear HST
      obtain ⟨k, D, hk, rfl, hinv, hgo⟩ := hrel
      by_cases hlt : k < s.size
      · have hdrop : s.data.toList.drop k = s[k] :: s.data.toList.drop (k + 1) := by
          rw [List.drop_eq_getElem_cons (by simpa using hlt)]
          rfl
        rw [hdrop] at hgo
        have HGO := Lib.hid hgo
        have hk64 : k < 64 := by have := H64.out; omega
        clear hdrop hgo
        obtain ⟨hbel, hr, hd, hD⟩ := hinv
        have HBEL := Lib.hid hbel
        have HR := Lib.hid hr
        have HD := Lib.hid hd
        have HDL := Lib.hid hD
        clear hbel hr hd hD
        cases hv : hexV s[k] with
        | none =>
          have hix : idxV s[k] = -1 := by simp [idxV, hv]
          have HV := Lib.hid hv
          clear hv
          go_wp2_with (first | (go_at_call 55; refine (idx_walk _ _).mono ?_; rintro e w' ⟨rfl, rfl⟩) | (refine wpList_store_blk rfl 25 _ _ rfl w.heap.size _ rfl rfl 25 _ HR.out (by kernel_rfl) (by kernel_rfl) (by kernel_rfl) ?_; intro w2 hx2 hb2; have HX2 := Lib.hid hx2; have HB2 := Lib.hid hb2; clear hx2 hb2))
          have hp2 : parseD s.data.toList = (zero32, false) := by
            rw [HPE.out, ← HGO.out]
            simp only [goP, HV.out]
          refine bodyPost_ret (results_pair rfl _ w2 w.heap.size 25 (zero32.map U).toArray _ rfl HB2.out Try.underlying25 rfl (by kernel_rfl)) rfl ⟨by rw [hp2]; rfl, ?_⟩
          exact Ex.below HBEL.out HX2.out (Nat.le_refl _) HBEL.out.size
        | some v =>
          have hix : idxV s[k] = (v : Int) := by simp [idxV, hv]
          have hv16 := hexV_lt hv
          have q0 : wr.cell? ⟨w.heap.size + 1, k / 2, none⟩ = some (U (D.getD (k / 2) 0)) := by
            rw [HD.out.cell]; simp [List.getD, HDL.out, show k / 2 < 32 by omega]
          have q1 := HD.out.thaw
          have r1 := shl8
          have r2 := or8
          have r3 := conv_half v hv16
          have r6 : ∀ x, (U x).cells = #[U x] := fun _ => rfl
          unfold Value.cells at r6
          have r7 := fun (x : UInt8) (a : Addr) (w : World) => run_store Try.prog w a (U x) .plain rfl
          have HV := Lib.hid hv
          clear hv
          go_wp2_with (go_at_call 55; refine (idx_walk _ _).mono ?_; rintro e w' ⟨rfl, rfl⟩)
          refine ⟨⟨k + 1, stepP D k v, by omega, by go_num, ⟨HBEL.out.setCell (by simp) _, HR.out.off (by simp) _, ?_, by rw [stepP_length, HDL.out]⟩, ?_⟩, by simp [intOf]; omega⟩
          · have h := HD.out.put (k / 2) (U (D.getD (k / 2) 0 <<< 4 ||| UInt8.ofNat v))
            have e : ((D.map U).toArray).setIfInBounds (k / 2) (U (D.getD (k / 2) 0 <<< 4 ||| UInt8.ofNat v)) = ((stepP D k v).map U).toArray := by
              unfold stepP
              rw [List.setIfInBounds_toArray, List.map_set]
            rw [e] at h
            simpa [List.getD] using h
          · rw [← HGO.out]
            simp only [goP, HV.out]
      · have hke : k = s.size := by omega
        subst hke
        obtain ⟨hbel, hr, hd, hD⟩ := hinv
        rw [List.drop_eq_nil_of_le (by simp)] at hgo
        have hp2 : parseD s.data.toList = (D, true) := by
          rw [HPE.out, ← hgo]
          rfl
        have HBEL := Lib.hid hbel
        have HR := Lib.hid hr
        have HD := Lib.hid hd
        have HP := Lib.hid hp2
        have HSI := Lib.hid (b_size D hD)
        have HSZ : Hid ((zero32.map U).toArray.size = (D.map U).toArray.size) := by show _ = _; simp [zero32, hD]
        clear hbel hr hd hD hgo hp2
        go_wp2_with (first | refine wpList_load_row rfl 25 _ rfl (w.heap.size + 1) rfl 25 _ (0, 0) _ HD.out Try.underlying25 rfl HSI.out ?_ | (refine wpList_store_blk rfl 25 _ _ rfl w.heap.size _ rfl rfl 25 _ HR.out HSI.out HSZ.out (SAll D) ?_; intro w2 hx2 hb2; have HX2 := Lib.hid hx2; have HB2 := Lib.hid hb2; clear hx2 hb2))
        refine bodyPost_ret (results_pair rfl _ w2 w.heap.size 25 (D.map U).toArray _ rfl HB2.out Try.underlying25 rfl HSI.out) rfl ⟨by rw [HP.out]; rfl, ?_⟩
        exact Ex.below HBEL.out HX2.out (Nat.le_refl _) HBEL.out.size
  · have ht : ((s.size : Int) != 64) = true := by simp; omega
    go_enter Try.func41, Try.ntmps41
    go_wp2_with (refine wpList_store_blk rfl 25 _ _ rfl w.heap.size _ rfl rfl 25 _ ((Blk.fresh w 25 _).more _) (by kernel_rfl) rfl (by kernel_rfl) ?_; intro w2 hx2 hb2; have HX2 := Lib.hid hx2; have HB2 := Lib.hid hb2; clear hx2 hb2)
    have hp2 : parseD s.data.toList = (zero32, false) := by
      unfold parseD parseL
      rw [if_neg (by simpa using h64)]
    refine bodyPost_ret (results_pair rfl _ w2 w.heap.size 25 (zero32.map U).toArray _ rfl HB2.out Try.underlying25 rfl (by kernel_rfl)) rfl ⟨by rw [hp2]; rfl, ?_⟩
    have h0 := HST.out.1
    exact Ex.below h0 HX2.out (Nat.le_refl _) h0.size
/-- A text of these bytes. -/
def S (l : List UInt8) : Value := .string (bstr l)
theorem quo16 (b : UInt8) (w : World) : (binOp .quo 5 (U b) (.int .u8 16)).run Try.prog w = .ok (D8 (b.toNat / 16)) w := by
  have h := b.toNat_lt
  show Result.ok (Value.int .u8 (IntKind.u8.wrap ((b.toNat : Int).tdiv 16))) w = _
  rw [IntKind.wrap_u8, Int.tdiv_eq_ediv_of_nonneg (by omega), D8]
  congr 2
  omega
theorem rem16 (b : UInt8) (w : World) : (binOp .rem 5 (U b) (.int .u8 16)).run Try.prog w = .ok (D8 (b.toNat % 16)) w := by
  have h := b.toNat_lt
  show Result.ok (Value.int .u8 ((b.toNat : Int).tmod 16)) w = _
  rw [Int.tmod_eq_emod_of_nonneg (by omega), D8]
  congr 2
theorem inc8 (n : Nat) (hn : n < 16) (w : World) : (binOp .add 5 (D8 n) (.int .u8 1)).run Try.prog w = .ok (D8 (n + 1)) w := by
  show Result.ok (Value.int .u8 (IntKind.u8.wrap ((n : Int) + 1))) w = _
  rw [IntKind.wrap_u8, D8]
  congr 2
  omega
theorem dig_cut (n : Nat) (hn : n < 16) (w : World) : (Instr.sliceAt 9 (.string ⟨#[48, 49, 50, 51, 52, 53, 54, 55, 56, 57, 97, 98, 99, 100, 101, 102]⟩) (some (D8 n)) (some (D8 (n + 1))) none).run Try.prog w = .ok (S [hexD n]) w := by
  have : n = 0 ∨ n = 1 ∨ n = 2 ∨ n = 3 ∨ n = 4 ∨ n = 5 ∨ n = 6 ∨ n = 7 ∨ n = 8 ∨ n = 9 ∨ n = 10 ∨ n = 11 ∨ n = 12 ∨ n = 13 ∨ n = 14 ∨ n = 15 := by omega
  rcases this with h | h | h | h | h | h | h | h | h | h | h | h | h | h | h | h <;> (rw [h]; exact (rfl : _ = _))
theorem cat (a b : List UInt8) (h : a.length + b.length ≤ 100) (w : World) : (binOp .add 9 (S a) (S b)).run Try.prog w = .ok (S (a ++ b)) w := by
  have hc : ¬ ((((bstr a).size + (bstr b).size : Nat) : Int) > IntKind.i64.max) := by
    show ¬ (((a.toArray.size + b.toArray.size : Nat) : Int) > 9223372036854775807)
    simp; omega
  show (Op.stringOp .add (bstr a) (bstr b)).run Try.prog w = _
  unfold Op.stringOp
  simp only [hc, if_false]
  show Result.ok (Value.string (bstr a ++ bstr b)) w = _
  unfold S
  congr 2
theorem hexOf_append (a b : List UInt8) : hexOf (a ++ b) = hexOf a ++ hexOf b := by simp [hexOf]
set_option maxRecDepth 100000 in
set_option maxHeartbeats 1000000 in
theorem refhex_walk (w : World) (ds : List UInt8) (hds : ds.length = 32) :
    Calls Try.prog 43 #[.agg (ds.map U).toArray] w fun e w' => e = .returned (.string (bstr (hexOf ds))) ∧ Below w.heap.size w w' := by
  have HD := Lib.hid hds
  have hbl : Blk (w.alloc (.cells (ds.map U).toArray 25)) w.heap.size 25 (ds.map U).toArray := Blk.fresh _ _ _
  have HBL := Lib.hid hbl
  have HBE : Hid (Below w.heap.size w (w.alloc (.cells (ds.map U).toArray 25))) := (Below.refl _ w).alloc (Nat.le_refl _) _
  clear hds hbl
  go_enter Try.func43, Try.ntmps43
  go_wp2
  generalize World.alloc _ _ = w1 at *
  go_loopw [3, 4] (fun v i wr => ∃ k N : Nat, k ≤ 32 ∧ i = .int .i64 k ∧ v = S (hexOf (ds.take k)) ∧ wr = w1.drewN N) (fun _ i _ => 32 - (intOf i).toNat)
  case atStart => exact ⟨0, 0, by omega, rfl, rfl, rfl⟩
  case round =>
    obtain ⟨k, N, hk, rfl, rfl, rfl⟩ := hrel
    by_cases hlt : k < 32
    · have hkl : k < ds.length := by rw [HD.out]; exact hlt
      have q0 : w1.cell? ⟨w.heap.size, k, none⟩ = some (U ds[k]) := by rw [HBL.out.cell]; simp [hkl]
      have hex : hexOf (ds.take (k + 1)) = hexOf (ds.take k) ++ [hexD (ds[k].toNat / 16)] ++ [hexD (ds[k].toNat % 16)] := by
        rw [List.take_succ_eq_append_getElem hkl, hexOf_append]; simp [hexOf]
      have hln : (hexOf (ds.take k)).length ≤ 62 := by rw [hexOf_length]; simp; omega
      have HX := Lib.hid hex
      generalize ds[k] = b at *
      generalize hexOf (ds.take k) = t at *
      clear hex
      have k1 : (k : Int) < 32 := by omega
      have r1 := quo16 b
      have r2 := rem16 b
      have r3 := inc8 (b.toNat / 16) (by have := b.toNat_lt; omega)
      have r4 := inc8 (b.toNat % 16) (by omega)
      have r5 := dig_cut (b.toNat / 16) (by have := b.toNat_lt; omega)
      have r6 := dig_cut (b.toNat % 16) (by omega)
      have r7 := cat t [hexD (b.toNat / 16)] (by simp; omega)
      have r8 := cat (t ++ [hexD (b.toNat / 16)]) [hexD (b.toNat % 16)] (by simp; omega)
      go_wp2
      go_quiet (fail)
      go_wp2
      go_roundw
      case rel => exact ⟨k + 1, _, by omega, by go_num, by rw [HX.out, List.append_assoc]; rfl, rfl⟩
      case measure => simp [intOf]; omega
    · obtain rfl : k = 32 := by omega
      have het : hexOf (ds.take 32) = hexOf ds := by rw [List.take_of_length_le (by rw [HD.out]; omega)]
      rw [het]
      clear het
      go_wp2
      go_ret
      exact ⟨rfl, Below.trans HBE.out ⟨rfl, rfl, rfl, Nat.le_refl _, fun _ _ => rfl⟩⟩
end Go.Proofs.Ytekhnacgejfmjaa
