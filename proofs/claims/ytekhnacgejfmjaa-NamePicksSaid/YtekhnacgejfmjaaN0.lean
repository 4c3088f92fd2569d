/- Digests as text. -/
import Derived.Test.YtekhnacgejfmjaaD0
import Derived.IntWalk
namespace Go.Proofs.Ytekhnacgejfmjaa
open Go.RowKit
theorem Blk.fresh_at {w : World} {g : Nat} (h : g = w.heap.size) (t : TypeId) (cs : Array Value) : Blk (w.alloc (.cells cs t)) g t cs := by subst h; exact Blk.fresh w t cs
def lay (cur : Array Value) (o : Nat) (vs : List Value) : Array Value := (cur.toList.take o ++ vs ++ cur.toList.drop (o + vs.length)).toArray
/-- A digit of base sixteen. -/
def hexD (n : Nat) : UInt8 := UInt8.ofNat (if n < 10 then 48 + n else 87 + n)
def hexOf (ds : List UInt8) : List UInt8 := ds.flatMap fun b => [hexD (b.toNat / 16), hexD (b.toNat % 16)]
/-- A text as a value. -/
def bstr (l : List UInt8) : ByteArray := ⟨l.toArray⟩

theorem run_append_fit {P : Program} (w : World) (t ty e : TypeId) (i : TypeInfo) (ht : P.underlying t = some (.slice e)) (hi : P.info? e = some i) (hs : i.size = 1)
    (g bt sLen sCap : Nat) (cur : Array Value) (hb : Blk w g bt cur) (a : Addr) (m c : Nat) (news : List Value) (hl : news.length = m) (hnews : ∀ j u, news[j]? = some u → w.cell? (a.add j) = some u) (h1 : ∀ u ∈ news, u.oneCell' = true)
    (hroom : sLen + m ≤ sCap) (hfit : sLen + m ≤ cur.size) :
    (Builtin.append_ #[t, t] ty #[.slice (some ⟨g, 0, none⟩) sLen sCap, .slice (some a) m c]).run P w = .ok (.slice (some ⟨g, 0, none⟩) (sLen + m) sCap) (w.setRow g (lay cur sLen news)) := by
  have hfc := run_firstCells_some (P := P) w i.size m a m c news (by rw [hs, Nat.mul_one]; exact hl) hnews
  have hst := run_storeCells_at (P := P) g sLen bt news 0 cur w hb (by omega) h1
  simp only [Nat.add_zero] at hst
  rw [hs] at hfc
  simp [Builtin.append_, run_underlying ht, sizeOf, typeInfo, hi, hs, Builtin.lenOf, hroom, hfc, Addr.add_lit, hst, lay]

theorem step_append_fit {P : Program} {ops : Array Oper} {o : Oper} {a : Act} {w : World} {K : Act → World → Prop} {Q : Exit → Act → World → Prop} {E : Prop} (hgd : o.guard = none) (s x : Operand) (t : TypeId)
    (ho : o.op = .call { callee := .builtin .append, args := #[s, x], argTypes := #[t, t] }) (e : TypeId) (i : TypeInfo) (ht : P.underlying t = some (.slice e)) (hi : P.info? e = some i) (hs : i.size = 1)
    (g bt sLen sCap : Nat) (cur : Array Value) (hsv : a.eval s = .slice (some ⟨g, 0, none⟩) sLen sCap) (hb : Blk w g bt cur) (ad : Addr) (m c : Nat) (news : List Value) (hx : a.eval x = .slice (some ad) m c)
    (hl : news.length = m) (hnews : ∀ j u, news[j]? = some u → w.cell? (ad.add j) = some u) (h1 : ∀ u ∈ news, u.oneCell' = true)
    (hroom : sLen + m ≤ sCap) (hfit : sLen + m ≤ cur.size)
    (h : ∀ w', Blk w' g bt (lay cur sLen news) → Ex g w w' → K (a.put o.dst (.slice (some ⟨g, 0, none⟩) (sLen + m) sCap)) w') :
    if Region.wanted o (yielded ops a.tmps) = true then Oper.wp P o a w K Q else E := by
  have hw : Region.wanted o (yielded ops a.tmps) = true := by simp [Region.wanted, hgd]
  rw [if_pos hw]
  have hrun := run_append_fit (P := P) w t o.type e i ht hi hs g bt sLen sCap cur hb ad m c news hl hnews h1 hroom hfit
  unfold Oper.wp
  simp only [execOp, ho, resolve, invoke, builtin, Sem.run_bind, Sem.run_pure, Result.andThen_ok, List.map_toArray, List.map_cons, List.map_nil, hsv, hx, hrun]
  exact h _ (hb.setRow _) (Ex.setRow g w _)
def HInv (w : World) (B D : Nat) (ds : List UInt8) (wr : World) (k : Nat) : Prop :=
  Below B w wr ∧ B ≤ D ∧ ∃ cur, Blk wr D 5 cur ∧ cur.size = 64 ∧ ∀ j, j < 2 * k → cur[j]? = some (U ((hexOf ds).getD j 0))
theorem lay_two (cur : Array Value) (o : Nat) (x y : UInt8) (hc : cur.size = 64) (ho : o + 2 ≤ 64) (ds : List UInt8) (hr : ∀ j, j < o → cur[j]? = some (U ((hexOf ds).getD j 0))) (hx : (hexOf ds).getD o 0 = x) (hy : (hexOf ds).getD (o + 1) 0 = y)
    (j : Nat) (hj : j < o + 2) : (lay cur o [U x, U y])[j]? = some (U ((hexOf ds).getD j 0)) := by
  unfold lay
  rw [List.getElem?_toArray, List.append_assoc]
  have hlt : (cur.toList.take o).length = o := by simp [hc]; omega
  by_cases h1 : j < o
  · rw [List.getElem?_append_left (by omega), List.getElem?_take_of_lt h1, ← hr j h1]
    simp
  · rw [List.getElem?_append_right (by omega), hlt]
    have : j = o ∨ j = o + 1 := by omega
    rcases this with rfl | rfl
    · simp [← hx]
    · simp [← hy]
theorem nums_bytes (l : List UInt8) : strOfNums (l.map fun b => (b.toNat : Int)) = bstr l := by
  simp [strOfNums, bstr]
  exact (List.map_congr_left (fun b _ => by simp)).trans (List.map_id l)
def z64 : Array Value := (List.replicate 64 (Value.int .u8 0)).toArray
theorem make64 (w : World) : (Instr.makeSlice 54 (.int .i64 0) (.int .i64 64)).run Try.prog w = .ok (.slice (some ⟨w.heap.size, 0, none⟩) 0 64) (w.alloc (.cells z64 5)) := by kernel_rfl
theorem hexOf_getD (ds : List UInt8) (k : Nat) (hk : k < ds.length) : (hexOf ds).getD (2 * k) 0 = hexD (ds[k].toNat / 16) ∧ (hexOf ds).getD (2 * k + 1) 0 = hexD (ds[k].toNat % 16) := by
  induction ds generalizing k with
  | nil => simp at hk
  | cons b ds ih =>
    cases k with
    | zero => exact ⟨rfl, rfl⟩
    | succ k =>
      have := ih k (by simpa using hk)
      rw [show 2 * (k + 1) = (2 * k) + 2 by omega, show 2 * k + 2 + 1 = (2 * k + 1) + 2 by omega]
      exact this
theorem hexOf_length (ds : List UInt8) : (hexOf ds).length = 2 * ds.length := by
  induction ds with
  | nil => rfl
  | cons b ds ih => simp only [hexOf, List.flatMap_cons, List.length_append, List.length_cons, List.length_nil] at *; omega
theorem cells_of_blk {w : World} {b : Nat} {t : TypeId} {l : List Value} (h : Blk w b t l.toArray) : ∀ j u, l[j]? = some u → w.cell? ((⟨b, 0, none⟩ : Addr).add j) = some u := by
  intro j u hu
  rw [show (⟨b, 0, none⟩ : Addr).add j = ⟨b, j, none⟩ from by unfold Addr.add; split <;> simp_all, h.cell]
  simpa using hu
theorem run_index_bytes (t : TypeId) (n : Nat) (ht : Try.prog.underlying t = some (.array n 5)) (l : List UInt8) (hl : l.length = n) (k : Nat) (hk : k < l.length) (w : World) :
    (Instr.index t (.agg (l.map U).toArray) (.int .i64 (k : Int))).run Try.prog w = .ok (U l[k]) w := by
  have h5 : ∀ w, (sizeOf 5).run Try.prog w = .ok 1 w := fun w => by kernel_rfl
  have h5' : ∀ w, (isAgg 5).run Try.prog w = .ok false w := fun w => by kernel_rfl
  have hkn : k < n := by omega
  simp [Instr.index, asIntOf, run_underlying ht, part, h5, h5', hkn, hk]
/-- A half of a byte. -/
def D8 (n : Nat) : Value := .int .u8 (n : Int)
theorem shr4 (b : UInt8) (w : World) : (binOp .shr 5 (U b) (.int .u64 4)).run Try.prog w = .ok (D8 (b.toNat / 16)) w := by
  show Result.ok (Value.int .u8 ((b.toNat : Int).fdiv (2 ^ 4))) w = _
  rw [Int.fdiv_eq_ediv_of_nonneg _ (by decide), D8]
  simp
theorem and15 (b : UInt8) (w : World) : (binOp .and 5 (U b) (.int .u8 15)).run Try.prog w = .ok (D8 (b.toNat % 16)) w := by
  have h := b.toNat_lt
  have e := u8_and15 (x := (b.toNat : Int)) (by omega) (by omega)
  show Result.ok (Value.int .u8 (bits .and .u8 (b.toNat : Int) 15)) w = _
  rw [e, D8]
  simp
def digits : ByteArray := ⟨#[48, 49, 50, 51, 52, 53, 54, 55, 56, 57, 97, 98, 99, 100, 101, 102]⟩
theorem dig_at (n : Nat) (hn : n < 16) (w : World) : (Instr.index 9 (.string ⟨#[48, 49, 50, 51, 52, 53, 54, 55, 56, 57, 97, 98, 99, 100, 101, 102]⟩) (D8 n)).run Try.prog w = .ok (U (hexD n)) w := by
  have : n = 0 ∨ n = 1 ∨ n = 2 ∨ n = 3 ∨ n = 4 ∨ n = 5 ∨ n = 6 ∨ n = 7 ∨ n = 8 ∨ n = 9 ∨ n = 10 ∨ n = 11 ∨ n = 12 ∨ n = 13 ∨ n = 14 ∨ n = 15 := by omega
  rcases this with h | h | h | h | h | h | h | h | h | h | h | h | h | h | h | h <;> (rw [h]; exact (rfl : _ = _))
set_option maxRecDepth 100000 in
set_option maxHeartbeats 2000000 in
theorem hex_walk (w : World) (ds : List UInt8) (hds : ds.length = 32) :
    Calls Try.prog 39 #[.agg (ds.map U).toArray] w fun e w' => e = .returned (.string (bstr (hexOf ds))) ∧ Below w.heap.size w w' := by
  have HD := Lib.hid hds
  have hi32 : (Try.prog.info? 25).map (·.size) = some ((ds.map U).toArray).size := by simp only [List.size_toArray, List.length_map, hds]; rfl
  have HI := Lib.hid hi32
  have hmk := make64
  clear hds hi32
  go_enter Try.func39, Try.ntmps39
  go_wp2_with (refine wpList_load_row rfl 25 _ rfl w.heap.size rfl 25 _ (0, 0) _ ((Blk.fresh w 25 _).more _) Try.underlying25 rfl HI.out ?_)
  have hstart : HInv w w.heap.size (w.heap.size + 1) ds ((w.alloc (.cells (ds.map U).toArray 25)).alloc (.cells z64 5)) 0 :=
    ⟨((Below.refl _ w).alloc (Nat.le_refl _) _).alloc (by simp) _, by omega, z64, Blk.fresh_at (by simp) 5 _, rfl, fun j hj => absurd hj (by omega)⟩
  have HST := Lib.hid hstart
  clear hstart hmk
  generalize hDe : w.heap.size + 1 = D at *
  have HDe := Lib.hid hDe
  clear hDe
  go_loopw [3, 8] (fun v i wr => ∃ k : Nat, k ≤ 32 ∧ i = .int .i64 k ∧ v = .slice (some ⟨D, 0, none⟩) (2 * k) 64 ∧ HInv w w.heap.size D ds wr k) (fun _ i _ => 32 - (intOf i).toNat)
  case atStart => exact ⟨0, by omega, rfl, rfl, HST.out⟩
  case round =>
    obtain ⟨k, hk, rfl, rfl, hinv⟩ := hrel
    by_cases hlt : k < 32
    · have hstart := trivial
      obtain ⟨hbel, hBD, cur, hcur, hcur1, hrow⟩ := hinv
      have HBEL := Lib.hid hbel
      have HBD := Lib.hid hBD
      have HRW := Lib.hid hrow
      have HLT' := Lib.hid hcur.lt
      clear hbel hBD hrow
      have hkl : k < ds.length := by rw [HD.out]; exact hlt
      have q0 := fun w => run_index_bytes 25 32 Try.underlying25 ds HD.out k hkl w
      generalize hb : ds[k] = b at *
      have HB := Lib.hid hb
      have q1 := shr4 b
      have q2 := and15 b
      have q3 := fun w => dig_at (b.toNat / 16) (by have := b.toNat_lt; omega) w
      have q4 := fun w => dig_at (b.toNat % 16) (by omega) w
      have r6 : ∀ x, (U x).cells = #[U x] := fun _ => rfl
      unfold Value.cells at r6
      have HC := Lib.hid hcur
      have HC1 := Lib.hid hcur1
      clear hb hcur hcur1
      go_wp2
      go_region_law (refine step_append_fit rfl (.tmp 11) (.tmp 18) 54 rfl 5 _ Try.underlying54 rfl rfl D 5 (2 * k) 64 cur rfl ((HC.out.more _).drew) ⟨wr.heap.size, 0, none⟩ 2 2 [U (hexD (b.toNat / 16)), U (hexD (b.toNat % 16))] rfl rfl (cells_of_blk (Blk.fresh wr 5 _).drew) (by simp; exact ⟨rfl, rfl⟩) (by omega) (by rw [HC1.out]; omega) ?_; intro w4 hb4 hx4)
      all_goals
        have HB4 := Lib.hid hb4
        have HX4 := Lib.hid hx4
        clear hb4 hx4
        go_wp2
        go_roundw
        case rel =>
          refine ⟨k + 1, by omega, by go_num, by rw [show 2 * (k + 1) = 2 * k + 2 by omega], ?_⟩
          refine ⟨Ex.below (((HBEL.out.alloc HBEL.out.size _)).drew) HX4.out HBD.out (by have := HBEL.out.size; simp; omega), HBD.out, _, HB4.out, by simp [lay, HC1.out]; omega, fun j hj => ?_⟩
          exact lay_two cur (2 * k) _ _ HC1.out (by omega) ds HRW.out (by rw [(hexOf_getD ds k hkl).1, HB.out]) (by rw [(hexOf_getD ds k hkl).2, HB.out]) j (by omega)
        case measure => simp [intOf]; omega
    · obtain rfl : k = 32 := by omega
      obtain ⟨hbel, -, cur, hcur, hcur1, hrow⟩ := hinv
      have hcv : ∀ w' : World, Blk w' D 5 cur → (convert 54 9 (.slice (some ⟨D, 0, none⟩) 64 64)).run Try.prog w' = .ok (.string (bstr (hexOf ds))) w' := by
        intro w' hb'
        have hl : (hexOf ds).length = 64 := by rw [hexOf_length, HD.out]
        have h := run_convert_bytes_arg (P := Try.prog) w' 54 5 Try.underlying54 Try.underlying5 D 0 64 64 ((hexOf ds).map fun b => (b.toNat : Int)) (by simpa using hl) (fun i hi => by
          rw [Nat.zero_add, hb'.cell, hrow i (by omega)]
          simp [U_def, List.getD, hl, hi]) 9 Try.underlying9
        rw [h, nums_bytes]
      have hcv' := hcv wr hcur
      have HBEL := Lib.hid hbel
      clear hcv hcur hrow hbel hcur1
      go_wp2
      go_ret
      exact ⟨rfl, HBEL.out⟩
end Go.Proofs.Ytekhnacgejfmjaa
