/- Bytes laid into a row that has room, and numbers as bytes: laws over any program. -/
import Derived.Test.YtjoiimhifogbhaaA1
namespace Go.Proofs.Ytjoiimhifogbhaa
open Go.RowKit

/-- Cells laid over a row, from a place on. -/
def lay (cur : Array Value) (o : Nat) (news : List Value) : Array Value := (cur.toList.take o ++ news ++ cur.toList.drop (o + news.length)).toArray
theorem wpList_wanted {P : Program} {ops : Array Oper} {rest : List Oper} {o : Oper} {a : Act} {w : World} {Q : Exit → Act → World → Prop} (hw : Region.wanted o (yielded ops a.tmps) = true)
    (h : o.wp P a w (wpList P ops Q rest) Q) : wpList P ops Q (o :: rest) a w := by
  unfold wpList
  rw [if_pos hw]
  exact .inl h
theorem run_append_fit {P : Program} (w : World) (t ty e : TypeId) (i : TypeInfo) (ht : P.underlying t = some (.slice e)) (hi : P.info? e = some i) (hs : i.size = 1)
    (g bt sLen sCap : Nat) (cur : Array Value) (hb : Blk w g bt cur) (a : Addr) (m c : Nat) (news : List Value) (hl : news.length = m) (hnews : ∀ j u, news[j]? = some u → w.cell? (a.add j) = some u) (h1 : ∀ u ∈ news, u.oneCell' = true)
    (hroom : sLen + m ≤ sCap) (hfit : sLen + m ≤ cur.size) :
    (Builtin.append_ #[t, t] ty #[.slice (some ⟨g, 0, none⟩) sLen sCap, .slice (some a) m c]).run P w = .ok (.slice (some ⟨g, 0, none⟩) (sLen + m) sCap) (w.setRow g (lay cur sLen news)) := by
  have hfc := run_firstCells_some (P := P) w i.size m a m c news (by rw [hs, Nat.mul_one]; exact hl) hnews
  have hst := run_storeCells_at (P := P) g sLen bt news 0 cur w hb (by omega) h1
  simp only [Nat.add_zero] at hst
  rw [hs] at hfc
  simp [Builtin.append_, run_underlying ht, sizeOf, typeInfo, hi, hs, Builtin.lenOf, hroom, hfc, Addr.add_lit, hst, lay]
theorem wpList_append_fit {P : Program} {ops : Array Oper} {rest : List Oper} {o : Oper} {a : Act} {w : World} {Q : Exit → Act → World → Prop} (hgd : o.guard = none) (s x : Operand) (t : TypeId)
    (ho : o.op = .call { callee := .builtin .append, args := #[s, x], argTypes := #[t, t] }) (e : TypeId) (i : TypeInfo) (ht : P.underlying t = some (.slice e)) (hi : P.info? e = some i) (hs : i.size = 1)
    (g bt sLen sCap : Nat) (cur : Array Value) (hsv : a.eval s = .slice (some ⟨g, 0, none⟩) sLen sCap) (hb : Blk w g bt cur) (ad : Addr) (m c : Nat) (news : List Value) (hx : a.eval x = .slice (some ad) m c)
    (hl : news.length = m) (hnews : ∀ j u, news[j]? = some u → w.cell? (ad.add j) = some u) (h1 : ∀ u ∈ news, u.oneCell' = true)
    (hroom : sLen + m ≤ sCap) (hfit : sLen + m ≤ cur.size)
    (h : ∀ w', Blk w' g bt (lay cur sLen news) → Ex g w w' → wpList P ops Q rest (a.put o.dst (.slice (some ⟨g, 0, none⟩) (sLen + m) sCap)) w') :
    wpList P ops Q (o :: rest) a w := by
  have hw : Region.wanted o (yielded ops a.tmps) = true := by simp [Region.wanted, hgd]
  refine wpList_wanted hw ?_
  have hrun := run_append_fit (P := P) w t o.type e i ht hi hs g bt sLen sCap cur hb ad m c news hl hnews h1 hroom hfit
  unfold Oper.wp
  simp only [execOp, ho, resolve, invoke, builtin, Sem.run_bind, Sem.run_pure, Result.andThen_ok, List.map_toArray, List.map_cons, List.map_nil, hsv, hx, hrun]
  exact h _ (hb.setRow _) (Ex.setRow g w _)

/-- A text as a value. -/
def bstr (l : List UInt8) : ByteArray := ⟨l.toArray⟩
theorem bstr_data (l : List UInt8) : (bstr l).data.toList = l := rfl
theorem bstr_size (l : List UInt8) : (bstr l).size = l.length := by show l.toArray.size = _; simp
theorem bstr_eq (s : ByteArray) : bstr s.data.toList = s := rfl
theorem nums_bytes (l : List UInt8) : strOfNums (l.map fun b => (b.toNat : Int)) = bstr l := by
  simp [strOfNums, bstr]
  exact (List.map_congr_left (fun b _ => by simp)).trans (List.map_id l)
theorem cells_of_blk {w : World} {b : Nat} {t : TypeId} {l : List Value} (h : Blk w b t l.toArray) : ∀ j u, l[j]? = some u → w.cell? ((⟨b, 0, none⟩ : Addr).add j) = some u := by
  intro j u hu
  rw [show (⟨b, 0, none⟩ : Addr).add j = ⟨b, j, none⟩ from by unfold Addr.add; split <;> simp_all, h.cell]
  simpa using hu
/-- The low k bytes of a number, the highest first. -/
def be : Nat → Nat → List UInt8
  | 0, _ => []
  | k + 1, x => UInt8.ofNat (x / 256 ^ k) :: be k x
theorem be_length (k x : Nat) : (be k x).length = k := by
  induction k with
  | zero => rfl
  | succ k ih => simp [be, ih]
/-- A row of bytes with room: so many places, these bytes ahead. -/
def Buf (w : World) (g N : Nat) (D : List UInt8) : Prop := ∃ cur, Blk w g 5 cur ∧ cur.size = N ∧ cur.toList.take D.length = D.map U
theorem lay_take (cur : Array Value) (D : List UInt8) (y : UInt8) (h : cur.toList.take D.length = D.map U) (hs : D.length + 1 ≤ cur.size) :
    (lay cur D.length [U y]).toList.take (D ++ [y]).length = (D ++ [y]).map U ∧ (lay cur D.length [U y]).size = cur.size := by
  unfold lay
  constructor
  · rw [h]; simp [List.take_append, List.take_of_length_le]
  · simp; omega
theorem Buf.bytes {w : World} {g N : Nat} {D : List UInt8} (h : Buf w g N D) (i : Nat) (hi : i < D.length) : w.cell? ⟨g, i, none⟩ = some (U D[i]) := by
  obtain ⟨cur, hb, hs, ht⟩ := h
  rw [hb.cell]
  have : (cur.toList.take D.length)[i]? = (D.map U)[i]? := by rw [ht]
  rw [List.getElem?_take_of_lt hi] at this
  simpa [hi] using this
end Go.Proofs.Ytjoiimhifogbhaa
