import Derived.Test.YtcbfnbmkogeehaaDoorW6
namespace Go.Proofs.YtcbfnbmkogeehaaDoor
open Go.RowKit
section
variable {P : Program}
theorem zeroCells_one (z : Value) (n : Nat) : (Builtin.zeroCells #[z] n).toList = List.replicate n z := by
  apply List.ext_getElem?
  intro j
  simp only [Builtin.zeroCells, List.size_toArray, List.length_cons, List.length_nil, Nat.zero_add, Nat.mul_one, Array.toList_map, Array.toList_range, List.getElem?_map, List.getElem?_replicate]
  by_cases h : j < n
  · simp [h, Nat.mod_one]
  · simp [h]
theorem run_clear (w : World) (t ty elem : TypeId) (i : TypeInfo) (z : Value) (g o n c : Nat) (ad : Addr) (cur : Array Value) (bt : TypeId) (hu : P.underlying t = some (.slice elem)) (hi : P.info? elem = some i) (hz : i.zero = some z)
    (hc : z.cells = #[z]) (h1 : z.oneCell' = true) (hb : Blk w g bt cur) (ha : 0 < n → ad = ⟨g, o, none⟩) (hfit : o + n ≤ cur.size) :
    (Builtin.clear_ #[t] ty #[.slice (some ad) n c]).run P w = .ok (.tuple #[]) (w.setRow g (lay cur o (List.replicate n z))) := by
  by_cases h0 : n = 0
  · subst h0
    have e : lay cur o (List.replicate 0 z) = cur := by simp [lay]
    rw [e, setRow_self w g cur bt (0, 0) hb]
    simp [Builtin.clear_, run_underlying hu]
  · obtain rfl := ha (by omega)
    have hst := run_storeCells_at (P := P) g o bt (List.replicate n z) 0 cur w hb (by simp; omega) (fun v hv => by rw [List.eq_of_mem_replicate hv]; exact h1)
    simp only [Nat.add_zero] at hst
    obtain ⟨m, rfl⟩ : ∃ m, n = m + 1 := ⟨n - 1, by omega⟩
    simp [Builtin.clear_, run_underlying hu, zeroValue, typeInfo, hi, hz, hc, zeroCells_one, hst, lay]
theorem step_clear {ops : Array Oper} {o : Oper} {a : Act} {w : World} {K : Act → World → Prop} {Q : Exit → Act → World → Prop} {E : Prop} (hgd : o.guard = none) (d : Operand) (t : TypeId)
    (ho : o.op = .call { callee := .builtin .clear, args := #[d], argTypes := #[t] }) (elem : TypeId) (i : TypeInfo) (z : Value) (hu : P.underlying t = some (.slice elem)) (hi : P.info? elem = some i) (hz : i.zero = some z)
    (hc : z.cells = #[z]) (h1 : z.oneCell' = true) (g off n c : Nat) (ad : Addr) (hd : a.eval d = .slice (some ad) n c)
    (cur : Array Value) (bt : TypeId) (hb : Blk w g bt cur) (ha : 0 < n → ad = ⟨g, off, none⟩) (hfit : off + n ≤ cur.size)
    (h : ∀ w', Blk w' g bt (lay cur off (List.replicate n z)) → Ex g w w' → K (a.put o.dst (.tuple #[])) w') :
    if Region.wanted o (yielded ops a.tmps) = true then Oper.wp P o a w K Q else E := by
  have hw : Region.wanted o (yielded ops a.tmps) = true := by simp [Region.wanted, hgd]
  rw [if_pos hw]
  have hrun := run_clear (P := P) w t o.type elem i z g off n c ad cur bt hu hi hz hc h1 hb ha hfit
  unfold Oper.wp
  simp only [execOp, ho, resolve, invoke, builtin, Sem.run_bind, Sem.run_pure, Result.andThen_ok, List.map_toArray, List.map_cons, List.map_nil, hd, hrun]
  exact h _ (hb.setRow _) (Ex.setRow g w _)
theorem wpList_clear {ops : Array Oper} {rest : List Oper} {o : Oper} {a : Act} {w : World} {Q : Exit → Act → World → Prop} (hgd : o.guard = none) (d : Operand) (t : TypeId)
    (ho : o.op = .call { callee := .builtin .clear, args := #[d], argTypes := #[t] }) (elem : TypeId) (i : TypeInfo) (z : Value) (hu : P.underlying t = some (.slice elem)) (hi : P.info? elem = some i) (hz : i.zero = some z)
    (hc : z.cells = #[z]) (h1 : z.oneCell' = true) (g off n c : Nat) (ad : Addr) (hd : a.eval d = .slice (some ad) n c)
    (cur : Array Value) (bt : TypeId) (hb : Blk w g bt cur) (ha : 0 < n → ad = ⟨g, off, none⟩) (hfit : off + n ≤ cur.size)
    (h : ∀ w', Blk w' g bt (lay cur off (List.replicate n z)) → Ex g w w' → wpList P ops Q rest (a.put o.dst (.tuple #[])) w') : wpList P ops Q (o :: rest) a w := by
  refine wpList_plain hgd fun K hK => ?_
  have := step_clear (ops := ops) (K := K) (Q := Q) (E := False) hgd d t ho elem i z hu hi hz hc h1 g off n c ad hd cur bt hb ha hfit (fun w' p q => hK _ _ (h w' p q))
  simpa [Region.wanted, hgd] using this
end
theorem run_shr_i (t : TypeId) (x : UInt32) (s : Nat) (hs : s < 32) (w : World) : (binOp .shr t (W x) (.int .i64 (s : Int))).run Tryd.prog w = .ok (W (x >>> UInt32.ofNat s)) w := run_shr t x s hs w
theorem run_conv_u8 (x : UInt32) (w : World) : (convert 52 5 (W x)).run Tryd.prog w = .ok (U x.toUInt8) w := by
  have h1 : ∀ w, (underlying 5).run Tryd.prog w = .ok (.int .u8) w := fun w => by kernel_rfl
  have h2 : ∀ w, (underlying 52).run Tryd.prog w = .ok (.int .u32) w := fun w => by kernel_rfl
  simp only [convert, Sem.run_bind, h1, h2, Result.andThen_ok, W_def, Conv.intToInt]
  show Result.ok (Value.int .u8 (IntKind.u8.wrap (x.toNat : Int))) w = _
  rw [IntKind.wrap_u8, U_def, UInt32.toNat_toUInt8]
  simp

/-- The text's length in bits, byte by byte. -/
def lenB (N : Int) (i : Nat) : UInt8 := UInt8.ofNat (IntKind.u64.wrap (N * 8) / 2 ^ (56 - 8 * i) % 256).toNat
theorem lenB_val (N : Int) (i : Nat) : U (lenB N i) = .int .u8 (IntKind.u64.wrap (N * 8) / 2 ^ (56 - 8 * i) % 256) := by
  have h : ∀ z : Int, U (UInt8.ofNat (z % 256).toNat) = .int .u8 (z % 256) := by
    intro z
    rw [U_def]
    congr 1
    show (((z % 256).toNat % 256 : Nat) : Int) = _
    omega
  exact h _
def Hs.full (h : Hs) : List UInt8 := h.p ++ 128 :: List.replicate (63 - h.p.length) 0
def Hs.pad (h : Hs) : St × List UInt8 := if h.p.length < 56 then (h.s, h.full) else (comp h.s (bytes h.full), List.replicate 64 0)
def lenBytes (N : Int) : List UInt8 := (List.range 8).map (lenB N)
def Hs.fin (h : Hs) (N : Int) : St := comp h.pad.1 (bytes (h.pad.2.take 56 ++ lenBytes N))
def digB (s : St) (j : Nat) : UInt8 := (s.list.getD (j / 4) 0 >>> UInt32.ofNat (24 - 8 * (j % 4))).toUInt8
def Hs.dig (h : Hs) (N : Int) : List UInt8 := (List.range 32).map (digB (h.fin N))
theorem full_length (h : Hs) (hp : h.p.length < 64) : h.full.length = 64 := by simp [Hs.full]; omega
theorem pad_length (h : Hs) (hp : h.p.length < 64) : h.pad.2.length = 64 := by
  unfold Hs.pad
  split
  · exact full_length h hp
  · simp
end Go.Proofs.YtcbfnbmkogeehaaDoor
