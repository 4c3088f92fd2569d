/- Things as bytes: the statement's walk. -/
import Derived.Test.YtjoiimhifogbhaaB2
import Derived.Test.YtjoiimhifogbhaaR3
namespace Go.Proofs.Ytjoiimhifogbhaa
open Go.RowKit

theorem up48 (x : Nat) (hx : x < 18446744073709551616) (w : World) : (convert 28 30 (V4 x)).run Try.prog w = .ok (V8 x) w := by
  have h := show (convert 28 30 (V4 x)).run Try.prog w = .ok (.int .u64 (IntKind.u64.wrap (x : Int))) w from rfl
  rw [h, IntKind.wrap_u64, V8]
  have e : (x : Int) % 18446744073709551616 = (x : Int) := by omega
  rw [e]
theorem texts_short (ps : List ByteArray) (h : ∀ x ∈ ps, x.size ≤ 1000) : (texts ps).length ≤ 1004 * ps.length ∧ (joined ps).length ≤ 1000 * ps.length := by
  induction ps with
  | nil => exact ⟨Nat.le_refl _, Nat.le_refl _⟩
  | cons x r ih =>
    have h1 := ih (fun y hy => h y (List.mem_cons_of_mem _ hy))
    have h2 := h x (List.mem_cons_self)
    have h3 : x.data.toList.length = x.size := by simp
    simp only [texts, joined, List.flatMap_cons, List.length_append, List.length_cons, textOf, be_length] at h1 ⊢
    omega
theorem flat_length (ds : List (List UInt8)) (h : ∀ d ∈ ds, d.length = 32) (k : Nat) : (ds.take k).flatten.length ≤ 32 * k := by
  have h1 : ∀ d ∈ ds.take k, d.length = 32 := fun d hd => h d (List.mem_of_mem_take hd)
  have h2 : (ds.take k).length ≤ k := by rw [List.length_take]; omega
  generalize ds.take k = l at *
  have h3 : l.flatten.length = 32 * l.length := by
    clear h2
    induction l with
    | nil => rfl
    | cons x r ih =>
      have := ih (fun d hd => h1 d (List.mem_cons_of_mem _ hd))
      have h4 := h1 x List.mem_cons_self
      simp only [List.flatten_cons, List.length_append, List.length_cons]
      omega
  omega
theorem mem_take_all {ps : List ByteArray} {k : Nat} (hk : k < ps.length) (h : ∀ x ∈ ps.take k, x.size ≤ 1000) (hx : ps[k].size ≤ 1000) : ∀ x ∈ ps.take (k + 1), x.size ≤ 1000 := by
  rw [List.take_succ_eq_append_getElem hk]
  intro x hx'
  rcases List.mem_append.1 hx' with h1 | h1
  · exact h x h1
  · obtain rfl := List.mem_singleton.1 h1; exact hx

set_option maxRecDepth 100000 in
set_option maxHeartbeats 4000000 in
theorem lays_many (w : World) (b : Value) (A1 A2 A3 A4 : Option Addr) (n1 c1 n2 c2 n3 c3 n4 c4 : Nat) (hs : n1 + n2 + n3 + n4 < 4611686018427387904) (hm : 100 < n1 + n2 + n3 + n4) :
    Calls Try.prog 3 #[b, .slice A1 n1 c1, .slice A2 n2 c2, .slice A3 n3 c3, .slice A4 n4 c4] w fun e w' => e = .returned (.bool true) ∧ Below w.heap.size w w' := by
  have q1 : IntKind.i64.wrap ((n1 : Int) + n2) = (n1 : Int) + n2 := by rw [IntWalk.i64_in]; omega
  have q2 : IntKind.i64.wrap ((n1 : Int) + n2 + n3) = (n1 : Int) + n2 + n3 := by rw [IntWalk.i64_in]; omega
  have q3 : IntKind.i64.wrap ((n1 : Int) + n2 + n3 + n4) = (n1 : Int) + n2 + n3 + n4 := by rw [IntWalk.i64_in]; omega
  have q4 : (100 : Int) < (n1 : Int) + n2 + n3 + n4 := by omega
  clear hs hm
  go_enter Try.func3, Try.ntmps3
  go_wp2_with (go_at_call 6; refine (awake_walk _).mono ?_; rintro e w1 ⟨rfl, hb1⟩; have HB1 := Lib.hid hb1; clear hb1)
  go_ret
  exact ⟨rfl, HB1.out⟩

set_option maxRecDepth 100000 in
set_option maxHeartbeats 4000000 in
theorem lays_walk (w : World) (b : UInt8) (A1 A2 A3 A4 : Option Addr) (n1 c1 n2 c2 n3 c3 n4 c4 : Nat) (ns ms : List Nat) (ps : List ByteArray) (ds : List (List UInt8))
    (hm : n1 + n2 + n3 + n4 ≤ 100) (h1 : Row w A1 n1 (ns.map V4)) (h2 : Row w A2 n2 (ms.map V8)) (h3 : Row w A3 n3 (ps.map Value.string)) (h4 : Digs w A4 n4 ds)
    (hns : ∀ x ∈ ns, x < 4294967296) (hms : ∀ x ∈ ms, x < 18446744073709551616) (hps : ∀ x ∈ ps, x.size ≤ 9223372036854775807) :
    Calls Try.prog 3 #[U b, .slice A1 n1 c1, .slice A2 n2 c2, .slice A3 n3 c3, .slice A4 n4 c4] w fun e w' => e = .returned (.bool true) ∧ Below w.heap.size w w' := by
  have q1 : IntKind.i64.wrap ((n1 : Int) + n2) = (n1 : Int) + n2 := by rw [IntWalk.i64_in]; omega
  have q2 : IntKind.i64.wrap ((n1 : Int) + n2 + n3) = (n1 : Int) + n2 + n3 := by rw [IntWalk.i64_in]; omega
  have q3 : IntKind.i64.wrap ((n1 : Int) + n2 + n3 + n4) = (n1 : Int) + n2 + n3 + n4 := by rw [IntWalk.i64_in]; omega
  have q4 : ¬ (100 : Int) < (n1 : Int) + n2 + n3 + n4 := by omega
  obtain ⟨W0, hW0⟩ : ∃ W0 : List UInt8, W0 = [b] := ⟨_, rfl⟩
  have hw0 : W0.length ≤ 1 := by rw [hW0]; exact Nat.le_refl _
  have q5 := fun w => one_text w b
  rw [← hW0] at q5
  have HW0 := Lib.hid hW0
  have Hw0 := Lib.hid hw0
  clear hW0 hw0
  have r6 : ∀ x, (U x).cells = #[U x] := fun _ => rfl
  unfold Value.cells at r6
  have hl1 : ns.length = n1 := by have := h1.len; simpa using this.symm
  have hl2 : ms.length = n2 := by have := h2.len; simpa using this.symm
  have hl3 : ps.length = n3 := by have := h3.len; simpa using this.symm
  have hl4 : ds.length = n4 := h4.len.symm
  have HM := Lib.hid hm
  have H1 := Lib.hid h1
  have H2 := Lib.hid h2
  have H3 := Lib.hid h3
  have H4 := Lib.hid h4
  have HNS := Lib.hid hns
  have HMS := Lib.hid hms
  have HPS := Lib.hid hps
  have HL1 := Lib.hid hl1
  have HL2 := Lib.hid hl2
  have HL3 := Lib.hid hl3
  have HL4 := Lib.hid hl4
  clear hm h1 h2 h3 h4 hns hms hps hl1 hl2 hl3 hl4
  go_enter Try.func3, Try.ntmps3
  go_wp2_with (go_at_call 6; refine (awake_walk _).mono ?_; rintro e w1 ⟨rfl, hb1⟩; have HB1 := Lib.hid hb1; clear hb1)
  clear q1 q2 q3 q4
  -- the first loop: numbers of four bytes
  go_loopw [11, 45] (fun v i wr => ∃ k : Nat, k ≤ n1 ∧ i = .int .i64 k ∧ v = .string (bstr (W0 ++ all4 (ns.take k))) ∧ Below w.heap.size w wr) (fun _ i _ => n1 - (intOf i).toNat)
  case atStart => exact ⟨0, Nat.zero_le _, rfl, by simp [all4], HB1.out.alloc HB1.out.size _⟩
  case round =>
    obtain ⟨k, hk, rfl, rfl, hb⟩ := hrel
    have HB := Lib.hid hb
    have HM' := HM.out
    clear hb
    by_cases hlt : k < n1
    · obtain ⟨g, off, rfl, hbl, hcs⟩ := H1.out.place (by omega)
      have hkp : k < ns.length := by rw [HL1.out]; exact hlt
      have c0 : wr.cell? ⟨g, off + k, none⟩ = some (V4 ns[k]) := by
        rw [HB.out.cell hbl, hcs k (by simpa using hkp)]; simp
      have hj := all4_take ns k hkp
      have hx := HNS.out _ (List.getElem_mem hkp)
      have hl : (all4 (ns.take k)).length ≤ 400 := by rw [all4_length, List.length_take]; omega
      clear hcs hbl
      generalize ns[k] = x at *
      have q6 := up48 x (by omega)
      have q7 := room (W0 ++ all4 (ns.take k)) (be 4 x) (by have := Hw0.out; simp; omega) (by rw [be_length]; omega)
      have HJ := Lib.hid hj
      have hcall := ref_num wr x 4 (by omega) (by decide)
      have HCALL := Lib.hid hcall
      clear hkp hj hx hl hcall
      go_wp2_with (go_at_call 7; refine HCALL.out.mono ?_; rintro e w2 ⟨rfl, hb2⟩; have HB2 := Lib.hid hb2; clear hb2)
      go_roundw
      case rel => exact ⟨k + 1, by omega, by go_num, by rw [HJ.out, bstr_append, List.append_assoc], HB.out.trans (HB2.out.mono HB.out.size)⟩
      case measure => simp [intOf]; omega
    · obtain rfl : n1 = k := by omega
      rw [List.take_of_length_le (by rw [HL1.out]; omega)]
      have hl : (all4 ns).length ≤ 400 := by rw [all4_length, HL1.out]; omega
      have HW1 : Hid (W0 ++ all4 ns = [b] ++ all4 ns) := by show _ = _; rw [HW0.out]
      have Hw1 : Hid ((W0 ++ all4 ns).length ≤ 401) := by show _ ≤ _; have := Hw0.out; simp; omega
      clear hl
      generalize W0 ++ all4 ns = W1 at *
      clear HB1 hlt hk
      go_wp2
      -- the second loop: numbers of eight bytes
      go_loopw [11, 57] (fun v i wr => ∃ k : Nat, k ≤ n2 ∧ i = .int .i64 k ∧ v = .string (bstr (W1 ++ all8 (ms.take k))) ∧ Below w.heap.size w wr) (fun _ i _ => n2 - (intOf i).toNat)
      case atStart => exact ⟨0, Nat.zero_le _, rfl, by simp [all8], HB.out⟩
      case round =>
        clear HB
        obtain ⟨k, hk, rfl, rfl, hb⟩ := hrel
        have HB := Lib.hid hb
        clear hb
        by_cases hlt : k < n2
        · obtain ⟨g, off, rfl, hbl, hcs⟩ := H2.out.place (by omega)
          have hkp : k < ms.length := by rw [HL2.out]; exact hlt
          have c0 : wr.cell? ⟨g, off + k, none⟩ = some (V8 ms[k]) := by
            rw [HB.out.cell hbl, hcs k (by simpa using hkp)]; simp
          have hj := all8_take ms k hkp
          have hx := HMS.out _ (List.getElem_mem hkp)
          have hl : (all8 (ms.take k)).length ≤ 800 := by rw [all8_length, List.length_take]; omega
          clear hcs hbl
          generalize ms[k] = x at *
          have q7 := room (W1 ++ all8 (ms.take k)) (be 8 x) (by have := Hw1.out; simp; omega) (by rw [be_length]; omega)
          have HJ := Lib.hid hj
          have hcall := ref_num wr x 8 hx (by decide)
          have HCALL := Lib.hid hcall
          clear hkp hj hx hl hcall
          go_wp2_with (go_at_call 7; refine HCALL.out.mono ?_; rintro e w2 ⟨rfl, hb2⟩; have HB2 := Lib.hid hb2; clear hb2)
          go_roundw
          case rel => exact ⟨k + 1, by omega, by go_num, by rw [HJ.out, bstr_append, List.append_assoc], HB.out.trans (HB2.out.mono HB.out.size)⟩
          case measure => simp [intOf]; omega
        · obtain rfl : n2 = k := by omega
          rw [List.take_of_length_le (by rw [HL2.out]; omega)]
          have hl : (all8 ms).length ≤ 800 := by rw [all8_length, HL2.out]; omega
          have HW2 : Hid (W1 ++ all8 ms = [b] ++ all4 ns ++ all8 ms) := by show _ = _; rw [HW1.out]
          have Hw2 : Hid ((W1 ++ all8 ms).length ≤ 1201) := by show _ ≤ _; have := Hw1.out; simp; omega
          clear hl
          generalize W1 ++ all8 ms = W2 at *
          clear hlt hk
          go_wp2
          -- the third loop: texts
          go_loopw [11, 16, 68] (fun v r i wr => ∃ k : Nat, k ≤ n3 ∧ i = .int .i64 k ∧ v = .string (bstr (W2 ++ texts (ps.take k))) ∧ r = .string (bstr (joined (ps.take k))) ∧ (∀ x ∈ ps.take k, x.size ≤ 1000) ∧ Below w.heap.size w wr) (fun _ _ i _ => n3 - (intOf i).toNat)
          case atStart => exact ⟨0, Nat.zero_le _, rfl, by simp [texts], rfl, by simp, HB.out⟩
          case round =>
            clear HB
            obtain ⟨k, hk, rfl, rfl, rfl, hall, hb⟩ := hrel
            have HB := Lib.hid hb
            have HALL := Lib.hid hall
            clear hb hall
            by_cases hlt : k < n3
            · obtain ⟨g, off, rfl, hbl, hcs⟩ := H3.out.place (by omega)
              have hkp : k < ps.length := by rw [HL3.out]; exact hlt
              have c0 : wr.cell? ⟨g, off + k, none⟩ = some (.string ps[k]) := by
                rw [HB.out.cell hbl, hcs k (by simpa using hkp)]; simp
              have hj := texts_take ps k hkp
              have hj2 := joined_take ps k hkp
              have hmem := fun h => mem_take_all hkp HALL.out h
              have hts := texts_short _ HALL.out
              have hlk : (ps.take k).length = k := by rw [List.length_take]; omega
              rw [hlk] at hts
              clear hcs hbl
              generalize ps[k] = x at *
              by_cases hx : x.size ≤ 1000
              · have hx' : ¬ (1000 : Int) < (x.size : Int) := by omega
                have hxl : x.data.toList.length = x.size := by simp
                have q7 := room (W2 ++ texts (ps.take k)) (textOf x) (by have := Hw2.out; have := hts.1; simp; omega) (by rw [textOf, List.length_append, be_length]; omega)
                have q8 := room (joined (ps.take k)) x.data.toList (by have := hts.2; omega) (by omega)
                rw [bstr_eq] at q8
                have HJ := Lib.hid hj
                have HJ2 := Lib.hid hj2
                have HMEM := Lib.hid hmem
                have hcall := ref_text wr x (by omega)
                have HCALL := Lib.hid hcall
                clear hkp hj hj2 hcall hts hlk hmem hxl
                go_wp2_with (go_at_call 8; refine HCALL.out.mono ?_; rintro e w2 ⟨rfl, hb2⟩; have HB2 := Lib.hid hb2; clear hb2)
                go_roundw
                case rel =>
                  refine ⟨k + 1, by omega, by go_num, by rw [HJ.out, bstr_append, List.append_assoc], ?_, HMEM.out hx, HB.out.trans (HB2.out.mono HB.out.size)⟩
                  have e := bstr_append (joined (ps.take k)) x.data.toList
                  rw [bstr_eq] at e
                  rw [HJ2.out, e]
                case measure => simp [intOf]; omega
              · have hx' : (1000 : Int) < (x.size : Int) := by omega
                clear hkp hj hj2 hts hlk hmem hx
                go_wp2
                go_ret
                exact ⟨rfl, HB.out⟩
            · obtain rfl : n3 = k := by omega
              have hall := HALL.out
              rw [List.take_of_length_le (by rw [HL3.out]; omega)] at hall
              rw [List.take_of_length_le (by rw [HL3.out]; omega)]
              have hts := texts_short _ hall
              rw [HL3.out] at hts
              have HW3 : Hid (W2 ++ texts ps = [b] ++ all4 ns ++ all8 ms ++ texts ps) := by show _ = _; rw [HW2.out]
              have Hw3 : Hid ((W2 ++ texts ps).length ≤ 120000) := by show _ ≤ _; have := Hw2.out; have := hts.1; simp; omega
              have HR3 : Hid ((joined ps).length ≤ 120000) := by show _ ≤ _; have := hts.2; omega
              have HALL' := Lib.hid hall
              clear hall HALL hts
              generalize W2 ++ texts ps = W3 at *
              obtain ⟨R3, hR3⟩ : ∃ R3, R3 = joined ps := ⟨_, rfl⟩
              rw [← hR3] at HR3 ⊢
              have HRJ := Lib.hid hR3
              clear hlt hk hR3
              go_wp2
              -- the fourth loop: digests
              go_loopw [11, 85] (fun v i wr => ∃ k : Nat, k ≤ n4 ∧ i = .int .i64 k ∧ v = .string (bstr (W3 ++ (ds.take k).flatten)) ∧ Below w.heap.size w wr) (fun _ i _ => n4 - (intOf i).toNat)
              case atStart => exact ⟨0, Nat.zero_le _, rfl, by simp, HB.out⟩
              case round =>
                clear HB
                obtain ⟨k, hk, rfl, rfl, hb⟩ := hrel
                have HB := Lib.hid hb
                clear hb
                have hfl := flat_length ds H4.out.all k
                by_cases hlt : k < n4
                · obtain ⟨g, off, rfl, hbl, hcs⟩ := H4.out.place (by omega)
                  have hkp : k < ds.length := by rw [HL4.out]; exact hlt
                  have hcell2 : ∀ j v, (ds[k].map U)[j]? = some v → wr.cell? ⟨g, off + k * 32 + j, none⟩ = some v := by
                    intro j v hv; rw [HB.out.cell hbl]; exact hcs k hkp j v hv
                  have hd32 := H4.out.all _ (List.getElem_mem hkp)
                  have hj : (ds.take (k + 1)).flatten = (ds.take k).flatten ++ ds[k] := by
                    rw [List.take_succ_eq_append_getElem hkp, List.flatten_append, List.flatten_singleton]
                  clear hcs hbl
                  generalize ds[k] = d at *
                  have HC2 := Lib.hid hcell2
                  have HD := Lib.hid hd32
                  have HS : Hid ((d.map U).toArray.size = 32) := by show (d.map U).toArray.size = 32; simp [HD.out]
                  have HSL : Hid ((d.map U).length = 32) := by show (d.map U).length = 32; simp [HD.out]
                  have HA : Hid ((d.map U).toArray.all (·.oneCell') = true) := by show (d.map U).toArray.all (·.oneCell') = true; simp; intro x _; rfl
                  have q7 := room (W3 ++ (ds.take k).flatten) d (by have := Hw3.out; simp only [List.length_append]; omega) (by omega)
                  have HJ := Lib.hid hj
                  clear hkp hj hcell2 hd32 hfl
                  go_wp2_with (first
                    | (refine wpList_load_cells rfl 33 (.tmp 87) rfl g (off + k * 32) rfl (d.map U) _ HC2.out Try.underlying33 rfl (by rw [HSL.out]; rfl) ?_)
                    | (refine wpList_store_fresh rfl 33 _ _ rfl (d.map U).toArray rfl rfl (Row32 _ HS.out) (by rw [HS.out]; rfl) HA.out ?_; intro w2 hb2 hs2 hB2; have HB2 := Lib.hid hB2; have Hb2 := Lib.hid hb2; have HS2 := Lib.hid hs2; clear hb2 hs2 hB2)
                    | (refine wpList_load_row rfl 33 (.tmp 20) rfl wr.heap.size rfl 33 _ (0, 0) _ HB2.out Try.underlying33 rfl (Row32 _ HS.out) ?_)
                    | (go_at_call 9; refine (ref_digest _ d HD.out).mono ?_; rintro e w3 ⟨rfl, hb3⟩; have HB3 := Lib.hid hb3; clear hb3))
                  go_roundw
                  case rel =>
                    refine ⟨k + 1, by omega, by go_num, by rw [HJ.out, bstr_append, List.append_assoc], ?_⟩
                    have e1 := HB.out.trans (Hb2.out.mono HB.out.size)
                    exact e1.trans (HB3.out.mono e1.size)
                  case measure => simp [intOf]; omega
                · obtain rfl : n4 = k := by omega
                  rw [List.take_of_length_le (by rw [HL4.out]; omega)] at hfl ⊢
                  have HW4 : Hid (W3 ++ ds.flatten = [b] ++ all4 ns ++ all8 ms ++ texts ps ++ ds.flatten) := by show _ = _; rw [HW3.out]
                  have Hw4 : Hid ((W3 ++ ds.flatten).length ≤ 130000) := by show _ ≤ _; have := Hw3.out; simp only [List.length_append]; omega
                  clear hfl
                  generalize W3 ++ ds.flatten = W4 at *
                  clear hlt hk
                  have hm := HM.out
                  have q9 := of_int8 ps.length (by rw [HL3.out]; omega)
                  rw [HL3.out] at q9
                  have hlen : ([] ++ [b] ++ all4 ns ++ all8 ms ++ texts ps ++ ds.flatten ++ joined ps).length ≤ 1000000000 := by
                    have h1 := HW4.out
                    have h2 := Hw4.out
                    have h3 := HR3.out
                    rw [HRJ.out] at h3
                    rw [h1] at h2
                    rw [List.nil_append, List.length_append]
                    omega
                  have HLEN := Lib.hid hlen
                  have HQ : Hid ([] ++ [b] ++ all4 ns ++ all8 ms ++ texts ps ++ ds.flatten ++ joined ps = W4 ++ R3) := by show _ = _; rw [List.nil_append, HW4.out, HRJ.out]
                  obtain ⟨T0, hT0⟩ : ∃ T0, T0 = be 4 ps.length := ⟨_, rfl⟩
                  have HT0 := Lib.hid hT0
                  have Ht0 : Hid (T0.length = 4) := by show _ = _; rw [hT0, be_length]
                  clear hlen q5 r6 HW0 Hw0 hT0
                  go_wp2_with (first
                    | (go_at_call 10; refine (byte_walk _ (.agg #[.pointer none]) [] b (OutIs.nil _)).mono ?_; rintro e w4 ⟨v4, rfl, ⟨qb, yb, rfl, hcb, hjb⟩, hb4⟩; have HCB := Lib.hid hcb; have HJB := Lib.hid hjb; have hb5 : Below w.heap.size w w4 := HB.out.trans (hb4.mono HB.out.size); have HB5 := Lib.hid (hb5.alloc hb5.size (.cells #[.pointer qb] 37)); have HK5 := Lib.hid (Blk.fresh w4 37 #[.pointer qb]); clear hcb hjb hb4 hb5)
                    | (go_at_call 11; refine (four_walk _ _ _ _ _ _ ns ⟨qb, yb, rfl, HCB.out.kept ((Below.refl _ w4).alloc (Nat.le_refl _) _) (Nat.le_refl _), rfl⟩ (H1.out.kept HB5.out (Nat.le_refl _)) (by omega)).mono ?_; rintro e w6 ⟨v6, rfl, hv6, hb6⟩; rw [HJB.out] at hv6; have HV6 := Lib.hid hv6; have HP6 := Lib.hid hb6; have HB6 := Lib.hid (HB5.out.trans (hb6.mono HB5.out.size)); clear hv6 hb6)
                    | (go_at_call 12; refine (eight_walk _ _ _ _ _ _ ms HV6.out (H2.out.kept HB6.out (Nat.le_refl _)) (by omega)).mono ?_; rintro e w7 ⟨v7, rfl, hv7, hb7⟩; have HV7 := Lib.hid hv7; have HP7 := Lib.hid (HP6.out.trans (hb7.mono HP6.out.size)); have HB7 := Lib.hid (HB6.out.trans (hb7.mono HB6.out.size)); clear hv7 hb7)
                    | (go_at_call 13; refine (text_walk _ _ _ _ _ _ ps HV7.out (H3.out.kept HB7.out (Nat.le_refl _)) (by omega) (fun x hx => by have := HALL'.out x hx; omega)).mono ?_; rintro e w8 ⟨v8, rfl, hv8, hb8⟩; have HV8 := Lib.hid hv8; have HP8 := Lib.hid (HP7.out.trans (hb8.mono HP7.out.size)); have HB8 := Lib.hid (HB7.out.trans (hb8.mono HB7.out.size)); clear hv8 hb8)
                    | (go_at_call 14; refine (dig_walk _ _ _ _ _ _ ds HV8.out (H4.out.kept HB8.out (Nat.le_refl _)) (by omega)).mono ?_; rintro e w9 ⟨v9, rfl, hv9, hb9⟩; have HV9 := Lib.hid hv9; have HP9 := Lib.hid (HP8.out.trans (hb9.mono HP8.out.size)); have HB9 := Lib.hid (HB8.out.trans (hb9.mono HB8.out.size)); clear hv9 hb9)
                    | (go_at_call 15; refine (raw_walk _ _ _ _ _ _ ps HV9.out (H3.out.kept HB9.out (Nat.le_refl _)) (by omega)).mono ?_; rintro e wa ⟨va, rfl, hva, hba⟩; have HVA := Lib.hid hva; have HPA := Lib.hid (HP9.out.trans (hba.mono HP9.out.size)); have HBA := Lib.hid (HB9.out.trans (hba.mono HB9.out.size)); clear hva hba)
                    | (go_at_call 16; have hs := string_walk _ _ _ HVA.out HLEN.out; rw [HQ.out] at hs; refine hs.mono ?_; rintro e wb ⟨rfl, hbb⟩; have HPB := Lib.hid (HPA.out.trans (hbb.mono HPA.out.size)); have HBB := Lib.hid (HBA.out.trans (hbb.mono HBA.out.size)); clear hbb hs)
                    | (go_at_call 7; have hn0 := ref_num wb ps.length 4 (by rw [HL3.out]; omega) (by decide); rw [← HT0.out, HL3.out] at hn0; refine hn0.mono ?_; clear hn0; rintro e wc ⟨rfl, hbc⟩; have HPC := Lib.hid (HPB.out.trans (hbc.mono HPB.out.size)); have HBC := Lib.hid (HBB.out.trans (hbc.mono HBB.out.size)); clear hbc))
                  -- the fifth loop: the row
                  have HOB : Hid (OutIs wc (.agg #[.pointer qb]) [b]) := by
                    have h1 : OutIs (w4.alloc (.cells #[.pointer qb] 37)) (.agg #[.pointer qb]) [b] := ⟨qb, yb, rfl, HCB.out.kept ((Below.refl _ w4).alloc (Nat.le_refl _) _) (Nat.le_refl _), HJB.out⟩
                    exact h1.kept HPC.out (Nat.le_refl _)
                  have HBK : Hid (Blk wc w4.heap.size 37 #[.pointer qb]) := HK5.out.kept HPC.out (by simp)
                  go_loopw [23, 115] (fun v i wr => ∃ k : Nat, k ≤ n3 ∧ i = .int .i64 k ∧ v = .string (bstr (T0 ++ texts (ps.take k))) ∧ Below w.heap.size w wr ∧ Blk wr w4.heap.size 37 #[.pointer qb] ∧ OutIs wr (.agg #[.pointer qb]) [b]) (fun _ i _ => n3 - (intOf i).toNat)
                  case atStart => exact ⟨0, Nat.zero_le _, rfl, by simp [texts], HBC.out, HBK.out, HOB.out⟩
                  case round =>
                    clear HB HOB HBK
                    obtain ⟨k, hk, rfl, rfl, hb, hbk, hob⟩ := hrel
                    have HB := Lib.hid hb
                    have HBK := Lib.hid hbk
                    have HOB := Lib.hid hob
                    have htk : ∀ x ∈ ps.take k, x.size ≤ 1000 := fun x hx => HALL'.out x (List.mem_of_mem_take hx)
                    have hts := (texts_short _ htk).1
                    have hlk : (ps.take k).length ≤ k := by rw [List.length_take]; omega
                    clear hb hbk hob htk
                    by_cases hlt : k < n3
                    · obtain ⟨g, off, rfl, hbl, hcs⟩ := H3.out.place (by omega)
                      have hkp : k < ps.length := by rw [HL3.out]; exact hlt
                      have c0 : wr.cell? ⟨g, off + k, none⟩ = some (.string ps[k]) := by
                        rw [HB.out.cell hbl, hcs k (by simpa using hkp)]; simp
                      have hj := texts_take ps k hkp
                      have hx := HALL'.out _ (List.getElem_mem hkp)
                      clear hcs hbl
                      generalize ps[k] = x at *
                      have hxl : x.data.toList.length = x.size := by simp
                      have q7 := room (T0 ++ texts (ps.take k)) (textOf x) (by have := Ht0.out; simp; omega) (by rw [textOf, List.length_append, be_length]; omega)
                      have HJ := Lib.hid hj
                      have hcall := ref_text wr x (by omega)
                      have HCALL := Lib.hid hcall
                      clear hkp hj hx hcall hts hlk hxl
                      go_wp2_with (go_at_call 8; refine HCALL.out.mono ?_; rintro e wd ⟨rfl, hbd⟩; have HBD := Lib.hid hbd; clear hbd)
                      go_roundw
                      case rel => exact ⟨k + 1, by omega, by go_num, by rw [HJ.out, bstr_append, List.append_assoc], HB.out.trans (HBD.out.mono HB.out.size), HBK.out.kept HBD.out HBK.out.lt, HOB.out.kept HBD.out (Nat.le_refl _)⟩
                      case measure => simp [intOf]; omega
                    · obtain rfl : n3 = k := by omega
                      rw [List.take_of_length_le (by rw [HL3.out]; omega)] at hts ⊢
                      have HT1 : Hid ([] ++ be 4 ps.length ++ texts ps = T0 ++ texts ps) := by show _ = _; rw [List.nil_append, HT0.out]
                      have Ht1 : Hid ((T0 ++ texts ps).length ≤ 130000) := by show _ ≤ _; have := Ht0.out; have := HL3.out; have := HM.out; simp; omega
                      clear hts hlk
                      generalize T0 ++ texts ps = T1 at *
                      have HW4b : Hid (∃ r4, W4 = [b] ++ r4) := ⟨all4 ns ++ all8 ms ++ texts ps ++ ds.flatten, by rw [HW4.out]; simp [List.append_assoc]⟩
                      clear HV6 HV7 HV8 HV9 HVA HP6 HP7 HP8 HP9 HPA HPB HPC HB5 HB6 HB7 HB8 HB9 HBA HBB HBC HCB HJB HK5 HQ HLEN
                      go_wp2_with fail
                      refine wp_region_seq (by kernel_rfl) (R := Up) Up.refl Up.trans (fun _ W => Blk W w4.heap.size 37 #[.pointer qb] ∧ OutIs W (.agg #[.pointer qb]) [b] ∧ Below w.heap.size w W) [] [[22], [11], [16], [125, 126], [124, 127], [128], [21, 129], [130, 129], [11, 129], [132, 129], [131, 133, 129], [129, 134], [135], [136], [3, 136], [137, 138, 136], [139, 136], [23, 136], [140, 141, 136], [136, 142], [143]] [(124, spIs (.string (bstr (W4 ++ R3)))), (125, spIs (.string (bstr W4))), (126, spIs (.string (bstr R3))), (127, spIs (.string (bstr (W4 ++ R3)))), (128, spIs (.bool true)), (129, spIs (.bool true)), (130, spIs (.agg #[.pointer qb])), (131, spIs (.string (bstr [b]))), (132, spIs (.string (bstr W4))), (133, spIs (.string (bstr [b]))), (134, spIs (.bool true)), (135, spIs (.bool true)), (136, spIs (.bool true)), (137, spIs (.agg #[.pointer none])), (138, spIs (.slice A3 n3 c3)), (139, spOut T1), (140, spIs (.string (bstr T1))), (141, spIs (.string (bstr T1))), (142, spIs (.bool true)), (143, spIs (.bool true)), (10, spIs (.bool true))] 144 rfl (by kernel_rfl) (by kernel_rfl) (by kernel_rfl) (by kernel_rfl) ?_ ?_ ?_
                      · exact ⟨HBK.out.drew, HOB.out.kept ((Below.refl _ _).drew) (Nat.le_refl _), HB.out.drew⟩
                      · refine ⟨?_, ?_, ?_, ?_, ?_, ?_, ?_, ?_, ?_, ?_, ?_, ?_, ?_, ?_, ?_, ?_, ?_, ?_, ?_, ?_, ?_, trivial⟩
                        · as_aux_lemma =>
                          refine UpOb.plain (by decide) (fun _ W W' ⟨h1, h2, h3⟩ hb => ⟨h1.kept hb h1.lt, h2.kept hb (Nat.le_refl _), h3.trans (hb.mono h3.size)⟩) (fun W W' hb => hb) rfl fun a W m hR hS hl K hK => ?_
                          have h22 : a.tmps.getD 22 undef = (.string (bstr (W4 ++ R3))) := hl 22 (by decide)
                          replace hK : ∀ v W2, Below W.heap.size W W2 → v = (.string (bstr (W4 ++ R3))) → K (a.put (some 124) v) W2 := fun v W2 h1 h2 => hK v W2 h1 (fun d hd => by cases hd; exact h2)
                          clear hl
                          simp only [Array.getD_eq_getD_getElem?] at h22
                          go_simp
                          exact hK _ W (Below.refl _ W) rfl
                        · as_aux_lemma =>
                          refine UpOb.plain (by decide) (fun _ W W' ⟨h1, h2, h3⟩ hb => ⟨h1.kept hb h1.lt, h2.kept hb (Nat.le_refl _), h3.trans (hb.mono h3.size)⟩) (fun W W' hb => hb) rfl fun a W m hR hS hl K hK => ?_
                          have h11 : a.tmps.getD 11 undef = (.string (bstr W4)) := hl 11 (by decide)
                          replace hK : ∀ v W2, Below W.heap.size W W2 → v = (.string (bstr W4)) → K (a.put (some 125) v) W2 := fun v W2 h1 h2 => hK v W2 h1 (fun d hd => by cases hd; exact h2)
                          clear hl
                          simp only [Array.getD_eq_getD_getElem?] at h11
                          go_simp
                          exact hK _ W (Below.refl _ W) rfl
                        · as_aux_lemma =>
                          refine UpOb.plain (by decide) (fun _ W W' ⟨h1, h2, h3⟩ hb => ⟨h1.kept hb h1.lt, h2.kept hb (Nat.le_refl _), h3.trans (hb.mono h3.size)⟩) (fun W W' hb => hb) rfl fun a W m hR hS hl K hK => ?_
                          have h16 : a.tmps.getD 16 undef = (.string (bstr R3)) := hl 16 (by decide)
                          replace hK : ∀ v W2, Below W.heap.size W W2 → v = (.string (bstr R3)) → K (a.put (some 126) v) W2 := fun v W2 h1 h2 => hK v W2 h1 (fun d hd => by cases hd; exact h2)
                          clear hl
                          simp only [Array.getD_eq_getD_getElem?] at h16
                          go_simp
                          exact hK _ W (Below.refl _ W) rfl
                        · as_aux_lemma =>
                          refine UpOb.plain (by decide) (fun _ W W' ⟨h1, h2, h3⟩ hb => ⟨h1.kept hb h1.lt, h2.kept hb (Nat.le_refl _), h3.trans (hb.mono h3.size)⟩) (fun W W' hb => hb) rfl fun a W m hR hS hl K hK => ?_
                          have h125 : a.tmps.getD 125 undef = (.string (bstr W4)) := hl 125 (by decide)
                          have h126 : a.tmps.getD 126 undef = (.string (bstr R3)) := hl 126 (by decide)
                          replace hK : ∀ v W2, Below W.heap.size W W2 → v = (.string (bstr (W4 ++ R3))) → K (a.put (some 127) v) W2 := fun v W2 h1 h2 => hK v W2 h1 (fun d hd => by cases hd; exact h2)
                          clear hl
                          exact wp_addS _ _ _ rfl W4 R3 (by have := Hw4.out; omega) (by have := HR3.out; omega) h125 h126 (hK _ W (Below.refl _ W) rfl)
                        · as_aux_lemma =>
                          refine UpOb.plain (by decide) (fun _ W W' ⟨h1, h2, h3⟩ hb => ⟨h1.kept hb h1.lt, h2.kept hb (Nat.le_refl _), h3.trans (hb.mono h3.size)⟩) (fun W W' hb => hb) rfl fun a W m hR hS hl K hK => ?_
                          have h124 : a.tmps.getD 124 undef = (.string (bstr (W4 ++ R3))) := hl 124 (by decide)
                          have h127 : a.tmps.getD 127 undef = (.string (bstr (W4 ++ R3))) := hl 127 (by decide)
                          replace hK : ∀ v W2, Below W.heap.size W W2 → v = (.bool true) → K (a.put (some 128) v) W2 := fun v W2 h1 h2 => hK v W2 h1 (fun d hd => by cases hd; exact h2)
                          clear hl
                          exact wp_eqS _ _ _ rfl (W4 ++ R3) h124 h127 (hK _ W (Below.refl _ W) rfl)
                        · as_aux_lemma =>
                          refine UpOb.plain (by decide) (fun _ W W' ⟨h1, h2, h3⟩ hb => ⟨h1.kept hb h1.lt, h2.kept hb (Nat.le_refl _), h3.trans (hb.mono h3.size)⟩) (fun W W' hb => hb) rfl fun a W m hR hS hl K hK => ?_
                          have h128 : a.tmps.getD 128 undef = (.bool true) := hl 128 (by decide)
                          replace hK : ∀ v W2, Below W.heap.size W W2 → v = (.bool true) → K (a.put (some 129) v) W2 := fun v W2 h1 h2 => hK v W2 h1 (fun d hd => by cases hd; exact h2)
                          clear hl
                          simp only [Array.getD_eq_getD_getElem?] at h128
                          go_simp
                          exact hK _ W (Below.refl _ W) rfl
                        · as_aux_lemma =>
                          refine UpOb.guarded (d := 129) (by decide) (fun _ W W' ⟨h1, h2, h3⟩ hb => ⟨h1.kept hb h1.lt, h2.kept hb (Nat.le_refl _), h3.trans (hb.mono h3.size)⟩) (fun W W' hb => hb) rfl rfl (fun a W hl => hl 129 (by decide)) fun a W m hR hS hl K hK => ?_
                          have h21 : a.tmps.getD 21 undef = (.pointer (some ⟨w4.heap.size, 0, none⟩)) := hl 21 (by decide)
                          have h129 : a.tmps.getD 129 undef = (.bool true) := hl 129 (by decide)
                          replace hK : ∀ v W2, Below W.heap.size W W2 → v = (.agg #[.pointer qb]) → K (a.put (some 130) v) W2 := fun v W2 h1 h2 => hK v W2 h1 (fun d hd => by cases hd; exact h2)
                          clear hl
                          have c0 : W.cell? ⟨w4.heap.size, 0, none⟩ = some (.pointer qb) := by { rw [hS.1.cell]; rfl }
                          simp only [Array.getD_eq_getD_getElem?] at h21 h129
                          go_simp
                          exact hK _ W (Below.refl _ W) rfl
                        · as_aux_lemma =>
                          refine UpOb.guarded (d := 129) (by decide) (fun _ W W' ⟨h1, h2, h3⟩ hb => ⟨h1.kept hb h1.lt, h2.kept hb (Nat.le_refl _), h3.trans (hb.mono h3.size)⟩) (fun W W' hb => hb) rfl rfl (fun a W hl => hl 129 (by decide)) fun a W m hR hS hl K hK => ?_
                          have h130 : a.tmps.getD 130 undef = (.agg #[.pointer qb]) := hl 130 (by decide)
                          have h129 : a.tmps.getD 129 undef = (.bool true) := hl 129 (by decide)
                          replace hK : ∀ v W2, Below W.heap.size W W2 → v = (.string (bstr [b])) → K (a.put (some 131) v) W2 := fun v W2 h1 h2 => hK v W2 h1 (fun d hd => by cases hd; exact h2)
                          clear hl
                          have hs := string_walk W (.agg #[.pointer qb]) [b] hS.2.1 (by simp)
                          simp only [Array.getD_eq_getD_getElem?] at h130 h129
                          go_simp
                          refine hs.mono ?_
                          rintro e w6 ⟨rfl, hb6⟩
                          exact hK _ w6 hb6 rfl
                        · as_aux_lemma =>
                          refine UpOb.guarded (d := 129) (by decide) (fun _ W W' ⟨h1, h2, h3⟩ hb => ⟨h1.kept hb h1.lt, h2.kept hb (Nat.le_refl _), h3.trans (hb.mono h3.size)⟩) (fun W W' hb => hb) rfl rfl (fun a W hl => hl 129 (by decide)) fun a W m hR hS hl K hK => ?_
                          have h11 : a.tmps.getD 11 undef = (.string (bstr W4)) := hl 11 (by decide)
                          have h129 : a.tmps.getD 129 undef = (.bool true) := hl 129 (by decide)
                          replace hK : ∀ v W2, Below W.heap.size W W2 → v = (.string (bstr W4)) → K (a.put (some 132) v) W2 := fun v W2 h1 h2 => hK v W2 h1 (fun d hd => by cases hd; exact h2)
                          clear hl
                          simp only [Array.getD_eq_getD_getElem?] at h11 h129
                          go_simp
                          exact hK _ W (Below.refl _ W) rfl
                        · as_aux_lemma =>
                          refine UpOb.guarded (d := 129) (by decide) (fun _ W W' ⟨h1, h2, h3⟩ hb => ⟨h1.kept hb h1.lt, h2.kept hb (Nat.le_refl _), h3.trans (hb.mono h3.size)⟩) (fun W W' hb => hb) rfl rfl (fun a W hl => hl 129 (by decide)) fun a W m hR hS hl K hK => ?_
                          have h132 : a.tmps.getD 132 undef = (.string (bstr W4)) := hl 132 (by decide)
                          have h129 : a.tmps.getD 129 undef = (.bool true) := hl 129 (by decide)
                          replace hK : ∀ v W2, Below W.heap.size W W2 → v = (.string (bstr [b])) → K (a.put (some 133) v) W2 := fun v W2 h1 h2 => hK v W2 h1 (fun d hd => by cases hd; exact h2)
                          clear hl
                          obtain ⟨r4, hr4⟩ := HW4b.out
                          subst hr4
                          exact wp_head _ rfl b r4 h132 (hK _ W (Below.refl _ W) rfl)
                        · as_aux_lemma =>
                          refine UpOb.guarded (d := 129) (by decide) (fun _ W W' ⟨h1, h2, h3⟩ hb => ⟨h1.kept hb h1.lt, h2.kept hb (Nat.le_refl _), h3.trans (hb.mono h3.size)⟩) (fun W W' hb => hb) rfl rfl (fun a W hl => hl 129 (by decide)) fun a W m hR hS hl K hK => ?_
                          have h131 : a.tmps.getD 131 undef = (.string (bstr [b])) := hl 131 (by decide)
                          have h133 : a.tmps.getD 133 undef = (.string (bstr [b])) := hl 133 (by decide)
                          have h129 : a.tmps.getD 129 undef = (.bool true) := hl 129 (by decide)
                          replace hK : ∀ v W2, Below W.heap.size W W2 → v = (.bool true) → K (a.put (some 134) v) W2 := fun v W2 h1 h2 => hK v W2 h1 (fun d hd => by cases hd; exact h2)
                          clear hl
                          exact wp_eqS _ _ _ rfl [b] h131 h133 (hK _ W (Below.refl _ W) rfl)
                        · as_aux_lemma =>
                          refine UpOb.plain (by decide) (fun _ W W' ⟨h1, h2, h3⟩ hb => ⟨h1.kept hb h1.lt, h2.kept hb (Nat.le_refl _), h3.trans (hb.mono h3.size)⟩) (fun W W' hb => hb) rfl fun a W m hR hS hl K hK => ?_
                          have h129 : a.tmps.getD 129 undef = (.bool true) := hl 129 (by decide)
                          have h134 : a.tmps.getD 134 undef = (.bool true) := hl 134 (by decide)
                          replace hK : ∀ v W2, Below W.heap.size W W2 → v = (.bool true) → K (a.put (some 135) v) W2 := fun v W2 h1 h2 => hK v W2 h1 (fun d hd => by cases hd; exact h2)
                          clear hl
                          simp only [Array.getD_eq_getD_getElem?] at h129 h134
                          go_simp
                          exact hK _ W (Below.refl _ W) rfl
                        · as_aux_lemma =>
                          refine UpOb.plain (by decide) (fun _ W W' ⟨h1, h2, h3⟩ hb => ⟨h1.kept hb h1.lt, h2.kept hb (Nat.le_refl _), h3.trans (hb.mono h3.size)⟩) (fun W W' hb => hb) rfl fun a W m hR hS hl K hK => ?_
                          have h135 : a.tmps.getD 135 undef = (.bool true) := hl 135 (by decide)
                          replace hK : ∀ v W2, Below W.heap.size W W2 → v = (.bool true) → K (a.put (some 136) v) W2 := fun v W2 h1 h2 => hK v W2 h1 (fun d hd => by cases hd; exact h2)
                          clear hl
                          simp only [Array.getD_eq_getD_getElem?] at h135
                          go_simp
                          exact hK _ W (Below.refl _ W) rfl
                        · as_aux_lemma =>
                          refine UpOb.guarded (d := 136) (by decide) (fun _ W W' ⟨h1, h2, h3⟩ hb => ⟨h1.kept hb h1.lt, h2.kept hb (Nat.le_refl _), h3.trans (hb.mono h3.size)⟩) (fun W W' hb => hb) rfl rfl (fun a W hl => hl 136 (by decide)) fun a W m hR hS hl K hK => ?_
                          have h136 : a.tmps.getD 136 undef = (.bool true) := hl 136 (by decide)
                          replace hK : ∀ v W2, Below W.heap.size W W2 → v = (.agg #[.pointer none]) → K (a.put (some 137) v) W2 := fun v W2 h1 h2 => hK v W2 h1 (fun d hd => by cases hd; exact h2)
                          clear hl
                          simp only [Array.getD_eq_getD_getElem?] at h136
                          go_simp
                          exact hK _ W (Below.refl _ W) rfl
                        · as_aux_lemma =>
                          refine UpOb.guarded (d := 136) (by decide) (fun _ W W' ⟨h1, h2, h3⟩ hb => ⟨h1.kept hb h1.lt, h2.kept hb (Nat.le_refl _), h3.trans (hb.mono h3.size)⟩) (fun W W' hb => hb) rfl rfl (fun a W hl => hl 136 (by decide)) fun a W m hR hS hl K hK => ?_
                          have h3 : a.tmps.getD 3 undef = (.slice A3 n3 c3) := hl 3 (by decide)
                          have h136 : a.tmps.getD 136 undef = (.bool true) := hl 136 (by decide)
                          replace hK : ∀ v W2, Below W.heap.size W W2 → v = (.slice A3 n3 c3) → K (a.put (some 138) v) W2 := fun v W2 h1 h2 => hK v W2 h1 (fun d hd => by cases hd; exact h2)
                          clear hl
                          simp only [Array.getD_eq_getD_getElem?] at h3 h136
                          go_simp
                          exact hK _ W (Below.refl _ W) rfl
                        · as_aux_lemma =>
                          refine UpOb.guarded (d := 136) (by decide) (fun _ W W' ⟨h1, h2, h3⟩ hb => ⟨h1.kept hb h1.lt, h2.kept hb (Nat.le_refl _), h3.trans (hb.mono h3.size)⟩) (fun W W' hb => hb) rfl rfl (fun a W hl => hl 136 (by decide)) fun a W m hR hS hl K hK => ?_
                          have h137 : a.tmps.getD 137 undef = (.agg #[.pointer none]) := hl 137 (by decide)
                          have h138 : a.tmps.getD 138 undef = (.slice A3 n3 c3) := hl 138 (by decide)
                          have h136 : a.tmps.getD 136 undef = (.bool true) := hl 136 (by decide)
                          replace hK : ∀ v W2, Below W.heap.size W W2 → OutIs W2 v T1 → K (a.put (some 139) v) W2 := fun v W2 h1 h2 => hK v W2 h1 (fun d hd => by cases hd; exact h2)
                          clear hl
                          have hs := row18_walk W (.agg #[.pointer none]) [] A3 n3 c3 ps (OutIs.nil W) (H3.out.kept hS.2.2 (Nat.le_refl _)) (by have := HM.out; omega) (fun x hx => by have := HALL'.out x hx; omega)
                          rw [HT1.out] at hs
                          simp only [Array.getD_eq_getD_getElem?] at h137 h138 h136
                          go_simp
                          refine hs.mono ?_
                          rintro e w6 ⟨v6, rfl, hv6, hb6⟩
                          exact hK _ w6 hb6 hv6
                        · as_aux_lemma =>
                          refine UpOb.guarded (d := 136) (by decide) (fun _ W W' ⟨h1, h2, h3⟩ hb => ⟨h1.kept hb h1.lt, h2.kept hb (Nat.le_refl _), h3.trans (hb.mono h3.size)⟩) (fun W W' hb => hb) rfl rfl (fun a W hl => hl 136 (by decide)) fun a W m hR hS hl K hK => ?_
                          have h139 : OutIs W (a.tmps.getD 139 undef) T1 := hl 139 (by decide)
                          generalize hv139 : a.tmps.getD 139 undef = v139 at h139
                          have h136 : a.tmps.getD 136 undef = (.bool true) := hl 136 (by decide)
                          replace hK : ∀ v W2, Below W.heap.size W W2 → v = (.string (bstr T1)) → K (a.put (some 140) v) W2 := fun v W2 h1 h2 => hK v W2 h1 (fun d hd => by cases hd; exact h2)
                          clear hl
                          have hs := string_walk W v139 T1 h139 (by have := Ht1.out; omega)
                          simp only [Array.getD_eq_getD_getElem?] at hv139 h136
                          go_simp
                          refine hs.mono ?_
                          rintro e w6 ⟨rfl, hb6⟩
                          exact hK _ w6 hb6 rfl
                        · as_aux_lemma =>
                          refine UpOb.guarded (d := 136) (by decide) (fun _ W W' ⟨h1, h2, h3⟩ hb => ⟨h1.kept hb h1.lt, h2.kept hb (Nat.le_refl _), h3.trans (hb.mono h3.size)⟩) (fun W W' hb => hb) rfl rfl (fun a W hl => hl 136 (by decide)) fun a W m hR hS hl K hK => ?_
                          have h23 : a.tmps.getD 23 undef = (.string (bstr T1)) := hl 23 (by decide)
                          have h136 : a.tmps.getD 136 undef = (.bool true) := hl 136 (by decide)
                          replace hK : ∀ v W2, Below W.heap.size W W2 → v = (.string (bstr T1)) → K (a.put (some 141) v) W2 := fun v W2 h1 h2 => hK v W2 h1 (fun d hd => by cases hd; exact h2)
                          clear hl
                          simp only [Array.getD_eq_getD_getElem?] at h23 h136
                          go_simp
                          exact hK _ W (Below.refl _ W) rfl
                        · as_aux_lemma =>
                          refine UpOb.guarded (d := 136) (by decide) (fun _ W W' ⟨h1, h2, h3⟩ hb => ⟨h1.kept hb h1.lt, h2.kept hb (Nat.le_refl _), h3.trans (hb.mono h3.size)⟩) (fun W W' hb => hb) rfl rfl (fun a W hl => hl 136 (by decide)) fun a W m hR hS hl K hK => ?_
                          have h140 : a.tmps.getD 140 undef = (.string (bstr T1)) := hl 140 (by decide)
                          have h141 : a.tmps.getD 141 undef = (.string (bstr T1)) := hl 141 (by decide)
                          have h136 : a.tmps.getD 136 undef = (.bool true) := hl 136 (by decide)
                          replace hK : ∀ v W2, Below W.heap.size W W2 → v = (.bool true) → K (a.put (some 142) v) W2 := fun v W2 h1 h2 => hK v W2 h1 (fun d hd => by cases hd; exact h2)
                          clear hl
                          exact wp_eqS _ _ _ rfl T1 h140 h141 (hK _ W (Below.refl _ W) rfl)
                        · as_aux_lemma =>
                          refine UpOb.plain (by decide) (fun _ W W' ⟨h1, h2, h3⟩ hb => ⟨h1.kept hb h1.lt, h2.kept hb (Nat.le_refl _), h3.trans (hb.mono h3.size)⟩) (fun W W' hb => hb) rfl fun a W m hR hS hl K hK => ?_
                          have h136 : a.tmps.getD 136 undef = (.bool true) := hl 136 (by decide)
                          have h142 : a.tmps.getD 142 undef = (.bool true) := hl 142 (by decide)
                          replace hK : ∀ v W2, Below W.heap.size W W2 → v = (.bool true) → K (a.put (some 143) v) W2 := fun v W2 h1 h2 => hK v W2 h1 (fun d hd => by cases hd; exact h2)
                          clear hl
                          simp only [Array.getD_eq_getD_getElem?] at h136 h142
                          go_simp
                          exact hK _ W (Below.refl _ W) rfl
                        · as_aux_lemma =>
                          refine UpOb.plain (by decide) (fun _ W W' ⟨h1, h2, h3⟩ hb => ⟨h1.kept hb h1.lt, h2.kept hb (Nat.le_refl _), h3.trans (hb.mono h3.size)⟩) (fun W W' hb => hb) rfl fun a W m hR hS hl K hK => ?_
                          have h143 : a.tmps.getD 143 undef = (.bool true) := hl 143 (by decide)
                          replace hK : ∀ v W2, Below W.heap.size W W2 → v = (.bool true) → K (a.put (some 10) v) W2 := fun v W2 h1 h2 => hK v W2 h1 (fun d hd => by cases hd; exact h2)
                          clear hl
                          simp only [Array.getD_eq_getD_getElem?] at h143
                          go_simp
                          exact hK _ W (Below.refl _ W) rfl
                      · intro a W hd hsz hR hl hS
                        have h10 : a.tmps.getD 10 undef = .bool true := hl 10
                        go_wp2
                        refine bodyPost_ret (v := .bool true) ?_ hd ⟨rfl, hS.2.2⟩
                        rw [results_tmp rfl, h10]
end Go.Proofs.Ytjoiimhifogbhaa
