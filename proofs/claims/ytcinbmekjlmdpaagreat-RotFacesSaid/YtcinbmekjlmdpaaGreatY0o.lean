/- The chapter's example of maps. -/
import Derived.Test.YtcinbmekjlmdpaaGreatY0n
import Derived.Test.YtcinbmekjlmdpaaGreatY0h
import Derived.Test.YtcinbmekjlmdpaaGreatY0e
import Derived.Test.YtcinbmekjlmdpaaGreatY00

/-! The chapter's example of maps. -/
namespace Go.Proofs.YtcinbmekjlmdpaaGreat
open Go.RowKit

section
variable {ops : Array Oper} {rest : List Oper} {o : Oper} {a : Act} {w : World} {Q : Exit → Act → World → Prop}
set_option maxRecDepth 100000 in
theorem wpList_insM (hgd : o.guard = none) (m x v : Operand) (t e : TypeId) (ho : o.op = .insert t m x v) (ht : Tryz.prog.underlying t = some (.map 34 e)) (mb n : Nat) (f : UInt32 → Option Value) (k : UInt32) (kv val : Value)
    (hm : a.eval m = .map (some mb)) (hx : a.eval x = kv) (hkv : kv = V k) (hv : a.eval v = val) (hmu : Mu w mb n f) (hn : n < maxLen)
    (h : ∀ w', Mu w' mb (n + 1) (fun y => if y = k then some val else f y) → Ex mb w w' → w'.heap.size = w.heap.size → wpList Tryz.prog ops Q rest (a.put o.dst undef) w') : wpList Tryz.prog ops Q (o :: rest) a w := by
  refine wpList_plain hgd fun K hK => ?_
  obtain ⟨w', hrun, h1, h2, h3⟩ := hmu.put t e ht hn k val
  subst hkv
  unfold Oper.wp
  simp only [execOp, ho, Sem.run_bind, Sem.run_pure, Result.andThen_ok, hm, hx, hv, hrun]
  exact hK _ _ (h w' h1 h2 h3)
end
theorem V1t : Value.int .u32 1 = V 1 := by kernel_rfl
theorem V2t : Value.int .u32 2 = V 2 := by kernel_rfl
theorem RV.exm {w w' : World} {mb n : Nat} {f : UInt32 → Option Value} {v : Value} {l : List UInt32} (hm : Mu w mb n f) (hx : Ex mb w w') (h : RV w v l) : RV w' v l := by
  obtain ⟨A, c, h1, h2, h3⟩ := h
  refine ⟨A, c, h1, h2, h3.len, fun h0 => ?_⟩
  obtain ⟨b, o, ha, hlt, hc⟩ := h3.place h0
  refine ⟨b, o, ha, Nat.lt_of_lt_of_le hlt hx.size, fun i hi => ?_⟩
  have h4 := hc i hi
  have hne : b ≠ mb := fun e => by
    subst e
    obtain ⟨es, clock, hmb⟩ := hm.map
    simp [World.cell?, hmb] at h4
  have e : w'.cell? ⟨b, o + i, none⟩ = w.cell? ⟨b, o + i, none⟩ := by simp only [World.cell?, hx.block b hlt hne]
  rw [e]
  exact h4
def gex : Gr := ⟨[1, 2], [⟨1, 1, 2⟩]⟩
def Lex (x : UInt32) : List UInt32 := if x = 2 then [3] else if x = 1 then [2] else []
theorem lex_rv {w : World} {a b : Value} (ha : RV w a [2]) (hb : RV w b [3]) : ∀ x, RV w (((fun y => if y = 2 then some b else (fun y => if y = 1 then some a else (fun _ => none) y) y) x : Option Value).getD (.slice none 0 0)) (Lex x) := fun x => by
  unfold Lex
  by_cases h2 : x = 2
  · simp only [h2, if_true, Option.getD_some]; exact hb
  · by_cases h1 : x = 1
    · simp only [h1, if_true]; exact ha
    · simp only [h1, h2, if_false, Option.getD_none]; exact RV.nil w
theorem rots_ex : (gex.vs.map fun x => norm (Lex x)) = [[2], [3]] := by decide
theorem rots_le : ∀ l ∈ ([[2], [3]] : List (List UInt32)), l.length ≤ 1000000 := fun l hl => by
  simp only [List.mem_cons, List.not_mem_nil, or_false] at hl
  rcases hl with rfl | rfl <;> decide
theorem rck_ex : rck gex [[2], [3]] = 0 := by decide
theorem nf_ex : nfaces gex [[2], [3]] = 1 := by decide
theorem allf_ex : (allf gex [[2], [3]]).length = 1 := by decide
theorem gex_num : 2 * (parts gex).length + gex.es.length = alone gex + gex.vs.length + nfaces gex [[2], [3]] + 2 * 0 := by rw [nf_ex]; decide
theorem ok_ex : MapOk gex [[2], [3]] := MapOk.of rck_ex
theorem pck_ex : pck gex [[2], [3]] id = 0 := by decide
theorem srt_ex : ∀ i, i < ([[2], [3]] : List (List UInt32)).length → Srt (([[2], [3]] : List (List UInt32)).getD i []) (id (([[2], [3]] : List (List UInt32)).getD i [])) := fun i hi => srt_one (by
  have : i = 0 ∨ i = 1 := by simp at hi; omega
  rcases this with rfl | rfl <;> decide)
theorem RG.ex (w : World) : RG ((w.alloc (.cells #[.int .u32 1, .int .u32 2] 34)).alloc (.cells #[.int .u32 1, .int .u32 1, .int .u32 2] 67)) (.agg #[.slice (some ⟨w.heap.size, 0, none⟩) 2 2, .slice (some ⟨w.heap.size + 1, 0, none⟩) 1 1]) gex := by
  refine ⟨_, 2, _, 1, rfl, by decide, by decide, (Rd.fresh w [1, 2] (by decide)).kept ((Below.refl _ _).alloc (Nat.le_refl _) _) (Nat.le_refl _), ?_⟩
  refine ⟨by decide, fun _ => ⟨w.heap.size + 1, 0, rfl, by simp, fun i hi => ?_⟩⟩
  have : i = 0 := by simp [gex] at hi; omega
  subst this
  have hk : Blk ((w.alloc (.cells #[.int .u32 1, .int .u32 2] 34)).alloc (.cells #[.int .u32 1, .int .u32 1, .int .u32 2] 67)) (w.heap.size + 1) 67 #[.int .u32 1, .int .u32 1, .int .u32 2] := by
    have := Blk.fresh (w.alloc (.cells #[.int .u32 1, .int .u32 2] 34)) 67 #[.int .u32 1, .int .u32 1, .int .u32 2]
    simpa using this
  exact ⟨hk.cell 0, hk.cell 1, hk.cell 2⟩
theorem awake9A_walk (w : World) : Calls Tryz.prog 38 #[] w fun e w' => e = .returned (.bool true) ∧ Below w.heap.size w w' := by
  go_enter Tryz.func38, Tryz.ntmps38
  go_wp2_with (go_at_call 86; refine (awake9_walk w).mono ?_; rintro e w1 ⟨rfl, hb⟩; have HB := Lib.hid hb; clear hb)
  go_ret
  exact ⟨rfl, HB.out⟩
theorem RV.one2 (w : World) : RV (w.alloc (.cells #[.int .u32 2] 34)) (.slice (some ⟨w.heap.size, 0, none⟩) 1 1) [2] := RV.fresh w [2] 1 rfl (by decide)
theorem RV.one3 (w : World) : RV (w.alloc (.cells #[.int .u32 3] 34)) (.slice (some ⟨w.heap.size, 0, none⟩) 1 1) [3] := RV.fresh w [3] 1 rfl (by decide)
attribute [local irreducible] V
attribute [local irreducible] wpList in
set_option maxRecDepth 100000 in
set_option maxHeartbeats 2000000 in
/-- The example. -/
theorem awake10_walk (w : World) : Calls Tryz.prog 7 #[] w fun e w' => e = .returned (.bool true) ∧ Below w.heap.size w w' := by
  have hz := zero25
  have hz28 := zero28
  have hmm := @run_makeMap Tryz.prog
  have HG0 := Lib.hid (RG.ex w)
  have HB0 : Hid (Below w.heap.size w ((w.alloc (.cells #[.int .u32 1, .int .u32 2] 34)).alloc (.cells #[.int .u32 1, .int .u32 1, .int .u32 2] 67))) := ((Below.refl _ w).alloc (Nat.le_refl _) _).alloc (by simp) _
  have HSG : Hid (((w.alloc (.cells #[.int .u32 1, .int .u32 2] 34)).alloc (.cells #[.int .u32 1, .int .u32 1, .int .u32 2] 67)).heap.size = w.heap.size + 1 + 1) := by show _ = _; simp
  have HBG5 : Hid (Below (w.heap.size + 1 + 1) ((w.alloc (.cells #[.int .u32 1, .int .u32 2] 34)).alloc (.cells #[.int .u32 1, .int .u32 1, .int .u32 2] 67)) (((((w.alloc (.cells #[.int .u32 1, .int .u32 2] 34)).alloc (.cells #[.int .u32 1, .int .u32 1, .int .u32 2] 67)).alloc (.cells #[.slice (some ⟨w.heap.size, 0, none⟩) 2 2, .slice (some ⟨w.heap.size + 1, 0, none⟩) 1 1] 25)).alloc (.map #[] 0)).alloc (.cells #[.int .u32 2] 34))) := (((Below.refl _ _).alloc (by simp) _).alloc (by simp <;> omega) _).alloc (by simp <;> omega) _
  have HMU5 : Hid (Mu (((((w.alloc (.cells #[.int .u32 1, .int .u32 2] 34)).alloc (.cells #[.int .u32 1, .int .u32 1, .int .u32 2] 67)).alloc (.cells #[.slice (some ⟨w.heap.size, 0, none⟩) 2 2, .slice (some ⟨w.heap.size + 1, 0, none⟩) 1 1] 25)).alloc (.map #[] 0)).alloc (.cells #[.int .u32 2] 34)) (w.heap.size + 1 + 1 + 1) 0 (fun _ => none)) := by
    have h0 : Mu ((((w.alloc (.cells #[.int .u32 1, .int .u32 2] 34)).alloc (.cells #[.int .u32 1, .int .u32 1, .int .u32 2] 67)).alloc (.cells #[.slice (some ⟨w.heap.size, 0, none⟩) 2 2, .slice (some ⟨w.heap.size + 1, 0, none⟩) 1 1] 25)).alloc (.map #[] 0)) (w.heap.size + 1 + 1 + 1) 0 (fun _ => none) := by
      have := Mu.empty (((w.alloc (.cells #[.int .u32 1, .int .u32 2] 34)).alloc (.cells #[.int .u32 1, .int .u32 1, .int .u32 2] 67)).alloc (.cells #[.slice (some ⟨w.heap.size, 0, none⟩) 2 2, .slice (some ⟨w.heap.size + 1, 0, none⟩) 1 1] 25))
      simpa using this
    exact h0.kept (Below.heap_alloc ((((w.alloc (.cells #[.int .u32 1, .int .u32 2] 34)).alloc (.cells #[.int .u32 1, .int .u32 1, .int .u32 2] 67)).alloc (.cells #[.slice (some ⟨w.heap.size, 0, none⟩) 2 2, .slice (some ⟨w.heap.size + 1, 0, none⟩) 1 1] 25)).alloc (.map #[] 0)) _ _ h0.lt)
  have HV5 : Hid (RV (((((w.alloc (.cells #[.int .u32 1, .int .u32 2] 34)).alloc (.cells #[.int .u32 1, .int .u32 1, .int .u32 2] 67)).alloc (.cells #[.slice (some ⟨w.heap.size, 0, none⟩) 2 2, .slice (some ⟨w.heap.size + 1, 0, none⟩) 1 1] 25)).alloc (.map #[] 0)).alloc (.cells #[.int .u32 2] 34)) (.slice (some ⟨w.heap.size + 1 + 1 + 1 + 1, 0, none⟩) 1 1) [2]) := by
    have := RV.one2 ((((w.alloc (.cells #[.int .u32 1, .int .u32 2] 34)).alloc (.cells #[.int .u32 1, .int .u32 1, .int .u32 2] 67)).alloc (.cells #[.slice (some ⟨w.heap.size, 0, none⟩) 2 2, .slice (some ⟨w.heap.size + 1, 0, none⟩) 1 1] 25)).alloc (.map #[] 0))
    show RV _ _ _
    simpa using this
  have HS5 : Hid ((((((w.alloc (.cells #[.int .u32 1, .int .u32 2] 34)).alloc (.cells #[.int .u32 1, .int .u32 1, .int .u32 2] 67)).alloc (.cells #[.slice (some ⟨w.heap.size, 0, none⟩) 2 2, .slice (some ⟨w.heap.size + 1, 0, none⟩) 1 1] 25)).alloc (.map #[] 0)).alloc (.cells #[.int .u32 2] 34)).heap.size = w.heap.size + 1 + 1 + 1 + 1 + 1) := by show _ = _; simp
  have HG3 : Hid (Blk (((((w.alloc (.cells #[.int .u32 1, .int .u32 2] 34)).alloc (.cells #[.int .u32 1, .int .u32 1, .int .u32 2] 67)).alloc (.cells #[.slice (some ⟨w.heap.size, 0, none⟩) 2 2, .slice (some ⟨w.heap.size + 1, 0, none⟩) 1 1] 25)).alloc (.map #[] 0)).alloc (.cells #[.int .u32 2] 34)) (w.heap.size + 1 + 1) 25 #[.slice (some ⟨w.heap.size, 0, none⟩) 2 2, .slice (some ⟨w.heap.size + 1, 0, none⟩) 1 1]) := by
    have h0 : Blk (((w.alloc (.cells #[.int .u32 1, .int .u32 2] 34)).alloc (.cells #[.int .u32 1, .int .u32 1, .int .u32 2] 67)).alloc (.cells #[.slice (some ⟨w.heap.size, 0, none⟩) 2 2, .slice (some ⟨w.heap.size + 1, 0, none⟩) 1 1] 25)) (w.heap.size + 1 + 1) 25 #[.slice (some ⟨w.heap.size, 0, none⟩) 2 2, .slice (some ⟨w.heap.size + 1, 0, none⟩) 1 1] := by
      have := Blk.fresh ((w.alloc (.cells #[.int .u32 1, .int .u32 2] 34)).alloc (.cells #[.int .u32 1, .int .u32 1, .int .u32 2] 67)) 25 #[.slice (some ⟨w.heap.size, 0, none⟩) 2 2, .slice (some ⟨w.heap.size + 1, 0, none⟩) 1 1]
      simpa using this
    exact (h0.more _).more _
  have HLE5 : Hid (w.heap.size + 1 + 1 ≤ (((((w.alloc (.cells #[.int .u32 1, .int .u32 2] 34)).alloc (.cells #[.int .u32 1, .int .u32 1, .int .u32 2] 67)).alloc (.cells #[.slice (some ⟨w.heap.size, 0, none⟩) 2 2, .slice (some ⟨w.heap.size + 1, 0, none⟩) 1 1] 25)).alloc (.map #[] 0)).alloc (.cells #[.int .u32 2] 34)).heap.size) := by have := HS5.out; show _ ≤ _; omega
  have HB5 : Hid (Below w.heap.size w (((((w.alloc (.cells #[.int .u32 1, .int .u32 2] 34)).alloc (.cells #[.int .u32 1, .int .u32 1, .int .u32 2] 67)).alloc (.cells #[.slice (some ⟨w.heap.size, 0, none⟩) 2 2, .slice (some ⟨w.heap.size + 1, 0, none⟩) 1 1] 25)).alloc (.map #[] 0)).alloc (.cells #[.int .u32 2] 34))) := HB0.out.trans (Below.mono HBG5.out (by omega))
  go_enter Tryz.func7, Tryz.ntmps7
  go_wp2_with (first
    | (refine wpList_insM rfl (.tmp 8) (.const (.int .u32 2)) (.tmp 10) 69 22 rfl rfl (w.heap.size + 1 + 1 + 1) 1 _ 2 _ _ rfl rfl V2t rfl HMU7.out (by decide) ?_; intro w8 hm8 hx8 hs8; have HMU8 := Lib.hid hm8; have HX8 := Lib.hid ((HX6.out.trans (Ex.alloc _ w6 (.cells #[.int .u32 3] 34))).trans hx8); have HV8 := Lib.hid (RV.exm HMU7.out hx8 HV7.out); have HV82 := Lib.hid (RV.exm HMU7.out hx8 HV72.out); have HB8 := Lib.hid (Ex.below HBG5.out HX8.out (Nat.le_succ _) HLE5.out); have HBGs := HB8; have HBw8 := Lib.hid (HB0.out.trans (Below.mono HB8.out (Nat.le_trans (Nat.le_succ _) (Nat.le_succ _)))); rw [← HSG.out] at HBGs; clear hm8 hx8 hs8)
    | (refine wpList_insM rfl (.tmp 8) (.const (.int .u32 1)) (.tmp 9) 69 22 rfl rfl (w.heap.size + 1 + 1 + 1) 0 _ 1 _ _ rfl rfl V1t rfl HMU5.out (by decide) ?_; intro w6 hm6 hx6 hs6; have HMU6 := Lib.hid hm6; have HX6 := Lib.hid hx6; have HS6 : Hid (w6.heap.size = w.heap.size + 1 + 1 + 1 + 1 + 1) := hs6.trans HS5.out; have HMU7 := Lib.hid (hm6.kept (Below.heap_alloc w6 (.cells #[.int .u32 3] 34) _ hm6.lt)); have HV7 := Lib.hid ((RV.exm HMU5.out hx6 HV5.out).kept ((Below.refl _ w6).alloc (Nat.le_refl _) (.cells #[.int .u32 3] 34))); have HV72 := Lib.hid (RV.one3 w6); clear hm6 hx6 hs6)
    | (go_at_call 37; refine (of10_walk w8 _ gex (w.heap.size + 1 + 1 + 1) 2 _ Lex (HG0.out.kept HBGs.out) HMU8.out (lex_rv HV8.out HV82.out)).mono ?_; rintro e w9 ⟨u, rfl, hu, hb9⟩; rw [rots_ex] at hu; have HB9 := Lib.hid (HBw8.out.trans (Below.mono hb9 HBw8.out.size)); have HRM := Lib.hid (hu.rm rots_le); obtain ⟨A, c, B, d, C, e, hu2, _, _⟩ := hu; have hu3 : u = .agg #[.slice A 2 c, .slice B 1 d, .slice C 2 e] := hu2; clear hu2; subst hu3; have HX9 : Hid (Below w9.heap.size w9 (w9.alloc (.cells #[.slice A 2 c, .slice B 1 d, .slice C 2 e] 28))) := (Below.refl _ w9).alloc (Nat.le_refl _) _; have HK9 : Hid (Blk (w9.alloc (.cells #[.slice A 2 c, .slice B 1 d, .slice C 2 e] 28)) w9.heap.size 28 #[.slice A 2 c, .slice B 1 d, .slice C 2 e]) := Blk.fresh _ _ _; have HRM9 := Lib.hid (HRM.out.kept HX9.out); have HB10 := Lib.hid (HB9.out.trans (Below.mono HX9.out HB9.out.size)); clear hb9)
    | (go_at_call 38; refine (awake9A_walk _).mono ?_; rintro e w14 ⟨rfl, hb14⟩; have HB14 := Lib.hid (HB13.out.trans (Below.mono hb14 HB13.out.size)); clear hb14)
    | (go_at_call 15; refine (genus_walk _ _ gex [[2], [3]] 0 HRM12.out ok_ex gex_num).mono ?_; rintro e w13 ⟨rfl, hb13⟩; have HB13 := Lib.hid (HB12.out.trans (Below.mono hb13 HB12.out.size)); clear hb13)
    | (go_at_call 13; refine (faces_walk _ _ gex [[2], [3]] HRM11.out ok_ex).mono ?_; rintro e w12 ⟨u12, rfl, hu12, hb12⟩; obtain ⟨A12, c12, hv12⟩ := hu12.slice; rw [allf_ex] at hv12; subst hv12; have HRM12 := Lib.hid (HRM11.out.kept hb12); have HB12 := Lib.hid (HB11.out.trans (Below.mono hb12 HB11.out.size)); have HK12 := Lib.hid (HK11.out.kept hb12 HK11.out.lt); have k120 := HK12.out.cell 0; have k121 := HK12.out.cell 1; have k122 := HK12.out.cell 2; clear hu12 hb12)
    | (go_at_call 11; refine (right_good _ _ gex [[2], [3]] id 0 HRM9.out (by decide) srt_ex pck_ex ok_ex gex_num).mono ?_; rintro e w11 ⟨rfl, hb11⟩; have HRM11 := Lib.hid (HRM9.out.kept hb11); have HB11 := Lib.hid (HB10.out.trans (Below.mono hb11 HB10.out.size)); have HK11 := Lib.hid (HK9.out.kept hb11 HK9.out.lt); have k110 := HK11.out.cell 0; have k111 := HK11.out.cell 1; have k112 := HK11.out.cell 2; clear hb11))
  go_ret
  exact ⟨rfl, HB14.out⟩
end Go.Proofs.YtcinbmekjlmdpaaGreat

/-! The law's Few. -/
namespace Go.Proofs.YtcinbmekjlmdpaaGreat
open Go.RowKit

theorem few_walk (w : World) (A B C : Option Addr) (n c m d r e : Nat) :
    Calls Tryz.prog 8 #[.agg #[.slice A n c, .slice B m d, .slice C r e]] w fun x w' => x = .returned (.bool (decide (n ≤ 70) && decide (m ≤ 60) && decide (r ≤ 80))) ∧ Below w.heap.size w w' := by
  have HB : Hid (Below w.heap.size w (w.alloc (.cells #[.slice A n c, .slice B m d, .slice C r e] 28))) := (Below.refl _ w).alloc (Nat.le_refl _) _
  by_cases h1 : n ≤ 70
  · have q1 : decide ((n : Int) ≤ 70) = true := decide_eq_true (by omega)
    have q1b : decide (n ≤ 70) = true := decide_eq_true h1
    by_cases h2 : m ≤ 60
    · have q2 : decide ((m : Int) ≤ 60) = true := decide_eq_true (by omega)
      have q2b : decide (m ≤ 60) = true := decide_eq_true h2
      by_cases h3 : r ≤ 80
      · have q3 : decide ((r : Int) ≤ 80) = true := decide_eq_true (by omega)
        have q3b : decide (r ≤ 80) = true := decide_eq_true h3
        go_enter Tryz.func8, Tryz.ntmps8
        go_wp2
        go_ret
        exact ⟨by rw [q1b, q2b, q3b]; rfl, HB.out⟩
      · have q3 : decide ((r : Int) ≤ 80) = false := decide_eq_false (by omega)
        have q3b : decide (r ≤ 80) = false := decide_eq_false h3
        go_enter Tryz.func8, Tryz.ntmps8
        go_wp2
        go_ret
        exact ⟨by rw [q1b, q2b, q3b]; rfl, HB.out⟩
    · have q2 : decide ((m : Int) ≤ 60) = false := decide_eq_false (by omega)
      have q2b : decide (m ≤ 60) = false := decide_eq_false h2
      go_enter Tryz.func8, Tryz.ntmps8
      go_wp2
      go_ret
      exact ⟨by rw [q1b, q2b]; rfl, HB.out⟩
  · have q1 : decide ((n : Int) ≤ 70) = false := decide_eq_false (by omega)
    have q1b : decide (n ≤ 70) = false := decide_eq_false h1
    go_enter Tryz.func8, Tryz.ntmps8
    go_wp2
    go_ret
    exact ⟨by rw [q1b]; rfl, HB.out⟩
end Go.Proofs.YtcinbmekjlmdpaaGreat

/-! The document's Ends. -/
namespace Go.Proofs.YtcinbmekjlmdpaaGreat
open Go.RowKit

attribute [local irreducible] V
attribute [local irreducible] wpList in
set_option maxRecDepth 100000 in
set_option maxHeartbeats 4000000 in
/-- The document's Ends. -/
theorem rends9_walk (w : World) (v : Value) (g : Gr) (x : UInt32) (h : RG w v g) (hE : g.es.length ≤ 1000) :
    Calls Tryz.prog 43 #[v, V x] w fun e w' => ∃ u, e = .returned u ∧ RV w' u (eds g.es x) ∧ Below w.heap.size w w' := by
  obtain ⟨A, c, B, d, rfl, _, _, hr, hre⟩ := h
  have HB : Hid (Below w.heap.size w (w.alloc (.cells #[.slice A g.vs.length c, .slice B g.es.length d] 25))) := (Below.refl _ w).alloc (Nat.le_refl _) _
  have HRE := Lib.hid hre
  have hgd := run_guard
  have hz := zero39
  have r1 := run_mul2
  have r2 := run_add1
  have r6 := V_cells
  unfold Value.cells at r6
  clear hr hre
  go_enter Tryz.func43, Tryz.ntmps43
  go_wp2
  generalize w.alloc (.cells #[.slice A g.vs.length c, .slice B g.es.length d] 25) = w1 at *
  go_loopw [5, 11] (fun v i wr => ∃ k : Nat, k ≤ g.es.length ∧ i = .int .i64 k ∧ Oq wr w.heap.size v (eds (g.es.take k) x) ∧ Below w.heap.size w wr) (fun _ i _ => g.es.length - (intOf i).toNat)
  case atStart => exact ⟨0, Nat.zero_le _, rfl, Oq.nil _ _, HB.out⟩
  case round =>
    obtain ⟨k, hk, rfl, hq, hb⟩ := hrel
    have HQ := Lib.hid hq
    have HBL := Lib.hid hb
    clear hq hb
    by_cases hlt : k < g.es.length
    · obtain ⟨b, o, rfl, hc⟩ := (HRE.out.kept HBL.out (Nat.le_refl _)).spot (by omega)
      obtain ⟨hc1, hc2, hc3⟩ := hc k hlt
      have hs := eds_succ hlt x
      have HLE : Hid ((eds (g.es.take k) x).length ≤ 2000) := by have := eds_take g.es k x; show _ ≤ _; omega
      generalize g.es.getD k e0 = y at *
      by_cases ha : y.a = x
      · rw [if_pos ha] at hs
        have e1 := eqT (x := y.a) (y := x) (by rw [ha]; simp)
        clear ha
        by_cases hbx : y.b = x
        · rw [if_pos hbx] at hs
          have e2 := eqT (x := y.b) (y := x) (by rw [hbx]; simp)
          clear hbx
          have HS := Lib.hid hs
          have HTK : Hid True := trivial
          clear hs hc
          go_wp2_with (first
            | (refine wpList_store_fresh rfl 67 (.tmp 7) (.tmp 14) rfl #[V y.id, V y.a, V y.b] rfl rfl (by kernel_rfl) rfl (all3 _ _ _) ?_; intro w2 hb2 hs2 hk2; have HB2 := Lib.hid hb2; have HK2 := Lib.hid hk2; have c0 : w2.cell? ⟨wr.heap.size, 0, none⟩ = some (V y.id) := hk2.cell 0; have c1 : w2.cell? ⟨wr.heap.size, 1, none⟩ = some (V y.a) := hk2.cell 1; have c2 : w2.cell? ⟨wr.heap.size, 2, none⟩ = some (V y.b) := hk2.cell 2; have HQ2 := Lib.hid (HQ.out.still (Still.below hb2)); have HZ2 : Hid (w.heap.size ≤ w2.heap.size) := Nat.le_trans HBL.out.size hb2.size; clear hb2 hs2 hk2)
            | (refine wpList_pushq rfl (.tmp 19) (.tmp 23) rfl w.heap.size _ (eds (g.es.take k) x) (2 * y.id) w2.heap.size rfl rfl (HQ2.out.still (Still.below ((Below.refl _ w2).alloc (Nat.le_refl _) (.cells #[V (2 * y.id)] 34)))) (by have := HLE.out; simp; omega) (by have := HZ2.out; simp; omega) (Blk.fresh _ _ _) ?_; intro v3 w3 ho3 hg3 hb3; have HP3 : Hid True := trivial; have HQ3 := Lib.hid ho3; have HG3 := Lib.hid (Oq.below (HQ2.out.still (Still.below ((Below.refl _ w2).alloc (Nat.le_refl _) (.cells #[V (2 * y.id)] 34)))) hg3 (by have := HZ2.out; simp; omega)); have HZ3 : Hid (w.heap.size ≤ w3.heap.size) := (by have := HG3.out.size; have := HZ2.out; simp at *; show _ ≤ _; omega); have HK3 := Lib.hid (Blk.grown ((HK2.out.more _)) (HQ2.out.still (Still.below ((Below.refl _ w2).alloc (Nat.le_refl _) (.cells #[V (2 * y.id)] 34)))) (by decide) hg3); have d2 : w3.cell? ⟨wr.heap.size, 2, none⟩ = some (V y.b) := HK3.out.cell 2; have d0 : w3.cell? ⟨wr.heap.size, 0, none⟩ = some (V y.id) := HK3.out.cell 0; clear ho3 hg3 hb3)
            | (have T := HP3; refine wpList_pushq rfl (.tmp 29) (.tmp 34) rfl w.heap.size _ (eds (g.es.take k) x ++ [2 * y.id]) (2 * y.id + 1) w3.heap.size rfl rfl (HQ3.out.still (Still.below ((Below.refl _ w3).alloc (Nat.le_refl _) (.cells #[V (2 * y.id + 1)] 34)))) (by have := HLE.out; simp; omega) (by have := HZ3.out; simp; omega) (Blk.fresh _ _ _) ?_; intro v4 w4 ho4 hg4 hb4; have HP4 : Hid True := trivial; have HQ4 := Lib.hid ho4; have HG4 := Lib.hid (Oq.below (HQ3.out.still (Still.below ((Below.refl _ w3).alloc (Nat.le_refl _) (.cells #[V (2 * y.id + 1)] 34)))) hg4 (by have := HZ3.out; simp; omega)); have HZ4 : Hid (w.heap.size ≤ w4.heap.size) := (by have := HG4.out.size; have := HZ3.out; simp at *; show _ ≤ _; omega); have HK4 := Lib.hid (Blk.grown ((HK3.out.more _)) (HQ3.out.still (Still.below ((Below.refl _ w3).alloc (Nat.le_refl _) (.cells #[V (2 * y.id + 1)] 34)))) (by decide) hg4); have d2 : w4.cell? ⟨wr.heap.size, 2, none⟩ = some (V y.b) := HK4.out.cell 2; have d0 : w4.cell? ⟨wr.heap.size, 0, none⟩ = some (V y.id) := HK4.out.cell 0; clear ho4 hg4 hb4))
          go_roundw
          case rel => exact ⟨k + 1, by omega, by go_num, by rw [HS.out]; exact HQ4.out, ((((HBL.out.trans (Below.mono HB2.out HBL.out.size)).alloc HZ2.out _).trans HG3.out).alloc HZ3.out _).trans HG4.out⟩
          case measure => simp [intOf]; omega
        · rw [if_neg hbx, List.append_nil] at hs
          have e2 := eqF (x := y.b) (y := x) (by simpa using hbx)
          clear hbx
          have HS := Lib.hid hs
          have HTK : Hid True := trivial
          clear hs hc
          go_wp2_with (first
            | (refine wpList_store_fresh rfl 67 (.tmp 7) (.tmp 14) rfl #[V y.id, V y.a, V y.b] rfl rfl (by kernel_rfl) rfl (all3 _ _ _) ?_; intro w2 hb2 hs2 hk2; have HB2 := Lib.hid hb2; have HK2 := Lib.hid hk2; have c0 : w2.cell? ⟨wr.heap.size, 0, none⟩ = some (V y.id) := hk2.cell 0; have c1 : w2.cell? ⟨wr.heap.size, 1, none⟩ = some (V y.a) := hk2.cell 1; have c2 : w2.cell? ⟨wr.heap.size, 2, none⟩ = some (V y.b) := hk2.cell 2; have HQ2 := Lib.hid (HQ.out.still (Still.below hb2)); have HZ2 : Hid (w.heap.size ≤ w2.heap.size) := Nat.le_trans HBL.out.size hb2.size; clear hb2 hs2 hk2)
            | (refine wpList_pushq rfl (.tmp 19) (.tmp 23) rfl w.heap.size _ (eds (g.es.take k) x) (2 * y.id) w2.heap.size rfl rfl (HQ2.out.still (Still.below ((Below.refl _ w2).alloc (Nat.le_refl _) (.cells #[V (2 * y.id)] 34)))) (by have := HLE.out; simp; omega) (by have := HZ2.out; simp; omega) (Blk.fresh _ _ _) ?_; intro v3 w3 ho3 hg3 hb3; have HP3 : Hid True := trivial; have HQ3 := Lib.hid ho3; have HG3 := Lib.hid (Oq.below (HQ2.out.still (Still.below ((Below.refl _ w2).alloc (Nat.le_refl _) (.cells #[V (2 * y.id)] 34)))) hg3 (by have := HZ2.out; simp; omega)); have HZ3 : Hid (w.heap.size ≤ w3.heap.size) := (by have := HG3.out.size; have := HZ2.out; simp at *; show _ ≤ _; omega); have HK3 := Lib.hid (Blk.grown ((HK2.out.more _)) (HQ2.out.still (Still.below ((Below.refl _ w2).alloc (Nat.le_refl _) (.cells #[V (2 * y.id)] 34)))) (by decide) hg3); have d2 : w3.cell? ⟨wr.heap.size, 2, none⟩ = some (V y.b) := HK3.out.cell 2; have d0 : w3.cell? ⟨wr.heap.size, 0, none⟩ = some (V y.id) := HK3.out.cell 0; clear ho3 hg3 hb3))
          go_roundw
          case rel => exact ⟨k + 1, by omega, by go_num, by rw [HS.out]; exact HQ3.out, ((HBL.out.trans (Below.mono HB2.out HBL.out.size)).alloc HZ2.out _).trans HG3.out⟩
          case measure => simp [intOf]; omega
      · rw [if_neg ha, List.append_nil] at hs
        have e1 := eqF (x := y.a) (y := x) (by simpa using ha)
        clear ha
        by_cases hbx : y.b = x
        · rw [if_pos hbx] at hs
          have e2 := eqT (x := y.b) (y := x) (by rw [hbx]; simp)
          clear hbx
          have HS := Lib.hid hs
          have HTK : Hid True := trivial
          clear hs hc
          go_wp2_with (first
            | (refine wpList_store_fresh rfl 67 (.tmp 7) (.tmp 14) rfl #[V y.id, V y.a, V y.b] rfl rfl (by kernel_rfl) rfl (all3 _ _ _) ?_; intro w2 hb2 hs2 hk2; have HB2 := Lib.hid hb2; have HK2 := Lib.hid hk2; have c0 : w2.cell? ⟨wr.heap.size, 0, none⟩ = some (V y.id) := hk2.cell 0; have c1 : w2.cell? ⟨wr.heap.size, 1, none⟩ = some (V y.a) := hk2.cell 1; have c2 : w2.cell? ⟨wr.heap.size, 2, none⟩ = some (V y.b) := hk2.cell 2; have HQ2 := Lib.hid (HQ.out.still (Still.below hb2)); have HZ2 : Hid (w.heap.size ≤ w2.heap.size) := Nat.le_trans HBL.out.size hb2.size; clear hb2 hs2 hk2)
            | (refine wpList_pushq rfl (.tmp 29) (.tmp 34) rfl w.heap.size _ (eds (g.es.take k) x) (2 * y.id + 1) w2.heap.size rfl rfl (HQ2.out.still (Still.below ((Below.refl _ w2).alloc (Nat.le_refl _) (.cells #[V (2 * y.id + 1)] 34)))) (by have := HLE.out; simp; omega) (by have := HZ2.out; simp; omega) (Blk.fresh _ _ _) ?_; intro v4 w4 ho4 hg4 hb4; have HP4 : Hid True := trivial; have HQ4 := Lib.hid ho4; have HG4 := Lib.hid (Oq.below (HQ2.out.still (Still.below ((Below.refl _ w2).alloc (Nat.le_refl _) (.cells #[V (2 * y.id + 1)] 34)))) hg4 (by have := HZ2.out; simp; omega)); have HZ4 : Hid (w.heap.size ≤ w4.heap.size) := (by have := HG4.out.size; have := HZ2.out; simp at *; show _ ≤ _; omega); have HK4 := Lib.hid (Blk.grown ((HK2.out.more _)) (HQ2.out.still (Still.below ((Below.refl _ w2).alloc (Nat.le_refl _) (.cells #[V (2 * y.id + 1)] 34)))) (by decide) hg4); have d2 : w4.cell? ⟨wr.heap.size, 2, none⟩ = some (V y.b) := HK4.out.cell 2; have d0 : w4.cell? ⟨wr.heap.size, 0, none⟩ = some (V y.id) := HK4.out.cell 0; clear ho4 hg4 hb4))
          go_roundw
          case rel => exact ⟨k + 1, by omega, by go_num, by rw [HS.out]; exact HQ4.out, ((HBL.out.trans (Below.mono HB2.out HBL.out.size)).alloc HZ2.out _).trans HG4.out⟩
          case measure => simp [intOf]; omega
        · rw [if_neg hbx, List.append_nil] at hs
          have e2 := eqF (x := y.b) (y := x) (by simpa using hbx)
          clear hbx
          have HS := Lib.hid hs
          have HTK : Hid True := trivial
          clear hs hc
          go_wp2_with (first
            | (refine wpList_store_fresh rfl 67 (.tmp 7) (.tmp 14) rfl #[V y.id, V y.a, V y.b] rfl rfl (by kernel_rfl) rfl (all3 _ _ _) ?_; intro w2 hb2 hs2 hk2; have HB2 := Lib.hid hb2; have HK2 := Lib.hid hk2; have c0 : w2.cell? ⟨wr.heap.size, 0, none⟩ = some (V y.id) := hk2.cell 0; have c1 : w2.cell? ⟨wr.heap.size, 1, none⟩ = some (V y.a) := hk2.cell 1; have c2 : w2.cell? ⟨wr.heap.size, 2, none⟩ = some (V y.b) := hk2.cell 2; have HQ2 := Lib.hid (HQ.out.still (Still.below hb2)); have HZ2 : Hid (w.heap.size ≤ w2.heap.size) := Nat.le_trans HBL.out.size hb2.size; clear hb2 hs2 hk2))
          go_roundw
          case rel => exact ⟨k + 1, by omega, by go_num, by rw [HS.out]; exact HQ2.out, HBL.out.trans (Below.mono HB2.out HBL.out.size)⟩
          case measure => simp [intOf]; omega
    · obtain rfl : k = g.es.length := by omega
      have hq := HQ.out
      have hl := eds_take g.es g.es.length x
      rw [List.take_length] at hq hl
      have HV := Lib.hid (hq.rv (by omega))
      clear hq hl
      go_wp2
      go_ret
      exact ⟨_, rfl, HV.out, HBL.out⟩
end Go.Proofs.YtcinbmekjlmdpaaGreat

/-! The document's Find. -/
namespace Go.Proofs.YtcinbmekjlmdpaaGreat
open Go.RowKit
attribute [local irreducible] V
set_option maxRecDepth 100000 in
/-- The document's Find. -/
theorem find_walk (w : World) (A : Option Addr) (c : Nat) (l : List UInt32) (x : UInt32) (h : Rd w A l) :
    Calls Tryz.prog 45 #[.slice A l.length c, V x] w fun e w' => e = .returned (.int .i64 (ix l x)) ∧ w = w' := by
  have H := Lib.hid h
  have hlen := h.len
  have HH := Lib.hid (fst_le l x)
  have hg := run_guard
  clear h
  go_enter Tryz.func45, Tryz.ntmps45
  go_wp2
  go_loop [9] (fun i => ∃ k : Nat, k ≤ fst l x ∧ i = .int .i64 k) (fun i => l.length - (intOf i).toNat)
  case atStart => exact ⟨0, Nat.zero_le _, rfl⟩
  case round =>
    obtain ⟨k, hk, rfl⟩ := hrel
    have hle := HH.out
    by_cases hlt : k < l.length
    · obtain ⟨b, o, rfl, hc⟩ := H.out.spot (by omega)
      have hcell := hc k hlt
      clear hc
      by_cases hkh : k < fst l x
      · have ht := eqF ((beq_flip _ _).trans (fst_no l x k hlt hkh))
        generalize l[k] = y at *
        go_wp2
        go_round
        case rel => exact ⟨k + 1, by omega, by go_num⟩
        case measure => simp [intOf]; omega
      · obtain rfl : k = fst l x := by omega
        have ht := eqT ((beq_flip _ _).trans (fst_yes l x hlt))
        have HX := Lib.hid (ix_lt hlt)
        go_wp2
        go_ret
        exact ⟨ret_int HX.out.symm, rfl⟩
    · have HX := Lib.hid (ix_ge (l := l) (x := x) (by omega))
      go_wp2
      go_ret
      exact ⟨ret_int HX.out.symm, rfl⟩
end Go.Proofs.YtcinbmekjlmdpaaGreat

/-! The document's Next. -/
namespace Go.Proofs.YtcinbmekjlmdpaaGreat
open Go.RowKit
attribute [local irreducible] V
set_option maxRecDepth 100000 in
/-- The document's Next. -/
theorem rnext_walk (w : World) (A : Option Addr) (c : Nat) (l : List UInt32) (d : UInt32) (h : Rd w A l) :
    Calls Tryz.prog 56 #[.slice A l.length c, V d] w fun e w' => e = .returned (V (nxt l d)) ∧ w = w' := by
  have hi := find_walk w A c l d h
  have hlen := h.len
  by_cases hlt : fst l d < l.length
  · rw [nxt_lt hlt]
    rw [ix_lt hlt] at hi
    obtain ⟨b, o, rfl, hc⟩ := h.spot (by omega)
    have H := Lib.hid hi
    by_cases he : fst l d + 1 = l.length
    · have hm : (fst l d + 1) % l.length = 0 := by rw [he]; exact Nat.mod_self _
      rw [hm]
      have hcell := hc 0 (by omega)
      rw [getD_at (by omega : 0 < l.length)] at hcell
      rw [Nat.add_zero] at hcell
      have ht : ((fst l d : Int) + 1 == (l.length : Int)) = true := by simp; omega
      clear h hc hi hm he
      generalize fst l d = f at *
      generalize l.getD 0 0 = y at *
      go_enter Tryz.func56, Tryz.ntmps56
      go_wp2_with (go_at_call 45; refine H.out.mono ?_; rintro e w' ⟨rfl, rfl⟩)
      go_ret
      exact ⟨rfl, rfl⟩
    · have hm : (fst l d + 1) % l.length = fst l d + 1 := Nat.mod_eq_of_lt (by omega)
      rw [hm]
      have hcell := hc (fst l d + 1) (by omega)
      rw [getD_at (by omega : fst l d + 1 < l.length)] at hcell
      have ht : ((fst l d : Int) + 1 == (l.length : Int)) = false := by simp; omega
      clear h hc hi hm
      generalize l.getD (fst l d + 1) 0 = y at *
      generalize fst l d = f at *
      go_enter Tryz.func56, Tryz.ntmps56
      go_wp2_with (go_at_call 45; refine H.out.mono ?_; rintro e w' ⟨rfl, rfl⟩)
      go_ret
      exact ⟨rfl, rfl⟩
  · rw [nxt_ge hlt]
    rw [ix_ge hlt] at hi
    have H := Lib.hid hi
    clear h hi
    go_enter Tryz.func56, Tryz.ntmps56
    go_wp2_with (go_at_call 45; refine H.out.mono ?_; rintro e w' ⟨rfl, rfl⟩)
    go_ret
    exact ⟨by rw [← V0]; rfl, rfl⟩
end Go.Proofs.YtcinbmekjlmdpaaGreat
