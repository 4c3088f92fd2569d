/- The chapter's example of maps. -/
import Derived.Test.YtcinbmekjlmdpaaY0n
import Derived.Test.YtcinbmekjlmdpaaY0h
import Derived.Test.YtcinbmekjlmdpaaRows
import Derived.ProofKit
import Derived.OpenShut
import Derived.Carry
import Derived.SizedLaws
import Derived.Lib.SmallJoins
import Derived.Deep.Slices
import Derived.Deep.Fields

/-! The chapter's example of maps. -/
namespace Go.Proofs.Ytcinbmekjlmdpaa
open Go.RowKit

section
variable {ops : Array Oper} {rest : List Oper} {o : Oper} {a : Act} {w : World} {Q : Exit → Act → World → Prop}
set_option maxRecDepth 100000 in
theorem wpList_insM (hgd : o.guard = none) (m x v : Operand) (t e : TypeId) (ho : o.op = .insert t m x v) (ht : Try.prog.underlying t = some (.map 30 e)) (mb n : Nat) (f : UInt32 → Option Value) (k : UInt32) (kv val : Value)
    (hm : a.eval m = .map (some mb)) (hx : a.eval x = kv) (hkv : kv = V k) (hv : a.eval v = val) (hmu : Mu w mb n f) (hn : n < maxLen)
    (h : ∀ w', Mu w' mb (n + 1) (fun y => if y = k then some val else f y) → Ex mb w w' → w'.heap.size = w.heap.size → wpList Try.prog ops Q rest (a.put o.dst undef) w') : wpList Try.prog ops Q (o :: rest) a w := by
  refine wpList_plain hgd fun K hK => ?_
  obtain ⟨w', hrun, h1, h2, h3⟩ := hmu.put t e ht hn k val
  subst hkv
  unfold Oper.wp
  simp only [execOp, ho, Sem.run_bind, Sem.run_pure, Result.andThen_ok, hm, hx, hv, hrun]
  exact hK _ _ (h w' h1 h2 h3)
end
theorem V1t : Value.int .u32 1 = V 1 := by kernel_rfl
theorem V2t : Value.int .u32 2 = V 2 := by kernel_rfl
theorem RV.exm {w w' : World} {mb n : Nat} {f : UInt32 → Option Value} {v : Value} {l : List UInt32} (hm : Mu w mb n f) (hx : Ex mb w w') (h : RV w v l) : RV w' v l := by
  obtain ⟨A, c, h1, h2, h3⟩ := h
  refine ⟨A, c, h1, h2, h3.len, fun h0 => ?_⟩
  obtain ⟨b, o, ha, hlt, hc⟩ := h3.place h0
  refine ⟨b, o, ha, Nat.lt_of_lt_of_le hlt hx.size, fun i hi => ?_⟩
  have h4 := hc i hi
  have hne : b ≠ mb := fun e => by
    subst e
    obtain ⟨es, clock, hmb⟩ := hm.map
    simp [World.cell?, hmb] at h4
  have e : w'.cell? ⟨b, o + i, none⟩ = w.cell? ⟨b, o + i, none⟩ := by simp only [World.cell?, hx.block b hlt hne]
  rw [e]
  exact h4
def gex : Gr := ⟨[1, 2], [⟨1, 1, 2⟩]⟩
def Lex (x : UInt32) : List UInt32 := if x = 2 then [3] else if x = 1 then [2] else []
theorem lex_rv {w : World} {a b : Value} (ha : RV w a [2]) (hb : RV w b [3]) : ∀ x, RV w (((fun y => if y = 2 then some b else (fun y => if y = 1 then some a else (fun _ => none) y) y) x : Option Value).getD (.slice none 0 0)) (Lex x) := fun x => by
  unfold Lex
  by_cases h2 : x = 2
  · simp only [h2, if_true, Option.getD_some]; exact hb
  · by_cases h1 : x = 1
    · simp only [h1, if_true]; exact ha
    · simp only [h1, h2, if_false, Option.getD_none]; exact RV.nil w
theorem rots_ex : (gex.vs.map fun x => norm (Lex x)) = [[2], [3]] := by decide
theorem rots_le : ∀ l ∈ ([[2], [3]] : List (List UInt32)), l.length ≤ 1000000 := fun l hl => by
  simp only [List.mem_cons, List.not_mem_nil, or_false] at hl
  rcases hl with rfl | rfl <;> decide
theorem rck_ex : rck gex [[2], [3]] = 0 := by decide
theorem nf_ex : nfaces gex [[2], [3]] = 1 := by decide
theorem allf_ex : (allf gex [[2], [3]]).length = 1 := by decide
theorem gex_num : 2 * (parts gex).length + gex.es.length = alone gex + gex.vs.length + nfaces gex [[2], [3]] + 2 * 0 := by rw [nf_ex]; decide
theorem ok_ex : MapOk gex [[2], [3]] := MapOk.of rck_ex
theorem pck_ex : pck gex [[2], [3]] id = 0 := by decide
theorem srt_ex : ∀ i, i < ([[2], [3]] : List (List UInt32)).length → Srt (([[2], [3]] : List (List UInt32)).getD i []) (id (([[2], [3]] : List (List UInt32)).getD i [])) := fun i hi => srt_one (by
  have : i = 0 ∨ i = 1 := by simp at hi; omega
  rcases this with rfl | rfl <;> decide)
theorem RG.ex (w : World) : RG ((w.alloc (.cells #[.int .u32 1, .int .u32 2] 30)).alloc (.cells #[.int .u32 1, .int .u32 1, .int .u32 2] 39)) (.agg #[.slice (some ⟨w.heap.size, 0, none⟩) 2 2, .slice (some ⟨w.heap.size + 1, 0, none⟩) 1 1]) gex := by
  refine ⟨_, 2, _, 1, rfl, by decide, by decide, (Rd.fresh w [1, 2] (by decide)).kept ((Below.refl _ _).alloc (Nat.le_refl _) _) (Nat.le_refl _), ?_⟩
  refine ⟨by decide, fun _ => ⟨w.heap.size + 1, 0, rfl, by simp, fun i hi => ?_⟩⟩
  have : i = 0 := by simp [gex] at hi; omega
  subst this
  have hk : Blk ((w.alloc (.cells #[.int .u32 1, .int .u32 2] 30)).alloc (.cells #[.int .u32 1, .int .u32 1, .int .u32 2] 39)) (w.heap.size + 1) 39 #[.int .u32 1, .int .u32 1, .int .u32 2] := by
    have := Blk.fresh (w.alloc (.cells #[.int .u32 1, .int .u32 2] 30)) 39 #[.int .u32 1, .int .u32 1, .int .u32 2]
    simpa using this
  exact ⟨hk.cell 0, hk.cell 1, hk.cell 2⟩
theorem awake9A_walk (w : World) : Calls Try.prog 13 #[] w fun e w' => e = .returned (.bool true) ∧ Below w.heap.size w w' := by
  go_enter Try.func13, Try.ntmps13
  go_wp2_with (go_at_call 23; refine (awake9_walk w).mono ?_; rintro e w1 ⟨rfl, hb⟩; have HB := Lib.hid hb; clear hb)
  go_ret
  exact ⟨rfl, HB.out⟩
theorem RV.one2 (w : World) : RV (w.alloc (.cells #[.int .u32 2] 30)) (.slice (some ⟨w.heap.size, 0, none⟩) 1 1) [2] := RV.fresh w [2] 1 rfl (by decide)
theorem RV.one3 (w : World) : RV (w.alloc (.cells #[.int .u32 3] 30)) (.slice (some ⟨w.heap.size, 0, none⟩) 1 1) [3] := RV.fresh w [3] 1 rfl (by decide)
attribute [local irreducible] V
attribute [local irreducible] wpList in
set_option maxRecDepth 100000 in
set_option maxHeartbeats 2000000 in
/-- The example. -/
theorem awake10_walk (w : World) : Calls Try.prog 4 #[] w fun e w' => e = .returned (.bool true) ∧ Below w.heap.size w w' := by
  have hz := zero25
  have hz28 := zero28
  have hmm := @run_makeMap Try.prog
  have HG0 := Lib.hid (RG.ex w)
  have HB0 : Hid (Below w.heap.size w ((w.alloc (.cells #[.int .u32 1, .int .u32 2] 30)).alloc (.cells #[.int .u32 1, .int .u32 1, .int .u32 2] 39))) := ((Below.refl _ w).alloc (Nat.le_refl _) _).alloc (by simp) _
  have HSG : Hid (((w.alloc (.cells #[.int .u32 1, .int .u32 2] 30)).alloc (.cells #[.int .u32 1, .int .u32 1, .int .u32 2] 39)).heap.size = w.heap.size + 1 + 1) := by show _ = _; simp
  have HBG5 : Hid (Below (w.heap.size + 1 + 1) ((w.alloc (.cells #[.int .u32 1, .int .u32 2] 30)).alloc (.cells #[.int .u32 1, .int .u32 1, .int .u32 2] 39)) (((((w.alloc (.cells #[.int .u32 1, .int .u32 2] 30)).alloc (.cells #[.int .u32 1, .int .u32 1, .int .u32 2] 39)).alloc (.cells #[.slice (some ⟨w.heap.size, 0, none⟩) 2 2, .slice (some ⟨w.heap.size + 1, 0, none⟩) 1 1] 25)).alloc (.map #[] 0)).alloc (.cells #[.int .u32 2] 30))) := (((Below.refl _ _).alloc (by simp) _).alloc (by simp <;> omega) _).alloc (by simp <;> omega) _
  have HMU5 : Hid (Mu (((((w.alloc (.cells #[.int .u32 1, .int .u32 2] 30)).alloc (.cells #[.int .u32 1, .int .u32 1, .int .u32 2] 39)).alloc (.cells #[.slice (some ⟨w.heap.size, 0, none⟩) 2 2, .slice (some ⟨w.heap.size + 1, 0, none⟩) 1 1] 25)).alloc (.map #[] 0)).alloc (.cells #[.int .u32 2] 30)) (w.heap.size + 1 + 1 + 1) 0 (fun _ => none)) := by
    have h0 : Mu ((((w.alloc (.cells #[.int .u32 1, .int .u32 2] 30)).alloc (.cells #[.int .u32 1, .int .u32 1, .int .u32 2] 39)).alloc (.cells #[.slice (some ⟨w.heap.size, 0, none⟩) 2 2, .slice (some ⟨w.heap.size + 1, 0, none⟩) 1 1] 25)).alloc (.map #[] 0)) (w.heap.size + 1 + 1 + 1) 0 (fun _ => none) := by
      have := Mu.empty (((w.alloc (.cells #[.int .u32 1, .int .u32 2] 30)).alloc (.cells #[.int .u32 1, .int .u32 1, .int .u32 2] 39)).alloc (.cells #[.slice (some ⟨w.heap.size, 0, none⟩) 2 2, .slice (some ⟨w.heap.size + 1, 0, none⟩) 1 1] 25))
      simpa using this
    exact h0.kept (Below.heap_alloc ((((w.alloc (.cells #[.int .u32 1, .int .u32 2] 30)).alloc (.cells #[.int .u32 1, .int .u32 1, .int .u32 2] 39)).alloc (.cells #[.slice (some ⟨w.heap.size, 0, none⟩) 2 2, .slice (some ⟨w.heap.size + 1, 0, none⟩) 1 1] 25)).alloc (.map #[] 0)) _ _ h0.lt)
  have HV5 : Hid (RV (((((w.alloc (.cells #[.int .u32 1, .int .u32 2] 30)).alloc (.cells #[.int .u32 1, .int .u32 1, .int .u32 2] 39)).alloc (.cells #[.slice (some ⟨w.heap.size, 0, none⟩) 2 2, .slice (some ⟨w.heap.size + 1, 0, none⟩) 1 1] 25)).alloc (.map #[] 0)).alloc (.cells #[.int .u32 2] 30)) (.slice (some ⟨w.heap.size + 1 + 1 + 1 + 1, 0, none⟩) 1 1) [2]) := by
    have := RV.one2 ((((w.alloc (.cells #[.int .u32 1, .int .u32 2] 30)).alloc (.cells #[.int .u32 1, .int .u32 1, .int .u32 2] 39)).alloc (.cells #[.slice (some ⟨w.heap.size, 0, none⟩) 2 2, .slice (some ⟨w.heap.size + 1, 0, none⟩) 1 1] 25)).alloc (.map #[] 0))
    show RV _ _ _
    simpa using this
  have HS5 : Hid ((((((w.alloc (.cells #[.int .u32 1, .int .u32 2] 30)).alloc (.cells #[.int .u32 1, .int .u32 1, .int .u32 2] 39)).alloc (.cells #[.slice (some ⟨w.heap.size, 0, none⟩) 2 2, .slice (some ⟨w.heap.size + 1, 0, none⟩) 1 1] 25)).alloc (.map #[] 0)).alloc (.cells #[.int .u32 2] 30)).heap.size = w.heap.size + 1 + 1 + 1 + 1 + 1) := by show _ = _; simp
  have HG3 : Hid (Blk (((((w.alloc (.cells #[.int .u32 1, .int .u32 2] 30)).alloc (.cells #[.int .u32 1, .int .u32 1, .int .u32 2] 39)).alloc (.cells #[.slice (some ⟨w.heap.size, 0, none⟩) 2 2, .slice (some ⟨w.heap.size + 1, 0, none⟩) 1 1] 25)).alloc (.map #[] 0)).alloc (.cells #[.int .u32 2] 30)) (w.heap.size + 1 + 1) 25 #[.slice (some ⟨w.heap.size, 0, none⟩) 2 2, .slice (some ⟨w.heap.size + 1, 0, none⟩) 1 1]) := by
    have h0 : Blk (((w.alloc (.cells #[.int .u32 1, .int .u32 2] 30)).alloc (.cells #[.int .u32 1, .int .u32 1, .int .u32 2] 39)).alloc (.cells #[.slice (some ⟨w.heap.size, 0, none⟩) 2 2, .slice (some ⟨w.heap.size + 1, 0, none⟩) 1 1] 25)) (w.heap.size + 1 + 1) 25 #[.slice (some ⟨w.heap.size, 0, none⟩) 2 2, .slice (some ⟨w.heap.size + 1, 0, none⟩) 1 1] := by
      have := Blk.fresh ((w.alloc (.cells #[.int .u32 1, .int .u32 2] 30)).alloc (.cells #[.int .u32 1, .int .u32 1, .int .u32 2] 39)) 25 #[.slice (some ⟨w.heap.size, 0, none⟩) 2 2, .slice (some ⟨w.heap.size + 1, 0, none⟩) 1 1]
      simpa using this
    exact (h0.more _).more _
  have HLE5 : Hid (w.heap.size + 1 + 1 ≤ (((((w.alloc (.cells #[.int .u32 1, .int .u32 2] 30)).alloc (.cells #[.int .u32 1, .int .u32 1, .int .u32 2] 39)).alloc (.cells #[.slice (some ⟨w.heap.size, 0, none⟩) 2 2, .slice (some ⟨w.heap.size + 1, 0, none⟩) 1 1] 25)).alloc (.map #[] 0)).alloc (.cells #[.int .u32 2] 30)).heap.size) := by have := HS5.out; show _ ≤ _; omega
  have HB5 : Hid (Below w.heap.size w (((((w.alloc (.cells #[.int .u32 1, .int .u32 2] 30)).alloc (.cells #[.int .u32 1, .int .u32 1, .int .u32 2] 39)).alloc (.cells #[.slice (some ⟨w.heap.size, 0, none⟩) 2 2, .slice (some ⟨w.heap.size + 1, 0, none⟩) 1 1] 25)).alloc (.map #[] 0)).alloc (.cells #[.int .u32 2] 30))) := HB0.out.trans (Below.mono HBG5.out (by omega))
  go_enter Try.func4, Try.ntmps4
  go_wp2_with (first
    | (refine wpList_insM rfl (.tmp 8) (.const (.int .u32 2)) (.tmp 10) 29 22 rfl rfl (w.heap.size + 1 + 1 + 1) 1 _ 2 _ _ rfl rfl V2t rfl HMU7.out (by decide) ?_; intro w8 hm8 hx8 hs8; have HMU8 := Lib.hid hm8; have HX8 := Lib.hid ((HX6.out.trans (Ex.alloc _ w6 (.cells #[.int .u32 3] 30))).trans hx8); have HV8 := Lib.hid (RV.exm HMU7.out hx8 HV7.out); have HV82 := Lib.hid (RV.exm HMU7.out hx8 HV72.out); have HB8 := Lib.hid (Ex.below HBG5.out HX8.out (Nat.le_succ _) HLE5.out); have HBGs := HB8; have HBw8 := Lib.hid (HB0.out.trans (Below.mono HB8.out (Nat.le_trans (Nat.le_succ _) (Nat.le_succ _)))); rw [← HSG.out] at HBGs; clear hm8 hx8 hs8)
    | (refine wpList_insM rfl (.tmp 8) (.const (.int .u32 1)) (.tmp 9) 29 22 rfl rfl (w.heap.size + 1 + 1 + 1) 0 _ 1 _ _ rfl rfl V1t rfl HMU5.out (by decide) ?_; intro w6 hm6 hx6 hs6; have HMU6 := Lib.hid hm6; have HX6 := Lib.hid hx6; have HS6 : Hid (w6.heap.size = w.heap.size + 1 + 1 + 1 + 1 + 1) := hs6.trans HS5.out; have HMU7 := Lib.hid (hm6.kept (Below.heap_alloc w6 (.cells #[.int .u32 3] 30) _ hm6.lt)); have HV7 := Lib.hid ((RV.exm HMU5.out hx6 HV5.out).kept ((Below.refl _ w6).alloc (Nat.le_refl _) (.cells #[.int .u32 3] 30))); have HV72 := Lib.hid (RV.one3 w6); clear hm6 hx6 hs6)
    | (go_at_call 6; refine (of10_walk w8 _ gex (w.heap.size + 1 + 1 + 1) 2 _ Lex (HG0.out.kept HBGs.out) HMU8.out (lex_rv HV8.out HV82.out)).mono ?_; rintro e w9 ⟨u, rfl, hu, hb9⟩; rw [rots_ex] at hu; have HB9 := Lib.hid (HBw8.out.trans (Below.mono hb9 HBw8.out.size)); have HRM := Lib.hid (hu.rm rots_le); obtain ⟨A, c, B, d, C, e, hu2, _, _⟩ := hu; have hu3 : u = .agg #[.slice A 2 c, .slice B 1 d, .slice C 2 e] := hu2; clear hu2; subst hu3; have HX9 : Hid (Below w9.heap.size w9 (w9.alloc (.cells #[.slice A 2 c, .slice B 1 d, .slice C 2 e] 32))) := (Below.refl _ w9).alloc (Nat.le_refl _) _; have HK9 : Hid (Blk (w9.alloc (.cells #[.slice A 2 c, .slice B 1 d, .slice C 2 e] 32)) w9.heap.size 32 #[.slice A 2 c, .slice B 1 d, .slice C 2 e]) := Blk.fresh _ _ _; have HRM9 := Lib.hid (HRM.out.kept HX9.out); have HB10 := Lib.hid (HB9.out.trans (Below.mono HX9.out HB9.out.size)); clear hb9)
    | (go_at_call 13; refine (awake9A_walk _).mono ?_; rintro e w14 ⟨rfl, hb14⟩; have HB14 := Lib.hid (HB13.out.trans (Below.mono hb14 HB13.out.size)); clear hb14)
    | (go_at_call 12; refine (genus_walk _ _ gex [[2], [3]] 0 HRM12.out ok_ex gex_num).mono ?_; rintro e w13 ⟨rfl, hb13⟩; have HB13 := Lib.hid (HB12.out.trans (Below.mono hb13 HB12.out.size)); clear hb13)
    | (go_at_call 11; refine (faces_walk _ _ gex [[2], [3]] HRM11.out ok_ex).mono ?_; rintro e w12 ⟨u12, rfl, hu12, hb12⟩; obtain ⟨A12, c12, hv12⟩ := hu12.slice; rw [allf_ex] at hv12; subst hv12; have HRM12 := Lib.hid (HRM11.out.kept hb12); have HB12 := Lib.hid (HB11.out.trans (Below.mono hb12 HB11.out.size)); have HK12 := Lib.hid (HK11.out.kept hb12 HK11.out.lt); have k120 := HK12.out.cell 0; have k121 := HK12.out.cell 1; have k122 := HK12.out.cell 2; clear hu12 hb12)
    | (go_at_call 10; refine (right_good _ _ gex [[2], [3]] id 0 HRM9.out (by decide) srt_ex pck_ex ok_ex gex_num).mono ?_; rintro e w11 ⟨rfl, hb11⟩; have HRM11 := Lib.hid (HRM9.out.kept hb11); have HB11 := Lib.hid (HB10.out.trans (Below.mono hb11 HB10.out.size)); have HK11 := Lib.hid (HK9.out.kept hb11 HK9.out.lt); have k110 := HK11.out.cell 0; have k111 := HK11.out.cell 1; have k112 := HK11.out.cell 2; clear hb11))
  go_ret
  exact ⟨rfl, HB14.out⟩
end Go.Proofs.Ytcinbmekjlmdpaa

/-! The document's Same of graphs, of one graph that lies twice. -/
namespace Go.Proofs.Ytcinbmekjlmdpaa
open Go.RowKit

attribute [local irreducible] V
attribute [local irreducible] wpList in
set_option maxRecDepth 100000 in
set_option maxHeartbeats 2000000 in
theorem same9_walk (w : World) (v u : Value) (g : Gr) (h : RG w v g) (h2 : RG w u g) :
    Calls Try.prog 7 #[v, u] w fun e w' => e = .returned (.bool true) ∧ Below w.heap.size w w' := by
  obtain ⟨A, c, B, d, rfl, _, _, hr, hre⟩ := h
  obtain ⟨A', c', B', d', rfl, _, _, hr', hre'⟩ := h2
  have hnv := hr.len
  have hne := hre.len
  have hgd := run_guard
  have HB : Hid (Below w.heap.size w ((w.alloc (.cells #[.slice A g.vs.length c, .slice B g.es.length d] 25)).alloc (.cells #[.slice A' g.vs.length c', .slice B' g.es.length d'] 25))) := ((Below.refl _ w).alloc (Nat.le_refl _) _).alloc (by simp) _
  have HB1 : Hid (Blk ((w.alloc (.cells #[.slice A g.vs.length c, .slice B g.es.length d] 25)).alloc (.cells #[.slice A' g.vs.length c', .slice B' g.es.length d'] 25)) w.heap.size 25 #[.slice A g.vs.length c, .slice B g.es.length d]) := (Blk.fresh _ _ _).more _
  have HB2 : Hid (Blk ((w.alloc (.cells #[.slice A g.vs.length c, .slice B g.es.length d] 25)).alloc (.cells #[.slice A' g.vs.length c', .slice B' g.es.length d'] 25)) (w.heap.size + 1) 25 #[.slice A' g.vs.length c', .slice B' g.es.length d']) := by
    have := Blk.fresh (w.alloc (.cells #[.slice A g.vs.length c, .slice B g.es.length d] 25)) 25 #[.slice A' g.vs.length c', .slice B' g.es.length d']
    show Blk _ _ _ _
    simpa using this
  have HR := Lib.hid (hr.kept HB.out (Nat.le_refl _))
  have HRE := Lib.hid (hre.kept HB.out (Nat.le_refl _))
  have HR' := Lib.hid (hr'.kept HB.out (Nat.le_refl _))
  have HRE' := Lib.hid (hre'.kept HB.out (Nat.le_refl _))
  clear hr hre hr' hre'
  go_enter Try.func7, Try.ntmps7
  go_wp2
  generalize (w.alloc (.cells #[.slice A g.vs.length c, .slice B g.es.length d] 25)).alloc (.cells #[.slice A' g.vs.length c', .slice B' g.es.length d'] 25) = w1 at *
  have k0 : w1.cell? ⟨w.heap.size, 0, none⟩ = some (.slice A g.vs.length c) := HB1.out.cell 0
  have k1 : w1.cell? ⟨w.heap.size, 1, none⟩ = some (.slice B g.es.length d) := HB1.out.cell 1
  have j0 : w1.cell? ⟨w.heap.size + 1, 0, none⟩ = some (.slice A' g.vs.length c') := HB2.out.cell 0
  have j1 : w1.cell? ⟨w.heap.size + 1, 1, none⟩ = some (.slice B' g.es.length d') := HB2.out.cell 1
  go_loopw [26] (fun i wr => ∃ k n : Nat, k ≤ g.vs.length ∧ i = .int .i64 k ∧ wr = w1.drewN n) (fun i _ => g.vs.length - (intOf i).toNat)
  case atStart => exact ⟨0, 0, Nat.zero_le _, rfl, rfl⟩
  case round =>
    obtain ⟨k, n, hk, rfl, rfl⟩ := hrel
    by_cases hlt : k < g.vs.length
    · obtain ⟨b, o, rfl, hc⟩ := HR.out.spot (by omega)
      obtain ⟨b', o', rfl, hc'⟩ := HR'.out.spot (by omega)
      have ca := hc k hlt
      have cb := hc' k hlt
      clear hc hc'
      have hn := run_neq 30 g.vs[k] g.vs[k]
      have hnn : (g.vs[k] != g.vs[k]) = false := by simp
      rw [hnn] at hn
      clear hnn
      generalize g.vs[k] = x at *
      go_wp2
      go_quiet (fail)
      go_wp2
      go_roundw
      case rel => exact ⟨k + 1, _, by omega, by go_num, rfl⟩
      case measure => simp [intOf]; omega
    · obtain rfl : k = g.vs.length := by omega
      go_wp2
      go_loopw [44] (fun i wr => ∃ k m : Nat, k ≤ g.es.length ∧ i = .int .i64 k ∧ wr = w1.drewN m) (fun i _ => g.es.length - (intOf i).toNat)
      case atStart => exact ⟨0, _, Nat.zero_le _, rfl, rfl⟩
      case round =>
        obtain ⟨k, m, hk, rfl, rfl⟩ := hrel
        by_cases hlt2 : k < g.es.length
        · obtain ⟨b, o, rfl, hc⟩ := HRE.out.spot (by omega)
          obtain ⟨b', o', rfl, hc'⟩ := HRE'.out.spot (by omega)
          obtain ⟨ca1, ca2, ca3⟩ := hc k hlt2
          obtain ⟨cb1, cb2, cb3⟩ := hc' k hlt2
          clear hc hc'
          have hn := neq_eg (g.es.getD k e0)
          generalize g.es.getD k e0 = x at *
          have hgn := fun o1 o2 w => guard_eg o1 o2 x x w
          go_wp2
          go_quiet (fail)
          go_wp2
          go_roundw
          case rel => exact ⟨k + 1, _, by omega, by go_num, rfl⟩
          case measure => simp [intOf]; omega
        · obtain rfl : k = g.es.length := by omega
          go_wp2
          go_ret
          exact ⟨rfl, HB.out.trans ⟨rfl, rfl, rfl, Nat.le_refl _, fun _ _ => rfl⟩⟩
end Go.Proofs.Ytcinbmekjlmdpaa

/-! What a graph that is handed in holds. -/
namespace Go.Proofs.Ytcinbmekjlmdpaa
open Go.ChangeShapes Go.WideShapes Go.ChangeAt Go.RowKit Go.Deep Go.Joins

theorem own : ownKnob Try.prog.godebug = none := by kernel_rfl
theorem laidOut : laidOutB Try.prog = true := by kernel_rfl
theorem bounds_u32 {n : Int} (h : (Lit.int .u32 n).wf = true) : 0 ≤ n ∧ n ≤ 4294967295 := by
  simp [Lit.wf, IntKind.min, IntKind.max, IntKind.signed, IntKind.bits] at h
  omega
theorem to_u32 {n : Int} (h : 0 ≤ n ∧ n ≤ 4294967295) : ∃ b : UInt32, Value.int .u32 n = V b ∧ n = (b.toNat : Int) := ⟨UInt32.ofNat n.toNat, by
  have : (UInt32.ofNat n.toNat).toNat = n.toNat := by show n.toNat % 4294967296 = _; omega
  rw [V_def, this]
  constructor
  · congr 1; omega
  · omega⟩
theorem cells31 : Try.prog.cellsOf 30 = 1 := by kernel_rfl
theorem cells39 : Try.prog.cellsOf 39 = 3 := by kernel_rfl
section
variable {H : Type} {enc : TypeId × Value → H} {W : World} {base : Nat} {sp : Nat → Bool} {hd : Bool}
theorem open_row1 {fuel : Nat} {v : Value} {x : DataW H × List MemPlace} (h : DataW.trod enc Try.prog W base sp hd fuel 22 [v] = some x) :
    ∃ A n c, v = .slice A n c ∧ (n ≤ 1000000 → ∃ l : List UInt32, n = l.length ∧ n ≤ c ∧ Rd W A l) := by
  rcases Go.Deep.open_slice1 Try.underlying22 cells31 h with ⟨hcs, _⟩ | ⟨a, len, cap, m, k, Vf, D, Pl, hcs, _, hl, hx, hm, _, hel⟩
  · simp at hcs
    exact ⟨none, 0, 0, hcs, fun _ => ⟨[], rfl, Nat.le_refl _, Rd.nil _ _⟩⟩
  · simp at hcs
    refine ⟨some a, len, cap, hcs, fun hn => ?_⟩
    have hle : len ≤ m := by rw [hm]; split <;> omega
    have hone : ∀ i, i < len → ∃ x : UInt32, W.cell? (a.add i) = some (V x) := by
      intro i hi
      obtain ⟨h1, h2⟩ := hel i (by omega)
      obtain ⟨n0, e0, _, w0⟩ := DataW.trod_int Try.underlying30 h2
      have e1 : Vf i = .int .u32 n0 := by simpa using e0
      obtain ⟨x, hx, _⟩ := to_u32 (bounds_u32 w0)
      exact ⟨x, by rw [h1, e1, hx]⟩
    have hall : ∀ k, k ≤ len → ∃ l : List UInt32, l.length = k ∧ ∀ i (h : i < l.length), W.cell? (a.add i) = some (V l[i]) := by
      intro k
      induction k with
      | zero => exact fun _ => ⟨[], rfl, fun i h => by simp at h⟩
      | succ k ih =>
        intro hk
        obtain ⟨l, hl2, hi⟩ := ih (by omega)
        obtain ⟨x, hx⟩ := hone k (by omega)
        refine ⟨l ++ [x], by simp [hl2], fun i h => ?_⟩
        by_cases e : i < l.length
        · rw [List.getElem_append_left e]; exact hi i e
        · have hik : i = l.length := by simp at h; omega
          subst hik
          simp only [List.getElem_append_right (Nat.le_refl _), Nat.sub_self, List.getElem_cons_zero]
          rw [hl2]
          exact hx
    obtain ⟨l, hl2, hc⟩ := hall len (Nat.le_refl _)
    refine ⟨l, hl2.symm, hl, by omega, fun h0 => ?_⟩
    have h00 := hc 0 h0
    obtain ⟨b, off, spot⟩ := a
    have hspot : spot = none := by simpa [Addr.add] using World.cell?_spot h00
    subst hspot
    refine ⟨b, off, rfl, ?_, fun i hi => ?_⟩
    · have := World.block_lt_of_cell? W _ h00
      rw [addr_add] at this
      exact this
    · have h1 := hc i hi
      rw [addr_add] at h1
      exact h1
theorem open_w {fuel : Nat} {c0 : Value} {y : Option (DataW H × List MemPlace)} {t : TypeId} (ht : t = 30) (h : DataW.trod enc Try.prog W base sp hd fuel t [c0] = y) (hy : y.isSome = true) : ∃ b : UInt32, c0 = V b := by
  subst ht
  obtain ⟨x, rfl⟩ := Option.isSome_iff_exists.1 hy
  obtain ⟨n0, e0, _, w0⟩ := DataW.trod_int Try.underlying30 h
  obtain ⟨b, hb, _⟩ := to_u32 (bounds_u32 w0)
  exact ⟨b, by rw [← hb]; simpa using e0⟩
set_option maxRecDepth 100000 in
theorem open_eg {fuel : Nat} {cs : List Value} {x : DataW H × List MemPlace} (h : DataW.trod enc Try.prog W base sp hd fuel 39 cs = some x) (hl : cs.length = 3) : ∃ e : Eg, cs = [V e.id, V e.a, V e.b] := by
  obtain ⟨ys, n, _, _, _, hyl, hf⟩ := DataW.trod_struct Try.underlying39 h
  match cs, hl with
  | [c0, c1, c2], _ =>
    have k0 : DataW.trod enc Try.prog W base sp hd n 30 (List.take (Try.prog.cellsOf 30) (List.drop 0 [c0, c1, c2])) = ys[0]? := hf 0 _ rfl
    have k1 : DataW.trod enc Try.prog W base sp hd n 30 (List.take (Try.prog.cellsOf 30) (List.drop 1 [c0, c1, c2])) = ys[1]? := hf 1 _ rfl
    have k2 : DataW.trod enc Try.prog W base sp hd n 30 (List.take (Try.prog.cellsOf 30) (List.drop 2 [c0, c1, c2])) = ys[2]? := hf 2 _ rfl
    rw [cells31] at k0 k1 k2
    have hs : ys.length = 3 := hyl
    obtain ⟨b0, rfl⟩ := open_w rfl k0 (by rw [List.getElem?_eq_getElem (by omega)]; rfl)
    obtain ⟨b1, rfl⟩ := open_w rfl k1 (by rw [List.getElem?_eq_getElem (by omega)]; rfl)
    obtain ⟨b2, rfl⟩ := open_w rfl k2 (by rw [List.getElem?_eq_getElem (by omega)]; rfl)
    exact ⟨⟨b0, b1, b2⟩, rfl⟩
theorem open_rowe {fuel : Nat} {v : Value} {x : DataW H × List MemPlace} (h : DataW.trod enc Try.prog W base sp hd fuel 23 [v] = some x) :
    ∃ A n c, v = .slice A n c ∧ (n ≤ 1000000 → ∃ l : List Eg, n = l.length ∧ n ≤ c ∧ RdE W A l) := by
  rcases Go.Deep.open_slice Try.underlying23 h with ⟨hcs, _⟩ | ⟨a, len, cap, m, k, D, Pl, hcs, _, hl, _, hm, _, hel⟩
  · simp at hcs
    exact ⟨none, 0, 0, hcs, fun _ => ⟨[], rfl, Nat.le_refl _, RdE.nil _ _⟩⟩
  · simp at hcs
    refine ⟨some a, len, cap, hcs, fun hn => ?_⟩
    have hle : len ≤ m := by rw [hm]; split <;> omega
    rw [cells39] at hel
    have hone : ∀ i, i < len → ∃ e : Eg, ∀ j, j < 3 → W.cell? ((a.add (i * 3)).add j) = [V e.id, V e.a, V e.b][j]? := by
      intro i hi
      obtain ⟨cs', h1, h2⟩ := hel i (by omega)
      obtain ⟨_, h3, h4⟩ := World.cells?_some h1
      obtain ⟨e, rfl⟩ := open_eg h2 h3
      exact ⟨e, h4⟩
    have hall : ∀ k, k ≤ len → ∃ l : List Eg, l.length = k ∧ ∀ i, i < l.length → ∀ j, j < 3 → W.cell? ((a.add (i * 3)).add j) = [V (l.getD i e0).id, V (l.getD i e0).a, V (l.getD i e0).b][j]? := by
      intro k
      induction k with
      | zero => exact fun _ => ⟨[], rfl, fun i h => by simp at h⟩
      | succ k ih =>
        intro hk
        obtain ⟨l, hl2, hi⟩ := ih (by omega)
        obtain ⟨x, hx⟩ := hone k (by omega)
        refine ⟨l ++ [x], by simp [hl2], fun i h => ?_⟩
        rw [getD_app]
        by_cases e : i = l.length
        · rw [if_pos e, e, hl2]; exact hx
        · rw [if_neg e]
          exact hi i (by simp at h; omega)
    obtain ⟨l, hl2, hc⟩ := hall len (Nat.le_refl _)
    refine ⟨l, hl2.symm, hl, by omega, fun h0 => ?_⟩
    have h00 := hc 0 h0 0 (by decide)
    obtain ⟨b, off, spot⟩ := a
    have hspot : spot = none := by simpa [Addr.add] using World.cell?_spot h00
    subst hspot
    refine ⟨b, off, rfl, ?_, fun i hi => ?_⟩
    · have := World.block_lt_of_cell? W _ h00
      rw [addr_add, addr_add] at this
      exact this
    · have h1 := hc i hi 0 (by decide)
      have h2 := hc i hi 1 (by decide)
      have h3 := hc i hi 2 (by decide)
      rw [addr_add, addr_add] at h1 h2 h3
      exact ⟨h1, h2, h3⟩
set_option maxRecDepth 100000 in
theorem open_graph {r : Reach} {b0 : Nat} {v : Value} {d : DataW H} {p : List MemPlace} (hv : Value.okWide Try.prog W r b0 25 v) (h : DataW.Trod enc Try.prog W base sp hd 25 v d p) :
    ∃ A n c B m e, v = .agg #[.slice A n c, .slice B m e] ∧ (n ≤ 1000000 → m ≤ 1000000 → ∃ g : Gr, n = g.vs.length ∧ m = g.es.length ∧ RG W v g) := by
  obtain ⟨v0, v1, y0, y1, n, rfl, _, _, h0, h1⟩ := open_agg2 Try.underlying25 (by kernel_rfl) (by kernel_rfl) hv h
  obtain ⟨A, n, c, rfl, hr⟩ := open_row1 h0
  obtain ⟨B, m, e, rfl, hre⟩ := open_rowe h1
  refine ⟨A, n, c, B, m, e, rfl, fun hn hm => ?_⟩
  obtain ⟨l, rfl, hc, hr⟩ := hr hn
  obtain ⟨le, rfl, hce, hre⟩ := hre hm
  exact ⟨⟨l, le⟩, rfl, rfl, A, c, B, e, rfl, hc, hce, hr, hre⟩
end
end Go.Proofs.Ytcinbmekjlmdpaa

/-! Rows of rows that are handed in: each may be of any length. -/
namespace Go.Proofs.Ytcinbmekjlmdpaa
open Go.ChangeShapes Go.WideShapes Go.ChangeAt Go.RowKit Go.Deep Go.Joins

/-- A row of so many; it reads so where it is not too long. -/
def RX (w : World) (v : Value) (l : List UInt32) : Prop := ∃ A c, v = .slice A l.length c ∧ (l.length ≤ 1000000 → RV w v l)
theorem RX.kept {w w' : World} {v : Value} {l : List UInt32} (h : RX w v l) (hb : Below w.heap.size w w') : RX w' v l := by
  obtain ⟨A, c, h1, h2⟩ := h
  exact ⟨A, c, h1, fun hl => (h2 hl).kept hb⟩
def RRx (w : World) (v : Value) (ls : List (List UInt32)) : Prop := ∃ A c, v = .slice A ls.length c ∧ ls.length ≤ c ∧ (0 < ls.length → ∃ b o, A = some ⟨b, o, none⟩ ∧ b < w.heap.size ∧ ∀ i, i < ls.length → ∃ u, w.cell? ⟨b, o + i, none⟩ = some u ∧ RX w u (ls.getD i []))
theorem RRx.kept {w w' : World} {v : Value} {ls : List (List UInt32)} (h : RRx w v ls) (hb : Below w.heap.size w w') : RRx w' v ls := by
  obtain ⟨A, c, h1, h2, h3⟩ := h
  refine ⟨A, c, h1, h2, fun h0 => ?_⟩
  obtain ⟨b, o, h4, h5, h6⟩ := h3 h0
  refine ⟨b, o, h4, Nat.lt_of_lt_of_le h5 hb.size, fun i hi => ?_⟩
  obtain ⟨u, h7, h8⟩ := h6 i hi
  exact ⟨u, (hb.cell h5).trans h7, h8.kept hb⟩
theorem RRx.rr {w : World} {v : Value} {ls : List (List UInt32)} (h : RRx w v ls) (hl : ∀ i, i < ls.length → (ls.getD i []).length ≤ 1000000) : RRv w v ls := by
  obtain ⟨A, c, h1, h2, h3⟩ := h
  refine ⟨A, c, h1, h2, fun h0 => ?_⟩
  obtain ⟨b, o, h4, h5, h6⟩ := h3 h0
  refine ⟨b, o, h4, h5, fun i hi => ?_⟩
  obtain ⟨u, h7, _, _, _, h9⟩ := h6 i hi
  exact ⟨u, h7, h9 (hl i hi)⟩
section
variable {H : Type} {enc : TypeId × Value → H} {W : World} {base : Nat} {sp : Nat → Bool} {hd : Bool}
theorem cells22 : Try.prog.cellsOf 22 = 1 := by kernel_rfl
theorem open_rowx {fuel : Nat} {v : Value} {x : DataW H × List MemPlace} (h : DataW.trod enc Try.prog W base sp hd fuel 22 [v] = some x) : ∃ l, RX W v l := by
  obtain ⟨A, n, c, rfl, hr⟩ := open_row1 h
  by_cases hn : n ≤ 1000000
  · obtain ⟨l, rfl, hc, hr⟩ := hr hn
    exact ⟨l, A, c, rfl, fun _ => ⟨A, c, rfl, hc, hr⟩⟩
  · exact ⟨List.replicate n 0, A, c, by rw [List.length_replicate], fun hl => absurd (by simpa using hl) hn⟩
theorem open_rows {fuel : Nat} {v : Value} {x : DataW H × List MemPlace} (h : DataW.trod enc Try.prog W base sp hd fuel 26 [v] = some x) :
    ∃ A n c, v = .slice A n c ∧ ∃ ls : List (List UInt32), n = ls.length ∧ RRx W v ls := by
  rcases Go.Deep.open_slice1 Try.underlying26 cells22 h with ⟨hcs, _⟩ | ⟨a, len, cap, m, k, Vf, D, Pl, hcs, _, hl, hx, hm, _, hel⟩
  · simp at hcs
    exact ⟨none, 0, 0, hcs, [], rfl, none, 0, hcs, Nat.le_refl _, fun h => absurd h (by simp)⟩
  · simp at hcs
    have hle : len ≤ m := by rw [hm]; split <;> omega
    have hone : ∀ i, i < len → W.cell? (a.add i) = some (Vf i) ∧ ∃ l, RX W (Vf i) l := by
      intro i hi
      obtain ⟨h1, h2⟩ := hel i (by omega)
      exact ⟨h1, open_rowx h2⟩
    have hall : ∀ k, k ≤ len → ∃ ls : List (List UInt32), ls.length = k ∧ ∀ i, i < ls.length → RX W (Vf i) (ls.getD i []) := by
      intro k
      induction k with
      | zero => exact fun _ => ⟨[], rfl, fun i h => by simp at h⟩
      | succ k ih =>
        intro hk
        obtain ⟨ls, hl2, hi⟩ := ih (by omega)
        obtain ⟨_, x, hx⟩ := hone k (by omega)
        refine ⟨ls ++ [x], by simp [hl2], fun i h => ?_⟩
        by_cases e : i < ls.length
        · have : (ls ++ [x]).getD i [] = ls.getD i [] := by
            rw [List.getD_eq_getElem?_getD, List.getElem?_append_left e, ← List.getD_eq_getElem?_getD]
          rw [this]; exact hi i e
        · have hik : i = ls.length := by simp at h; omega
          have : (ls ++ [x]).getD i [] = x := by
            rw [List.getD_eq_getElem?_getD, hik, List.getElem?_append_right (Nat.le_refl _), Nat.sub_self]; rfl
          rw [this, hik, hl2]; exact hx
    obtain ⟨ls, hl2, hr⟩ := hall len (Nat.le_refl _)
    refine ⟨some a, len, cap, hcs, ls, hl2.symm, some a, cap, by rw [hcs, hl2], by omega, fun h0 => ?_⟩
    have h00 := (hone 0 (by omega)).1
    obtain ⟨b, off, spot⟩ := a
    have hspot : spot = none := by simpa [Addr.add] using World.cell?_spot h00
    subst hspot
    refine ⟨b, off, rfl, ?_, fun i hi => ?_⟩
    · have := World.block_lt_of_cell? W _ h00
      rw [addr_add] at this
      exact this
    · have h1 := (hone i (by omega)).1
      rw [addr_add] at h1
      exact ⟨Vf i, h1, hr i hi⟩
end
end Go.Proofs.Ytcinbmekjlmdpaa
