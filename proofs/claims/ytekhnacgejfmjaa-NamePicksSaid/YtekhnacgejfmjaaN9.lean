/- What a text is of: name.Parse. -/
import Derived.Test.YtekhnacgejfmjaaN7
namespace Go.Proofs.Ytekhnacgejfmjaa
open Go.RowKit

theorem results_tct {fn : Func} {q p u : Tmp} {ty : TypeId} (h : fn.results = #[.tmp q, .cell p ty, .tmp u]) (tmps : Array Value) (P : Program) (w : World) :
    (results fn tmps).run P w =
      ((asAddr (tmps.getD p undef)).run P w).andThen fun a w₁ => ((loadVar ty a).run P w₁).andThen fun v w₂ => .ok (.tuple #[tmps.getD q undef, v, tmps.getD u undef]) w₂ := by
  simp only [results, h]
  simp [Sem.run_bind, Result.andThen]
theorem results_three {P : Program} {fn : Func} {q p u : Tmp} {ty : TypeId} (h : fn.results = #[.tmp q, .cell p ty, .tmp u]) (tmps : Array Value) (w : World) (g : Nat) (t : TypeId) (cs : Array Value) (d : TypeDesc)
    (hp : tmps.getD p undef = .pointer (some ⟨g, 0, none⟩)) (hg : Blk w g t cs)
    (hu : P.underlying ty = some d) (hd : (match d with | .struct _ | .array _ _ => true | _ => false) = true) (hi : (P.info? ty).map (·.size) = some cs.size) :
    (results fn tmps).run P w = .ok (.tuple #[tmps.getD q undef, .agg cs, tmps.getD u undef]) w := by
  rw [results_tct h, hp]
  simp only [asAddr, Sem.run_pure, Result.andThen_ok]
  rw [run_loadVar_row w g t ty cs (0, 0) d hg hu hd hi]
  rfl
theorem wpList_wanted {P : Program} {ops : Array Oper} {rest : List Oper} {o : Oper} {a : Act} {w : World} {Q : Exit → Act → World → Prop} (hw : Region.wanted o (yielded ops a.tmps) = true)
    (h : o.wp P a w (wpList P ops Q rest) Q) : wpList P ops Q (o :: rest) a w := by
  unfold wpList
  rw [if_pos hw]
  exact .inl h
theorem wpList_eqStr {ops : Array Oper} {rest : List Oper} {o : Oper} {a : Act} {w : World} {Q : Exit → Act → World → Prop} (hgd : o.guard = none ∨ Region.wanted o (yielded ops a.tmps) = true) (x y : Operand) (t2 : TypeId) (ho : o.op = .binOp .eql 9 x y t2) (p q : ByteArray) (b : Bool)
    (hx : a.eval x = .string p) (hy : a.eval y = .string q) (hb : (p.toList == q.toList) = b) (h : wpList Try.prog ops Q rest (a.put o.dst (.bool b)) w) : wpList Try.prog ops Q (o :: rest) a w := by
  have hbr : (binOp .eql 9 (.string p) (.string q)).run Try.prog w = .ok (.bool b) w := by
    show Result.ok (Value.bool (p.toList == q.toList)) w = _
    rw [hb]
  have hg : (eqGuard .eql 9 x y (.string p) (.string q)).run Try.prog w = .ok () w := rfl
  have hop : ∀ K : Act → World → Prop, K (a.put o.dst (.bool b)) w → o.wp Try.prog a w K Q := fun K hK => by
    unfold Oper.wp execOp
    simp only [ho, hx, hy, Sem.run_bind, hg, hbr, Result.andThen_ok, Sem.run_pure]
    exact hK
  rcases hgd with hgd | hgd
  · exact wpList_plain hgd fun K hK => hop K (hK _ _ h)
  · exact wpList_wanted hgd (hop _ h)
theorem ext0 (s : ByteArray) (i : Nat) : (s.extract 0 i).toList = s.data.toList.take i := by
  rw [ByteArray.toList_eq, ByteArray.data_extract, Array.toList_extract]; simp [List.extract]
theorem ext2 (s : ByteArray) (i : Nat) : (s.extract i s.size).data.toList = s.data.toList.drop i := by
  rw [ByteArray.data_extract, Array.toList_extract]
  simp only [List.extract]
  rw [List.take_of_length_le]
  rw [List.length_drop]
  show s.data.toList.length - i ≤ s.data.size - i
  simp
/-- Whether it begins so. -/
def hasP (m : UInt8) (s : ByteArray) : Bool := s.data.toList.take 2 == [m, 46]
set_option maxHeartbeats 1000000 in
theorem prefix_walk (s : ByteArray) (m : UInt8) (w : World) (hs : s.size ≤ maxLen) :
    Calls Try.prog 58 #[.string s, .string ⟨#[m, 46]⟩] w fun e w' => e = .returned (.bool (hasP m s)) ∧ w = w' := by
  unfold maxLen at hs
  by_cases h2 : 2 ≤ s.size
  · have h2' : (2 : Int) ≤ (s.size : Int) := by omega
    have he : ((s.extract 0 2).toList == (⟨#[m, 46]⟩ : ByteArray).toList) = hasP m s := by
      rw [ext0, ByteArray.toList_eq]; rfl
    have HE := Lib.hid he
    clear he
    go_enter Try.func58, Try.ntmps58
    go_wp2_with (refine wpList_eqStr (.inr (by rfl)) (.tmp 14) (.tmp 15) 9 rfl _ _ _ rfl rfl HE.out ?_)
    go_ret
    exact ⟨by simp, rfl⟩
  · have h2' : ¬ (2 : Int) ≤ (s.size : Int) := by omega
    have he : hasP m s = false := by
      unfold hasP
      rw [Bool.eq_false_iff]
      intro h
      rw [beq_iff_eq] at h
      have hl := congrArg List.length h
      rw [List.length_take] at hl
      have : s.data.toList.length = s.size := by simp
      simp at hl
      omega
    rw [he]
    clear he
    go_enter Try.func58, Try.ntmps58
    go_wp2
    go_ret
    exact ⟨by simp, rfl⟩
def cutP (m : UInt8) (s : ByteArray) : ByteArray := if hasP m s then s.extract 2 s.size else s
theorem cut_walk (s : ByteArray) (m : UInt8) (w : World) (hs : s.size ≤ maxLen) :
    Calls Try.prog 54 #[.string s, .string ⟨#[m, 46]⟩] w fun e w' => e = .returned (.tuple #[.string (cutP m s), .bool (hasP m s)]) ∧ w = w' := by
  have HW := Lib.hid (prefix_walk s m w hs)
  unfold maxLen at hs
  cases hp : hasP m s with
  | true =>
    have hc : cutP m s = s.extract 2 s.size := by unfold cutP; rw [hp]; rfl
    have h2 : (2 : Int) ≤ (s.size : Int) := by
      unfold hasP at hp
      rw [beq_iff_eq] at hp
      have hl := congrArg List.length hp
      rw [List.length_take] at hl
      have : s.data.toList.length = s.size := by simp
      simp at hl
      omega
    rw [hc]
    rw [hp] at HW
    clear hp hc
    go_enter Try.func54, Try.ntmps54
    go_wp2_with (go_at_call 58; refine HW.out.mono ?_; rintro e w' ⟨rfl, rfl⟩)
    go_ret2
    exact ⟨rfl, rfl⟩
  | false =>
    have hc : cutP m s = s := by unfold cutP; rw [hp]; rfl
    rw [hc]
    rw [hp] at HW
    clear hp hc
    go_enter Try.func54, Try.ntmps54
    go_wp2_with (go_at_call 58; refine HW.out.mono ?_; rintro e w' ⟨rfl, rfl⟩)
    go_ret2
    exact ⟨rfl, rfl⟩
theorem cutp_walk (s : ByteArray) (m : UInt8) (w : World) (hs : s.size ≤ maxLen) :
    Calls Try.prog 40 #[.string s, .string ⟨#[m, 46]⟩] w fun e w' => e = .returned (.tuple #[.string (cutP m s), .bool (hasP m s)]) ∧ w = w' := by
  have HW := Lib.hid (cut_walk s m w hs)
  generalize cutP m s = t at *
  generalize hasP m s = b at *
  go_enter Try.func40, Try.ntmps40
  go_wp2_with (go_at_call 54; refine HW.out.mono ?_; rintro e w' ⟨rfl, rfl⟩)
  go_ret2
  exact ⟨rfl, rfl⟩
end Go.Proofs.Ytekhnacgejfmjaa
