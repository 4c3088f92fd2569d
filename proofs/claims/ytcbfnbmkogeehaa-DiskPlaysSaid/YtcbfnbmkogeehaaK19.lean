/- A disk that is none: each call answers as the chapter says. -/
import Derived.Test.YtcbfnbmkogeehaaK18
import Derived.Stop.BytesEq
namespace Go.Proofs.Ytcbfnbmkogeehaa
open Go.RowKit

theorem wpList_want {P : Program} {ops : Array Oper} {rest : List Oper} {o : Oper} {a : Act} {w : World} {Q : Exit → Act → World → Prop} (hw : Region.wanted o (yielded ops a.tmps) = true)
    (h : o.wp P a w (wpList P ops Q rest) Q) : wpList P ops Q (o :: rest) a w := by
  unfold wpList
  rw [if_pos hw]
  exact .inl h
section
variable {o : Oper} {a : Act} {w : World} {K : Act → World → Prop} {Q : Exit → Act → World → Prop}
theorem wp_zero (ho : o.op = .build 43 #[]) (h : K (a.put o.dst (.agg Z)) w) : o.wp Try.prog a w K Q :=
  wp_build 43 #[] ho (by rw [Array.map_empty]; show (Try.prog.built 43 []).isSome = true; rw [built43]; rfl) (by
    rw [Array.map_empty]
    show K (a.put o.dst (.agg ((Try.prog.built 43 []).getD #[]))) w
    rw [built43]; exact h)
theorem eq43 (l : List UInt8) (hl : l.length = 512) (w : World) : (Op.equalIn 10000 43 (.agg (l.map U).toArray) (.agg (l.map U).toArray)).run Try.prog w = .ok true w := by
  have h := run_equalIn_bytes (P := Try.prog) w 9998 43 5 512 Try.underlying43 Try.underlying5 (fun w => by kernel_rfl) l l hl hl
  rw [beq_self_eq_true] at h
  exact h
theorem wp_eq43 (x y : Operand) (t2 : TypeId) (ho : o.op = .binOp .eql 43 x y t2) (l : List UInt8) (hl : l.length = 512)
    (hx : a.eval x = .agg (l.map U).toArray) (hy : a.eval y = .agg (l.map U).toArray) (h : K (a.put o.dst (.bool true)) w) : o.wp Try.prog a w K Q := by
  have hm : Try.prog.eqGuardType Try.prog.depth 43 = false := by kernel_rfl
  unfold Oper.wp execOp
  simp only [ho, hx, hy, Sem.run_bind, run_eqGuard_agg w .eql 43 x y _ _ hm, run_eql_struct, eq43 l hl w, Result.andThen_ok, Sem.run_pure]
  exact h
end
theorem Below.onto {w w1 w2 : World} (h : Below w.heap.size w w1) (hb : Below w1.heap.size w1 w2) : Below w.heap.size w w2 := h.trans (hb.mono h.size)

set_option maxRecDepth 100000 in
set_option maxHeartbeats 4000000 in
theorem nil_walk (w : World) : Calls Try.prog 5 #[] w fun e w' => e = .returned (.bool true) ∧ Below w.heap.size w w' := by
  have hz := zero43
  go_enter Try.func5, Try.ntmps5
  go_wp2_with (first
    | (go_at_call 20; refine (fuse_nil _ _).mono ?_; rintro e w1 ⟨rfl, rfl⟩)
    | (go_at_call 18; refine (crash_nil _ _ _ _).mono ?_; rintro e w2 ⟨rfl, rfl⟩)
    | (go_at_call 19; have hs := read_nil (w1.alloc (.cells #[.bool true] 4)) 0; unfold BE at hs; refine hs.mono ?_; rintro e w3 ⟨rfl, hb3⟩; have HB3 := Lib.hid hb3; clear hs hb3)
    | (go_at_call 6; refine (awake_walk _).mono ?_; rintro e w5 ⟨rfl, hb5⟩; have HB5 := Lib.hid hb5; clear hb5)
    | (go_at_call 14; refine (write_nil _ 0 z512).mono ?_; rintro e w6 ⟨rfl, hb6⟩; have HB6 := Lib.hid hb6; clear hb6)
    | (go_at_call 15; refine (barrier_nil _).mono ?_; rintro e w7 ⟨rfl, rfl⟩)
    | (go_at_call 21; refine (sectors_nil _).mono ?_; rintro e w8 ⟨rfl, rfl⟩)
    | (go_at_call 11; refine (down_nil _).mono ?_; rintro e w9 ⟨rfl, rfl⟩)
    | (go_at_call 12; refine (steps_nil _).mono ?_; rintro e wa ⟨rfl, rfl⟩)
    | (go_at_call 17; refine (waits_nil _).mono ?_; rintro e wb ⟨rfl, rfl⟩)
    | (go_at_call 16; refine (lasts_nil _ 0).mono ?_; rintro e wc ⟨rfl, hbc⟩; have HBC := Lib.hid hbc; clear hbc)
    | (refine wpList_want rfl (wp_zero rfl ?_))
    | (refine wpList_want rfl (wp_eq43 (.tmp 53) (.tmp 54) _ rfl z512 z512_length rfl rfl ?_))
    | (refine wpList_store_fresh rfl 43 (.tmp 2) (.tmp 12) rfl Z rfl rfl size43 rfl (BAll _) ?_; intro w4 hb4 hs4 hB4; have HB4 := Lib.hid hb4; clear hb4 hs4 hB4))
  go_ret
  have e0 : Below w1.heap.size w1 (w1.alloc (.cells #[.bool true] 4)) := (Below.refl _ w1).alloc (Nat.le_refl _) _
  exact ⟨rfl, Below.onto (Below.onto (Below.onto (Below.onto (Below.onto e0 HB3.out) HB4.out) HB5.out) HB6.out) HBC.out⟩
end Go.Proofs.Ytcbfnbmkogeehaa
