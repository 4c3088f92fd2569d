/- graph.nearOf. -/
import Derived.Test.YtbhoingiibcboaaG7
namespace Go.Proofs.Ytbhoingiibcboaa
open Go.RowKit

theorem step_ran {P : Program} {ops : Array Oper} {o : Oper} {a : Act} {w : World} {K : Act → World → Prop} {Q : Exit → Act → World → Prop} {E : Prop}
    (hg : o.guard = none) (s x : Operand) (t tn : TypeId) (ho : o.op = .call { callee := .builtin .append, args := #[s, x], argTypes := #[t, tn] }) (v u : Value) (hs : a.eval s = v) (hx : a.eval x = u) {v' : Value} {w' : World}
    (hr : (Builtin.append_ #[t, tn] o.type #[v, u]).run P w = .ok v' w') (hK : K (a.put o.dst v') w') :
    if Region.wanted o (yielded ops a.tmps) = true then Oper.wp P o a w K Q else E := by
  have hw : Region.wanted o (yielded ops a.tmps) = true := by simp [Region.wanted, hg]
  rw [if_pos hw]
  exact Lib.wp_append_run w s x t tn ho v u hs hx v' w' hr hK
theorem Oq.base {w : World} {b b' : Nat} {v : Value} {l : List UInt32} (h : Oq w b v l) (hb : b' ≤ b) : Oq w b' v l := by
  rcases h with h | ⟨g, off, cap, cur, h1, h2, h3⟩
  · exact .inl h
  · exact .inr ⟨g, off, cap, cur, h1, Nat.le_trans hb h2, h3⟩
theorem NearAt.base {w : World} {b b' nm n : Nat} {f : UInt32 → Option Value} {L : UInt32 → List UInt32} (h : NearAt w b nm n f L) (hb : b' ≤ b) : NearAt w b' nm n f L :=
  ⟨h.1, ⟨fun x => (h.2.own x).base hb, h.2.apart⟩⟩
theorem upd_len (L : UInt32 → List UInt32) (a d y : UInt32) : (upd L a (L a ++ [d]) y).length ≤ (L y).length + 1 := by
  unfold upd
  by_cases h : y = a
  · subst h; simp
  · simp [h]
theorem Below.dr (B : Nat) (w : World) : Below B w w.drew := ⟨rfl, rfl, rfl, Nat.le_refl _, fun _ _ => rfl⟩
theorem Fam.none {K : Type} (w : World) (base : Nat) : Fam (K := K) w base (fun _ => (.slice none 0 0)) (fun _ => []) :=
  ⟨fun _ => Oq.nil w base, fun _ _ _ _ h => by cases h⟩
theorem NearAt.empty (w : World) (base : Nat) : NearAt (w.alloc (.map #[] 0)) base w.heap.size 0 (fun _ => none) (fun _ => []) :=
  ⟨Mu.empty w, Fam.none _ _⟩
attribute [local irreducible] V
attribute [local irreducible] wpList in
set_option maxRecDepth 100000 in
set_option maxHeartbeats 4000000 in
/-- graph.nearOf. -/
theorem near_walk (w : World) (v : Value) (g : Gr) (h : RG w v g) (hE : g.es.length ≤ 1000) :
    Calls Try.prog 29 #[v] w fun e w' => ∃ nm f, e = .returned (.map (some nm)) ∧ NearAt w' w.heap.size nm (2 * g.es.length) f (nbr g.es) ∧ Below w.heap.size w w' := by
  obtain ⟨A, c, B, d, rfl, _, _, hr, hre⟩ := h
  have hne := hre.len
  have hmm := @run_makeMap Try.prog
  have HB : Hid (Below w.heap.size w (w.alloc (.cells #[.slice A g.vs.length c, .slice B g.es.length d] 25))) := (Below.refl _ w).alloc (Nat.le_refl _) _
  have HBK : Hid (Blk (w.alloc (.cells #[.slice A g.vs.length c, .slice B g.es.length d] 25)) w.heap.size 25 #[.slice A g.vs.length c, .slice B g.es.length d]) := Blk.fresh _ _ _
  have HRE := Lib.hid (hre.kept HB.out (Nat.le_refl _))
  clear hr hre
  go_enter Try.func29, Try.ntmps29
  go_wp2
  have HSZ : Hid ((w.alloc (.cells #[.slice A g.vs.length c, .slice B g.es.length d] 25)).heap.size = w.heap.size + 1) := by show _ = _; simp
  generalize hw1 : w.alloc (.cells #[.slice A g.vs.length c, .slice B g.es.length d] 25) = w1 at *
  clear hw1
  have HN0 : Hid (NearAt (w1.alloc (.map #[] 0)) (w.heap.size + 1) (w.heap.size + 1) 0 (fun _ => none) (fun _ => [])) := by
    have := NearAt.empty w1 (w.heap.size + 1)
    rw [HSZ.out] at this
    exact this
  have HB1 : Hid (Below (w.heap.size + 1) w1 (w1.alloc (.map #[] 0))) := (Below.refl _ _).alloc (by rw [HSZ.out]; exact Nat.le_refl _) _
  go_loopw [10] (fun i wr => ∃ (k : Nat) (f : UInt32 → Option Value), k ≤ g.es.length ∧ i = .int .i64 k ∧ NearAt wr (w.heap.size + 1) (w.heap.size + 1) (2 * k) f (nbr (g.es.take k)) ∧ Below (w.heap.size + 1) w1 wr) (fun i _ => g.es.length - (intOf i).toNat)
  case atStart => exact ⟨0, _, Nat.zero_le _, rfl, HN0.out, HB1.out⟩
  case round =>
    obtain ⟨k, f, hk, rfl, hna, hb⟩ := hrel
    have HNA := Lib.hid hna
    have HBR := Lib.hid hb
    have HSR : Hid (w.heap.size + 1 ≤ wr.heap.size) := by show _ ≤ _; have := hb.size; rw [HSZ.out] at this; exact this
    have HBW : Hid (Below w.heap.size w wr) := HB.out.trans (Below.mono hb (Nat.le_succ _))
    clear hna hb
    by_cases hlt : k < g.es.length
    · obtain ⟨b, o, rfl, hc⟩ := (HRE.out.kept (Below.mono HBR.out (Nat.le_refl _)) (by rw [HSZ.out]; exact Nat.le_refl _)).spot (by omega)
      obtain ⟨hc1, hc2, hc3⟩ := hc k hlt
      have HS := Lib.hid (nbr_succ hlt)
      have HL1 := Lib.hid (nbr_take g.es k)
      have hz := zero39
      clear hc
      generalize g.es.getD k e0 = x at *
      go_wp2_with (refine wpList_store_fresh rfl 39 (.tmp 5) (.tmp 13) rfl #[V x.id, V x.a, V x.b] rfl rfl (by kernel_rfl) rfl (all3 _ _ _) ?_; intro w2 hb2 hs2 hk2; have HB2 := Lib.hid hb2; have HK2 := Lib.hid hk2; have HS2W := Lib.hid hs2; clear hb2 hs2 hk2)
      have HNA2 : Hid (NearAt w2.drew (w.heap.size + 1) (w.heap.size + 1) (2 * k) f (nbr (g.es.take k))) := HNA.out.below (HB2.out.trans ⟨rfl, rfl, rfl, Nat.le_refl _, fun _ _ => rfl⟩)
      obtain ⟨v3, w3, w4, f4, hr3, hr4, hn4, hb4, hk4⟩ := near_push x.a x.b 22 HNA2.out (by have := HL1.out x.a; omega) (by have := HSR.out; have := HB2.out.size; show _ ≤ w2.heap.size; omega) (Nat.le_refl _) (by omega)
      have hl1 := HNA2.out.look x.a
      have hl2 : (Instr.lookup 42 (.map (some (w.heap.size + 1))) (V x.a) false).run Try.prog (w2.alloc (.cells #[V x.b] 31)).drew = .ok ((f x.a).getD (.slice none 0 0)) (w2.alloc (.cells #[V x.b] 31)).drew := (HNA2.out.below ((Below.refl _ w2.drew).alloc (Nat.le_refl _) (.cells #[V x.b] 31))).look x.a
      have S0 : Hid (w2.drew.cell? ⟨wr.heap.size, 1, none⟩ = some (V x.a) ∧ w2.drew.cell? ⟨wr.heap.size, 2, none⟩ = some (V x.b)) := ⟨HK2.out.cell 1, HK2.out.cell 2⟩
      have S1 : Hid ((w2.drew.alloc (.cells #[V x.b] 31)).cell? ⟨wr.heap.size, 1, none⟩ = some (V x.a) ∧ (w2.drew.alloc (.cells #[V x.b] 31)).cell? ⟨wr.heap.size, 2, none⟩ = some (V x.b)) := ⟨(HK2.out.more _).cell 1, (HK2.out.more _).cell 2⟩
      have HK3 := Lib.hid (hk4 wr.heap.size 39 #[V x.id, V x.a, V x.b] HK2.out (by decide))
      have S2 : Hid (w3.cell? ⟨wr.heap.size, 1, none⟩ = some (V x.a) ∧ w3.cell? ⟨wr.heap.size, 2, none⟩ = some (V x.b)) := ⟨HK3.out.1.cell 1, HK3.out.1.cell 2⟩
      have S3 : Hid (w4.cell? ⟨wr.heap.size, 1, none⟩ = some (V x.a) ∧ w4.cell? ⟨wr.heap.size, 2, none⟩ = some (V x.b)) := ⟨HK3.out.2.cell 1, HK3.out.2.cell 2⟩
      have HN4 := Lib.hid hn4
      have HB4 := Lib.hid hb4
      have HR3 := Lib.hid hr3
      have r6 := V_cells x.b
      unfold Value.cells at r6
      clear hn4 hb4 hk4 hr3
      generalize (f x.a).getD (.slice none 0 0) = fv at *
      go_region_held3 (fun W => W.cell? ⟨wr.heap.size, 1, none⟩ = some (V x.a) ∧ W.cell? ⟨wr.heap.size, 2, none⟩ = some (V x.b)) (first | exact S0.out | exact S1.out | exact S2.out | exact S3.out) (refine step_ran rfl (.tmp 20) (.tmp 23) 22 22 rfl _ _ rfl rfl HR3.out ?_)
      all_goals
        clear hl1 hl2 S0 S1 S2 S3 r6 hr4
        go_wp2
        have HNA4 : Hid (NearAt w4.drew (w.heap.size + 1) (w.heap.size + 1) (2 * k + 1) f4 (upd (nbr (g.es.take k)) x.a (nbr (g.es.take k) x.a ++ [x.b]))) := HN4.out.below ⟨rfl, rfl, rfl, Nat.le_refl _, fun _ _ => rfl⟩
        obtain ⟨v5, w5, w6, f6, hr5, hr6, hn6, hb6, hk6⟩ := near_push x.b x.a 22 HNA4.out (by have := HL1.out x.b; have := upd_len (nbr (g.es.take k)) x.a x.b x.b; omega) (by have := HSR.out; have := HB2.out.size; have : w2.heap.size ≤ w4.heap.size := HB4.out.size; show _ ≤ w4.heap.size; omega) (Nat.le_refl _) (by omega)
        have hl1 := HNA4.out.look x.b
        have hl2 : (Instr.lookup 42 (.map (some (w.heap.size + 1))) (V x.b) false).run Try.prog (w4.alloc (.cells #[V x.a] 31)).drew = .ok ((f4 x.b).getD (.slice none 0 0)) (w4.alloc (.cells #[V x.a] 31)).drew := (HNA4.out.below ((Below.refl _ w4.drew).alloc (Nat.le_refl _) (.cells #[V x.a] 31))).look x.b
        have S0 : Hid (w4.drew.cell? ⟨wr.heap.size, 1, none⟩ = some (V x.a) ∧ w4.drew.cell? ⟨wr.heap.size, 2, none⟩ = some (V x.b)) := ⟨HK3.out.2.cell 1, HK3.out.2.cell 2⟩
        have S1 : Hid ((w4.drew.alloc (.cells #[V x.a] 31)).cell? ⟨wr.heap.size, 1, none⟩ = some (V x.a) ∧ (w4.drew.alloc (.cells #[V x.a] 31)).cell? ⟨wr.heap.size, 2, none⟩ = some (V x.b)) := ⟨(HK3.out.2.more _).cell 1, (HK3.out.2.more _).cell 2⟩
        have HK5 := Lib.hid (hk6 wr.heap.size 39 #[V x.id, V x.a, V x.b] HK3.out.2 (by decide))
        have S2 : Hid (w5.cell? ⟨wr.heap.size, 1, none⟩ = some (V x.a) ∧ w5.cell? ⟨wr.heap.size, 2, none⟩ = some (V x.b)) := ⟨HK5.out.1.cell 1, HK5.out.1.cell 2⟩
        have S3 : Hid (w6.cell? ⟨wr.heap.size, 1, none⟩ = some (V x.a) ∧ w6.cell? ⟨wr.heap.size, 2, none⟩ = some (V x.b)) := ⟨HK5.out.2.cell 1, HK5.out.2.cell 2⟩
        have HN6 := Lib.hid hn6
        have HB6 := Lib.hid hb6
        have HR5 := Lib.hid hr5
        have r6 := V_cells x.a
        unfold Value.cells at r6
        clear hn6 hb6 hk6 hr5
        generalize (f4 x.b).getD (.slice none 0 0) = fv4 at *
        go_region_held3 (fun W => W.cell? ⟨wr.heap.size, 1, none⟩ = some (V x.a) ∧ W.cell? ⟨wr.heap.size, 2, none⟩ = some (V x.b)) (first | exact S0.out | exact S1.out | exact S2.out | exact S3.out) (refine step_ran rfl (.tmp 31) (.tmp 34) 22 22 rfl _ _ rfl rfl HR5.out ?_)
        all_goals
          clear hl1 hl2 hr6 r6
          go_wp2
          go_roundw
          case rel => exact ⟨k + 1, f6, by omega, by go_num, by rw [HS.out]; exact HN6.out, ((HBR.out.trans (Below.mono (HB2.out.trans (Below.dr _ w2)) HSR.out)).trans HB4.out).trans ((Below.dr _ w4).trans HB6.out)⟩
          case measure => simp [intOf]; omega
    · obtain rfl : k = g.es.length := by omega
      have hna := HNA.out
      rw [List.take_length] at hna
      have HNE := Lib.hid (hna.base (Nat.le_succ _))
      clear hna
      go_wp2
      go_ret
      exact ⟨_, f, rfl, HNE.out, HBW.out⟩
end Go.Proofs.Ytbhoingiibcboaa
