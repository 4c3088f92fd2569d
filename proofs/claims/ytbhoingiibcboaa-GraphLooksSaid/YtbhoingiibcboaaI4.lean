/- graph.rising of one edge; graph.Make of vertices that rise and one edge. -/
import Derived.Test.YtbhoingiibcboaaI3
namespace Go.Proofs.Ytbhoingiibcboaa
open Go.RowKit

def Same1 (w : World) (e : Ending) (w' : World) : Prop := e = .returned (.tuple #[]) ∧ w = w'
attribute [local irreducible] V
set_option maxRecDepth 100000 in
theorem isorte_walk (w : World) (v f : Value) :
    Calls Try.prog 82 #[v, .int .i64 0, .int .i64 1, f] w (Same1 w) := by
  go_enter Try.func82, Try.ntmps82
  go_wp2
  go_loop [8] (fun i => i = .int .i64 1) (fun _ => 0)
  case atStart => rfl
  case round =>
    obtain rfl := hrel
    go_wp2
    go_end0
    exact ⟨rfl, rfl⟩
set_option maxRecDepth 100000 in
theorem stablee_walk (w : World) (v f : Value) :
    Calls Try.prog 76 #[v, .int .i64 1, f] w (Same1 w) := by
  go_enter Try.func76, Try.ntmps76
  go_wp2
  go_loop [7, 8] (fun a b => a = .int .i64 0 ∧ b = .int .i64 20) (fun _ _ => 0)
  case atStart => exact ⟨rfl, rfl⟩
  case round =>
    obtain ⟨rfl, rfl⟩ := hrel
    go_wp2_with (go_at_call 82; refine (isorte_walk _ _ _).mono ?_; rintro e w1 ⟨rfl, rfl⟩)
    go_loop [6] (fun a => a = .int .i64 20) (fun _ => 0)
    case atStart => rfl
    case round =>
      obtain rfl := hrel
      go_wp2
      go_end0
      exact ⟨rfl, rfl⟩
set_option maxRecDepth 100000 in
theorem sortste_walk (w : World) (A : Option Addr) (c : Nat) (f : Value) :
    Calls Try.prog 67 #[.slice A 1 c, f] w (Same1 w) := by
  go_enter Try.func67, Try.ntmps67
  go_wp2_with (go_at_call 76; refine (stablee_walk _ _ _).mono ?_; rintro e w1 ⟨rfl, rfl⟩)
  go_end0
  exact ⟨rfl, rfl⟩
set_option maxRecDepth 100000 in
theorem compacte_walk (w : World) (A : Option Addr) (c : Nat) (f : Value) :
    Calls Try.prog 69 #[.slice A 1 c, f] w fun e w' => e = .returned (.slice A 1 c) ∧ w = w' := by
  go_enter Try.func69, Try.ntmps69
  go_wp2
  go_ret
  exact ⟨rfl, rfl⟩
attribute [local irreducible] wpList in
set_option maxRecDepth 100000 in
set_option maxHeartbeats 1000000 in
theorem risinge_walk (w : World) (A : Option Addr) (c : Nat) (x : Eg) (h : RdE w A [x]) (fv : Value) (hf1 : fv = .func (.func 51) #[] #[]) :
    Calls Try.prog 50 #[.slice A 1 c, fv] w fun e w' => ∃ v, e = .returned v ∧ OwE w' w.heap.size v [x] ∧ Below w.heap.size w w' := by
  subst hf1
  have HB : Hid (Below w.heap.size w (w.alloc (.cells #[.func (.func 51) #[] #[]] 73))) := (Below.refl _ w).alloc (Nat.le_refl _) _
  have HR := Lib.hid (h.kept HB.out (Nat.le_refl _))
  have hmf : ∀ (fn : Fn) (first cap : Array Value) (w : World), (Instr.makeFunc fn first cap).run Try.prog w = .ok (.func fn first cap) w := fun _ _ _ _ => rfl
  have HC : Hid (∀ W (hW : RdE W A [x]), Calls Try.prog 40 #[.slice A 1 c] W fun e w' => ∃ v, e = .returned v ∧ OwE w' W.heap.size v [x] ∧ Below W.heap.size W w') := fun W hW => clonee_walk W A c [x] hW
  clear h
  go_enter Try.func50, Try.ntmps50
  go_wp2_with (first
    | (go_at_call 40; refine (HC.out _ HR.out).mono ?_; rintro e w1 ⟨u, rfl, ho, hb⟩; have HO1 := Lib.hid ho; have hrv := ho.rve (by simp); obtain ⟨A1, c1, hu, _, _⟩ := hrv; have hu2 : u = .slice A1 1 c1 := hu; clear hu; subst hu2; have HB1 := Lib.hid hb; clear ho hb)
    | (go_at_call 67; refine (sortste_walk _ _ _ _).mono ?_; rintro e w2 ⟨rfl, rfl⟩)
    | (go_at_call 69; refine (compacte_walk _ _ _ _).mono ?_; rintro e w2 ⟨rfl, rfl⟩))
  go_ret
  exact ⟨_, rfl, owns_base (by simp) HO1.out, HB.out.trans (Below.mono HB1.out HB.out.size)⟩
/-- A slot of a struct's result. -/
theorem RG.mk {w : World} {u v : Value} {vs : List UInt32} {es : List Eg} (h : RV w u vs) (h2 : RVE w v es) : RG w (.agg #[u, v]) ⟨vs, es⟩ := by
  obtain ⟨A, c, rfl, h3, h4⟩ := h
  obtain ⟨B, d, rfl, h5, h6⟩ := h2
  exact ⟨A, c, B, d, rfl, h3, h5, h4, h6⟩
theorem OwE.keepB {w w' : World} {base : Nat} {v : Value} {es : List Eg} (h : OwE w base v es) (hk : ∀ g cur, Blk w g 39 cur → Blk w' g 39 cur) : OwE w' base v es := by
  obtain ⟨h1, h2⟩ := h
  refine ⟨h1, ?_⟩
  rcases h2 with h2 | ⟨g, cap, cur, h3, h4, h5, h6⟩
  · exact .inl h2
  · exact .inr ⟨g, cap, cur, h3, h4, hk g cur h5, h6⟩
theorem keep_put {w : World} {g i k : Nat} {t t2 : TypeId} {cs cur : Array Value} (h : Blk w g t cs) (ht : t ≠ t2) (v : Value) (hb : Blk w k t2 cur) : Blk (w.setCell ⟨g, i, none⟩ v) k t2 cur :=
  hb.off (fun e => by
    have e' : k = g := e
    subst e'
    unfold Blk at h hb
    rw [h] at hb
    injection hb with hb
    injection hb with _ h2
    exact ht h2) v
theorem zero25 (w : World) : (zeroValue 25).run Try.prog w = .ok (.agg #[.slice none 0 0, .slice none 0 0]) w := by kernel_rfl
attribute [local irreducible] wpList in
set_option maxRecDepth 100000 in
set_option maxHeartbeats 1000000 in
theorem make_walk (w : World) (A B : Option Addr) (c d : Nat) (l : List UInt32) (x : Eg) (h : Rd w A l) (hc : l.length ≤ c) (hs : l.Pairwise (· < ·)) (hl : l.length < 20) (h2 : RdE w B [x]) :
    Calls Try.prog 24 #[.slice A l.length c, .slice B 1 d] w fun e w' => ∃ v, e = .returned v ∧ RG w' v ⟨l, [x]⟩ ∧ Below w.heap.size w w' := by
  have H1 : Hid (∀ W, Below w.heap.size w W → Calls Try.prog 48 #[.slice A l.length c, .func (.func 49) #[] #[]] W fun e w' => ∃ v, e = .returned v ∧ Ow w' W.heap.size v l ∧ Below W.heap.size W w') := fun W hW => rising_walk W A c l (h.kept hW (Nat.le_refl _)) hc hs hl
  have H2 : Hid (∀ W, Below w.heap.size w W → Calls Try.prog 50 #[.slice B 1 d, .func (.func 51) #[] #[]] W fun e w' => ∃ v, e = .returned v ∧ OwE w' W.heap.size v [x] ∧ Below W.heap.size W w') := fun W hW => risinge_walk W B d x (h2.kept hW (Nat.le_refl _)) _ rfl
  have HLL : Hid (l.length ≤ 1000000) := h.len
  have hz := zero25
  clear h hc hs hl h2
  go_enter Try.func24, Try.ntmps24
  go_wp2_with (first
    | (go_at_call 48; refine (H1.out _ ((Below.refl _ w).alloc (Nat.le_refl _) _)).mono ?_; rintro e w1 ⟨u, rfl, hu, hb⟩; have HU := Lib.hid hu; obtain ⟨A1, c1, hu1, _, _⟩ := hu.rv HLL.out; subst hu1; have HB1 := Lib.hid hb; clear hb)
    | (go_at_call 50; refine (H2.out _ (((Below.refl _ w).alloc (Nat.le_refl _) _).trans (Below.mono HB1.out (by simp)))).mono ?_; rintro e w2 ⟨u2, rfl, hu, hb⟩; have HU2 := Lib.hid hu; obtain ⟨A2, c2, hu2, _, _⟩ := hu.rve (by simp); have hu3 : u2 = .slice A2 1 c2 := hu2; clear hu2; subst hu3; have HB2 := Lib.hid hb; have HK2 : Hid (Blk w2 w.heap.size 25 #[.slice none 0 0, .slice none 0 0]) := (((Blk.fresh w 25 #[.slice none 0 0, .slice none 0 0]).kept HB1.out (by simp)).kept HB2.out (((Blk.fresh w 25 #[.slice none 0 0, .slice none 0 0]).kept HB1.out (by simp)).lt)); have k0 := HK2.out.cell 0; have k1 := HK2.out.cell 1; have f0 := HK2.out.thaw 0; have f1 := HK2.out.thaw 1; clear hb))
  have HS : Hid (Below w.heap.size w ((w2.setCell ⟨w.heap.size, 0, none⟩ (.slice A1 l.length c1)).setCell ⟨w.heap.size, 1, none⟩ (.slice A2 1 c2))) := by
    have h1 := (((Below.refl _ w).alloc (Nat.le_refl _) (.cells #[.slice none 0 0, .slice none 0 0] 25)).trans (Below.mono HB1.out (by simp))).trans (Below.mono HB2.out (Nat.le_trans (by simp) HB1.out.size))
    exact RBelow.set (RBelow.set h1 0 (Nat.le_refl _) _) 1 (Nat.le_refl _) _
  have HW : Hid (Blk ((w2.setCell ⟨w.heap.size, 0, none⟩ (.slice A1 l.length c1)).setCell ⟨w.heap.size, 1, none⟩ (.slice A2 1 c2)) w.heap.size 25 #[.slice A1 l.length c1, .slice A2 1 c2]) := (HK2.out.put 0 _).put 1 _
  have g0 := HW.out.cell 0
  have g1 := HW.out.cell 1
  have HRG : Hid (RG ((w2.setCell ⟨w.heap.size, 0, none⟩ (.slice A1 l.length c1)).setCell ⟨w.heap.size, 1, none⟩ (.slice A2 1 c2)) (.agg #[.slice A1 l.length c1, .slice A2 1 c2]) ⟨l, [x]⟩) := by
    have s1 : Still w2 ((w2.setCell ⟨w.heap.size, 0, none⟩ (.slice A1 l.length c1)).setCell ⟨w.heap.size, 1, none⟩ (.slice A2 1 c2)) := (Still.put HK2.out (by decide) _).trans (Still.put (HK2.out.put 0 _) (by decide) _)
    have e1 := ((Oq.owned HU.out).still (Still.below HB2.out)).still s1
    have e2 := HU2.out.keepB (fun g cur hk => keep_put (i := 1) (HK2.out.put 0 (.slice A1 l.length c1)) (by decide) (.slice A2 1 c2) (keep_put (i := 0) HK2.out (by decide) (.slice A1 l.length c1) hk))
    exact RG.mk (e1.rv HLL.out) (e2.rve (by simp))
  exact bodyPost_ret (v := .agg #[.slice A1 l.length c1, .slice A2 1 c2]) (by simp [results, Try.results24, go_sem, g0, g1]) rfl ⟨_, rfl, HRG.out, HS.out⟩
end Go.Proofs.Ytbhoingiibcboaa
