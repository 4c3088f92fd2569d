/- A loop over the runs of a space, whose variable lies in a box: the law, for any frame. -/
import Derived.Test.YtoeniealmcihmaaP5
namespace Go.Proofs.Ytoeniealmcihmaa
open Go.RowKit Go.Shelf
attribute [local go_sem] Oper.semAt_some

/-- The frame of a round: the value that came, and the box that the variable lies in. -/
def round (a : Act) (ps sv : Tmp) (x : Value) (Bx : Nat) : Act := { tmps := (a.tmps.setIfInBounds ps x).setIfInBounds sv (.pointer (some ⟨Bx, 0, none⟩)), defers := [] }
/-- A run's value. -/
def rv (fr : Int) (r : Nat × Nat) : Value := .agg #[.int .i64 (fr + (r.1 : Int)), .int .i64 (r.2 : Int)]
theorem range_law {n : Nat} {a : Act} {w : World} {Q : Exit → Act → World → Prop} {g0 : Operand} {assign body : Code} (h1 : 1 ≤ n) (ps sv : Tmp) (lo g lb Bs m N : Nat) (fr : Int) (hg : a.eval g0 = .func (.func 18) #[] #[.pointer (some ⟨Bs, 0, none⟩)])
    {S Sp : List (Nat × Nat) → Prop} (hseq : SeqStopsK Fence.wide (n - 1) Try.prog 18 #[.pointer (some ⟨Bs, 0, none⟩)] (encs fr) (Kp g lb Bs m) S Sp N w)
    (hlo : lo ≤ w.heap.size) (hgl : g < lo) (hll : 0 < m → lb < lo) (hBl : Bs < lo)
    (I : List (Nat × Nat) → World → Prop) (Ix : Code → List (Nat × Nat) → World → Prop) (hI : OwnFrom w.heap.size I) (hIx : ∀ c, OwnFrom w.heap.size (Ix c)) (h0 : I [] w) (hsz : ∀ pre W, I pre W → lo ≤ W.heap.size)
    (hassign : ∀ (l : Nat) (x : Nat × Nat) (W : World) (K : Act → World → Prop), K (round a ps sv (rv fr x) W.heap.size) (W.alloc (.cells #[.int .i64 (fr + (x.1 : Int)), .int .i64 (x.2 : Int)] 33)) →
      assign.wpIn (Fence.wide.inRound l) (n - 1 - 1) Try.prog (Exit.then K (fun _ _ _ => False)) { tmps := a.tmps.setIfInBounds ps (rv fr x), defers := [] } W)
    (hbody : ∀ (l : Nat) (pre : List (Nat × Nat)) (x : Nat × Nat) (Bx : Nat) (W : World), lo ≤ Bx → Blk W Bx 33 #[.int .i64 (fr + (x.1 : Int)), .int .i64 (x.2 : Int)] → I pre W → pre.length < N →
      body.wpIn (Fence.wide.inRound l) (n - 1 - 1) Try.prog (ownPostG w.heap.size (Kp g lb Bs m) I Ix (pre ++ [x]) W) (round a ps sv (rv fr x) Bx) W)
    (hdone : ∀ (D : Nat) (xs : List (Nat × Nat)) (W : World), w.heap.size ≤ D → S xs → I xs W → W.heap[D]? = some (.deferred (some [])) → Q .normal { a with defers := { target := .collected D, args := #[] } :: a.defers } W)
    (hstop : ∀ (D : Nat) (c : Code) (pre : List (Nat × Nat)) (W : World), w.heap.size ≤ D → Sp pre → Ix c pre W → W.heap[D]? = some (.deferred (some [])) → c.wpIn Fence.wide n Try.prog Q { a with defers := { target := .collected D, args := #[] } :: a.defers } W) :
    (Code.rangeFunc g0 #[ps] assign body).wpIn Fence.wide n Try.prog Q a w := by
  refine wpIn_rangeFunc_ownH (N := N) rfl h1 (gf := 18) (lb := #[.pointer (some ⟨Bs, 0, none⟩)]) hg trivial (enters_of Try.func18 (by kernel_rfl) rfl)
    hseq kp_t (kp_b (by omega) (fun h0 => by have := hll h0; omega) (by omega)) (Below.refl _ _) (fun _ => rfl) I Ix hI hIx h0
    (fun x a' W => ∃ Bx, lo ≤ Bx ∧ Blk W Bx 33 #[.int .i64 (fr + (x.1 : Int)), .int .i64 (x.2 : Int)] ∧ a' = round a ps sv (rv fr x) Bx)
    (fun x a' _ X Y row hs hg hr => by obtain ⟨Bx, e1, e2, e3⟩ := hs; exact ⟨Bx, e1, e2.own hg (fun r e => (hr r e).2), e3⟩) ?assign ?body hdone hstop
  case assign =>
    intro l pre x W K hi hK
    rw [show (#[ps].zip (encs fr x)).foldl (fun t (p, v) => t.setIfInBounds p v) a.tmps = a.tmps.setIfInBounds ps (rv fr x) by simp [encs, rv]]
    refine hassign l x W K (hK _ _ ((KeepsOthers.alloc _ _).from _) (fun b hb => Below.heap_alloc W _ b ?_) (hI.alloc _ hi) ⟨W.heap.size, hsz pre W hi, Blk.fresh W 33 _, rfl⟩)
    have := hsz pre W hi
    rcases hb with rfl | ⟨h0, rfl⟩ | rfl
    · omega
    · have := hll h0; omega
    · omega
  case body =>
    rintro l pre x a' W _ _ hi ⟨Bx, hBx, hx, rfl⟩ hlt
    exact hbody l pre x Bx W hBx hx hi hlt
end Go.Proofs.Ytoeniealmcihmaa
