/- Eight words laid as a new row. -/
import Derived.Test.YtcbfnbmkogeehaaDoorT6
import Derived.Great.BuildSlice
namespace Go.Proofs.YtcbfnbmkogeehaaDoor
open Go.RowKit

theorem fill_eight (u : List UInt32) (h : u.length = 8) :
    Instr.fill (fun i => some (i * 1, 1)) ((Array.range (8 * 1)).map (fun i => (Value.int .u32 0).cells[i % (Value.int .u32 0).cells.size]!)) [(0, W (u.getD 0 0)), (1, W (u.getD 1 0)), (2, W (u.getD 2 0)), (3, W (u.getD 3 0)), (4, W (u.getD 4 0)), (5, W (u.getD 5 0)), (6, W (u.getD 6 0)), (7, W (u.getD 7 0))] = some (u.map W).toArray := by
  have e : u = [u.getD 0 0, u.getD 1 0, u.getD 2 0, u.getD 3 0, u.getD 4 0, u.getD 5 0, u.getD 6 0, u.getD 7 0] := by
    match u, h with
    | [a, b, c, d, e, f, g, i], _ => rfl
  rw [congrArg (fun l : List UInt32 => (l.map W).toArray) e]
  generalize u.getD 0 0 = a0
  generalize u.getD 1 0 = a1
  generalize u.getD 2 0 = a2
  generalize u.getD 3 0 = a3
  generalize u.getD 4 0 = a4
  generalize u.getD 5 0 = a5
  generalize u.getD 6 0 = a6
  generalize u.getD 7 0 = a7
  have r : ∀ x, (W x).cells = #[W x] := fun _ => rfl
  have z : (Array.range (8 * 1)).map (fun i => (Value.int .u32 0).cells[i % (Value.int .u32 0).cells.size]!) = #[W 0, W 0, W 0, W 0, W 0, W 0, W 0, W 0] := by kernel_rfl
  rw [z]
  simp [Instr.fill, r]
section
variable {o : Oper} {a : Act} {w : World} {K : Act → World → Prop} {Q : Exit → Act → World → Prop}
theorem wp_eight (x0 x1 x2 x3 x4 x5 x6 x7 : Operand) (ho : o.op = .buildSlice 53 8 #[(0, x0), (1, x1), (2, x2), (3, x3), (4, x4), (5, x5), (6, x6), (7, x7)]) (u : List UInt32) (hu : u.length = 8)
    (h0 : a.eval x0 = W (u.getD 0 0)) (h1 : a.eval x1 = W (u.getD 1 0)) (h2 : a.eval x2 = W (u.getD 2 0)) (h3 : a.eval x3 = W (u.getD 3 0)) (h4 : a.eval x4 = W (u.getD 4 0)) (h5 : a.eval x5 = W (u.getD 5 0)) (h6 : a.eval x6 = W (u.getD 6 0)) (h7 : a.eval x7 = W (u.getD 7 0))
    (h : K (a.put o.dst (.slice (some ⟨w.heap.size, 0, none⟩) 8 8)) (w.alloc (.cells (u.map W).toArray 52))) : o.wp Tryd.prog a w K Q := by
  obtain ⟨ie, hie, hs, hz⟩ : ∃ ie, Tryd.prog.info? 52 = some ie ∧ ie.size = 1 ∧ ie.zero = some (.int .u32 0) := ⟨_, rfl, by kernel_rfl, by kernel_rfl⟩
  refine wp_buildSlice 53 52 8 _ ho (u.map W).toArray ie (.int .u32 0) Tryd.underlying53 hie hz (by rw [hs]; decide) (by rw [hs]; decide) ?_ h
  have e : (#[(0, x0), (1, x1), (2, x2), (3, x3), (4, x4), (5, x5), (6, x6), (7, x7)].map fun (p : Nat × Operand) => (p.1, a.eval p.2)).toList = [(0, W (u.getD 0 0)), (1, W (u.getD 1 0)), (2, W (u.getD 2 0)), (3, W (u.getD 3 0)), (4, W (u.getD 4 0)), (5, W (u.getD 5 0)), (6, W (u.getD 6 0)), (7, W (u.getD 7 0))] := by simp [h0, h1, h2, h3, h4, h5, h6, h7]
  refine (congrArg _ e).trans ?_
  rw [hs]
  exact fill_eight u hu
end
end Go.Proofs.YtcbfnbmkogeehaaDoor
