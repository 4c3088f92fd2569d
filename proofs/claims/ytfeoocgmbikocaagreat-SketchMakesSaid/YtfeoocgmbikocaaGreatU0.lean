/- The awake of sketch's laws: the evaluator says it, the kernel evaluates. -/
import Derived.Test.YtfeoocgmbikocaaGreatVN
import Derived.Test.YtfeoocgmbikocaaGreatProg
namespace Go.Proofs.YtfeoocgmbikocaaGreat
open Go.RowKit
set_option maxRecDepth 100000
theorem evfit : Ev.Fit Tryz.prog (Ev.okT Tryz.prog) := Ev.fit_of (by kernel_rfl) (by kernel_rfl)
theorem awake11_ev : Ev.gives true (Ev.evCall Tryz.prog (Ev.ev Tryz.prog (Ev.okT Tryz.prog) (Ev.draw Tryz.prog (Ev.okT Tryz.prog)) 100000) (.enter 9 #[]) ⟨0, .nil⟩) = true := by kernel_rfl
theorem awake11_walk (w : World) : Calls Tryz.prog 9 #[] w fun e w' => e = .returned (.bool true) ∧ Below w.heap.size w w' := Ev.awake_call evfit _ awake11_ev w
end Go.Proofs.YtfeoocgmbikocaaGreat
