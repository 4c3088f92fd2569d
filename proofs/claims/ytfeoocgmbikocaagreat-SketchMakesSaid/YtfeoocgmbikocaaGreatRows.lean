/-
  No cell of these rows narrows 'for every input' (looked for: loops, veiled, ifaces, maps, wideKeys, modest, calm, conditions, laid).
  DERIVED. THE GIVEN ROWS OF THIS SEAT. 6 by the template 'for every input the law returns true; each argument reads behind the call as it read before'; 0 by the template 'total and deterministic' (their statements: YtfeoocgmbikocaaGreatTotals.lean).
  GIVEN WITH THE SEED: the statements are not yours to turn. If you find one false, say at which input.
  Laid BY PROGRAM, IN A SANDBOX (cutbox-rows.mjs): the forced cells as the released guide's own fill.sh prints them over the translation 623b5d1544b56858… (all of the seat's roots in one cut). By AI agents, Wed Nov 11 2026. No macro, syntax, notation, axiom, sorry.
-/
import Derived.Test.YtfeoocgmbikocaaGreatChecked
import GoSem.Claim
import GoSem.ClaimJoined
import GoSem.ClaimMapViews
import Derived.JoinedTies
import Derived.KernelRfl
namespace Go.Proofs.YtfeoocgmbikocaaGreat
/- THE CELL 'sum', in the pinned program and in every row, IS THE sha256 OF THE DUMP (.gsa) THAT YtfeoocgmbikocaaGreatProg.lean LOADS. Nothing in Lean hashes anything: it is a label: what it is worth is what the hold of that sum in a sandbox is worth. -/
noncomputable def Tryz.pinned : Pinned := { name := "ytfeoocgmbikocaagreat", sum := "623b5d1544b56858cb38329a234b1ca0e3fe039ebc2548c305f8f3361c7c2391", checked := Tryz.checked }
namespace Rows
def none {H : Type} : Left H := { results := [], args := [] }

/-- 'parterrelaw11.SketchUndoes': WHATEVER THE INPUT: true; the input reads as it did. -/
def sketchUndoesSpec : ChangeSpec := { name := "sketchUndoes", fn := fun _ => fun
  | [d1, d2] => { results := [.lit (.bool true)], args := [d1, d2] }
  | _ => none }
def sketchUndoesRow : OpenClaim := { program := "ytfeoocgmbikocaagreat", sum := "623b5d1544b56858cb38329a234b1ca0e3fe039ebc2548c305f8f3361c7c2391", func := "parterre/parterrelaw11.SketchUndoes", spec := "sketchUndoes", unfollowed := true, recurses := true, plainKeys := false, apart := false }
def SketchUndoesSaid : Prop := sketchUndoesRow.holds Tryz.pinned (OpenSpec.ofChange sketchUndoesSpec)

/-- ITS FALSE NEIGHBOUR: 'it returns false'. Refute it at one input. -/
def sketchUndoesWrong : ChangeSpec := { name := "sketchUndoes", fn := fun _ => fun
  | [d1, d2] => { results := [.lit (.bool false)], args := [d1, d2] }
  | _ => none }
def SketchUndoesWrongFalsely : Prop := sketchUndoesRow.holds Tryz.pinned (OpenSpec.ofChange sketchUndoesWrong)

/-- 'parterrelaw11.SketchBytes': WHATEVER THE INPUT: true; the input reads as it did. -/
def sketchBytesSpec : ChangeSpec := { name := "sketchBytes", fn := fun _ => fun
  | [d1, d2, d3] => { results := [.lit (.bool true)], args := [d1, d2, d3] }
  | _ => none }
def sketchBytesRow : OpenClaim := { program := "ytfeoocgmbikocaagreat", sum := "623b5d1544b56858cb38329a234b1ca0e3fe039ebc2548c305f8f3361c7c2391", func := "parterre/parterrelaw11.SketchBytes", spec := "sketchBytes", inPlace := ["internal/abi.NoEscape", "internal/bytealg.MakeNoZero"], unfollowed := true, recurses := true, plainKeys := false, apart := false }
def SketchBytesSaid : Prop := sketchBytesRow.holds Tryz.pinned (OpenSpec.ofChange sketchBytesSpec)

/-- ITS FALSE NEIGHBOUR: 'it returns false'. Refute it at one input. -/
def sketchBytesWrong : ChangeSpec := { name := "sketchBytes", fn := fun _ => fun
  | [d1, d2, d3] => { results := [.lit (.bool false)], args := [d1, d2, d3] }
  | _ => none }
def SketchBytesWrongFalsely : Prop := sketchBytesRow.holds Tryz.pinned (OpenSpec.ofChange sketchBytesWrong)

/-- 'parterrelaw11.SketchMakes': WHATEVER THE INPUT: true; the input reads as it did. -/
def sketchMakesSpec : ChangeSpec := { name := "sketchMakes", fn := fun _ => fun
  | [d1, d2, d3] => { results := [.lit (.bool true)], args := [d1, d2, d3] }
  | _ => none }
def sketchMakesRow : OpenClaim := { program := "ytfeoocgmbikocaagreat", sum := "623b5d1544b56858cb38329a234b1ca0e3fe039ebc2548c305f8f3361c7c2391", func := "parterre/parterrelaw11.SketchMakes", spec := "sketchMakes", unfollowed := true, recurses := true, plainKeys := false, apart := false }
def SketchMakesSaid : Prop := sketchMakesRow.holds Tryz.pinned (OpenSpec.ofChange sketchMakesSpec)

/-- ITS FALSE NEIGHBOUR: 'it returns false'. Refute it at one input. -/
def sketchMakesWrong : ChangeSpec := { name := "sketchMakes", fn := fun _ => fun
  | [d1, d2, d3] => { results := [.lit (.bool false)], args := [d1, d2, d3] }
  | _ => none }
def SketchMakesWrongFalsely : Prop := sketchMakesRow.holds Tryz.pinned (OpenSpec.ofChange sketchMakesWrong)

/-- 'parterrelaw11.SketchFaces': WHATEVER THE INPUT: true; the input reads as it did. -/
def sketchFacesSpec : ChangeSpec := { name := "sketchFaces", fn := fun _ => fun
  | [d1, d2, d3, d4] => { results := [.lit (.bool true)], args := [d1, d2, d3, d4] }
  | _ => none }
def sketchFacesRow : OpenClaim := { program := "ytfeoocgmbikocaagreat", sum := "623b5d1544b56858cb38329a234b1ca0e3fe039ebc2548c305f8f3361c7c2391", func := "parterre/parterrelaw11.SketchFaces", spec := "sketchFaces", unfollowed := true, recurses := true, plainKeys := false, apart := false }
def SketchFacesSaid : Prop := sketchFacesRow.holds Tryz.pinned (OpenSpec.ofChange sketchFacesSpec)

/-- ITS FALSE NEIGHBOUR: 'it returns false'. Refute it at one input. -/
def sketchFacesWrong : ChangeSpec := { name := "sketchFaces", fn := fun _ => fun
  | [d1, d2, d3, d4] => { results := [.lit (.bool false)], args := [d1, d2, d3, d4] }
  | _ => none }
def SketchFacesWrongFalsely : Prop := sketchFacesRow.holds Tryz.pinned (OpenSpec.ofChange sketchFacesWrong)

/-- 'parterrelaw14.PlaneEmbeds': WHATEVER THE INPUT: true; the input reads as it did. -/
def planeEmbedsSpec : ChangeSpec := { name := "planeEmbeds", fn := fun _ => fun
  | [d] => { results := [.lit (.bool true)], args := [d] }
  | _ => none }
def planeEmbedsRow : OpenClaim := { program := "ytfeoocgmbikocaagreat", sum := "623b5d1544b56858cb38329a234b1ca0e3fe039ebc2548c305f8f3361c7c2391", func := "parterre/parterrelaw14.PlaneEmbeds", spec := "planeEmbeds", unfollowed := true, recurses := true, plainKeys := false, apart := false }
def PlaneEmbedsSaid : Prop := planeEmbedsRow.holds Tryz.pinned (OpenSpec.ofChange planeEmbedsSpec)

/-- ITS FALSE NEIGHBOUR: 'it returns false'. Refute it at one input. -/
def planeEmbedsWrong : ChangeSpec := { name := "planeEmbeds", fn := fun _ => fun
  | [d] => { results := [.lit (.bool false)], args := [d] }
  | _ => none }
def PlaneEmbedsWrongFalsely : Prop := planeEmbedsRow.holds Tryz.pinned (OpenSpec.ofChange planeEmbedsWrong)

/-- 'parterrelaw14.PlaneTries': WHATEVER THE INPUT: true; the input reads as it did. -/
def planeTriesSpec : ChangeSpec := { name := "planeTries", fn := fun _ => fun
  | [d] => { results := [.lit (.bool true)], args := [d] }
  | _ => none }
def planeTriesRow : OpenClaim := { program := "ytfeoocgmbikocaagreat", sum := "623b5d1544b56858cb38329a234b1ca0e3fe039ebc2548c305f8f3361c7c2391", func := "parterre/parterrelaw14.PlaneTries", spec := "planeTries", unfollowed := true, recurses := true, plainKeys := false, apart := false }
def PlaneTriesSaid : Prop := planeTriesRow.holds Tryz.pinned (OpenSpec.ofChange planeTriesSpec)

/-- ITS FALSE NEIGHBOUR: 'it returns false'. Refute it at one input. -/
def planeTriesWrong : ChangeSpec := { name := "planeTries", fn := fun _ => fun
  | [d] => { results := [.lit (.bool false)], args := [d] }
  | _ => none }
def PlaneTriesWrongFalsely : Prop := planeTriesRow.holds Tryz.pinned (OpenSpec.ofChange planeTriesWrong)

/- THE SECOND FORM. 'bulk': how many values and letters a reading holds, each counted each time it is reached (what is shared counts as often as it is met; a slice's spare places count too). A statement '..UptoSaid' is the law's where the arguments, and the package variables that the reading takes, are together of bulk at most 1048576: NARROWER than '..Said'. Prove '..Said' where nothing that the law and all that it calls make is longer than what came in: it says more and counts as full. Else prove '..UptoSaid'. A law counts once. -/
mutual
def uptoBulk {H : Type} : DataW H → Nat
  | .lit (.string bytes) => bytes.length + 1
  | .lit _ => 1
  | .nil => 1
  | .ptr d => uptoBulk d + 1
  | .slice elems spare => uptoBulkAll elems + uptoBulkAll spare + 1
  | .agg parts => uptoBulkAll parts + 1
  | .iface _ d => uptoBulk d + 1
  | .map entries => uptoBulkEntries entries + 1
  | .held _ => 1
def uptoBulkAll {H : Type} : List (DataW H) → Nat
  | [] => 0
  | d :: r => uptoBulk d + uptoBulkAll r
def uptoBulkEntries {H : Type} : List (Lit × DataW H) → Nat
  | [] => 0
  | x :: r => uptoBulkEntry x + uptoBulkEntries r
def uptoBulkEntry {H : Type} : Lit × DataW H → Nat
  | (.string bytes, d) => bytes.length + uptoBulk d + 1
  | (_, d) => uptoBulk d + 1
 end
def uptoSmall : (H : Type) → List (DataW H) → Bool := fun _ ds => decide (uptoBulkAll ds ≤ 1048576)
def OpenSpec.upto (s : _root_.Go.ChangeSpec) : _root_.Go.OpenSpec := { _root_.Go.OpenSpec.ofChange s with cond := some uptoSmall }

/-- 'parterrelaw11.SketchUndoes', WHERE WHAT IT READS IS OF BULK AT MOST 1048576: true; the input reads as it did. -/
def sketchUndoesUptoRow : OpenClaim := { program := "ytfeoocgmbikocaagreat", sum := "623b5d1544b56858cb38329a234b1ca0e3fe039ebc2548c305f8f3361c7c2391", func := "parterre/parterrelaw11.SketchUndoes", spec := "sketchUndoes", unfollowed := true, recurses := true, plainKeys := false, apart := false, narrowed := true }
def SketchUndoesUptoSaid : Prop := sketchUndoesUptoRow.holds Tryz.pinned (OpenSpec.upto sketchUndoesSpec)

/-- 'parterrelaw11.SketchBytes', WHERE WHAT IT READS IS OF BULK AT MOST 1048576: true; the input reads as it did. -/
def sketchBytesUptoRow : OpenClaim := { program := "ytfeoocgmbikocaagreat", sum := "623b5d1544b56858cb38329a234b1ca0e3fe039ebc2548c305f8f3361c7c2391", func := "parterre/parterrelaw11.SketchBytes", spec := "sketchBytes", inPlace := ["internal/abi.NoEscape", "internal/bytealg.MakeNoZero"], unfollowed := true, recurses := true, plainKeys := false, apart := false, narrowed := true }
def SketchBytesUptoSaid : Prop := sketchBytesUptoRow.holds Tryz.pinned (OpenSpec.upto sketchBytesSpec)

/-- 'parterrelaw11.SketchMakes', WHERE WHAT IT READS IS OF BULK AT MOST 1048576: true; the input reads as it did. -/
def sketchMakesUptoRow : OpenClaim := { program := "ytfeoocgmbikocaagreat", sum := "623b5d1544b56858cb38329a234b1ca0e3fe039ebc2548c305f8f3361c7c2391", func := "parterre/parterrelaw11.SketchMakes", spec := "sketchMakes", unfollowed := true, recurses := true, plainKeys := false, apart := false, narrowed := true }
def SketchMakesUptoSaid : Prop := sketchMakesUptoRow.holds Tryz.pinned (OpenSpec.upto sketchMakesSpec)

/-- 'parterrelaw11.SketchFaces', WHERE WHAT IT READS IS OF BULK AT MOST 1048576: true; the input reads as it did. -/
def sketchFacesUptoRow : OpenClaim := { program := "ytfeoocgmbikocaagreat", sum := "623b5d1544b56858cb38329a234b1ca0e3fe039ebc2548c305f8f3361c7c2391", func := "parterre/parterrelaw11.SketchFaces", spec := "sketchFaces", unfollowed := true, recurses := true, plainKeys := false, apart := false, narrowed := true }
def SketchFacesUptoSaid : Prop := sketchFacesUptoRow.holds Tryz.pinned (OpenSpec.upto sketchFacesSpec)

/-- 'parterrelaw14.PlaneEmbeds', WHERE WHAT IT READS IS OF BULK AT MOST 1048576: true; the input reads as it did. -/
def planeEmbedsUptoRow : OpenClaim := { program := "ytfeoocgmbikocaagreat", sum := "623b5d1544b56858cb38329a234b1ca0e3fe039ebc2548c305f8f3361c7c2391", func := "parterre/parterrelaw14.PlaneEmbeds", spec := "planeEmbeds", unfollowed := true, recurses := true, plainKeys := false, apart := false, narrowed := true }
def PlaneEmbedsUptoSaid : Prop := planeEmbedsUptoRow.holds Tryz.pinned (OpenSpec.upto planeEmbedsSpec)

/-- 'parterrelaw14.PlaneTries', WHERE WHAT IT READS IS OF BULK AT MOST 1048576: true; the input reads as it did. -/
def planeTriesUptoRow : OpenClaim := { program := "ytfeoocgmbikocaagreat", sum := "623b5d1544b56858cb38329a234b1ca0e3fe039ebc2548c305f8f3361c7c2391", func := "parterre/parterrelaw14.PlaneTries", spec := "planeTries", unfollowed := true, recurses := true, plainKeys := false, apart := false, narrowed := true }
def PlaneTriesUptoSaid : Prop := planeTriesUptoRow.holds Tryz.pinned (OpenSpec.upto planeTriesSpec)

end Rows
end Go.Proofs.YtfeoocgmbikocaaGreat
