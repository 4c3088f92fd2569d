/-
  No cell of these rows narrows 'for every input' (looked for: loops, veiled, ifaces, maps, wideKeys, modest, calm, conditions, laid).
  DERIVED. THE GIVEN ROWS OF THIS SEAT. 7 by the template 'for every input the law returns true; each argument reads behind the call as it read before'; 0 by the template 'total and deterministic' (their statements: YtekhnacgejfmjaaTotals.lean).
  GIVEN WITH THE SEED: the statements are not yours to turn. If you find one false, say at which input.
  Laid BY PROGRAM, IN A SANDBOX (cutbox-rows.mjs): the forced cells as the released guide's own fill.sh prints them over the translation 9bd0ffd912e14b4d… (all of the seat's roots in one cut). By AI agents, Wed Nov 11 2026. No macro, syntax, notation, axiom, sorry.
-/
import Derived.Test.YtekhnacgejfmjaaChecked
import GoSem.Claim
import GoSem.ClaimJoined
import GoSem.ClaimMapViews
import Derived.JoinedTies
import Derived.KernelRfl
namespace Go.Proofs.Ytekhnacgejfmjaa
/- THE CELL 'sum', in the pinned program and in every row, IS THE sha256 OF THE DUMP (.gsa) THAT YtekhnacgejfmjaaProg.lean LOADS. Nothing in Lean hashes anything: it is a label: what it is worth is what the hold of that sum in a sandbox is worth. -/
noncomputable def Try.pinned : Pinned := { name := "ytekhnacgejfmjaa", sum := "9bd0ffd912e14b4d1587c9d30ce89018e1afb2f809aa0baa658bdec7251b56ce", checked := Try.checked }
namespace Rows
def none {H : Type} : Left H := { results := [], args := [] }

/-- 'parterrelaw07.NameRefs': WHATEVER THE INPUT: true; the input reads as it did. -/
def nameRefsSpec : ChangeSpec := { name := "nameRefs", fn := fun _ => fun
  | [d] => { results := [.lit (.bool true)], args := [d] }
  | _ => none }
def nameRefsRow : OpenClaim := { program := "ytekhnacgejfmjaa", sum := "9bd0ffd912e14b4d1587c9d30ce89018e1afb2f809aa0baa658bdec7251b56ce", func := "parterre/parterrelaw07.NameRefs", spec := "nameRefs", apart := false }
def NameRefsSaid : Prop := nameRefsRow.holds Try.pinned (OpenSpec.ofChange nameRefsSpec)

/-- ITS FALSE NEIGHBOUR: 'it returns false'. Refute it at one input. -/
def nameRefsWrong : ChangeSpec := { name := "nameRefs", fn := fun _ => fun
  | [d] => { results := [.lit (.bool false)], args := [d] }
  | _ => none }
def NameRefsWrongFalsely : Prop := nameRefsRow.holds Try.pinned (OpenSpec.ofChange nameRefsWrong)

/-- 'parterrelaw07.NameFiles': WHATEVER THE INPUT: true; the input reads as it did. -/
def nameFilesSpec : ChangeSpec := { name := "nameFiles", fn := fun _ => fun
  | [d1, d2] => { results := [.lit (.bool true)], args := [d1, d2] }
  | _ => none }
def nameFilesRow : OpenClaim := { program := "ytekhnacgejfmjaa", sum := "9bd0ffd912e14b4d1587c9d30ce89018e1afb2f809aa0baa658bdec7251b56ce", func := "parterre/parterrelaw07.NameFiles", spec := "nameFiles", inPlace := ["internal/bytealg.IndexByteString"], apart := false }
def NameFilesSaid : Prop := nameFilesRow.holds Try.pinned (OpenSpec.ofChange nameFilesSpec)

/-- ITS FALSE NEIGHBOUR: 'it returns false'. Refute it at one input. -/
def nameFilesWrong : ChangeSpec := { name := "nameFiles", fn := fun _ => fun
  | [d1, d2] => { results := [.lit (.bool false)], args := [d1, d2] }
  | _ => none }
def NameFilesWrongFalsely : Prop := nameFilesRow.holds Try.pinned (OpenSpec.ofChange nameFilesWrong)

/-- 'parterrelaw07.NamePicks': WHATEVER THE INPUT: true; the input reads as it did. -/
def namePicksSpec : ChangeSpec := { name := "namePicks", fn := fun _ => fun
  | [d1, d2] => { results := [.lit (.bool true)], args := [d1, d2] }
  | _ => none }
def namePicksRow : OpenClaim := { program := "ytekhnacgejfmjaa", sum := "9bd0ffd912e14b4d1587c9d30ce89018e1afb2f809aa0baa658bdec7251b56ce", func := "parterre/parterrelaw07.NamePicks", spec := "namePicks", inPlace := ["internal/bytealg.IndexByteString"], apart := false }
def NamePicksSaid : Prop := namePicksRow.holds Try.pinned (OpenSpec.ofChange namePicksSpec)

/-- ITS FALSE NEIGHBOUR: 'it returns false'. Refute it at one input. -/
def namePicksWrong : ChangeSpec := { name := "namePicks", fn := fun _ => fun
  | [d1, d2] => { results := [.lit (.bool false)], args := [d1, d2] }
  | _ => none }
def NamePicksWrongFalsely : Prop := namePicksRow.holds Try.pinned (OpenSpec.ofChange namePicksWrong)

/-- 'parterrelaw07.NameOrders': WHATEVER THE INPUT: true; the input reads as it did. -/
def nameOrdersSpec : ChangeSpec := { name := "nameOrders", fn := fun _ => fun
  | [d1, d2] => { results := [.lit (.bool true)], args := [d1, d2] }
  | _ => none }
def nameOrdersRow : OpenClaim := { program := "ytekhnacgejfmjaa", sum := "9bd0ffd912e14b4d1587c9d30ce89018e1afb2f809aa0baa658bdec7251b56ce", func := "parterre/parterrelaw07.NameOrders", spec := "nameOrders", apart := false }
def NameOrdersSaid : Prop := nameOrdersRow.holds Try.pinned (OpenSpec.ofChange nameOrdersSpec)

/-- ITS FALSE NEIGHBOUR: 'it returns false'. Refute it at one input. -/
def nameOrdersWrong : ChangeSpec := { name := "nameOrders", fn := fun _ => fun
  | [d1, d2] => { results := [.lit (.bool false)], args := [d1, d2] }
  | _ => none }
def NameOrdersWrongFalsely : Prop := nameOrdersRow.holds Try.pinned (OpenSpec.ofChange nameOrdersWrong)

/-- 'parterrelaw08.DartEnds': WHATEVER THE INPUT: true; the input reads as it did. -/
def dartEndsSpec : ChangeSpec := { name := "dartEnds", fn := fun _ => fun
  | [d1, d2, d3] => { results := [.lit (.bool true)], args := [d1, d2, d3] }
  | _ => none }
def dartEndsRow : OpenClaim := { program := "ytekhnacgejfmjaa", sum := "9bd0ffd912e14b4d1587c9d30ce89018e1afb2f809aa0baa658bdec7251b56ce", func := "parterre/parterrelaw08.DartEnds", spec := "dartEnds", apart := false }
def DartEndsSaid : Prop := dartEndsRow.holds Try.pinned (OpenSpec.ofChange dartEndsSpec)

/-- ITS FALSE NEIGHBOUR: 'it returns false'. Refute it at one input. -/
def dartEndsWrong : ChangeSpec := { name := "dartEnds", fn := fun _ => fun
  | [d1, d2, d3] => { results := [.lit (.bool false)], args := [d1, d2, d3] }
  | _ => none }
def DartEndsWrongFalsely : Prop := dartEndsRow.holds Try.pinned (OpenSpec.ofChange dartEndsWrong)

/-- 'parterrelaw08.DartTurns': WHATEVER THE INPUT: true; the input reads as it did. -/
def dartTurnsSpec : ChangeSpec := { name := "dartTurns", fn := fun _ => fun
  | [d1, d2, d3] => { results := [.lit (.bool true)], args := [d1, d2, d3] }
  | _ => none }
def dartTurnsRow : OpenClaim := { program := "ytekhnacgejfmjaa", sum := "9bd0ffd912e14b4d1587c9d30ce89018e1afb2f809aa0baa658bdec7251b56ce", func := "parterre/parterrelaw08.DartTurns", spec := "dartTurns", unfollowed := true, recurses := true, apart := false }
def DartTurnsSaid : Prop := dartTurnsRow.holds Try.pinned (OpenSpec.ofChange dartTurnsSpec)

/-- ITS FALSE NEIGHBOUR: 'it returns false'. Refute it at one input. -/
def dartTurnsWrong : ChangeSpec := { name := "dartTurns", fn := fun _ => fun
  | [d1, d2, d3] => { results := [.lit (.bool false)], args := [d1, d2, d3] }
  | _ => none }
def DartTurnsWrongFalsely : Prop := dartTurnsRow.holds Try.pinned (OpenSpec.ofChange dartTurnsWrong)

/-- 'parterrelaw08.DartBegins': WHATEVER THE INPUT: true; the input reads as it did. -/
def dartBeginsSpec : ChangeSpec := { name := "dartBegins", fn := fun _ => fun
  | [d1, d2, d3, d4] => { results := [.lit (.bool true)], args := [d1, d2, d3, d4] }
  | _ => none }
def dartBeginsRow : OpenClaim := { program := "ytekhnacgejfmjaa", sum := "9bd0ffd912e14b4d1587c9d30ce89018e1afb2f809aa0baa658bdec7251b56ce", func := "parterre/parterrelaw08.DartBegins", spec := "dartBegins", unfollowed := true, recurses := true, apart := false }
def DartBeginsSaid : Prop := dartBeginsRow.holds Try.pinned (OpenSpec.ofChange dartBeginsSpec)

/-- ITS FALSE NEIGHBOUR: 'it returns false'. Refute it at one input. -/
def dartBeginsWrong : ChangeSpec := { name := "dartBegins", fn := fun _ => fun
  | [d1, d2, d3, d4] => { results := [.lit (.bool false)], args := [d1, d2, d3, d4] }
  | _ => none }
def DartBeginsWrongFalsely : Prop := dartBeginsRow.holds Try.pinned (OpenSpec.ofChange dartBeginsWrong)

/- THE SECOND FORM. 'bulk': how many values and letters a reading holds, each counted each time it is reached (what is shared counts as often as it is met; a slice's spare places count too). A statement '..UptoSaid' is the law's where the arguments, and the package variables that the reading takes, are together of bulk at most 1048576: NARROWER than '..Said'. Prove '..Said' where nothing that the law and all that it calls make is longer than what came in: it says more and counts as full. Else prove '..UptoSaid'. A law counts once. -/
mutual
def uptoBulk {H : Type} : DataW H → Nat
  | .lit (.string bytes) => bytes.length + 1
  | .lit _ => 1
  | .nil => 1
  | .ptr d => uptoBulk d + 1
  | .slice elems spare => uptoBulkAll elems + uptoBulkAll spare + 1
  | .agg parts => uptoBulkAll parts + 1
  | .iface _ d => uptoBulk d + 1
  | .map entries => uptoBulkEntries entries + 1
  | .held _ => 1
def uptoBulkAll {H : Type} : List (DataW H) → Nat
  | [] => 0
  | d :: r => uptoBulk d + uptoBulkAll r
def uptoBulkEntries {H : Type} : List (Lit × DataW H) → Nat
  | [] => 0
  | x :: r => uptoBulkEntry x + uptoBulkEntries r
def uptoBulkEntry {H : Type} : Lit × DataW H → Nat
  | (.string bytes, d) => bytes.length + uptoBulk d + 1
  | (_, d) => uptoBulk d + 1
 end
def uptoSmall : (H : Type) → List (DataW H) → Bool := fun _ ds => decide (uptoBulkAll ds ≤ 1048576)
def OpenSpec.upto (s : _root_.Go.ChangeSpec) : _root_.Go.OpenSpec := { _root_.Go.OpenSpec.ofChange s with cond := some uptoSmall }

/-- 'parterrelaw07.NameRefs', WHERE WHAT IT READS IS OF BULK AT MOST 1048576: true; the input reads as it did. -/
def nameRefsUptoRow : OpenClaim := { program := "ytekhnacgejfmjaa", sum := "9bd0ffd912e14b4d1587c9d30ce89018e1afb2f809aa0baa658bdec7251b56ce", func := "parterre/parterrelaw07.NameRefs", spec := "nameRefs", apart := false, narrowed := true }
def NameRefsUptoSaid : Prop := nameRefsUptoRow.holds Try.pinned (OpenSpec.upto nameRefsSpec)

/-- 'parterrelaw07.NameFiles', WHERE WHAT IT READS IS OF BULK AT MOST 1048576: true; the input reads as it did. -/
def nameFilesUptoRow : OpenClaim := { program := "ytekhnacgejfmjaa", sum := "9bd0ffd912e14b4d1587c9d30ce89018e1afb2f809aa0baa658bdec7251b56ce", func := "parterre/parterrelaw07.NameFiles", spec := "nameFiles", inPlace := ["internal/bytealg.IndexByteString"], apart := false, narrowed := true }
def NameFilesUptoSaid : Prop := nameFilesUptoRow.holds Try.pinned (OpenSpec.upto nameFilesSpec)

/-- 'parterrelaw07.NamePicks', WHERE WHAT IT READS IS OF BULK AT MOST 1048576: true; the input reads as it did. -/
def namePicksUptoRow : OpenClaim := { program := "ytekhnacgejfmjaa", sum := "9bd0ffd912e14b4d1587c9d30ce89018e1afb2f809aa0baa658bdec7251b56ce", func := "parterre/parterrelaw07.NamePicks", spec := "namePicks", inPlace := ["internal/bytealg.IndexByteString"], apart := false, narrowed := true }
def NamePicksUptoSaid : Prop := namePicksUptoRow.holds Try.pinned (OpenSpec.upto namePicksSpec)

/-- 'parterrelaw07.NameOrders', WHERE WHAT IT READS IS OF BULK AT MOST 1048576: true; the input reads as it did. -/
def nameOrdersUptoRow : OpenClaim := { program := "ytekhnacgejfmjaa", sum := "9bd0ffd912e14b4d1587c9d30ce89018e1afb2f809aa0baa658bdec7251b56ce", func := "parterre/parterrelaw07.NameOrders", spec := "nameOrders", apart := false, narrowed := true }
def NameOrdersUptoSaid : Prop := nameOrdersUptoRow.holds Try.pinned (OpenSpec.upto nameOrdersSpec)

/-- 'parterrelaw08.DartEnds', WHERE WHAT IT READS IS OF BULK AT MOST 1048576: true; the input reads as it did. -/
def dartEndsUptoRow : OpenClaim := { program := "ytekhnacgejfmjaa", sum := "9bd0ffd912e14b4d1587c9d30ce89018e1afb2f809aa0baa658bdec7251b56ce", func := "parterre/parterrelaw08.DartEnds", spec := "dartEnds", apart := false, narrowed := true }
def DartEndsUptoSaid : Prop := dartEndsUptoRow.holds Try.pinned (OpenSpec.upto dartEndsSpec)

/-- 'parterrelaw08.DartTurns', WHERE WHAT IT READS IS OF BULK AT MOST 1048576: true; the input reads as it did. -/
def dartTurnsUptoRow : OpenClaim := { program := "ytekhnacgejfmjaa", sum := "9bd0ffd912e14b4d1587c9d30ce89018e1afb2f809aa0baa658bdec7251b56ce", func := "parterre/parterrelaw08.DartTurns", spec := "dartTurns", unfollowed := true, recurses := true, apart := false, narrowed := true }
def DartTurnsUptoSaid : Prop := dartTurnsUptoRow.holds Try.pinned (OpenSpec.upto dartTurnsSpec)

/-- 'parterrelaw08.DartBegins', WHERE WHAT IT READS IS OF BULK AT MOST 1048576: true; the input reads as it did. -/
def dartBeginsUptoRow : OpenClaim := { program := "ytekhnacgejfmjaa", sum := "9bd0ffd912e14b4d1587c9d30ce89018e1afb2f809aa0baa658bdec7251b56ce", func := "parterre/parterrelaw08.DartBegins", spec := "dartBegins", unfollowed := true, recurses := true, apart := false, narrowed := true }
def DartBeginsUptoSaid : Prop := dartBeginsUptoRow.holds Try.pinned (OpenSpec.upto dartBeginsSpec)

end Rows
end Go.Proofs.Ytekhnacgejfmjaa
