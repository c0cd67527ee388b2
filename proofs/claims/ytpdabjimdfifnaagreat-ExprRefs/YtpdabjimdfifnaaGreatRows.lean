/-
  No cell of these rows narrows 'for every input' (looked for: loops, veiled, ifaces, maps, wideKeys, modest, calm, conditions, laid).
  DERIVED. THE GIVEN ROWS OF THIS SEAT. 3 by the template 'for every input the law returns true; each argument reads behind the call as it read before'; 0 by the template 'total and deterministic' (their statements: YtpdabjimdfifnaaGreatTotals.lean).
  GIVEN WITH THE SEED: the statements are not yours to turn. If you find one false, say at which input.
  Laid BY PROGRAM, IN A SANDBOX (cutbox-rows.mjs): the forced cells as the released guide's own fill.sh prints them over the translation c4bbeb23e2d858e7… (all of the seat's roots in one cut). By AI agents, Wed Nov 11 2026. No macro, syntax, notation, axiom, sorry.
-/
import Derived.Test.YtpdabjimdfifnaaGreatChecked
import GoSem.Claim
import GoSem.ClaimJoined
import GoSem.ClaimMapViews
import Derived.JoinedTies
import Derived.KernelRfl
namespace Go.Proofs.YtpdabjimdfifnaaGreat
/- THE CELL 'sum', in the pinned program and in every row, IS THE sha256 OF THE DUMP (.gsa) THAT YtpdabjimdfifnaaGreatProg.lean LOADS. Nothing in Lean hashes anything: it is a label: what it is worth is what the hold of that sum in a sandbox is worth. -/
noncomputable def Tryz.pinned : Pinned := { name := "ytpdabjimdfifnaagreat", sum := "c4bbeb23e2d858e7fdad558ec9f93b08fdb9e3e0683ddc61209f915ec13793b7", checked := Tryz.checked }
namespace Rows
def none {H : Type} : Left H := { results := [], args := [] }

/-- 'lemmatalaw2.ExprTotal': WHATEVER THE INPUT: true; the input reads as it did. -/
def exprTotalSpec : ChangeSpec := { name := "exprTotal", fn := fun _ => fun
  | [d1, d2] => { results := [.lit (.bool true)], args := [d1, d2] }
  | _ => none }
def exprTotalRow : OpenClaim := { program := "ytpdabjimdfifnaagreat", sum := "c4bbeb23e2d858e7fdad558ec9f93b08fdb9e3e0683ddc61209f915ec13793b7", func := "lemmata/lemmatalaw2.ExprTotal", spec := "exprTotal", inPlace := ["internal/bytealg.abigen_runtime_cmpstring"], unfollowed := true, recurses := true, apart := false }
def ExprTotalSaid : Prop := exprTotalRow.holds Tryz.pinned (OpenSpec.ofChange exprTotalSpec)

/-- ITS FALSE NEIGHBOUR: 'it returns false'. Refute it at one input. -/
def exprTotalWrong : ChangeSpec := { name := "exprTotal", fn := fun _ => fun
  | [d1, d2] => { results := [.lit (.bool false)], args := [d1, d2] }
  | _ => none }
def ExprTotalWrongFalsely : Prop := exprTotalRow.holds Tryz.pinned (OpenSpec.ofChange exprTotalWrong)

/-- 'lemmatalaw2.ExprRefs': WHATEVER THE INPUT: true; the input reads as it did. -/
def exprRefsSpec : ChangeSpec := { name := "exprRefs", fn := fun _ => fun
  | [d1, d2, d3] => { results := [.lit (.bool true)], args := [d1, d2, d3] }
  | _ => none }
def exprRefsRow : OpenClaim := { program := "ytpdabjimdfifnaagreat", sum := "c4bbeb23e2d858e7fdad558ec9f93b08fdb9e3e0683ddc61209f915ec13793b7", func := "lemmata/lemmatalaw2.ExprRefs", spec := "exprRefs", inPlace := ["internal/bytealg.abigen_runtime_cmpstring"], unfollowed := true, recurses := true, apart := false }
def ExprRefsSaid : Prop := exprRefsRow.holds Tryz.pinned (OpenSpec.ofChange exprRefsSpec)

/-- ITS FALSE NEIGHBOUR: 'it returns false'. Refute it at one input. -/
def exprRefsWrong : ChangeSpec := { name := "exprRefs", fn := fun _ => fun
  | [d1, d2, d3] => { results := [.lit (.bool false)], args := [d1, d2, d3] }
  | _ => none }
def ExprRefsWrongFalsely : Prop := exprRefsRow.holds Tryz.pinned (OpenSpec.ofChange exprRefsWrong)

/-- 'lemmatalaw2.ExprChoice': WHATEVER THE INPUT: true; the input reads as it did. -/
def exprChoiceSpec : ChangeSpec := { name := "exprChoice", fn := fun _ => fun
  | [d1, d2, d3] => { results := [.lit (.bool true)], args := [d1, d2, d3] }
  | _ => none }
def exprChoiceRow : OpenClaim := { program := "ytpdabjimdfifnaagreat", sum := "c4bbeb23e2d858e7fdad558ec9f93b08fdb9e3e0683ddc61209f915ec13793b7", func := "lemmata/lemmatalaw2.ExprChoice", spec := "exprChoice", inPlace := ["internal/bytealg.abigen_runtime_cmpstring"], unfollowed := true, recurses := true, apart := false }
def ExprChoiceSaid : Prop := exprChoiceRow.holds Tryz.pinned (OpenSpec.ofChange exprChoiceSpec)

/-- ITS FALSE NEIGHBOUR: 'it returns false'. Refute it at one input. -/
def exprChoiceWrong : ChangeSpec := { name := "exprChoice", fn := fun _ => fun
  | [d1, d2, d3] => { results := [.lit (.bool false)], args := [d1, d2, d3] }
  | _ => none }
def ExprChoiceWrongFalsely : Prop := exprChoiceRow.holds Tryz.pinned (OpenSpec.ofChange exprChoiceWrong)

/- THE SECOND FORM. 'bulk': how many values and letters a reading holds, each counted each time it is reached (what is shared counts as often as it is met; a slice's spare places count too). A statement '..UptoSaid' is the law's where the arguments, and the package variables that the reading takes, are together of bulk at most 1048576: NARROWER than '..Said'. Prove '..Said' where nothing that the law and all that it calls make is longer than what came in: it says more and counts as full. Else prove '..UptoSaid'. A law counts once. -/
mutual
def uptoBulk {H : Type} : DataW H → Nat
  | .lit (.string bytes) => bytes.length + 1
  | .lit _ => 1
  | .nil => 1
  | .ptr d => uptoBulk d + 1
  | .slice elems spare => uptoBulkAll elems + uptoBulkAll spare + 1
  | .agg parts => uptoBulkAll parts + 1
  | .iface _ d => uptoBulk d + 1
  | .map entries => uptoBulkEntries entries + 1
  | .held _ => 1
def uptoBulkAll {H : Type} : List (DataW H) → Nat
  | [] => 0
  | d :: r => uptoBulk d + uptoBulkAll r
def uptoBulkEntries {H : Type} : List (Lit × DataW H) → Nat
  | [] => 0
  | x :: r => uptoBulkEntry x + uptoBulkEntries r
def uptoBulkEntry {H : Type} : Lit × DataW H → Nat
  | (.string bytes, d) => bytes.length + uptoBulk d + 1
  | (_, d) => uptoBulk d + 1
 end
def uptoSmall : (H : Type) → List (DataW H) → Bool := fun _ ds => decide (uptoBulkAll ds ≤ 1048576)
def OpenSpec.upto (s : _root_.Go.ChangeSpec) : _root_.Go.OpenSpec := { _root_.Go.OpenSpec.ofChange s with cond := some uptoSmall }

/-- 'lemmatalaw2.ExprTotal', WHERE WHAT IT READS IS OF BULK AT MOST 1048576: true; the input reads as it did. -/
def exprTotalUptoRow : OpenClaim := { program := "ytpdabjimdfifnaagreat", sum := "c4bbeb23e2d858e7fdad558ec9f93b08fdb9e3e0683ddc61209f915ec13793b7", func := "lemmata/lemmatalaw2.ExprTotal", spec := "exprTotal", inPlace := ["internal/bytealg.abigen_runtime_cmpstring"], unfollowed := true, recurses := true, apart := false, narrowed := true }
def ExprTotalUptoSaid : Prop := exprTotalUptoRow.holds Tryz.pinned (OpenSpec.upto exprTotalSpec)

/-- 'lemmatalaw2.ExprRefs', WHERE WHAT IT READS IS OF BULK AT MOST 1048576: true; the input reads as it did. -/
def exprRefsUptoRow : OpenClaim := { program := "ytpdabjimdfifnaagreat", sum := "c4bbeb23e2d858e7fdad558ec9f93b08fdb9e3e0683ddc61209f915ec13793b7", func := "lemmata/lemmatalaw2.ExprRefs", spec := "exprRefs", inPlace := ["internal/bytealg.abigen_runtime_cmpstring"], unfollowed := true, recurses := true, apart := false, narrowed := true }
def ExprRefsUptoSaid : Prop := exprRefsUptoRow.holds Tryz.pinned (OpenSpec.upto exprRefsSpec)

/-- 'lemmatalaw2.ExprChoice', WHERE WHAT IT READS IS OF BULK AT MOST 1048576: true; the input reads as it did. -/
def exprChoiceUptoRow : OpenClaim := { program := "ytpdabjimdfifnaagreat", sum := "c4bbeb23e2d858e7fdad558ec9f93b08fdb9e3e0683ddc61209f915ec13793b7", func := "lemmata/lemmatalaw2.ExprChoice", spec := "exprChoice", inPlace := ["internal/bytealg.abigen_runtime_cmpstring"], unfollowed := true, recurses := true, apart := false, narrowed := true }
def ExprChoiceUptoSaid : Prop := exprChoiceUptoRow.holds Tryz.pinned (OpenSpec.upto exprChoiceSpec)

end Rows
end Go.Proofs.YtpdabjimdfifnaaGreat
