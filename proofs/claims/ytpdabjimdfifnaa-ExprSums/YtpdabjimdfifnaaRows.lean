/-
  No cell of these rows narrows 'for every input' (looked for: loops, veiled, ifaces, maps, wideKeys, modest, calm, conditions, laid).
  DERIVED. THE GIVEN ROWS OF THIS SEAT. 3 by the template 'for every input the law returns true; each argument reads behind the call as it read before'; 0 by the template 'total and deterministic' (their statements: YtpdabjimdfifnaaTotals.lean).
  GIVEN WITH THE SEED: the statements are not yours to turn. If you find one false, say at which input.
  Laid BY PROGRAM, IN A SANDBOX (cutbox-rows.mjs): the forced cells as the released guide's own fill.sh prints them over the translation bd6a641a039bd09c… (all of the seat's roots in one cut). By AI agents, Wed Nov 11 2026. No macro, syntax, notation, axiom, sorry.
-/
import Derived.Test.YtpdabjimdfifnaaChecked
import GoSem.Claim
import GoSem.ClaimJoined
import GoSem.ClaimMapViews
import Derived.JoinedTies
import Derived.KernelRfl
namespace Go.Proofs.Ytpdabjimdfifnaa
/- THE CELL 'sum', in the pinned program and in every row, IS THE sha256 OF THE DUMP (.gsa) THAT YtpdabjimdfifnaaProg.lean LOADS. Nothing in Lean hashes anything: it is a label: what it is worth is what the hold of that sum in a sandbox is worth. -/
noncomputable def Try.pinned : Pinned := { name := "ytpdabjimdfifnaa", sum := "bd6a641a039bd09c88c207cff7d53dabb5000bec0add30ed248c8ce55d3200ff", checked := Try.checked }
namespace Rows
def none {H : Type} : Left H := { results := [], args := [] }

/-- 'lemmatalaw2.ExprSize': WHATEVER THE INPUT: true; the input reads as it did. -/
def exprSizeSpec : ChangeSpec := { name := "exprSize", fn := fun _ => fun
  | [d] => { results := [.lit (.bool true)], args := [d] }
  | _ => none }
def exprSizeRow : OpenClaim := { program := "ytpdabjimdfifnaa", sum := "bd6a641a039bd09c88c207cff7d53dabb5000bec0add30ed248c8ce55d3200ff", func := "lemmata/lemmatalaw2.ExprSize", spec := "exprSize", inPlace := ["internal/bytealg.abigen_runtime_cmpstring"], unfollowed := true, recurses := true, apart := false }
def ExprSizeSaid : Prop := exprSizeRow.holds Try.pinned (OpenSpec.ofChange exprSizeSpec)

/-- ITS FALSE NEIGHBOUR: 'it returns false'. Refute it at one input. -/
def exprSizeWrong : ChangeSpec := { name := "exprSize", fn := fun _ => fun
  | [d] => { results := [.lit (.bool false)], args := [d] }
  | _ => none }
def ExprSizeWrongFalsely : Prop := exprSizeRow.holds Try.pinned (OpenSpec.ofChange exprSizeWrong)

/-- 'lemmatalaw2.ExprMaps': WHATEVER THE INPUT: true; the input reads as it did. -/
def exprMapsSpec : ChangeSpec := { name := "exprMaps", fn := fun _ => fun
  | [d] => { results := [.lit (.bool true)], args := [d] }
  | _ => none }
def exprMapsRow : OpenClaim := { program := "ytpdabjimdfifnaa", sum := "bd6a641a039bd09c88c207cff7d53dabb5000bec0add30ed248c8ce55d3200ff", func := "lemmata/lemmatalaw2.ExprMaps", spec := "exprMaps", inPlace := ["internal/bytealg.abigen_runtime_cmpstring"], unfollowed := true, recurses := true, apart := false }
def ExprMapsSaid : Prop := exprMapsRow.holds Try.pinned (OpenSpec.ofChange exprMapsSpec)

/-- ITS FALSE NEIGHBOUR: 'it returns false'. Refute it at one input. -/
def exprMapsWrong : ChangeSpec := { name := "exprMaps", fn := fun _ => fun
  | [d] => { results := [.lit (.bool false)], args := [d] }
  | _ => none }
def ExprMapsWrongFalsely : Prop := exprMapsRow.holds Try.pinned (OpenSpec.ofChange exprMapsWrong)

/-- 'lemmatalaw2.ExprSums': WHATEVER THE INPUT: true; the input reads as it did. -/
def exprSumsSpec : ChangeSpec := { name := "exprSums", fn := fun _ => fun
  | [d1, d2] => { results := [.lit (.bool true)], args := [d1, d2] }
  | _ => none }
def exprSumsRow : OpenClaim := { program := "ytpdabjimdfifnaa", sum := "bd6a641a039bd09c88c207cff7d53dabb5000bec0add30ed248c8ce55d3200ff", func := "lemmata/lemmatalaw2.ExprSums", spec := "exprSums", inPlace := ["internal/bytealg.abigen_runtime_cmpstring"], unfollowed := true, recurses := true, apart := false }
def ExprSumsSaid : Prop := exprSumsRow.holds Try.pinned (OpenSpec.ofChange exprSumsSpec)

/-- ITS FALSE NEIGHBOUR: 'it returns false'. Refute it at one input. -/
def exprSumsWrong : ChangeSpec := { name := "exprSums", fn := fun _ => fun
  | [d1, d2] => { results := [.lit (.bool false)], args := [d1, d2] }
  | _ => none }
def ExprSumsWrongFalsely : Prop := exprSumsRow.holds Try.pinned (OpenSpec.ofChange exprSumsWrong)

/- THE SECOND FORM. 'bulk': how many values and letters a reading holds, each counted each time it is reached (what is shared counts as often as it is met; a slice's spare places count too). A statement '..UptoSaid' is the law's where the arguments, and the package variables that the reading takes, are together of bulk at most 1048576: NARROWER than '..Said'. Prove '..Said' where nothing that the law and all that it calls make is longer than what came in: it says more and counts as full. Else prove '..UptoSaid'. A law counts once. -/
mutual
def uptoBulk {H : Type} : DataW H → Nat
  | .lit (.string bytes) => bytes.length + 1
  | .lit _ => 1
  | .nil => 1
  | .ptr d => uptoBulk d + 1
  | .slice elems spare => uptoBulkAll elems + uptoBulkAll spare + 1
  | .agg parts => uptoBulkAll parts + 1
  | .iface _ d => uptoBulk d + 1
  | .map entries => uptoBulkEntries entries + 1
  | .held _ => 1
def uptoBulkAll {H : Type} : List (DataW H) → Nat
  | [] => 0
  | d :: r => uptoBulk d + uptoBulkAll r
def uptoBulkEntries {H : Type} : List (Lit × DataW H) → Nat
  | [] => 0
  | x :: r => uptoBulkEntry x + uptoBulkEntries r
def uptoBulkEntry {H : Type} : Lit × DataW H → Nat
  | (.string bytes, d) => bytes.length + uptoBulk d + 1
  | (_, d) => uptoBulk d + 1
 end
def uptoSmall : (H : Type) → List (DataW H) → Bool := fun _ ds => decide (uptoBulkAll ds ≤ 1048576)
def OpenSpec.upto (s : _root_.Go.ChangeSpec) : _root_.Go.OpenSpec := { _root_.Go.OpenSpec.ofChange s with cond := some uptoSmall }

/-- 'lemmatalaw2.ExprSize', WHERE WHAT IT READS IS OF BULK AT MOST 1048576: true; the input reads as it did. -/
def exprSizeUptoRow : OpenClaim := { program := "ytpdabjimdfifnaa", sum := "bd6a641a039bd09c88c207cff7d53dabb5000bec0add30ed248c8ce55d3200ff", func := "lemmata/lemmatalaw2.ExprSize", spec := "exprSize", inPlace := ["internal/bytealg.abigen_runtime_cmpstring"], unfollowed := true, recurses := true, apart := false, narrowed := true }
def ExprSizeUptoSaid : Prop := exprSizeUptoRow.holds Try.pinned (OpenSpec.upto exprSizeSpec)

/-- 'lemmatalaw2.ExprMaps', WHERE WHAT IT READS IS OF BULK AT MOST 1048576: true; the input reads as it did. -/
def exprMapsUptoRow : OpenClaim := { program := "ytpdabjimdfifnaa", sum := "bd6a641a039bd09c88c207cff7d53dabb5000bec0add30ed248c8ce55d3200ff", func := "lemmata/lemmatalaw2.ExprMaps", spec := "exprMaps", inPlace := ["internal/bytealg.abigen_runtime_cmpstring"], unfollowed := true, recurses := true, apart := false, narrowed := true }
def ExprMapsUptoSaid : Prop := exprMapsUptoRow.holds Try.pinned (OpenSpec.upto exprMapsSpec)

/-- 'lemmatalaw2.ExprSums', WHERE WHAT IT READS IS OF BULK AT MOST 1048576: true; the input reads as it did. -/
def exprSumsUptoRow : OpenClaim := { program := "ytpdabjimdfifnaa", sum := "bd6a641a039bd09c88c207cff7d53dabb5000bec0add30ed248c8ce55d3200ff", func := "lemmata/lemmatalaw2.ExprSums", spec := "exprSums", inPlace := ["internal/bytealg.abigen_runtime_cmpstring"], unfollowed := true, recurses := true, apart := false, narrowed := true }
def ExprSumsUptoSaid : Prop := exprSumsUptoRow.holds Try.pinned (OpenSpec.upto exprSumsSpec)

end Rows
end Go.Proofs.Ytpdabjimdfifnaa
