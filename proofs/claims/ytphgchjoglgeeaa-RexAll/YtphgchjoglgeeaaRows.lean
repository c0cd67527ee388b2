/-
  No cell of these rows narrows 'for every input' (looked for: loops, veiled, ifaces, maps, wideKeys, modest, calm, conditions, laid).
  DERIVED. THE GIVEN ROWS OF THIS SEAT. 3 by the template 'for every input the law returns true; each argument reads behind the call as it read before'; 0 by the template 'total and deterministic' (their statements: YtphgchjoglgeeaaTotals.lean).
  GIVEN WITH THE SEED: the statements are not yours to turn. If you find one false, say at which input.
  Laid BY PROGRAM, IN A SANDBOX (cutbox-rows.mjs): the forced cells as the released guide's own fill.sh prints them over the translation f6795ca3745067a8… (all of the seat's roots in one cut). By AI agents, Wed Nov 11 2026. No macro, syntax, notation, axiom, sorry.
-/
import Derived.Test.YtphgchjoglgeeaaChecked
import GoSem.Claim
import GoSem.ClaimJoined
import GoSem.ClaimMapViews
import Derived.JoinedTies
import Derived.KernelRfl
namespace Go.Proofs.Ytphgchjoglgeeaa
/- THE CELL 'sum', in the pinned program and in every row, IS THE sha256 OF THE DUMP (.gsa) THAT YtphgchjoglgeeaaProg.lean LOADS. Nothing in Lean hashes anything: it is a label: what it is worth is what the hold of that sum in a sandbox is worth. -/
noncomputable def Try.pinned : Pinned := { name := "ytphgchjoglgeeaa", sum := "f6795ca3745067a8c02e1290f29f27e39943c06ea20688377abe9186b18bc026", checked := Try.checked }
namespace Rows
def none {H : Type} : Left H := { results := [], args := [] }

/-- 'lemmatalaw3.RexAll': WHATEVER THE INPUT: true; the input reads as it did. -/
def rexAllSpec : ChangeSpec := { name := "rexAll", fn := fun _ => fun
  | [d1, d2, d3, d4] => { results := [.lit (.bool true)], args := [d1, d2, d3, d4] }
  | _ => none }
def rexAllRow : OpenClaim := { program := "ytphgchjoglgeeaa", sum := "f6795ca3745067a8c02e1290f29f27e39943c06ea20688377abe9186b18bc026", func := "lemmata/lemmatalaw3.RexAll", spec := "rexAll", inPlace := ["internal/bytealg.IndexByteString"], unfollowed := true, recurses := true, apart := false }
def RexAllSaid : Prop := rexAllRow.holds Try.pinned (OpenSpec.ofChange rexAllSpec)

/-- ITS FALSE NEIGHBOUR: 'it returns false'. Refute it at one input. -/
def rexAllWrong : ChangeSpec := { name := "rexAll", fn := fun _ => fun
  | [d1, d2, d3, d4] => { results := [.lit (.bool false)], args := [d1, d2, d3, d4] }
  | _ => none }
def RexAllWrongFalsely : Prop := rexAllRow.holds Try.pinned (OpenSpec.ofChange rexAllWrong)

/-- 'lemmatalaw3.RexCount': WHATEVER THE INPUT: true; the input reads as it did. -/
def rexCountSpec : ChangeSpec := { name := "rexCount", fn := fun _ => fun
  | [d1, d2] => { results := [.lit (.bool true)], args := [d1, d2] }
  | _ => none }
def rexCountRow : OpenClaim := { program := "ytphgchjoglgeeaa", sum := "f6795ca3745067a8c02e1290f29f27e39943c06ea20688377abe9186b18bc026", func := "lemmata/lemmatalaw3.RexCount", spec := "rexCount", inPlace := ["internal/bytealg.IndexByteString"], unfollowed := true, recurses := true, apart := false }
def RexCountSaid : Prop := rexCountRow.holds Try.pinned (OpenSpec.ofChange rexCountSpec)

/-- ITS FALSE NEIGHBOUR: 'it returns false'. Refute it at one input. -/
def rexCountWrong : ChangeSpec := { name := "rexCount", fn := fun _ => fun
  | [d1, d2] => { results := [.lit (.bool false)], args := [d1, d2] }
  | _ => none }
def RexCountWrongFalsely : Prop := rexCountRow.holds Try.pinned (OpenSpec.ofChange rexCountWrong)

/-- 'lemmatalaw3.RexRound': WHATEVER THE INPUT: true; the input reads as it did. -/
def rexRoundSpec : ChangeSpec := { name := "rexRound", fn := fun _ => fun
  | [d1, d2] => { results := [.lit (.bool true)], args := [d1, d2] }
  | _ => none }
def rexRoundRow : OpenClaim := { program := "ytphgchjoglgeeaa", sum := "f6795ca3745067a8c02e1290f29f27e39943c06ea20688377abe9186b18bc026", func := "lemmata/lemmatalaw3.RexRound", spec := "rexRound", inPlace := ["internal/bytealg.IndexByteString"], unfollowed := true, recurses := true, apart := false }
def RexRoundSaid : Prop := rexRoundRow.holds Try.pinned (OpenSpec.ofChange rexRoundSpec)

/-- ITS FALSE NEIGHBOUR: 'it returns false'. Refute it at one input. -/
def rexRoundWrong : ChangeSpec := { name := "rexRound", fn := fun _ => fun
  | [d1, d2] => { results := [.lit (.bool false)], args := [d1, d2] }
  | _ => none }
def RexRoundWrongFalsely : Prop := rexRoundRow.holds Try.pinned (OpenSpec.ofChange rexRoundWrong)

/- THE SECOND FORM. 'bulk': how many values and letters a reading holds, each counted each time it is reached (what is shared counts as often as it is met; a slice's spare places count too). A statement '..UptoSaid' is the law's where the arguments, and the package variables that the reading takes, are together of bulk at most 1048576: NARROWER than '..Said'. Prove '..Said' where nothing that the law and all that it calls make is longer than what came in: it says more and counts as full. Else prove '..UptoSaid'. A law counts once. -/
mutual
def uptoBulk {H : Type} : DataW H → Nat
  | .lit (.string bytes) => bytes.length + 1
  | .lit _ => 1
  | .nil => 1
  | .ptr d => uptoBulk d + 1
  | .slice elems spare => uptoBulkAll elems + uptoBulkAll spare + 1
  | .agg parts => uptoBulkAll parts + 1
  | .iface _ d => uptoBulk d + 1
  | .map entries => uptoBulkEntries entries + 1
  | .held _ => 1
def uptoBulkAll {H : Type} : List (DataW H) → Nat
  | [] => 0
  | d :: r => uptoBulk d + uptoBulkAll r
def uptoBulkEntries {H : Type} : List (Lit × DataW H) → Nat
  | [] => 0
  | x :: r => uptoBulkEntry x + uptoBulkEntries r
def uptoBulkEntry {H : Type} : Lit × DataW H → Nat
  | (.string bytes, d) => bytes.length + uptoBulk d + 1
  | (_, d) => uptoBulk d + 1
 end
def uptoSmall : (H : Type) → List (DataW H) → Bool := fun _ ds => decide (uptoBulkAll ds ≤ 1048576)
def OpenSpec.upto (s : _root_.Go.ChangeSpec) : _root_.Go.OpenSpec := { _root_.Go.OpenSpec.ofChange s with cond := some uptoSmall }

/-- 'lemmatalaw3.RexAll', WHERE WHAT IT READS IS OF BULK AT MOST 1048576: true; the input reads as it did. -/
def rexAllUptoRow : OpenClaim := { program := "ytphgchjoglgeeaa", sum := "f6795ca3745067a8c02e1290f29f27e39943c06ea20688377abe9186b18bc026", func := "lemmata/lemmatalaw3.RexAll", spec := "rexAll", inPlace := ["internal/bytealg.IndexByteString"], unfollowed := true, recurses := true, apart := false, narrowed := true }
def RexAllUptoSaid : Prop := rexAllUptoRow.holds Try.pinned (OpenSpec.upto rexAllSpec)

/-- 'lemmatalaw3.RexCount', WHERE WHAT IT READS IS OF BULK AT MOST 1048576: true; the input reads as it did. -/
def rexCountUptoRow : OpenClaim := { program := "ytphgchjoglgeeaa", sum := "f6795ca3745067a8c02e1290f29f27e39943c06ea20688377abe9186b18bc026", func := "lemmata/lemmatalaw3.RexCount", spec := "rexCount", inPlace := ["internal/bytealg.IndexByteString"], unfollowed := true, recurses := true, apart := false, narrowed := true }
def RexCountUptoSaid : Prop := rexCountUptoRow.holds Try.pinned (OpenSpec.upto rexCountSpec)

/-- 'lemmatalaw3.RexRound', WHERE WHAT IT READS IS OF BULK AT MOST 1048576: true; the input reads as it did. -/
def rexRoundUptoRow : OpenClaim := { program := "ytphgchjoglgeeaa", sum := "f6795ca3745067a8c02e1290f29f27e39943c06ea20688377abe9186b18bc026", func := "lemmata/lemmatalaw3.RexRound", spec := "rexRound", inPlace := ["internal/bytealg.IndexByteString"], unfollowed := true, recurses := true, apart := false, narrowed := true }
def RexRoundUptoSaid : Prop := rexRoundUptoRow.holds Try.pinned (OpenSpec.upto rexRoundSpec)

end Rows
end Go.Proofs.Ytphgchjoglgeeaa
