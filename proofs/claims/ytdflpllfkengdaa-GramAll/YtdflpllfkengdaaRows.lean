/-
  NARROWER THAN 'FOR EVERY INPUT', by the rows' own cells (each row's printed sentence says how): GramAll: loops.
  DERIVED. THE GIVEN ROWS OF THIS SEAT. 3 by the template 'for every input the law returns true; each argument reads behind the call as it read before'; 0 by the template 'total and deterministic' (their statements: YtdflpllfkengdaaTotals.lean).
  GIVEN WITH THE SEED: the statements are not yours to turn. If you find one false, say at which input.
  Laid BY PROGRAM, IN A SANDBOX (cutbox-rows.mjs): the forced cells as the released guide's own fill.sh prints them over the translation b644b884d658b57c… (all of the seat's roots in one cut). By AI agents, Wed Nov 11 2026. No macro, syntax, notation, axiom, sorry.
-/
import Derived.Test.YtdflpllfkengdaaChecked
import GoSem.Claim
import GoSem.ClaimJoined
import GoSem.ClaimMapViews
import Derived.JoinedTies
import Derived.KernelRfl
namespace Go.Proofs.Ytdflpllfkengdaa
/- THE CELL 'sum', in the pinned program and in every row, IS THE sha256 OF THE DUMP (.gsa) THAT YtdflpllfkengdaaProg.lean LOADS. Nothing in Lean hashes anything: it is a label: what it is worth is what the hold of that sum in a sandbox is worth. -/
noncomputable def Try.pinned : Pinned := { name := "ytdflpllfkengdaa", sum := "b644b884d658b57ca25f0089f1d5e933d1411f96c0e5b9a955fe59c7bbf80072", checked := Try.checked }
namespace Rows
def none {H : Type} : Left H := { results := [], args := [] }

/-- 'lemmatalaw11.GramAll': WHATEVER THE INPUT: true; the input reads as it did. -/
def gramAllSpec : ChangeSpec := { name := "gramAll", fn := fun _ => fun
  | [d1, d2, d3, d4, d5] => { results := [.lit (.bool true)], args := [d1, d2, d3, d4, d5] }
  | _ => none }
def gramAllRow : OpenClaim := { program := "ytdflpllfkengdaa", sum := "b644b884d658b57ca25f0089f1d5e933d1411f96c0e5b9a955fe59c7bbf80072", func := "lemmata/lemmatalaw11.GramAll", spec := "gramAll", unfollowed := true, recurses := true, loops := true, apart := false }
def GramAllSaid : Prop := gramAllRow.holds Try.pinned (OpenSpec.ofChange gramAllSpec)

/-- ITS FALSE NEIGHBOUR: 'it returns false'. Refute it at one input. -/
def gramAllWrong : ChangeSpec := { name := "gramAll", fn := fun _ => fun
  | [d1, d2, d3, d4, d5] => { results := [.lit (.bool false)], args := [d1, d2, d3, d4, d5] }
  | _ => none }
def GramAllWrongFalsely : Prop := gramAllRow.holds Try.pinned (OpenSpec.ofChange gramAllWrong)

/-- 'lemmatalaw11.GramForms': WHATEVER THE INPUT: true; the input reads as it did. -/
def gramFormsSpec : ChangeSpec := { name := "gramForms", fn := fun _ => fun
  | [] => { results := [.lit (.bool true)], args := [] }
  | _ => none }
def gramFormsRow : OpenClaim := { program := "ytdflpllfkengdaa", sum := "b644b884d658b57ca25f0089f1d5e933d1411f96c0e5b9a955fe59c7bbf80072", func := "lemmata/lemmatalaw11.GramForms", spec := "gramForms", unfollowed := true, recurses := true, apart := false }
def GramFormsSaid : Prop := gramFormsRow.holds Try.pinned (OpenSpec.ofChange gramFormsSpec)

/-- ITS FALSE NEIGHBOUR: 'it returns false'. Refute it at one input. -/
def gramFormsWrong : ChangeSpec := { name := "gramForms", fn := fun _ => fun
  | [] => { results := [.lit (.bool false)], args := [] }
  | _ => none }
def GramFormsWrongFalsely : Prop := gramFormsRow.holds Try.pinned (OpenSpec.ofChange gramFormsWrong)

/-- 'lemmatalaw11.GramOffset': WHATEVER THE INPUT: true; the input reads as it did. -/
def gramOffsetSpec : ChangeSpec := { name := "gramOffset", fn := fun _ => fun
  | [d] => { results := [.lit (.bool true)], args := [d] }
  | _ => none }
def gramOffsetRow : OpenClaim := { program := "ytdflpllfkengdaa", sum := "b644b884d658b57ca25f0089f1d5e933d1411f96c0e5b9a955fe59c7bbf80072", func := "lemmata/lemmatalaw11.GramOffset", spec := "gramOffset", unfollowed := true, recurses := true, apart := false }
def GramOffsetSaid : Prop := gramOffsetRow.holds Try.pinned (OpenSpec.ofChange gramOffsetSpec)

/-- ITS FALSE NEIGHBOUR: 'it returns false'. Refute it at one input. -/
def gramOffsetWrong : ChangeSpec := { name := "gramOffset", fn := fun _ => fun
  | [d] => { results := [.lit (.bool false)], args := [d] }
  | _ => none }
def GramOffsetWrongFalsely : Prop := gramOffsetRow.holds Try.pinned (OpenSpec.ofChange gramOffsetWrong)

/- THE SECOND FORM. 'bulk': how many values and letters a reading holds, each counted each time it is reached (what is shared counts as often as it is met; a slice's spare places count too). A statement '..UptoSaid' is the law's where the arguments, and the package variables that the reading takes, are together of bulk at most 1048576: NARROWER than '..Said'. Prove '..Said' where nothing that the law and all that it calls make is longer than what came in: it says more and counts as full. Else prove '..UptoSaid'. A law counts once. -/
mutual
def uptoBulk {H : Type} : DataW H → Nat
  | .lit (.string bytes) => bytes.length + 1
  | .lit _ => 1
  | .nil => 1
  | .ptr d => uptoBulk d + 1
  | .slice elems spare => uptoBulkAll elems + uptoBulkAll spare + 1
  | .agg parts => uptoBulkAll parts + 1
  | .iface _ d => uptoBulk d + 1
  | .map entries => uptoBulkEntries entries + 1
  | .held _ => 1
def uptoBulkAll {H : Type} : List (DataW H) → Nat
  | [] => 0
  | d :: r => uptoBulk d + uptoBulkAll r
def uptoBulkEntries {H : Type} : List (Lit × DataW H) → Nat
  | [] => 0
  | x :: r => uptoBulkEntry x + uptoBulkEntries r
def uptoBulkEntry {H : Type} : Lit × DataW H → Nat
  | (.string bytes, d) => bytes.length + uptoBulk d + 1
  | (_, d) => uptoBulk d + 1
 end
def uptoSmall : (H : Type) → List (DataW H) → Bool := fun _ ds => decide (uptoBulkAll ds ≤ 1048576)
def OpenSpec.upto (s : _root_.Go.ChangeSpec) : _root_.Go.OpenSpec := { _root_.Go.OpenSpec.ofChange s with cond := some uptoSmall }

/-- 'lemmatalaw11.GramAll', WHERE WHAT IT READS IS OF BULK AT MOST 1048576: true; the input reads as it did. -/
def gramAllUptoRow : OpenClaim := { program := "ytdflpllfkengdaa", sum := "b644b884d658b57ca25f0089f1d5e933d1411f96c0e5b9a955fe59c7bbf80072", func := "lemmata/lemmatalaw11.GramAll", spec := "gramAll", unfollowed := true, recurses := true, loops := true, apart := false, narrowed := true }
def GramAllUptoSaid : Prop := gramAllUptoRow.holds Try.pinned (OpenSpec.upto gramAllSpec)

/-- 'lemmatalaw11.GramForms', WHERE WHAT IT READS IS OF BULK AT MOST 1048576: true; the input reads as it did. -/
def gramFormsUptoRow : OpenClaim := { program := "ytdflpllfkengdaa", sum := "b644b884d658b57ca25f0089f1d5e933d1411f96c0e5b9a955fe59c7bbf80072", func := "lemmata/lemmatalaw11.GramForms", spec := "gramForms", unfollowed := true, recurses := true, apart := false, narrowed := true }
def GramFormsUptoSaid : Prop := gramFormsUptoRow.holds Try.pinned (OpenSpec.upto gramFormsSpec)

/-- 'lemmatalaw11.GramOffset', WHERE WHAT IT READS IS OF BULK AT MOST 1048576: true; the input reads as it did. -/
def gramOffsetUptoRow : OpenClaim := { program := "ytdflpllfkengdaa", sum := "b644b884d658b57ca25f0089f1d5e933d1411f96c0e5b9a955fe59c7bbf80072", func := "lemmata/lemmatalaw11.GramOffset", spec := "gramOffset", unfollowed := true, recurses := true, apart := false, narrowed := true }
def GramOffsetUptoSaid : Prop := gramOffsetUptoRow.holds Try.pinned (OpenSpec.upto gramOffsetSpec)

end Rows
end Go.Proofs.Ytdflpllfkengdaa
