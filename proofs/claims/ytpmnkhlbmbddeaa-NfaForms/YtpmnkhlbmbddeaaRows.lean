/-
  No cell of these rows narrows 'for every input' (looked for: loops, veiled, ifaces, maps, wideKeys, modest, calm, conditions, laid).
  DERIVED. THE GIVEN ROWS OF THIS SEAT. 4 by the template 'for every input the law returns true; each argument reads behind the call as it read before'; 0 by the template 'total and deterministic' (their statements: YtpmnkhlbmbddeaaTotals.lean).
  GIVEN WITH THE SEED: the statements are not yours to turn. If you find one false, say at which input.
  Laid BY PROGRAM, IN A SANDBOX (cutbox-rows.mjs): the forced cells as the released guide's own fill.sh prints them over the translation b0c3c89b890351f8… (all of the seat's roots in one cut). By AI agents, Wed Nov 11 2026. No macro, syntax, notation, axiom, sorry.
-/
import Derived.Test.YtpmnkhlbmbddeaaChecked
import GoSem.Claim
import GoSem.ClaimJoined
import GoSem.ClaimMapViews
import Derived.JoinedTies
import Derived.KernelRfl
namespace Go.Proofs.Ytpmnkhlbmbddeaa
/- THE CELL 'sum', in the pinned program and in every row, IS THE sha256 OF THE DUMP (.gsa) THAT YtpmnkhlbmbddeaaProg.lean LOADS. Nothing in Lean hashes anything: it is a label: what it is worth is what the hold of that sum in a sandbox is worth. -/
noncomputable def Try.pinned : Pinned := { name := "ytpmnkhlbmbddeaa", sum := "b0c3c89b890351f80d1813def616bb2dbf4c46f4a911d52522c7737d55eeb1ed", checked := Try.checked }
namespace Rows
def none {H : Type} : Left H := { results := [], args := [] }

/-- 'lemmatalaw4.NfaAll': WHATEVER THE INPUT: true; the input reads as it did. -/
def nfaAllSpec : ChangeSpec := { name := "nfaAll", fn := fun _ => fun
  | [d1, d2, d3] => { results := [.lit (.bool true)], args := [d1, d2, d3] }
  | _ => none }
def nfaAllRow : OpenClaim := { program := "ytpmnkhlbmbddeaa", sum := "b0c3c89b890351f80d1813def616bb2dbf4c46f4a911d52522c7737d55eeb1ed", func := "lemmata/lemmatalaw4.NfaAll", spec := "nfaAll", inPlace := ["internal/bytealg.IndexByteString"], unfollowed := true, recurses := true, apart := false }
def NfaAllSaid : Prop := nfaAllRow.holds Try.pinned (OpenSpec.ofChange nfaAllSpec)

/-- ITS FALSE NEIGHBOUR: 'it returns false'. Refute it at one input. -/
def nfaAllWrong : ChangeSpec := { name := "nfaAll", fn := fun _ => fun
  | [d1, d2, d3] => { results := [.lit (.bool false)], args := [d1, d2, d3] }
  | _ => none }
def NfaAllWrongFalsely : Prop := nfaAllRow.holds Try.pinned (OpenSpec.ofChange nfaAllWrong)

/-- 'lemmatalaw4.NfaEach': WHATEVER THE INPUT: true; the input reads as it did. -/
def nfaEachSpec : ChangeSpec := { name := "nfaEach", fn := fun _ => fun
  | [d1, d2] => { results := [.lit (.bool true)], args := [d1, d2] }
  | _ => none }
def nfaEachRow : OpenClaim := { program := "ytpmnkhlbmbddeaa", sum := "b0c3c89b890351f80d1813def616bb2dbf4c46f4a911d52522c7737d55eeb1ed", func := "lemmata/lemmatalaw4.NfaEach", spec := "nfaEach", inPlace := ["internal/bytealg.IndexByteString"], unfollowed := true, recurses := true, apart := false }
def NfaEachSaid : Prop := nfaEachRow.holds Try.pinned (OpenSpec.ofChange nfaEachSpec)

/-- ITS FALSE NEIGHBOUR: 'it returns false'. Refute it at one input. -/
def nfaEachWrong : ChangeSpec := { name := "nfaEach", fn := fun _ => fun
  | [d1, d2] => { results := [.lit (.bool false)], args := [d1, d2] }
  | _ => none }
def NfaEachWrongFalsely : Prop := nfaEachRow.holds Try.pinned (OpenSpec.ofChange nfaEachWrong)

/-- 'lemmatalaw4.NfaForms': WHATEVER THE INPUT: true; the input reads as it did. -/
def nfaFormsSpec : ChangeSpec := { name := "nfaForms", fn := fun _ => fun
  | [] => { results := [.lit (.bool true)], args := [] }
  | _ => none }
def nfaFormsRow : OpenClaim := { program := "ytpmnkhlbmbddeaa", sum := "b0c3c89b890351f80d1813def616bb2dbf4c46f4a911d52522c7737d55eeb1ed", func := "lemmata/lemmatalaw4.NfaForms", spec := "nfaForms", inPlace := ["internal/bytealg.IndexByteString"], unfollowed := true, recurses := true, apart := false }
def NfaFormsSaid : Prop := nfaFormsRow.holds Try.pinned (OpenSpec.ofChange nfaFormsSpec)

/-- ITS FALSE NEIGHBOUR: 'it returns false'. Refute it at one input. -/
def nfaFormsWrong : ChangeSpec := { name := "nfaForms", fn := fun _ => fun
  | [] => { results := [.lit (.bool false)], args := [] }
  | _ => none }
def NfaFormsWrongFalsely : Prop := nfaFormsRow.holds Try.pinned (OpenSpec.ofChange nfaFormsWrong)

/-- 'lemmatalaw4.NfaMore': WHATEVER THE INPUT: true; the input reads as it did. -/
def nfaMoreSpec : ChangeSpec := { name := "nfaMore", fn := fun _ => fun
  | [d1, d2] => { results := [.lit (.bool true)], args := [d1, d2] }
  | _ => none }
def nfaMoreRow : OpenClaim := { program := "ytpmnkhlbmbddeaa", sum := "b0c3c89b890351f80d1813def616bb2dbf4c46f4a911d52522c7737d55eeb1ed", func := "lemmata/lemmatalaw4.NfaMore", spec := "nfaMore", inPlace := ["internal/bytealg.IndexByteString"], unfollowed := true, recurses := true, apart := false }
def NfaMoreSaid : Prop := nfaMoreRow.holds Try.pinned (OpenSpec.ofChange nfaMoreSpec)

/-- ITS FALSE NEIGHBOUR: 'it returns false'. Refute it at one input. -/
def nfaMoreWrong : ChangeSpec := { name := "nfaMore", fn := fun _ => fun
  | [d1, d2] => { results := [.lit (.bool false)], args := [d1, d2] }
  | _ => none }
def NfaMoreWrongFalsely : Prop := nfaMoreRow.holds Try.pinned (OpenSpec.ofChange nfaMoreWrong)

/- THE SECOND FORM. 'bulk': how many values and letters a reading holds, each counted each time it is reached (what is shared counts as often as it is met; a slice's spare places count too). A statement '..UptoSaid' is the law's where the arguments, and the package variables that the reading takes, are together of bulk at most 1048576: NARROWER than '..Said'. Prove '..Said' where nothing that the law and all that it calls make is longer than what came in: it says more and counts as full. Else prove '..UptoSaid'. A law counts once. -/
mutual
def uptoBulk {H : Type} : DataW H → Nat
  | .lit (.string bytes) => bytes.length + 1
  | .lit _ => 1
  | .nil => 1
  | .ptr d => uptoBulk d + 1
  | .slice elems spare => uptoBulkAll elems + uptoBulkAll spare + 1
  | .agg parts => uptoBulkAll parts + 1
  | .iface _ d => uptoBulk d + 1
  | .map entries => uptoBulkEntries entries + 1
  | .held _ => 1
def uptoBulkAll {H : Type} : List (DataW H) → Nat
  | [] => 0
  | d :: r => uptoBulk d + uptoBulkAll r
def uptoBulkEntries {H : Type} : List (Lit × DataW H) → Nat
  | [] => 0
  | x :: r => uptoBulkEntry x + uptoBulkEntries r
def uptoBulkEntry {H : Type} : Lit × DataW H → Nat
  | (.string bytes, d) => bytes.length + uptoBulk d + 1
  | (_, d) => uptoBulk d + 1
 end
def uptoSmall : (H : Type) → List (DataW H) → Bool := fun _ ds => decide (uptoBulkAll ds ≤ 1048576)
def OpenSpec.upto (s : _root_.Go.ChangeSpec) : _root_.Go.OpenSpec := { _root_.Go.OpenSpec.ofChange s with cond := some uptoSmall }

/-- 'lemmatalaw4.NfaAll', WHERE WHAT IT READS IS OF BULK AT MOST 1048576: true; the input reads as it did. -/
def nfaAllUptoRow : OpenClaim := { program := "ytpmnkhlbmbddeaa", sum := "b0c3c89b890351f80d1813def616bb2dbf4c46f4a911d52522c7737d55eeb1ed", func := "lemmata/lemmatalaw4.NfaAll", spec := "nfaAll", inPlace := ["internal/bytealg.IndexByteString"], unfollowed := true, recurses := true, apart := false, narrowed := true }
def NfaAllUptoSaid : Prop := nfaAllUptoRow.holds Try.pinned (OpenSpec.upto nfaAllSpec)

/-- 'lemmatalaw4.NfaEach', WHERE WHAT IT READS IS OF BULK AT MOST 1048576: true; the input reads as it did. -/
def nfaEachUptoRow : OpenClaim := { program := "ytpmnkhlbmbddeaa", sum := "b0c3c89b890351f80d1813def616bb2dbf4c46f4a911d52522c7737d55eeb1ed", func := "lemmata/lemmatalaw4.NfaEach", spec := "nfaEach", inPlace := ["internal/bytealg.IndexByteString"], unfollowed := true, recurses := true, apart := false, narrowed := true }
def NfaEachUptoSaid : Prop := nfaEachUptoRow.holds Try.pinned (OpenSpec.upto nfaEachSpec)

/-- 'lemmatalaw4.NfaForms', WHERE WHAT IT READS IS OF BULK AT MOST 1048576: true; the input reads as it did. -/
def nfaFormsUptoRow : OpenClaim := { program := "ytpmnkhlbmbddeaa", sum := "b0c3c89b890351f80d1813def616bb2dbf4c46f4a911d52522c7737d55eeb1ed", func := "lemmata/lemmatalaw4.NfaForms", spec := "nfaForms", inPlace := ["internal/bytealg.IndexByteString"], unfollowed := true, recurses := true, apart := false, narrowed := true }
def NfaFormsUptoSaid : Prop := nfaFormsUptoRow.holds Try.pinned (OpenSpec.upto nfaFormsSpec)

/-- 'lemmatalaw4.NfaMore', WHERE WHAT IT READS IS OF BULK AT MOST 1048576: true; the input reads as it did. -/
def nfaMoreUptoRow : OpenClaim := { program := "ytpmnkhlbmbddeaa", sum := "b0c3c89b890351f80d1813def616bb2dbf4c46f4a911d52522c7737d55eeb1ed", func := "lemmata/lemmatalaw4.NfaMore", spec := "nfaMore", inPlace := ["internal/bytealg.IndexByteString"], unfollowed := true, recurses := true, apart := false, narrowed := true }
def NfaMoreUptoSaid : Prop := nfaMoreUptoRow.holds Try.pinned (OpenSpec.upto nfaMoreSpec)

end Rows
end Go.Proofs.Ytpmnkhlbmbddeaa
