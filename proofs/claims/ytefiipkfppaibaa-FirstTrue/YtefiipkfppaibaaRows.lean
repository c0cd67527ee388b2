/-
  No cell of these rows narrows 'for every input' (looked for: loops, veiled, ifaces, maps, wideKeys, modest, calm, conditions, laid).
  DERIVED. THE GIVEN ROWS OF THIS SEAT. 5 by the template 'for every input the law returns true; each argument reads behind the call as it read before'; 0 by the template 'total and deterministic' (their statements: YtefiipkfppaibaaTotals.lean).
  GIVEN WITH THE SEED: the statements are not yours to turn. If you find one false, say at which input.
  Laid BY PROGRAM, IN A SANDBOX (cutbox-rows.mjs): the forced cells as the released guide's own fill.sh prints them over the translation 4c226c898273944b… (all of the seat's roots in one cut). By AI agents, Wed Nov 11 2026. No macro, syntax, notation, axiom, sorry.
-/
import Derived.Test.YtefiipkfppaibaaChecked
import GoSem.Claim
import GoSem.ClaimJoined
import GoSem.ClaimMapViews
import Derived.JoinedTies
import Derived.KernelRfl
namespace Go.Proofs.Ytefiipkfppaibaa
/- THE CELL 'sum', in the pinned program and in every row, IS THE sha256 OF THE DUMP (.gsa) THAT YtefiipkfppaibaaProg.lean LOADS. Nothing in Lean hashes anything: it is a label: what it is worth is what the hold of that sum in a sandbox is worth. -/
noncomputable def Try.pinned : Pinned := { name := "ytefiipkfppaibaa", sum := "4c226c898273944b1e616ff0e5108af9be1f8195516e0af3e754b01418df0af2", checked := Try.checked }
namespace Rows
def none {H : Type} : Left H := { results := [], args := [] }

/-- 'lemmatalaw12.FirstAll': WHATEVER THE INPUT: true; the input reads as it did. -/
def firstAllSpec : ChangeSpec := { name := "firstAll", fn := fun _ => fun
  | [d1, d2] => { results := [.lit (.bool true)], args := [d1, d2] }
  | _ => none }
def firstAllRow : OpenClaim := { program := "ytefiipkfppaibaa", sum := "4c226c898273944b1e616ff0e5108af9be1f8195516e0af3e754b01418df0af2", func := "lemmata/lemmatalaw12.FirstAll", spec := "firstAll", unfollowed := true, recurses := true, apart := false }
def FirstAllSaid : Prop := firstAllRow.holds Try.pinned (OpenSpec.ofChange firstAllSpec)

/-- ITS FALSE NEIGHBOUR: 'it returns false'. Refute it at one input. -/
def firstAllWrong : ChangeSpec := { name := "firstAll", fn := fun _ => fun
  | [d1, d2] => { results := [.lit (.bool false)], args := [d1, d2] }
  | _ => none }
def FirstAllWrongFalsely : Prop := firstAllRow.holds Try.pinned (OpenSpec.ofChange firstAllWrong)

/-- 'lemmatalaw12.FirstTrue': WHATEVER THE INPUT: true; the input reads as it did. -/
def firstTrueSpec : ChangeSpec := { name := "firstTrue", fn := fun _ => fun
  | [d1, d2] => { results := [.lit (.bool true)], args := [d1, d2] }
  | _ => none }
def firstTrueRow : OpenClaim := { program := "ytefiipkfppaibaa", sum := "4c226c898273944b1e616ff0e5108af9be1f8195516e0af3e754b01418df0af2", func := "lemmata/lemmatalaw12.FirstTrue", spec := "firstTrue", unfollowed := true, recurses := true, apart := false }
def FirstTrueSaid : Prop := firstTrueRow.holds Try.pinned (OpenSpec.ofChange firstTrueSpec)

/-- ITS FALSE NEIGHBOUR: 'it returns false'. Refute it at one input. -/
def firstTrueWrong : ChangeSpec := { name := "firstTrue", fn := fun _ => fun
  | [d1, d2] => { results := [.lit (.bool false)], args := [d1, d2] }
  | _ => none }
def FirstTrueWrongFalsely : Prop := firstTrueRow.holds Try.pinned (OpenSpec.ofChange firstTrueWrong)

/-- 'lemmatalaw12.FirstMore': WHATEVER THE INPUT: true; the input reads as it did. -/
def firstMoreSpec : ChangeSpec := { name := "firstMore", fn := fun _ => fun
  | [d1, d2] => { results := [.lit (.bool true)], args := [d1, d2] }
  | _ => none }
def firstMoreRow : OpenClaim := { program := "ytefiipkfppaibaa", sum := "4c226c898273944b1e616ff0e5108af9be1f8195516e0af3e754b01418df0af2", func := "lemmata/lemmatalaw12.FirstMore", spec := "firstMore", unfollowed := true, recurses := true, apart := false }
def FirstMoreSaid : Prop := firstMoreRow.holds Try.pinned (OpenSpec.ofChange firstMoreSpec)

/-- ITS FALSE NEIGHBOUR: 'it returns false'. Refute it at one input. -/
def firstMoreWrong : ChangeSpec := { name := "firstMore", fn := fun _ => fun
  | [d1, d2] => { results := [.lit (.bool false)], args := [d1, d2] }
  | _ => none }
def FirstMoreWrongFalsely : Prop := firstMoreRow.holds Try.pinned (OpenSpec.ofChange firstMoreWrong)

/-- 'lemmatalaw12.FirstForms': WHATEVER THE INPUT: true; the input reads as it did. -/
def firstFormsSpec : ChangeSpec := { name := "firstForms", fn := fun _ => fun
  | [] => { results := [.lit (.bool true)], args := [] }
  | _ => none }
def firstFormsRow : OpenClaim := { program := "ytefiipkfppaibaa", sum := "4c226c898273944b1e616ff0e5108af9be1f8195516e0af3e754b01418df0af2", func := "lemmata/lemmatalaw12.FirstForms", spec := "firstForms", unfollowed := true, recurses := true, apart := false }
def FirstFormsSaid : Prop := firstFormsRow.holds Try.pinned (OpenSpec.ofChange firstFormsSpec)

/-- ITS FALSE NEIGHBOUR: 'it returns false'. Refute it at one input. -/
def firstFormsWrong : ChangeSpec := { name := "firstForms", fn := fun _ => fun
  | [] => { results := [.lit (.bool false)], args := [] }
  | _ => none }
def FirstFormsWrongFalsely : Prop := firstFormsRow.holds Try.pinned (OpenSpec.ofChange firstFormsWrong)

/-- 'lemmatalaw12.FirstRow': WHATEVER THE INPUT: true; the input reads as it did. -/
def firstRowSpec : ChangeSpec := { name := "firstRow", fn := fun _ => fun
  | [d1, d2, d3] => { results := [.lit (.bool true)], args := [d1, d2, d3] }
  | _ => none }
def firstRowRow : OpenClaim := { program := "ytefiipkfppaibaa", sum := "4c226c898273944b1e616ff0e5108af9be1f8195516e0af3e754b01418df0af2", func := "lemmata/lemmatalaw12.FirstRow", spec := "firstRow", unfollowed := true, recurses := true, apart := false }
def FirstRowSaid : Prop := firstRowRow.holds Try.pinned (OpenSpec.ofChange firstRowSpec)

/-- ITS FALSE NEIGHBOUR: 'it returns false'. Refute it at one input. -/
def firstRowWrong : ChangeSpec := { name := "firstRow", fn := fun _ => fun
  | [d1, d2, d3] => { results := [.lit (.bool false)], args := [d1, d2, d3] }
  | _ => none }
def FirstRowWrongFalsely : Prop := firstRowRow.holds Try.pinned (OpenSpec.ofChange firstRowWrong)

/- THE SECOND FORM. 'bulk': how many values and letters a reading holds, each counted each time it is reached (what is shared counts as often as it is met; a slice's spare places count too). A statement '..UptoSaid' is the law's where the arguments, and the package variables that the reading takes, are together of bulk at most 1048576: NARROWER than '..Said'. Prove '..Said' where nothing that the law and all that it calls make is longer than what came in: it says more and counts as full. Else prove '..UptoSaid'. A law counts once. -/
mutual
def uptoBulk {H : Type} : DataW H → Nat
  | .lit (.string bytes) => bytes.length + 1
  | .lit _ => 1
  | .nil => 1
  | .ptr d => uptoBulk d + 1
  | .slice elems spare => uptoBulkAll elems + uptoBulkAll spare + 1
  | .agg parts => uptoBulkAll parts + 1
  | .iface _ d => uptoBulk d + 1
  | .map entries => uptoBulkEntries entries + 1
  | .held _ => 1
def uptoBulkAll {H : Type} : List (DataW H) → Nat
  | [] => 0
  | d :: r => uptoBulk d + uptoBulkAll r
def uptoBulkEntries {H : Type} : List (Lit × DataW H) → Nat
  | [] => 0
  | x :: r => uptoBulkEntry x + uptoBulkEntries r
def uptoBulkEntry {H : Type} : Lit × DataW H → Nat
  | (.string bytes, d) => bytes.length + uptoBulk d + 1
  | (_, d) => uptoBulk d + 1
 end
def uptoSmall : (H : Type) → List (DataW H) → Bool := fun _ ds => decide (uptoBulkAll ds ≤ 1048576)
def OpenSpec.upto (s : _root_.Go.ChangeSpec) : _root_.Go.OpenSpec := { _root_.Go.OpenSpec.ofChange s with cond := some uptoSmall }

/-- 'lemmatalaw12.FirstAll', WHERE WHAT IT READS IS OF BULK AT MOST 1048576: true; the input reads as it did. -/
def firstAllUptoRow : OpenClaim := { program := "ytefiipkfppaibaa", sum := "4c226c898273944b1e616ff0e5108af9be1f8195516e0af3e754b01418df0af2", func := "lemmata/lemmatalaw12.FirstAll", spec := "firstAll", unfollowed := true, recurses := true, apart := false, narrowed := true }
def FirstAllUptoSaid : Prop := firstAllUptoRow.holds Try.pinned (OpenSpec.upto firstAllSpec)

/-- 'lemmatalaw12.FirstTrue', WHERE WHAT IT READS IS OF BULK AT MOST 1048576: true; the input reads as it did. -/
def firstTrueUptoRow : OpenClaim := { program := "ytefiipkfppaibaa", sum := "4c226c898273944b1e616ff0e5108af9be1f8195516e0af3e754b01418df0af2", func := "lemmata/lemmatalaw12.FirstTrue", spec := "firstTrue", unfollowed := true, recurses := true, apart := false, narrowed := true }
def FirstTrueUptoSaid : Prop := firstTrueUptoRow.holds Try.pinned (OpenSpec.upto firstTrueSpec)

/-- 'lemmatalaw12.FirstMore', WHERE WHAT IT READS IS OF BULK AT MOST 1048576: true; the input reads as it did. -/
def firstMoreUptoRow : OpenClaim := { program := "ytefiipkfppaibaa", sum := "4c226c898273944b1e616ff0e5108af9be1f8195516e0af3e754b01418df0af2", func := "lemmata/lemmatalaw12.FirstMore", spec := "firstMore", unfollowed := true, recurses := true, apart := false, narrowed := true }
def FirstMoreUptoSaid : Prop := firstMoreUptoRow.holds Try.pinned (OpenSpec.upto firstMoreSpec)

/-- 'lemmatalaw12.FirstForms', WHERE WHAT IT READS IS OF BULK AT MOST 1048576: true; the input reads as it did. -/
def firstFormsUptoRow : OpenClaim := { program := "ytefiipkfppaibaa", sum := "4c226c898273944b1e616ff0e5108af9be1f8195516e0af3e754b01418df0af2", func := "lemmata/lemmatalaw12.FirstForms", spec := "firstForms", unfollowed := true, recurses := true, apart := false, narrowed := true }
def FirstFormsUptoSaid : Prop := firstFormsUptoRow.holds Try.pinned (OpenSpec.upto firstFormsSpec)

/-- 'lemmatalaw12.FirstRow', WHERE WHAT IT READS IS OF BULK AT MOST 1048576: true; the input reads as it did. -/
def firstRowUptoRow : OpenClaim := { program := "ytefiipkfppaibaa", sum := "4c226c898273944b1e616ff0e5108af9be1f8195516e0af3e754b01418df0af2", func := "lemmata/lemmatalaw12.FirstRow", spec := "firstRow", unfollowed := true, recurses := true, apart := false, narrowed := true }
def FirstRowUptoSaid : Prop := firstRowUptoRow.holds Try.pinned (OpenSpec.upto firstRowSpec)

end Rows
end Go.Proofs.Ytefiipkfppaibaa
