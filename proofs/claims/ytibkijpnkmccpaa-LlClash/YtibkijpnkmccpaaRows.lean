/-
  No cell of these rows narrows 'for every input' (looked for: loops, veiled, ifaces, maps, wideKeys, modest, calm, conditions, laid).
  DERIVED. THE GIVEN ROWS OF THIS SEAT. 4 by the template 'for every input the law returns true; each argument reads behind the call as it read before'; 0 by the template 'total and deterministic' (their statements: YtibkijpnkmccpaaTotals.lean).
  GIVEN WITH THE SEED: the statements are not yours to turn. If you find one false, say at which input.
  Laid BY PROGRAM, IN A SANDBOX (cutbox-rows.mjs): the forced cells as the released guide's own fill.sh prints them over the translation b98ab67d13517a90… (all of the seat's roots in one cut). By AI agents, Wed Nov 11 2026. No macro, syntax, notation, axiom, sorry.
-/
import Derived.Test.YtibkijpnkmccpaaChecked
import GoSem.Claim
import GoSem.ClaimJoined
import GoSem.ClaimMapViews
import Derived.JoinedTies
import Derived.KernelRfl
namespace Go.Proofs.Ytibkijpnkmccpaa
/- THE CELL 'sum', in the pinned program and in every row, IS THE sha256 OF THE DUMP (.gsa) THAT YtibkijpnkmccpaaProg.lean LOADS. Nothing in Lean hashes anything: it is a label: what it is worth is what the hold of that sum in a sandbox is worth. -/
noncomputable def Try.pinned : Pinned := { name := "ytibkijpnkmccpaa", sum := "b98ab67d13517a907d65cd3d35d461e0d23674fddc0c73c087a92f46bcb6cb9c", checked := Try.checked }
namespace Rows
def none {H : Type} : Left H := { results := [], args := [] }

/-- 'lemmatalaw13.LlAll': WHATEVER THE INPUT: true; the input reads as it did. -/
def llAllSpec : ChangeSpec := { name := "llAll", fn := fun _ => fun
  | [d1, d2] => { results := [.lit (.bool true)], args := [d1, d2] }
  | _ => none }
def llAllRow : OpenClaim := { program := "ytibkijpnkmccpaa", sum := "b98ab67d13517a907d65cd3d35d461e0d23674fddc0c73c087a92f46bcb6cb9c", func := "lemmata/lemmatalaw13.LlAll", spec := "llAll", unfollowed := true, recurses := true, apart := false }
def LlAllSaid : Prop := llAllRow.holds Try.pinned (OpenSpec.ofChange llAllSpec)

/-- ITS FALSE NEIGHBOUR: 'it returns false'. Refute it at one input. -/
def llAllWrong : ChangeSpec := { name := "llAll", fn := fun _ => fun
  | [d1, d2] => { results := [.lit (.bool false)], args := [d1, d2] }
  | _ => none }
def LlAllWrongFalsely : Prop := llAllRow.holds Try.pinned (OpenSpec.ofChange llAllWrong)

/-- 'lemmatalaw13.LlClash': WHATEVER THE INPUT: true; the input reads as it did. -/
def llClashSpec : ChangeSpec := { name := "llClash", fn := fun _ => fun
  | [d1, d2] => { results := [.lit (.bool true)], args := [d1, d2] }
  | _ => none }
def llClashRow : OpenClaim := { program := "ytibkijpnkmccpaa", sum := "b98ab67d13517a907d65cd3d35d461e0d23674fddc0c73c087a92f46bcb6cb9c", func := "lemmata/lemmatalaw13.LlClash", spec := "llClash", unfollowed := true, recurses := true, apart := false }
def LlClashSaid : Prop := llClashRow.holds Try.pinned (OpenSpec.ofChange llClashSpec)

/-- ITS FALSE NEIGHBOUR: 'it returns false'. Refute it at one input. -/
def llClashWrong : ChangeSpec := { name := "llClash", fn := fun _ => fun
  | [d1, d2] => { results := [.lit (.bool false)], args := [d1, d2] }
  | _ => none }
def LlClashWrongFalsely : Prop := llClashRow.holds Try.pinned (OpenSpec.ofChange llClashWrong)

/-- 'lemmatalaw13.LlForms': WHATEVER THE INPUT: true; the input reads as it did. -/
def llFormsSpec : ChangeSpec := { name := "llForms", fn := fun _ => fun
  | [] => { results := [.lit (.bool true)], args := [] }
  | _ => none }
def llFormsRow : OpenClaim := { program := "ytibkijpnkmccpaa", sum := "b98ab67d13517a907d65cd3d35d461e0d23674fddc0c73c087a92f46bcb6cb9c", func := "lemmata/lemmatalaw13.LlForms", spec := "llForms", unfollowed := true, recurses := true, apart := false }
def LlFormsSaid : Prop := llFormsRow.holds Try.pinned (OpenSpec.ofChange llFormsSpec)

/-- ITS FALSE NEIGHBOUR: 'it returns false'. Refute it at one input. -/
def llFormsWrong : ChangeSpec := { name := "llForms", fn := fun _ => fun
  | [] => { results := [.lit (.bool false)], args := [] }
  | _ => none }
def LlFormsWrongFalsely : Prop := llFormsRow.holds Try.pinned (OpenSpec.ofChange llFormsWrong)

/-- 'lemmatalaw13.LlNone': WHATEVER THE INPUT: true; the input reads as it did. -/
def llNoneSpec : ChangeSpec := { name := "llNone", fn := fun _ => fun
  | [d] => { results := [.lit (.bool true)], args := [d] }
  | _ => none }
def llNoneRow : OpenClaim := { program := "ytibkijpnkmccpaa", sum := "b98ab67d13517a907d65cd3d35d461e0d23674fddc0c73c087a92f46bcb6cb9c", func := "lemmata/lemmatalaw13.LlNone", spec := "llNone", unfollowed := true, recurses := true, apart := false }
def LlNoneSaid : Prop := llNoneRow.holds Try.pinned (OpenSpec.ofChange llNoneSpec)

/-- ITS FALSE NEIGHBOUR: 'it returns false'. Refute it at one input. -/
def llNoneWrong : ChangeSpec := { name := "llNone", fn := fun _ => fun
  | [d] => { results := [.lit (.bool false)], args := [d] }
  | _ => none }
def LlNoneWrongFalsely : Prop := llNoneRow.holds Try.pinned (OpenSpec.ofChange llNoneWrong)

/- THE SECOND FORM. 'bulk': how many values and letters a reading holds, each counted each time it is reached (what is shared counts as often as it is met; a slice's spare places count too). A statement '..UptoSaid' is the law's where the arguments, and the package variables that the reading takes, are together of bulk at most 1048576: NARROWER than '..Said'. Prove '..Said' where nothing that the law and all that it calls make is longer than what came in: it says more and counts as full. Else prove '..UptoSaid'. A law counts once. -/
mutual
def uptoBulk {H : Type} : DataW H → Nat
  | .lit (.string bytes) => bytes.length + 1
  | .lit _ => 1
  | .nil => 1
  | .ptr d => uptoBulk d + 1
  | .slice elems spare => uptoBulkAll elems + uptoBulkAll spare + 1
  | .agg parts => uptoBulkAll parts + 1
  | .iface _ d => uptoBulk d + 1
  | .map entries => uptoBulkEntries entries + 1
  | .held _ => 1
def uptoBulkAll {H : Type} : List (DataW H) → Nat
  | [] => 0
  | d :: r => uptoBulk d + uptoBulkAll r
def uptoBulkEntries {H : Type} : List (Lit × DataW H) → Nat
  | [] => 0
  | x :: r => uptoBulkEntry x + uptoBulkEntries r
def uptoBulkEntry {H : Type} : Lit × DataW H → Nat
  | (.string bytes, d) => bytes.length + uptoBulk d + 1
  | (_, d) => uptoBulk d + 1
 end
def uptoSmall : (H : Type) → List (DataW H) → Bool := fun _ ds => decide (uptoBulkAll ds ≤ 1048576)
def OpenSpec.upto (s : _root_.Go.ChangeSpec) : _root_.Go.OpenSpec := { _root_.Go.OpenSpec.ofChange s with cond := some uptoSmall }

/-- 'lemmatalaw13.LlAll', WHERE WHAT IT READS IS OF BULK AT MOST 1048576: true; the input reads as it did. -/
def llAllUptoRow : OpenClaim := { program := "ytibkijpnkmccpaa", sum := "b98ab67d13517a907d65cd3d35d461e0d23674fddc0c73c087a92f46bcb6cb9c", func := "lemmata/lemmatalaw13.LlAll", spec := "llAll", unfollowed := true, recurses := true, apart := false, narrowed := true }
def LlAllUptoSaid : Prop := llAllUptoRow.holds Try.pinned (OpenSpec.upto llAllSpec)

/-- 'lemmatalaw13.LlClash', WHERE WHAT IT READS IS OF BULK AT MOST 1048576: true; the input reads as it did. -/
def llClashUptoRow : OpenClaim := { program := "ytibkijpnkmccpaa", sum := "b98ab67d13517a907d65cd3d35d461e0d23674fddc0c73c087a92f46bcb6cb9c", func := "lemmata/lemmatalaw13.LlClash", spec := "llClash", unfollowed := true, recurses := true, apart := false, narrowed := true }
def LlClashUptoSaid : Prop := llClashUptoRow.holds Try.pinned (OpenSpec.upto llClashSpec)

/-- 'lemmatalaw13.LlForms', WHERE WHAT IT READS IS OF BULK AT MOST 1048576: true; the input reads as it did. -/
def llFormsUptoRow : OpenClaim := { program := "ytibkijpnkmccpaa", sum := "b98ab67d13517a907d65cd3d35d461e0d23674fddc0c73c087a92f46bcb6cb9c", func := "lemmata/lemmatalaw13.LlForms", spec := "llForms", unfollowed := true, recurses := true, apart := false, narrowed := true }
def LlFormsUptoSaid : Prop := llFormsUptoRow.holds Try.pinned (OpenSpec.upto llFormsSpec)

/-- 'lemmatalaw13.LlNone', WHERE WHAT IT READS IS OF BULK AT MOST 1048576: true; the input reads as it did. -/
def llNoneUptoRow : OpenClaim := { program := "ytibkijpnkmccpaa", sum := "b98ab67d13517a907d65cd3d35d461e0d23674fddc0c73c087a92f46bcb6cb9c", func := "lemmata/lemmatalaw13.LlNone", spec := "llNone", unfollowed := true, recurses := true, apart := false, narrowed := true }
def LlNoneUptoSaid : Prop := llNoneUptoRow.holds Try.pinned (OpenSpec.upto llNoneSpec)

end Rows
end Go.Proofs.Ytibkijpnkmccpaa
