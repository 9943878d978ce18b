/-
  No cell of these rows narrows 'for every input' (looked for: loops, veiled, ifaces, maps, wideKeys, modest, calm, conditions, laid).
  DERIVED. THE GIVEN ROWS OF THIS SEAT. 10 by the template 'for every input the law returns true; each argument reads behind the call as it read before'; 0 by the template 'total and deterministic' (their statements: YtebhbhcjfnohmabTotals.lean).
  GIVEN WITH THE SEED: the statements are not yours to turn. If you find one false, say at which input.
  Laid BY PROGRAM, IN A SANDBOX (cutbox-rows.mjs): the forced cells as the released guide's own fill.sh prints them over the translation f80a9e88de5e31eb… (all of the seat's roots in one cut). By AI agents, Wed Nov 11 2026. No macro, syntax, notation, axiom, sorry.
-/
import Derived.Test.YtebhbhcjfnohmabChecked
import GoSem.Claim
import GoSem.ClaimJoined
import GoSem.ClaimMapViews
import Derived.JoinedTies
import Derived.KernelRfl
namespace Go.Proofs.Ytebhbhcjfnohmab
/- THE CELL 'sum', in the pinned program and in every row, IS THE sha256 OF THE DUMP (.gsa) THAT YtebhbhcjfnohmabProg.lean LOADS. Nothing in Lean hashes anything: it is a label: what it is worth is what the hold of that sum in a sandbox is worth. -/
noncomputable def Try.pinned : Pinned := { name := "ytebhbhcjfnohmab", sum := "f80a9e88de5e31eb7d36a8aa3f1dafc933fa25950d9553c4c97ad70b9574c085", checked := Try.checked }
namespace Rows
def none {H : Type} : Left H := { results := [], args := [] }

/-- 'quillworklaw.FoldLists': WHATEVER THE INPUT: true; the input reads as it did. -/
def foldListsSpec : ChangeSpec := { name := "foldLists", fn := fun _ => fun
  | [d] => { results := [.lit (.bool true)], args := [d] }
  | _ => none }
def foldListsRow : OpenClaim := { program := "ytebhbhcjfnohmab", sum := "f80a9e88de5e31eb7d36a8aa3f1dafc933fa25950d9553c4c97ad70b9574c085", func := "quillwork/quillworklaw.FoldLists", spec := "foldLists", unfollowed := true, recurses := true, apart := false }
def FoldListsSaid : Prop := foldListsRow.holds Try.pinned (OpenSpec.ofChange foldListsSpec)

/-- ITS FALSE NEIGHBOUR: 'it returns false'. Refute it at one input. -/
def foldListsWrong : ChangeSpec := { name := "foldLists", fn := fun _ => fun
  | [d] => { results := [.lit (.bool false)], args := [d] }
  | _ => none }
def FoldListsWrongFalsely : Prop := foldListsRow.holds Try.pinned (OpenSpec.ofChange foldListsWrong)

/-- 'quillworklaw.LogDoes': WHATEVER THE INPUT: true; the input reads as it did. -/
def logDoesSpec : ChangeSpec := { name := "logDoes", fn := fun _ => fun
  | [d1, d2] => { results := [.lit (.bool true)], args := [d1, d2] }
  | _ => none }
def logDoesRow : OpenClaim := { program := "ytebhbhcjfnohmab", sum := "f80a9e88de5e31eb7d36a8aa3f1dafc933fa25950d9553c4c97ad70b9574c085", func := "quillwork/quillworklaw.LogDoes", spec := "logDoes", unfollowed := true, recurses := true, apart := false }
def LogDoesSaid : Prop := logDoesRow.holds Try.pinned (OpenSpec.ofChange logDoesSpec)

/-- ITS FALSE NEIGHBOUR: 'it returns false'. Refute it at one input. -/
def logDoesWrong : ChangeSpec := { name := "logDoes", fn := fun _ => fun
  | [d1, d2] => { results := [.lit (.bool false)], args := [d1, d2] }
  | _ => none }
def LogDoesWrongFalsely : Prop := logDoesRow.holds Try.pinned (OpenSpec.ofChange logDoesWrong)

/-- 'quillworklaw.LogFolds': WHATEVER THE INPUT: true; the input reads as it did. -/
def logFoldsSpec : ChangeSpec := { name := "logFolds", fn := fun _ => fun
  | [d] => { results := [.lit (.bool true)], args := [d] }
  | _ => none }
def logFoldsRow : OpenClaim := { program := "ytebhbhcjfnohmab", sum := "f80a9e88de5e31eb7d36a8aa3f1dafc933fa25950d9553c4c97ad70b9574c085", func := "quillwork/quillworklaw.LogFolds", spec := "logFolds", unfollowed := true, recurses := true, apart := false }
def LogFoldsSaid : Prop := logFoldsRow.holds Try.pinned (OpenSpec.ofChange logFoldsSpec)

/-- ITS FALSE NEIGHBOUR: 'it returns false'. Refute it at one input. -/
def logFoldsWrong : ChangeSpec := { name := "logFolds", fn := fun _ => fun
  | [d] => { results := [.lit (.bool false)], args := [d] }
  | _ => none }
def LogFoldsWrongFalsely : Prop := logFoldsRow.holds Try.pinned (OpenSpec.ofChange logFoldsWrong)

/-- 'quillworklaw.LogOnce': WHATEVER THE INPUT: true; the input reads as it did. -/
def logOnceSpec : ChangeSpec := { name := "logOnce", fn := fun _ => fun
  | [d] => { results := [.lit (.bool true)], args := [d] }
  | _ => none }
def logOnceRow : OpenClaim := { program := "ytebhbhcjfnohmab", sum := "f80a9e88de5e31eb7d36a8aa3f1dafc933fa25950d9553c4c97ad70b9574c085", func := "quillwork/quillworklaw.LogOnce", spec := "logOnce", unfollowed := true, recurses := true, apart := false }
def LogOnceSaid : Prop := logOnceRow.holds Try.pinned (OpenSpec.ofChange logOnceSpec)

/-- ITS FALSE NEIGHBOUR: 'it returns false'. Refute it at one input. -/
def logOnceWrong : ChangeSpec := { name := "logOnce", fn := fun _ => fun
  | [d] => { results := [.lit (.bool false)], args := [d] }
  | _ => none }
def LogOnceWrongFalsely : Prop := logOnceRow.holds Try.pinned (OpenSpec.ofChange logOnceWrong)

/-- 'quillworklaw.LogLeast': WHATEVER THE INPUT: true; the input reads as it did. -/
def logLeastSpec : ChangeSpec := { name := "logLeast", fn := fun _ => fun
  | [d] => { results := [.lit (.bool true)], args := [d] }
  | _ => none }
def logLeastRow : OpenClaim := { program := "ytebhbhcjfnohmab", sum := "f80a9e88de5e31eb7d36a8aa3f1dafc933fa25950d9553c4c97ad70b9574c085", func := "quillwork/quillworklaw.LogLeast", spec := "logLeast", unfollowed := true, recurses := true, apart := false }
def LogLeastSaid : Prop := logLeastRow.holds Try.pinned (OpenSpec.ofChange logLeastSpec)

/-- ITS FALSE NEIGHBOUR: 'it returns false'. Refute it at one input. -/
def logLeastWrong : ChangeSpec := { name := "logLeast", fn := fun _ => fun
  | [d] => { results := [.lit (.bool false)], args := [d] }
  | _ => none }
def LogLeastWrongFalsely : Prop := logLeastRow.holds Try.pinned (OpenSpec.ofChange logLeastWrong)

/-- 'quillworklaw.LogRefuses': WHATEVER THE INPUT: true; the input reads as it did. -/
def logRefusesSpec : ChangeSpec := { name := "logRefuses", fn := fun _ => fun
  | [d1, d2] => { results := [.lit (.bool true)], args := [d1, d2] }
  | _ => none }
def logRefusesRow : OpenClaim := { program := "ytebhbhcjfnohmab", sum := "f80a9e88de5e31eb7d36a8aa3f1dafc933fa25950d9553c4c97ad70b9574c085", func := "quillwork/quillworklaw.LogRefuses", spec := "logRefuses", unfollowed := true, recurses := true, apart := false }
def LogRefusesSaid : Prop := logRefusesRow.holds Try.pinned (OpenSpec.ofChange logRefusesSpec)

/-- ITS FALSE NEIGHBOUR: 'it returns false'. Refute it at one input. -/
def logRefusesWrong : ChangeSpec := { name := "logRefuses", fn := fun _ => fun
  | [d1, d2] => { results := [.lit (.bool false)], args := [d1, d2] }
  | _ => none }
def LogRefusesWrongFalsely : Prop := logRefusesRow.holds Try.pinned (OpenSpec.ofChange logRefusesWrong)

/-- 'quillworklaw.LogComes': WHATEVER THE INPUT: true; the input reads as it did. -/
def logComesSpec : ChangeSpec := { name := "logComes", fn := fun _ => fun
  | [d1, d2] => { results := [.lit (.bool true)], args := [d1, d2] }
  | _ => none }
def logComesRow : OpenClaim := { program := "ytebhbhcjfnohmab", sum := "f80a9e88de5e31eb7d36a8aa3f1dafc933fa25950d9553c4c97ad70b9574c085", func := "quillwork/quillworklaw.LogComes", spec := "logComes", unfollowed := true, recurses := true, apart := false }
def LogComesSaid : Prop := logComesRow.holds Try.pinned (OpenSpec.ofChange logComesSpec)

/-- ITS FALSE NEIGHBOUR: 'it returns false'. Refute it at one input. -/
def logComesWrong : ChangeSpec := { name := "logComes", fn := fun _ => fun
  | [d1, d2] => { results := [.lit (.bool false)], args := [d1, d2] }
  | _ => none }
def LogComesWrongFalsely : Prop := logComesRow.holds Try.pinned (OpenSpec.ofChange logComesWrong)

/-- 'quillworklaw.ClearViews': WHATEVER THE INPUT: true; the input reads as it did. -/
def clearViewsSpec : ChangeSpec := { name := "clearViews", fn := fun _ => fun
  | [d1, d2, d3, d4] => { results := [.lit (.bool true)], args := [d1, d2, d3, d4] }
  | _ => none }
def clearViewsRow : OpenClaim := { program := "ytebhbhcjfnohmab", sum := "f80a9e88de5e31eb7d36a8aa3f1dafc933fa25950d9553c4c97ad70b9574c085", func := "quillwork/quillworklaw.ClearViews", spec := "clearViews", unfollowed := true, recurses := true, apart := false }
def ClearViewsSaid : Prop := clearViewsRow.holds Try.pinned (OpenSpec.ofChange clearViewsSpec)

/-- ITS FALSE NEIGHBOUR: 'it returns false'. Refute it at one input. -/
def clearViewsWrong : ChangeSpec := { name := "clearViews", fn := fun _ => fun
  | [d1, d2, d3, d4] => { results := [.lit (.bool false)], args := [d1, d2, d3, d4] }
  | _ => none }
def ClearViewsWrongFalsely : Prop := clearViewsRow.holds Try.pinned (OpenSpec.ofChange clearViewsWrong)

/-- 'quillworklaw.ClearSlides': WHATEVER THE INPUT: true; the input reads as it did. -/
def clearSlidesSpec : ChangeSpec := { name := "clearSlides", fn := fun _ => fun
  | [d1, d2, d3, d4, d5] => { results := [.lit (.bool true)], args := [d1, d2, d3, d4, d5] }
  | _ => none }
def clearSlidesRow : OpenClaim := { program := "ytebhbhcjfnohmab", sum := "f80a9e88de5e31eb7d36a8aa3f1dafc933fa25950d9553c4c97ad70b9574c085", func := "quillwork/quillworklaw.ClearSlides", spec := "clearSlides", unfollowed := true, recurses := true, apart := false }
def ClearSlidesSaid : Prop := clearSlidesRow.holds Try.pinned (OpenSpec.ofChange clearSlidesSpec)

/-- ITS FALSE NEIGHBOUR: 'it returns false'. Refute it at one input. -/
def clearSlidesWrong : ChangeSpec := { name := "clearSlides", fn := fun _ => fun
  | [d1, d2, d3, d4, d5] => { results := [.lit (.bool false)], args := [d1, d2, d3, d4, d5] }
  | _ => none }
def ClearSlidesWrongFalsely : Prop := clearSlidesRow.holds Try.pinned (OpenSpec.ofChange clearSlidesWrong)

/-- 'quillworklaw.ClearKeeps': WHATEVER THE INPUT: true; the input reads as it did. -/
def clearKeepsSpec : ChangeSpec := { name := "clearKeeps", fn := fun _ => fun
  | [d1, d2, d3] => { results := [.lit (.bool true)], args := [d1, d2, d3] }
  | _ => none }
def clearKeepsRow : OpenClaim := { program := "ytebhbhcjfnohmab", sum := "f80a9e88de5e31eb7d36a8aa3f1dafc933fa25950d9553c4c97ad70b9574c085", func := "quillwork/quillworklaw.ClearKeeps", spec := "clearKeeps", unfollowed := true, recurses := true, apart := false }
def ClearKeepsSaid : Prop := clearKeepsRow.holds Try.pinned (OpenSpec.ofChange clearKeepsSpec)

/-- ITS FALSE NEIGHBOUR: 'it returns false'. Refute it at one input. -/
def clearKeepsWrong : ChangeSpec := { name := "clearKeeps", fn := fun _ => fun
  | [d1, d2, d3] => { results := [.lit (.bool false)], args := [d1, d2, d3] }
  | _ => none }
def ClearKeepsWrongFalsely : Prop := clearKeepsRow.holds Try.pinned (OpenSpec.ofChange clearKeepsWrong)

/- THE SECOND FORM. 'bulk': how many values and letters a reading holds, each counted each time it is reached (what is shared counts as often as it is met; a slice's spare places count too). A statement '..UptoSaid' is the law's where the arguments, and the package variables that the reading takes, are together of bulk at most 1048576: NARROWER than '..Said'. Prove '..Said' where nothing that the law and all that it calls make is longer than what came in: it says more and counts as full. Else prove '..UptoSaid'. A law counts once. -/
mutual
def uptoBulk {H : Type} : DataW H → Nat
  | .lit (.string bytes) => bytes.length + 1
  | .lit _ => 1
  | .nil => 1
  | .ptr d => uptoBulk d + 1
  | .slice elems spare => uptoBulkAll elems + uptoBulkAll spare + 1
  | .agg parts => uptoBulkAll parts + 1
  | .iface _ d => uptoBulk d + 1
  | .map entries => uptoBulkEntries entries + 1
  | .held _ => 1
def uptoBulkAll {H : Type} : List (DataW H) → Nat
  | [] => 0
  | d :: r => uptoBulk d + uptoBulkAll r
def uptoBulkEntries {H : Type} : List (Lit × DataW H) → Nat
  | [] => 0
  | x :: r => uptoBulkEntry x + uptoBulkEntries r
def uptoBulkEntry {H : Type} : Lit × DataW H → Nat
  | (.string bytes, d) => bytes.length + uptoBulk d + 1
  | (_, d) => uptoBulk d + 1
 end
def uptoSmall : (H : Type) → List (DataW H) → Bool := fun _ ds => decide (uptoBulkAll ds ≤ 1048576)
def OpenSpec.upto (s : _root_.Go.ChangeSpec) : _root_.Go.OpenSpec := { _root_.Go.OpenSpec.ofChange s with cond := some uptoSmall }

/-- 'quillworklaw.FoldLists', WHERE WHAT IT READS IS OF BULK AT MOST 1048576: true; the input reads as it did. -/
def foldListsUptoRow : OpenClaim := { program := "ytebhbhcjfnohmab", sum := "f80a9e88de5e31eb7d36a8aa3f1dafc933fa25950d9553c4c97ad70b9574c085", func := "quillwork/quillworklaw.FoldLists", spec := "foldLists", unfollowed := true, recurses := true, apart := false, narrowed := true }
def FoldListsUptoSaid : Prop := foldListsUptoRow.holds Try.pinned (OpenSpec.upto foldListsSpec)

/-- 'quillworklaw.LogDoes', WHERE WHAT IT READS IS OF BULK AT MOST 1048576: true; the input reads as it did. -/
def logDoesUptoRow : OpenClaim := { program := "ytebhbhcjfnohmab", sum := "f80a9e88de5e31eb7d36a8aa3f1dafc933fa25950d9553c4c97ad70b9574c085", func := "quillwork/quillworklaw.LogDoes", spec := "logDoes", unfollowed := true, recurses := true, apart := false, narrowed := true }
def LogDoesUptoSaid : Prop := logDoesUptoRow.holds Try.pinned (OpenSpec.upto logDoesSpec)

/-- 'quillworklaw.LogFolds', WHERE WHAT IT READS IS OF BULK AT MOST 1048576: true; the input reads as it did. -/
def logFoldsUptoRow : OpenClaim := { program := "ytebhbhcjfnohmab", sum := "f80a9e88de5e31eb7d36a8aa3f1dafc933fa25950d9553c4c97ad70b9574c085", func := "quillwork/quillworklaw.LogFolds", spec := "logFolds", unfollowed := true, recurses := true, apart := false, narrowed := true }
def LogFoldsUptoSaid : Prop := logFoldsUptoRow.holds Try.pinned (OpenSpec.upto logFoldsSpec)

/-- 'quillworklaw.LogOnce', WHERE WHAT IT READS IS OF BULK AT MOST 1048576: true; the input reads as it did. -/
def logOnceUptoRow : OpenClaim := { program := "ytebhbhcjfnohmab", sum := "f80a9e88de5e31eb7d36a8aa3f1dafc933fa25950d9553c4c97ad70b9574c085", func := "quillwork/quillworklaw.LogOnce", spec := "logOnce", unfollowed := true, recurses := true, apart := false, narrowed := true }
def LogOnceUptoSaid : Prop := logOnceUptoRow.holds Try.pinned (OpenSpec.upto logOnceSpec)

/-- 'quillworklaw.LogLeast', WHERE WHAT IT READS IS OF BULK AT MOST 1048576: true; the input reads as it did. -/
def logLeastUptoRow : OpenClaim := { program := "ytebhbhcjfnohmab", sum := "f80a9e88de5e31eb7d36a8aa3f1dafc933fa25950d9553c4c97ad70b9574c085", func := "quillwork/quillworklaw.LogLeast", spec := "logLeast", unfollowed := true, recurses := true, apart := false, narrowed := true }
def LogLeastUptoSaid : Prop := logLeastUptoRow.holds Try.pinned (OpenSpec.upto logLeastSpec)

/-- 'quillworklaw.LogRefuses', WHERE WHAT IT READS IS OF BULK AT MOST 1048576: true; the input reads as it did. -/
def logRefusesUptoRow : OpenClaim := { program := "ytebhbhcjfnohmab", sum := "f80a9e88de5e31eb7d36a8aa3f1dafc933fa25950d9553c4c97ad70b9574c085", func := "quillwork/quillworklaw.LogRefuses", spec := "logRefuses", unfollowed := true, recurses := true, apart := false, narrowed := true }
def LogRefusesUptoSaid : Prop := logRefusesUptoRow.holds Try.pinned (OpenSpec.upto logRefusesSpec)

/-- 'quillworklaw.LogComes', WHERE WHAT IT READS IS OF BULK AT MOST 1048576: true; the input reads as it did. -/
def logComesUptoRow : OpenClaim := { program := "ytebhbhcjfnohmab", sum := "f80a9e88de5e31eb7d36a8aa3f1dafc933fa25950d9553c4c97ad70b9574c085", func := "quillwork/quillworklaw.LogComes", spec := "logComes", unfollowed := true, recurses := true, apart := false, narrowed := true }
def LogComesUptoSaid : Prop := logComesUptoRow.holds Try.pinned (OpenSpec.upto logComesSpec)

/-- 'quillworklaw.ClearViews', WHERE WHAT IT READS IS OF BULK AT MOST 1048576: true; the input reads as it did. -/
def clearViewsUptoRow : OpenClaim := { program := "ytebhbhcjfnohmab", sum := "f80a9e88de5e31eb7d36a8aa3f1dafc933fa25950d9553c4c97ad70b9574c085", func := "quillwork/quillworklaw.ClearViews", spec := "clearViews", unfollowed := true, recurses := true, apart := false, narrowed := true }
def ClearViewsUptoSaid : Prop := clearViewsUptoRow.holds Try.pinned (OpenSpec.upto clearViewsSpec)

/-- 'quillworklaw.ClearSlides', WHERE WHAT IT READS IS OF BULK AT MOST 1048576: true; the input reads as it did. -/
def clearSlidesUptoRow : OpenClaim := { program := "ytebhbhcjfnohmab", sum := "f80a9e88de5e31eb7d36a8aa3f1dafc933fa25950d9553c4c97ad70b9574c085", func := "quillwork/quillworklaw.ClearSlides", spec := "clearSlides", unfollowed := true, recurses := true, apart := false, narrowed := true }
def ClearSlidesUptoSaid : Prop := clearSlidesUptoRow.holds Try.pinned (OpenSpec.upto clearSlidesSpec)

/-- 'quillworklaw.ClearKeeps', WHERE WHAT IT READS IS OF BULK AT MOST 1048576: true; the input reads as it did. -/
def clearKeepsUptoRow : OpenClaim := { program := "ytebhbhcjfnohmab", sum := "f80a9e88de5e31eb7d36a8aa3f1dafc933fa25950d9553c4c97ad70b9574c085", func := "quillwork/quillworklaw.ClearKeeps", spec := "clearKeeps", unfollowed := true, recurses := true, apart := false, narrowed := true }
def ClearKeepsUptoSaid : Prop := clearKeepsUptoRow.holds Try.pinned (OpenSpec.upto clearKeepsSpec)

end Rows
end Go.Proofs.Ytebhbhcjfnohmab
