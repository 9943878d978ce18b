/-
  No cell of these rows narrows 'for every input' (looked for: loops, veiled, ifaces, maps, wideKeys, modest, calm, conditions, laid).
  DERIVED. THE GIVEN ROWS OF THIS SEAT. 7 by the template 'for every input the law returns true; each argument reads behind the call as it read before'; 0 by the template 'total and deterministic' (their statements: YtgcklgiapjbkhaaTotals.lean).
  GIVEN WITH THE SEED: the statements are not yours to turn. If you find one false, say at which input.
  Laid BY PROGRAM, IN A SANDBOX (cutbox-rows.mjs): the forced cells as the released guide's own fill.sh prints them over the translation 352954fc5bfb4cf4… (all of the seat's roots in one cut). By AI agents, Wed Nov 11 2026. No macro, syntax, notation, axiom, sorry.
-/
import Derived.Test.YtgcklgiapjbkhaaChecked
import GoSem.Claim
import GoSem.ClaimJoined
import GoSem.ClaimMapViews
import Derived.JoinedTies
import Derived.KernelRfl
namespace Go.Proofs.Ytgcklgiapjbkhaa
/- THE CELL 'sum', in the pinned program and in every row, IS THE sha256 OF THE DUMP (.gsa) THAT YtgcklgiapjbkhaaProg.lean LOADS. Nothing in Lean hashes anything: it is a label: what it is worth is what the hold of that sum in a sandbox is worth. -/
noncomputable def Try.pinned : Pinned := { name := "ytgcklgiapjbkhaa", sum := "352954fc5bfb4cf45a9e01638f6426addc511779734a1d344d3c08f3f87ee578", checked := Try.checked }
namespace Rows
def none {H : Type} : Left H := { results := [], args := [] }

/-- 'quillworklaw.CharsBehind': WHATEVER THE INPUT: true; the input reads as it did. -/
def charsBehindSpec : ChangeSpec := { name := "charsBehind", fn := fun _ => fun
  | [d1, d2, d3, d4] => { results := [.lit (.bool true)], args := [d1, d2, d3, d4] }
  | _ => none }
def charsBehindRow : OpenClaim := { program := "ytgcklgiapjbkhaa", sum := "352954fc5bfb4cf45a9e01638f6426addc511779734a1d344d3c08f3f87ee578", func := "quillwork/quillworklaw.CharsBehind", spec := "charsBehind", unfollowed := true, recurses := true, apart := false }
def CharsBehindSaid : Prop := charsBehindRow.holds Try.pinned (OpenSpec.ofChange charsBehindSpec)

/-- ITS FALSE NEIGHBOUR: 'it returns false'. Refute it at one input. -/
def charsBehindWrong : ChangeSpec := { name := "charsBehind", fn := fun _ => fun
  | [d1, d2, d3, d4] => { results := [.lit (.bool false)], args := [d1, d2, d3, d4] }
  | _ => none }
def CharsBehindWrongFalsely : Prop := charsBehindRow.holds Try.pinned (OpenSpec.ofChange charsBehindWrong)

/-- 'quillworklaw.CharsMore': WHATEVER THE INPUT: true; the input reads as it did. -/
def charsMoreSpec : ChangeSpec := { name := "charsMore", fn := fun _ => fun
  | [d1, d2, d3, d4] => { results := [.lit (.bool true)], args := [d1, d2, d3, d4] }
  | _ => none }
def charsMoreRow : OpenClaim := { program := "ytgcklgiapjbkhaa", sum := "352954fc5bfb4cf45a9e01638f6426addc511779734a1d344d3c08f3f87ee578", func := "quillwork/quillworklaw.CharsMore", spec := "charsMore", unfollowed := true, recurses := true, apart := false }
def CharsMoreSaid : Prop := charsMoreRow.holds Try.pinned (OpenSpec.ofChange charsMoreSpec)

/-- ITS FALSE NEIGHBOUR: 'it returns false'. Refute it at one input. -/
def charsMoreWrong : ChangeSpec := { name := "charsMore", fn := fun _ => fun
  | [d1, d2, d3, d4] => { results := [.lit (.bool false)], args := [d1, d2, d3, d4] }
  | _ => none }
def CharsMoreWrongFalsely : Prop := charsMoreRow.holds Try.pinned (OpenSpec.ofChange charsMoreWrong)

/-- 'quillworklaw.FoldSplices': WHATEVER THE INPUT: true; the input reads as it did. -/
def foldSplicesSpec : ChangeSpec := { name := "foldSplices", fn := fun _ => fun
  | [d1, d2, d3] => { results := [.lit (.bool true)], args := [d1, d2, d3] }
  | _ => none }
def foldSplicesRow : OpenClaim := { program := "ytgcklgiapjbkhaa", sum := "352954fc5bfb4cf45a9e01638f6426addc511779734a1d344d3c08f3f87ee578", func := "quillwork/quillworklaw.FoldSplices", spec := "foldSplices", unfollowed := true, recurses := true, apart := false }
def FoldSplicesSaid : Prop := foldSplicesRow.holds Try.pinned (OpenSpec.ofChange foldSplicesSpec)

/-- ITS FALSE NEIGHBOUR: 'it returns false'. Refute it at one input. -/
def foldSplicesWrong : ChangeSpec := { name := "foldSplices", fn := fun _ => fun
  | [d1, d2, d3] => { results := [.lit (.bool false)], args := [d1, d2, d3] }
  | _ => none }
def FoldSplicesWrongFalsely : Prop := foldSplicesRow.holds Try.pinned (OpenSpec.ofChange foldSplicesWrong)

/-- 'quillworklaw.FoldOthers': WHATEVER THE INPUT: true; the input reads as it did. -/
def foldOthersSpec : ChangeSpec := { name := "foldOthers", fn := fun _ => fun
  | [d1, d2, d3, d4, d5] => { results := [.lit (.bool true)], args := [d1, d2, d3, d4, d5] }
  | _ => none }
def foldOthersRow : OpenClaim := { program := "ytgcklgiapjbkhaa", sum := "352954fc5bfb4cf45a9e01638f6426addc511779734a1d344d3c08f3f87ee578", func := "quillwork/quillworklaw.FoldOthers", spec := "foldOthers", unfollowed := true, recurses := true, apart := false }
def FoldOthersSaid : Prop := foldOthersRow.holds Try.pinned (OpenSpec.ofChange foldOthersSpec)

/-- ITS FALSE NEIGHBOUR: 'it returns false'. Refute it at one input. -/
def foldOthersWrong : ChangeSpec := { name := "foldOthers", fn := fun _ => fun
  | [d1, d2, d3, d4, d5] => { results := [.lit (.bool false)], args := [d1, d2, d3, d4, d5] }
  | _ => none }
def FoldOthersWrongFalsely : Prop := foldOthersRow.holds Try.pinned (OpenSpec.ofChange foldOthersWrong)

/-- 'quillworklaw.FoldKeeps': WHATEVER THE INPUT: true; the input reads as it did. -/
def foldKeepsSpec : ChangeSpec := { name := "foldKeeps", fn := fun _ => fun
  | [d1, d2, d3] => { results := [.lit (.bool true)], args := [d1, d2, d3] }
  | _ => none }
def foldKeepsRow : OpenClaim := { program := "ytgcklgiapjbkhaa", sum := "352954fc5bfb4cf45a9e01638f6426addc511779734a1d344d3c08f3f87ee578", func := "quillwork/quillworklaw.FoldKeeps", spec := "foldKeeps", unfollowed := true, recurses := true, apart := false }
def FoldKeepsSaid : Prop := foldKeepsRow.holds Try.pinned (OpenSpec.ofChange foldKeepsSpec)

/-- ITS FALSE NEIGHBOUR: 'it returns false'. Refute it at one input. -/
def foldKeepsWrong : ChangeSpec := { name := "foldKeeps", fn := fun _ => fun
  | [d1, d2, d3] => { results := [.lit (.bool false)], args := [d1, d2, d3] }
  | _ => none }
def FoldKeepsWrongFalsely : Prop := foldKeepsRow.holds Try.pinned (OpenSpec.ofChange foldKeepsWrong)

/-- 'quillworklaw.FoldMeets': WHATEVER THE INPUT: true; the input reads as it did. -/
def foldMeetsSpec : ChangeSpec := { name := "foldMeets", fn := fun _ => fun
  | [d1, d2, d3, d4] => { results := [.lit (.bool true)], args := [d1, d2, d3, d4] }
  | _ => none }
def foldMeetsRow : OpenClaim := { program := "ytgcklgiapjbkhaa", sum := "352954fc5bfb4cf45a9e01638f6426addc511779734a1d344d3c08f3f87ee578", func := "quillwork/quillworklaw.FoldMeets", spec := "foldMeets", unfollowed := true, recurses := true, apart := false }
def FoldMeetsSaid : Prop := foldMeetsRow.holds Try.pinned (OpenSpec.ofChange foldMeetsSpec)

/-- ITS FALSE NEIGHBOUR: 'it returns false'. Refute it at one input. -/
def foldMeetsWrong : ChangeSpec := { name := "foldMeets", fn := fun _ => fun
  | [d1, d2, d3, d4] => { results := [.lit (.bool false)], args := [d1, d2, d3, d4] }
  | _ => none }
def FoldMeetsWrongFalsely : Prop := foldMeetsRow.holds Try.pinned (OpenSpec.ofChange foldMeetsWrong)

/-- 'quillworklaw.FoldTakes': WHATEVER THE INPUT: true; the input reads as it did. -/
def foldTakesSpec : ChangeSpec := { name := "foldTakes", fn := fun _ => fun
  | [d1, d2, d3] => { results := [.lit (.bool true)], args := [d1, d2, d3] }
  | _ => none }
def foldTakesRow : OpenClaim := { program := "ytgcklgiapjbkhaa", sum := "352954fc5bfb4cf45a9e01638f6426addc511779734a1d344d3c08f3f87ee578", func := "quillwork/quillworklaw.FoldTakes", spec := "foldTakes", unfollowed := true, recurses := true, apart := false }
def FoldTakesSaid : Prop := foldTakesRow.holds Try.pinned (OpenSpec.ofChange foldTakesSpec)

/-- ITS FALSE NEIGHBOUR: 'it returns false'. Refute it at one input. -/
def foldTakesWrong : ChangeSpec := { name := "foldTakes", fn := fun _ => fun
  | [d1, d2, d3] => { results := [.lit (.bool false)], args := [d1, d2, d3] }
  | _ => none }
def FoldTakesWrongFalsely : Prop := foldTakesRow.holds Try.pinned (OpenSpec.ofChange foldTakesWrong)

/- THE SECOND FORM. 'bulk': how many values and letters a reading holds, each counted each time it is reached (what is shared counts as often as it is met; a slice's spare places count too). A statement '..UptoSaid' is the law's where the arguments, and the package variables that the reading takes, are together of bulk at most 1048576: NARROWER than '..Said'. Prove '..Said' where nothing that the law and all that it calls make is longer than what came in: it says more and counts as full. Else prove '..UptoSaid'. A law counts once. -/
mutual
def uptoBulk {H : Type} : DataW H → Nat
  | .lit (.string bytes) => bytes.length + 1
  | .lit _ => 1
  | .nil => 1
  | .ptr d => uptoBulk d + 1
  | .slice elems spare => uptoBulkAll elems + uptoBulkAll spare + 1
  | .agg parts => uptoBulkAll parts + 1
  | .iface _ d => uptoBulk d + 1
  | .map entries => uptoBulkEntries entries + 1
  | .held _ => 1
def uptoBulkAll {H : Type} : List (DataW H) → Nat
  | [] => 0
  | d :: r => uptoBulk d + uptoBulkAll r
def uptoBulkEntries {H : Type} : List (Lit × DataW H) → Nat
  | [] => 0
  | x :: r => uptoBulkEntry x + uptoBulkEntries r
def uptoBulkEntry {H : Type} : Lit × DataW H → Nat
  | (.string bytes, d) => bytes.length + uptoBulk d + 1
  | (_, d) => uptoBulk d + 1
 end
def uptoSmall : (H : Type) → List (DataW H) → Bool := fun _ ds => decide (uptoBulkAll ds ≤ 1048576)
def OpenSpec.upto (s : _root_.Go.ChangeSpec) : _root_.Go.OpenSpec := { _root_.Go.OpenSpec.ofChange s with cond := some uptoSmall }

/-- 'quillworklaw.CharsBehind', WHERE WHAT IT READS IS OF BULK AT MOST 1048576: true; the input reads as it did. -/
def charsBehindUptoRow : OpenClaim := { program := "ytgcklgiapjbkhaa", sum := "352954fc5bfb4cf45a9e01638f6426addc511779734a1d344d3c08f3f87ee578", func := "quillwork/quillworklaw.CharsBehind", spec := "charsBehind", unfollowed := true, recurses := true, apart := false, narrowed := true }
def CharsBehindUptoSaid : Prop := charsBehindUptoRow.holds Try.pinned (OpenSpec.upto charsBehindSpec)

/-- 'quillworklaw.CharsMore', WHERE WHAT IT READS IS OF BULK AT MOST 1048576: true; the input reads as it did. -/
def charsMoreUptoRow : OpenClaim := { program := "ytgcklgiapjbkhaa", sum := "352954fc5bfb4cf45a9e01638f6426addc511779734a1d344d3c08f3f87ee578", func := "quillwork/quillworklaw.CharsMore", spec := "charsMore", unfollowed := true, recurses := true, apart := false, narrowed := true }
def CharsMoreUptoSaid : Prop := charsMoreUptoRow.holds Try.pinned (OpenSpec.upto charsMoreSpec)

/-- 'quillworklaw.FoldSplices', WHERE WHAT IT READS IS OF BULK AT MOST 1048576: true; the input reads as it did. -/
def foldSplicesUptoRow : OpenClaim := { program := "ytgcklgiapjbkhaa", sum := "352954fc5bfb4cf45a9e01638f6426addc511779734a1d344d3c08f3f87ee578", func := "quillwork/quillworklaw.FoldSplices", spec := "foldSplices", unfollowed := true, recurses := true, apart := false, narrowed := true }
def FoldSplicesUptoSaid : Prop := foldSplicesUptoRow.holds Try.pinned (OpenSpec.upto foldSplicesSpec)

/-- 'quillworklaw.FoldOthers', WHERE WHAT IT READS IS OF BULK AT MOST 1048576: true; the input reads as it did. -/
def foldOthersUptoRow : OpenClaim := { program := "ytgcklgiapjbkhaa", sum := "352954fc5bfb4cf45a9e01638f6426addc511779734a1d344d3c08f3f87ee578", func := "quillwork/quillworklaw.FoldOthers", spec := "foldOthers", unfollowed := true, recurses := true, apart := false, narrowed := true }
def FoldOthersUptoSaid : Prop := foldOthersUptoRow.holds Try.pinned (OpenSpec.upto foldOthersSpec)

/-- 'quillworklaw.FoldKeeps', WHERE WHAT IT READS IS OF BULK AT MOST 1048576: true; the input reads as it did. -/
def foldKeepsUptoRow : OpenClaim := { program := "ytgcklgiapjbkhaa", sum := "352954fc5bfb4cf45a9e01638f6426addc511779734a1d344d3c08f3f87ee578", func := "quillwork/quillworklaw.FoldKeeps", spec := "foldKeeps", unfollowed := true, recurses := true, apart := false, narrowed := true }
def FoldKeepsUptoSaid : Prop := foldKeepsUptoRow.holds Try.pinned (OpenSpec.upto foldKeepsSpec)

/-- 'quillworklaw.FoldMeets', WHERE WHAT IT READS IS OF BULK AT MOST 1048576: true; the input reads as it did. -/
def foldMeetsUptoRow : OpenClaim := { program := "ytgcklgiapjbkhaa", sum := "352954fc5bfb4cf45a9e01638f6426addc511779734a1d344d3c08f3f87ee578", func := "quillwork/quillworklaw.FoldMeets", spec := "foldMeets", unfollowed := true, recurses := true, apart := false, narrowed := true }
def FoldMeetsUptoSaid : Prop := foldMeetsUptoRow.holds Try.pinned (OpenSpec.upto foldMeetsSpec)

/-- 'quillworklaw.FoldTakes', WHERE WHAT IT READS IS OF BULK AT MOST 1048576: true; the input reads as it did. -/
def foldTakesUptoRow : OpenClaim := { program := "ytgcklgiapjbkhaa", sum := "352954fc5bfb4cf45a9e01638f6426addc511779734a1d344d3c08f3f87ee578", func := "quillwork/quillworklaw.FoldTakes", spec := "foldTakes", unfollowed := true, recurses := true, apart := false, narrowed := true }
def FoldTakesUptoSaid : Prop := foldTakesUptoRow.holds Try.pinned (OpenSpec.upto foldTakesSpec)

end Rows
end Go.Proofs.Ytgcklgiapjbkhaa
