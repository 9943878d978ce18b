/-
  No cell of these rows narrows 'for every input' (looked for: loops, veiled, ifaces, maps, wideKeys, modest, calm, conditions, laid).
  DERIVED. THE GIVEN ROWS OF THIS SEAT. 3 by the template 'for every input the law returns true; each argument reads behind the call as it read before'; 0 by the template 'total and deterministic' (their statements: YtfpemdbiplfkgacGreatTotals.lean).
  GIVEN WITH THE SEED: the statements are not yours to turn. If you find one false, say at which input.
  Laid BY PROGRAM, IN A SANDBOX (cutbox-rows.mjs): the forced cells as the released guide's own fill.sh prints them over the translation 1c1ba281311f1355… (all of the seat's roots in one cut). By AI agents, Wed Nov 11 2026. No macro, syntax, notation, axiom, sorry.
-/
import Derived.Test.YtfpemdbiplfkgacGreatChecked
import GoSem.Claim
import GoSem.ClaimJoined
import GoSem.ClaimMapViews
import Derived.JoinedTies
import Derived.KernelRfl
namespace Go.Proofs.YtfpemdbiplfkgacGreat
/- THE CELL 'sum', in the pinned program and in every row, IS THE sha256 OF THE DUMP (.gsa) THAT YtfpemdbiplfkgacGreatProg.lean LOADS. Nothing in Lean hashes anything: it is a label: what it is worth is what the hold of that sum in a sandbox is worth. -/
noncomputable def Tryz.pinned : Pinned := { name := "ytfpemdbiplfkgacgreat", sum := "1c1ba281311f13557715657efd2e27d0e5d11ac36159bd17d84c31f1fcaf377a", checked := Tryz.checked }
namespace Rows
def none {H : Type} : Left H := { results := [], args := [] }

/-- 'quillworklaw.WriterKnows': WHATEVER THE INPUT: true; the input reads as it did. -/
def writerKnowsSpec : ChangeSpec := { name := "writerKnows", fn := fun _ => fun
  | [d1, d2] => { results := [.lit (.bool true)], args := [d1, d2] }
  | _ => none }
def writerKnowsRow : OpenClaim := { program := "ytfpemdbiplfkgacgreat", sum := "1c1ba281311f13557715657efd2e27d0e5d11ac36159bd17d84c31f1fcaf377a", func := "quillwork/quillworklaw.WriterKnows", spec := "writerKnows", unfollowed := true, recurses := true, apart := false }
def WriterKnowsSaid : Prop := writerKnowsRow.holds Tryz.pinned (OpenSpec.ofChange writerKnowsSpec)

/-- ITS FALSE NEIGHBOUR: 'it returns false'. Refute it at one input. -/
def writerKnowsWrong : ChangeSpec := { name := "writerKnows", fn := fun _ => fun
  | [d1, d2] => { results := [.lit (.bool false)], args := [d1, d2] }
  | _ => none }
def WriterKnowsWrongFalsely : Prop := writerKnowsRow.holds Tryz.pinned (OpenSpec.ofChange writerKnowsWrong)

/-- 'quillworklaw.DesksDoes': WHATEVER THE INPUT: true; the input reads as it did. -/
def desksDoesSpec : ChangeSpec := { name := "desksDoes", fn := fun _ => fun
  | [d] => { results := [.lit (.bool true)], args := [d] }
  | _ => none }
def desksDoesRow : OpenClaim := { program := "ytfpemdbiplfkgacgreat", sum := "1c1ba281311f13557715657efd2e27d0e5d11ac36159bd17d84c31f1fcaf377a", func := "quillwork/quillworklaw.DesksDoes", spec := "desksDoes", unfollowed := true, recurses := true, apart := false }
def DesksDoesSaid : Prop := desksDoesRow.holds Tryz.pinned (OpenSpec.ofChange desksDoesSpec)

/-- ITS FALSE NEIGHBOUR: 'it returns false'. Refute it at one input. -/
def desksDoesWrong : ChangeSpec := { name := "desksDoes", fn := fun _ => fun
  | [d] => { results := [.lit (.bool false)], args := [d] }
  | _ => none }
def DesksDoesWrongFalsely : Prop := desksDoesRow.holds Tryz.pinned (OpenSpec.ofChange desksDoesWrong)

/-- 'quillworklaw.StoryDoes': WHATEVER THE INPUT: true; the input reads as it did. -/
def storyDoesSpec : ChangeSpec := { name := "storyDoes", fn := fun _ => fun
  | [d1, d2, d3] => { results := [.lit (.bool true)], args := [d1, d2, d3] }
  | _ => none }
def storyDoesRow : OpenClaim := { program := "ytfpemdbiplfkgacgreat", sum := "1c1ba281311f13557715657efd2e27d0e5d11ac36159bd17d84c31f1fcaf377a", func := "quillwork/quillworklaw.StoryDoes", spec := "storyDoes", unfollowed := true, recurses := true, apart := false }
def StoryDoesSaid : Prop := storyDoesRow.holds Tryz.pinned (OpenSpec.ofChange storyDoesSpec)

/-- ITS FALSE NEIGHBOUR: 'it returns false'. Refute it at one input. -/
def storyDoesWrong : ChangeSpec := { name := "storyDoes", fn := fun _ => fun
  | [d1, d2, d3] => { results := [.lit (.bool false)], args := [d1, d2, d3] }
  | _ => none }
def StoryDoesWrongFalsely : Prop := storyDoesRow.holds Tryz.pinned (OpenSpec.ofChange storyDoesWrong)

/- THE SECOND FORM. 'bulk': how many values and letters a reading holds, each counted each time it is reached (what is shared counts as often as it is met; a slice's spare places count too). A statement '..UptoSaid' is the law's where the arguments, and the package variables that the reading takes, are together of bulk at most 1048576: NARROWER than '..Said'. Prove '..Said' where nothing that the law and all that it calls make is longer than what came in: it says more and counts as full. Else prove '..UptoSaid'. A law counts once. -/
mutual
def uptoBulk {H : Type} : DataW H → Nat
  | .lit (.string bytes) => bytes.length + 1
  | .lit _ => 1
  | .nil => 1
  | .ptr d => uptoBulk d + 1
  | .slice elems spare => uptoBulkAll elems + uptoBulkAll spare + 1
  | .agg parts => uptoBulkAll parts + 1
  | .iface _ d => uptoBulk d + 1
  | .map entries => uptoBulkEntries entries + 1
  | .held _ => 1
def uptoBulkAll {H : Type} : List (DataW H) → Nat
  | [] => 0
  | d :: r => uptoBulk d + uptoBulkAll r
def uptoBulkEntries {H : Type} : List (Lit × DataW H) → Nat
  | [] => 0
  | x :: r => uptoBulkEntry x + uptoBulkEntries r
def uptoBulkEntry {H : Type} : Lit × DataW H → Nat
  | (.string bytes, d) => bytes.length + uptoBulk d + 1
  | (_, d) => uptoBulk d + 1
 end
def uptoSmall : (H : Type) → List (DataW H) → Bool := fun _ ds => decide (uptoBulkAll ds ≤ 1048576)
def OpenSpec.upto (s : _root_.Go.ChangeSpec) : _root_.Go.OpenSpec := { _root_.Go.OpenSpec.ofChange s with cond := some uptoSmall }

/-- 'quillworklaw.WriterKnows', WHERE WHAT IT READS IS OF BULK AT MOST 1048576: true; the input reads as it did. -/
def writerKnowsUptoRow : OpenClaim := { program := "ytfpemdbiplfkgacgreat", sum := "1c1ba281311f13557715657efd2e27d0e5d11ac36159bd17d84c31f1fcaf377a", func := "quillwork/quillworklaw.WriterKnows", spec := "writerKnows", unfollowed := true, recurses := true, apart := false, narrowed := true }
def WriterKnowsUptoSaid : Prop := writerKnowsUptoRow.holds Tryz.pinned (OpenSpec.upto writerKnowsSpec)

/-- 'quillworklaw.DesksDoes', WHERE WHAT IT READS IS OF BULK AT MOST 1048576: true; the input reads as it did. -/
def desksDoesUptoRow : OpenClaim := { program := "ytfpemdbiplfkgacgreat", sum := "1c1ba281311f13557715657efd2e27d0e5d11ac36159bd17d84c31f1fcaf377a", func := "quillwork/quillworklaw.DesksDoes", spec := "desksDoes", unfollowed := true, recurses := true, apart := false, narrowed := true }
def DesksDoesUptoSaid : Prop := desksDoesUptoRow.holds Tryz.pinned (OpenSpec.upto desksDoesSpec)

/-- 'quillworklaw.StoryDoes', WHERE WHAT IT READS IS OF BULK AT MOST 1048576: true; the input reads as it did. -/
def storyDoesUptoRow : OpenClaim := { program := "ytfpemdbiplfkgacgreat", sum := "1c1ba281311f13557715657efd2e27d0e5d11ac36159bd17d84c31f1fcaf377a", func := "quillwork/quillworklaw.StoryDoes", spec := "storyDoes", unfollowed := true, recurses := true, apart := false, narrowed := true }
def StoryDoesUptoSaid : Prop := storyDoesUptoRow.holds Tryz.pinned (OpenSpec.upto storyDoesSpec)

end Rows
end Go.Proofs.YtfpemdbiplfkgacGreat
