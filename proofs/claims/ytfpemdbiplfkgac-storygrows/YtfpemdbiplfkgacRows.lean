/-
  No cell of these rows narrows 'for every input' (looked for: loops, veiled, ifaces, maps, wideKeys, modest, calm, conditions, laid).
  DERIVED. THE GIVEN ROWS OF THIS SEAT. 9 by the template 'for every input the law returns true; each argument reads behind the call as it read before'; 0 by the template 'total and deterministic' (their statements: YtfpemdbiplfkgacTotals.lean).
  GIVEN WITH THE SEED: the statements are not yours to turn. If you find one false, say at which input.
  Laid BY PROGRAM, IN A SANDBOX (cutbox-rows.mjs): the forced cells as the released guide's own fill.sh prints them over the translation b6aad506c8be3345… (all of the seat's roots in one cut). By AI agents, Wed Nov 11 2026. No macro, syntax, notation, axiom, sorry.
-/
import Derived.Test.YtfpemdbiplfkgacChecked
import GoSem.Claim
import GoSem.ClaimJoined
import GoSem.ClaimMapViews
import Derived.JoinedTies
import Derived.KernelRfl
namespace Go.Proofs.Ytfpemdbiplfkgac
/- THE CELL 'sum', in the pinned program and in every row, IS THE sha256 OF THE DUMP (.gsa) THAT YtfpemdbiplfkgacProg.lean LOADS. Nothing in Lean hashes anything: it is a label: what it is worth is what the hold of that sum in a sandbox is worth. -/
noncomputable def Try.pinned : Pinned := { name := "ytfpemdbiplfkgac", sum := "b6aad506c8be33455d31f2882d86628739c470536d8f44a7e9bcc2366b0ca0b3", checked := Try.checked }
namespace Rows
def none {H : Type} : Left H := { results := [], args := [] }

/-- 'quillworklaw.WriterAcks': WHATEVER THE INPUT: true; the input reads as it did. -/
def writerAcksSpec : ChangeSpec := { name := "writerAcks", fn := fun _ => fun
  | [d] => { results := [.lit (.bool true)], args := [d] }
  | _ => none }
def writerAcksRow : OpenClaim := { program := "ytfpemdbiplfkgac", sum := "b6aad506c8be33455d31f2882d86628739c470536d8f44a7e9bcc2366b0ca0b3", func := "quillwork/quillworklaw.WriterAcks", spec := "writerAcks", unfollowed := true, recurses := true, apart := false }
def WriterAcksSaid : Prop := writerAcksRow.holds Try.pinned (OpenSpec.ofChange writerAcksSpec)

/-- ITS FALSE NEIGHBOUR: 'it returns false'. Refute it at one input. -/
def writerAcksWrong : ChangeSpec := { name := "writerAcks", fn := fun _ => fun
  | [d] => { results := [.lit (.bool false)], args := [d] }
  | _ => none }
def WriterAcksWrongFalsely : Prop := writerAcksRow.holds Try.pinned (OpenSpec.ofChange writerAcksWrong)

/-- 'quillworklaw.WriterTells': WHATEVER THE INPUT: true; the input reads as it did. -/
def writerTellsSpec : ChangeSpec := { name := "writerTells", fn := fun _ => fun
  | [d] => { results := [.lit (.bool true)], args := [d] }
  | _ => none }
def writerTellsRow : OpenClaim := { program := "ytfpemdbiplfkgac", sum := "b6aad506c8be33455d31f2882d86628739c470536d8f44a7e9bcc2366b0ca0b3", func := "quillwork/quillworklaw.WriterTells", spec := "writerTells", unfollowed := true, recurses := true, apart := false }
def WriterTellsSaid : Prop := writerTellsRow.holds Try.pinned (OpenSpec.ofChange writerTellsSpec)

/-- ITS FALSE NEIGHBOUR: 'it returns false'. Refute it at one input. -/
def writerTellsWrong : ChangeSpec := { name := "writerTells", fn := fun _ => fun
  | [d] => { results := [.lit (.bool false)], args := [d] }
  | _ => none }
def WriterTellsWrongFalsely : Prop := writerTellsRow.holds Try.pinned (OpenSpec.ofChange writerTellsWrong)

/-- 'quillworklaw.WriterRefuses': WHATEVER THE INPUT: true; the input reads as it did. -/
def writerRefusesSpec : ChangeSpec := { name := "writerRefuses", fn := fun _ => fun
  | [d1, d2, d3] => { results := [.lit (.bool true)], args := [d1, d2, d3] }
  | _ => none }
def writerRefusesRow : OpenClaim := { program := "ytfpemdbiplfkgac", sum := "b6aad506c8be33455d31f2882d86628739c470536d8f44a7e9bcc2366b0ca0b3", func := "quillwork/quillworklaw.WriterRefuses", spec := "writerRefuses", unfollowed := true, recurses := true, apart := false }
def WriterRefusesSaid : Prop := writerRefusesRow.holds Try.pinned (OpenSpec.ofChange writerRefusesSpec)

/-- ITS FALSE NEIGHBOUR: 'it returns false'. Refute it at one input. -/
def writerRefusesWrong : ChangeSpec := { name := "writerRefuses", fn := fun _ => fun
  | [d1, d2, d3] => { results := [.lit (.bool false)], args := [d1, d2, d3] }
  | _ => none }
def WriterRefusesWrongFalsely : Prop := writerRefusesRow.holds Try.pinned (OpenSpec.ofChange writerRefusesWrong)

/-- 'quillworklaw.DesksMeet': WHATEVER THE INPUT: true; the input reads as it did. -/
def desksMeetSpec : ChangeSpec := { name := "desksMeet", fn := fun _ => fun
  | [d] => { results := [.lit (.bool true)], args := [d] }
  | _ => none }
def desksMeetRow : OpenClaim := { program := "ytfpemdbiplfkgac", sum := "b6aad506c8be33455d31f2882d86628739c470536d8f44a7e9bcc2366b0ca0b3", func := "quillwork/quillworklaw.DesksMeet", spec := "desksMeet", unfollowed := true, recurses := true, apart := false }
def DesksMeetSaid : Prop := desksMeetRow.holds Try.pinned (OpenSpec.ofChange desksMeetSpec)

/-- ITS FALSE NEIGHBOUR: 'it returns false'. Refute it at one input. -/
def desksMeetWrong : ChangeSpec := { name := "desksMeet", fn := fun _ => fun
  | [d] => { results := [.lit (.bool false)], args := [d] }
  | _ => none }
def DesksMeetWrongFalsely : Prop := desksMeetRow.holds Try.pinned (OpenSpec.ofChange desksMeetWrong)

/-- 'quillworklaw.DesksClear': WHATEVER THE INPUT: true; the input reads as it did. -/
def desksClearSpec : ChangeSpec := { name := "desksClear", fn := fun _ => fun
  | [d] => { results := [.lit (.bool true)], args := [d] }
  | _ => none }
def desksClearRow : OpenClaim := { program := "ytfpemdbiplfkgac", sum := "b6aad506c8be33455d31f2882d86628739c470536d8f44a7e9bcc2366b0ca0b3", func := "quillwork/quillworklaw.DesksClear", spec := "desksClear", unfollowed := true, recurses := true, apart := false }
def DesksClearSaid : Prop := desksClearRow.holds Try.pinned (OpenSpec.ofChange desksClearSpec)

/-- ITS FALSE NEIGHBOUR: 'it returns false'. Refute it at one input. -/
def desksClearWrong : ChangeSpec := { name := "desksClear", fn := fun _ => fun
  | [d] => { results := [.lit (.bool false)], args := [d] }
  | _ => none }
def DesksClearWrongFalsely : Prop := desksClearRow.holds Try.pinned (OpenSpec.ofChange desksClearWrong)

/-- 'quillworklaw.DesksLate': WHATEVER THE INPUT: true; the input reads as it did. -/
def desksLateSpec : ChangeSpec := { name := "desksLate", fn := fun _ => fun
  | [d1, d2, d3] => { results := [.lit (.bool true)], args := [d1, d2, d3] }
  | _ => none }
def desksLateRow : OpenClaim := { program := "ytfpemdbiplfkgac", sum := "b6aad506c8be33455d31f2882d86628739c470536d8f44a7e9bcc2366b0ca0b3", func := "quillwork/quillworklaw.DesksLate", spec := "desksLate", unfollowed := true, recurses := true, apart := false }
def DesksLateSaid : Prop := desksLateRow.holds Try.pinned (OpenSpec.ofChange desksLateSpec)

/-- ITS FALSE NEIGHBOUR: 'it returns false'. Refute it at one input. -/
def desksLateWrong : ChangeSpec := { name := "desksLate", fn := fun _ => fun
  | [d1, d2, d3] => { results := [.lit (.bool false)], args := [d1, d2, d3] }
  | _ => none }
def DesksLateWrongFalsely : Prop := desksLateRow.holds Try.pinned (OpenSpec.ofChange desksLateWrong)

/-- 'quillworklaw.DesksAlone': WHATEVER THE INPUT: true; the input reads as it did. -/
def desksAloneSpec : ChangeSpec := { name := "desksAlone", fn := fun _ => fun
  | [d] => { results := [.lit (.bool true)], args := [d] }
  | _ => none }
def desksAloneRow : OpenClaim := { program := "ytfpemdbiplfkgac", sum := "b6aad506c8be33455d31f2882d86628739c470536d8f44a7e9bcc2366b0ca0b3", func := "quillwork/quillworklaw.DesksAlone", spec := "desksAlone", unfollowed := true, recurses := true, apart := false }
def DesksAloneSaid : Prop := desksAloneRow.holds Try.pinned (OpenSpec.ofChange desksAloneSpec)

/-- ITS FALSE NEIGHBOUR: 'it returns false'. Refute it at one input. -/
def desksAloneWrong : ChangeSpec := { name := "desksAlone", fn := fun _ => fun
  | [d] => { results := [.lit (.bool false)], args := [d] }
  | _ => none }
def DesksAloneWrongFalsely : Prop := desksAloneRow.holds Try.pinned (OpenSpec.ofChange desksAloneWrong)

/-- 'quillworklaw.DesksAgain': WHATEVER THE INPUT: true; the input reads as it did. -/
def desksAgainSpec : ChangeSpec := { name := "desksAgain", fn := fun _ => fun
  | [d1, d2, d3, d4] => { results := [.lit (.bool true)], args := [d1, d2, d3, d4] }
  | _ => none }
def desksAgainRow : OpenClaim := { program := "ytfpemdbiplfkgac", sum := "b6aad506c8be33455d31f2882d86628739c470536d8f44a7e9bcc2366b0ca0b3", func := "quillwork/quillworklaw.DesksAgain", spec := "desksAgain", unfollowed := true, recurses := true, apart := false }
def DesksAgainSaid : Prop := desksAgainRow.holds Try.pinned (OpenSpec.ofChange desksAgainSpec)

/-- ITS FALSE NEIGHBOUR: 'it returns false'. Refute it at one input. -/
def desksAgainWrong : ChangeSpec := { name := "desksAgain", fn := fun _ => fun
  | [d1, d2, d3, d4] => { results := [.lit (.bool false)], args := [d1, d2, d3, d4] }
  | _ => none }
def DesksAgainWrongFalsely : Prop := desksAgainRow.holds Try.pinned (OpenSpec.ofChange desksAgainWrong)

/-- 'quillworklaw.StoryGrows': WHATEVER THE INPUT: true; the input reads as it did. -/
def storyGrowsSpec : ChangeSpec := { name := "storyGrows", fn := fun _ => fun
  | [d1, d2] => { results := [.lit (.bool true)], args := [d1, d2] }
  | _ => none }
def storyGrowsRow : OpenClaim := { program := "ytfpemdbiplfkgac", sum := "b6aad506c8be33455d31f2882d86628739c470536d8f44a7e9bcc2366b0ca0b3", func := "quillwork/quillworklaw.StoryGrows", spec := "storyGrows", unfollowed := true, recurses := true, apart := false }
def StoryGrowsSaid : Prop := storyGrowsRow.holds Try.pinned (OpenSpec.ofChange storyGrowsSpec)

/-- ITS FALSE NEIGHBOUR: 'it returns false'. Refute it at one input. -/
def storyGrowsWrong : ChangeSpec := { name := "storyGrows", fn := fun _ => fun
  | [d1, d2] => { results := [.lit (.bool false)], args := [d1, d2] }
  | _ => none }
def StoryGrowsWrongFalsely : Prop := storyGrowsRow.holds Try.pinned (OpenSpec.ofChange storyGrowsWrong)

/- THE SECOND FORM. 'bulk': how many values and letters a reading holds, each counted each time it is reached (what is shared counts as often as it is met; a slice's spare places count too). A statement '..UptoSaid' is the law's where the arguments, and the package variables that the reading takes, are together of bulk at most 1048576: NARROWER than '..Said'. Prove '..Said' where nothing that the law and all that it calls make is longer than what came in: it says more and counts as full. Else prove '..UptoSaid'. A law counts once. -/
mutual
def uptoBulk {H : Type} : DataW H → Nat
  | .lit (.string bytes) => bytes.length + 1
  | .lit _ => 1
  | .nil => 1
  | .ptr d => uptoBulk d + 1
  | .slice elems spare => uptoBulkAll elems + uptoBulkAll spare + 1
  | .agg parts => uptoBulkAll parts + 1
  | .iface _ d => uptoBulk d + 1
  | .map entries => uptoBulkEntries entries + 1
  | .held _ => 1
def uptoBulkAll {H : Type} : List (DataW H) → Nat
  | [] => 0
  | d :: r => uptoBulk d + uptoBulkAll r
def uptoBulkEntries {H : Type} : List (Lit × DataW H) → Nat
  | [] => 0
  | x :: r => uptoBulkEntry x + uptoBulkEntries r
def uptoBulkEntry {H : Type} : Lit × DataW H → Nat
  | (.string bytes, d) => bytes.length + uptoBulk d + 1
  | (_, d) => uptoBulk d + 1
 end
def uptoSmall : (H : Type) → List (DataW H) → Bool := fun _ ds => decide (uptoBulkAll ds ≤ 1048576)
def OpenSpec.upto (s : _root_.Go.ChangeSpec) : _root_.Go.OpenSpec := { _root_.Go.OpenSpec.ofChange s with cond := some uptoSmall }

/-- 'quillworklaw.WriterAcks', WHERE WHAT IT READS IS OF BULK AT MOST 1048576: true; the input reads as it did. -/
def writerAcksUptoRow : OpenClaim := { program := "ytfpemdbiplfkgac", sum := "b6aad506c8be33455d31f2882d86628739c470536d8f44a7e9bcc2366b0ca0b3", func := "quillwork/quillworklaw.WriterAcks", spec := "writerAcks", unfollowed := true, recurses := true, apart := false, narrowed := true }
def WriterAcksUptoSaid : Prop := writerAcksUptoRow.holds Try.pinned (OpenSpec.upto writerAcksSpec)

/-- 'quillworklaw.WriterTells', WHERE WHAT IT READS IS OF BULK AT MOST 1048576: true; the input reads as it did. -/
def writerTellsUptoRow : OpenClaim := { program := "ytfpemdbiplfkgac", sum := "b6aad506c8be33455d31f2882d86628739c470536d8f44a7e9bcc2366b0ca0b3", func := "quillwork/quillworklaw.WriterTells", spec := "writerTells", unfollowed := true, recurses := true, apart := false, narrowed := true }
def WriterTellsUptoSaid : Prop := writerTellsUptoRow.holds Try.pinned (OpenSpec.upto writerTellsSpec)

/-- 'quillworklaw.WriterRefuses', WHERE WHAT IT READS IS OF BULK AT MOST 1048576: true; the input reads as it did. -/
def writerRefusesUptoRow : OpenClaim := { program := "ytfpemdbiplfkgac", sum := "b6aad506c8be33455d31f2882d86628739c470536d8f44a7e9bcc2366b0ca0b3", func := "quillwork/quillworklaw.WriterRefuses", spec := "writerRefuses", unfollowed := true, recurses := true, apart := false, narrowed := true }
def WriterRefusesUptoSaid : Prop := writerRefusesUptoRow.holds Try.pinned (OpenSpec.upto writerRefusesSpec)

/-- 'quillworklaw.DesksMeet', WHERE WHAT IT READS IS OF BULK AT MOST 1048576: true; the input reads as it did. -/
def desksMeetUptoRow : OpenClaim := { program := "ytfpemdbiplfkgac", sum := "b6aad506c8be33455d31f2882d86628739c470536d8f44a7e9bcc2366b0ca0b3", func := "quillwork/quillworklaw.DesksMeet", spec := "desksMeet", unfollowed := true, recurses := true, apart := false, narrowed := true }
def DesksMeetUptoSaid : Prop := desksMeetUptoRow.holds Try.pinned (OpenSpec.upto desksMeetSpec)

/-- 'quillworklaw.DesksClear', WHERE WHAT IT READS IS OF BULK AT MOST 1048576: true; the input reads as it did. -/
def desksClearUptoRow : OpenClaim := { program := "ytfpemdbiplfkgac", sum := "b6aad506c8be33455d31f2882d86628739c470536d8f44a7e9bcc2366b0ca0b3", func := "quillwork/quillworklaw.DesksClear", spec := "desksClear", unfollowed := true, recurses := true, apart := false, narrowed := true }
def DesksClearUptoSaid : Prop := desksClearUptoRow.holds Try.pinned (OpenSpec.upto desksClearSpec)

/-- 'quillworklaw.DesksLate', WHERE WHAT IT READS IS OF BULK AT MOST 1048576: true; the input reads as it did. -/
def desksLateUptoRow : OpenClaim := { program := "ytfpemdbiplfkgac", sum := "b6aad506c8be33455d31f2882d86628739c470536d8f44a7e9bcc2366b0ca0b3", func := "quillwork/quillworklaw.DesksLate", spec := "desksLate", unfollowed := true, recurses := true, apart := false, narrowed := true }
def DesksLateUptoSaid : Prop := desksLateUptoRow.holds Try.pinned (OpenSpec.upto desksLateSpec)

/-- 'quillworklaw.DesksAlone', WHERE WHAT IT READS IS OF BULK AT MOST 1048576: true; the input reads as it did. -/
def desksAloneUptoRow : OpenClaim := { program := "ytfpemdbiplfkgac", sum := "b6aad506c8be33455d31f2882d86628739c470536d8f44a7e9bcc2366b0ca0b3", func := "quillwork/quillworklaw.DesksAlone", spec := "desksAlone", unfollowed := true, recurses := true, apart := false, narrowed := true }
def DesksAloneUptoSaid : Prop := desksAloneUptoRow.holds Try.pinned (OpenSpec.upto desksAloneSpec)

/-- 'quillworklaw.DesksAgain', WHERE WHAT IT READS IS OF BULK AT MOST 1048576: true; the input reads as it did. -/
def desksAgainUptoRow : OpenClaim := { program := "ytfpemdbiplfkgac", sum := "b6aad506c8be33455d31f2882d86628739c470536d8f44a7e9bcc2366b0ca0b3", func := "quillwork/quillworklaw.DesksAgain", spec := "desksAgain", unfollowed := true, recurses := true, apart := false, narrowed := true }
def DesksAgainUptoSaid : Prop := desksAgainUptoRow.holds Try.pinned (OpenSpec.upto desksAgainSpec)

/-- 'quillworklaw.StoryGrows', WHERE WHAT IT READS IS OF BULK AT MOST 1048576: true; the input reads as it did. -/
def storyGrowsUptoRow : OpenClaim := { program := "ytfpemdbiplfkgac", sum := "b6aad506c8be33455d31f2882d86628739c470536d8f44a7e9bcc2366b0ca0b3", func := "quillwork/quillworklaw.StoryGrows", spec := "storyGrows", unfollowed := true, recurses := true, apart := false, narrowed := true }
def StoryGrowsUptoSaid : Prop := storyGrowsUptoRow.holds Try.pinned (OpenSpec.upto storyGrowsSpec)

end Rows
end Go.Proofs.Ytfpemdbiplfkgac
