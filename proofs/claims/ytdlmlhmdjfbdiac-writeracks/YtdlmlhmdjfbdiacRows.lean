/-
  No cell of these rows narrows 'for every input' (looked for: loops, veiled, ifaces, maps, wideKeys, modest, calm, conditions, laid).
  DERIVED. THE GIVEN ROWS OF THIS SEAT. 3 by the template 'for every input the law returns true; each argument reads behind the call as it read before'; 0 by the template 'total and deterministic' (their statements: YtdlmlhmdjfbdiacTotals.lean).
  GIVEN WITH THE SEED: the statements are not yours to turn. If you find one false, say at which input.
  Laid BY PROGRAM, IN A SANDBOX (cutbox-rows.mjs): the forced cells as the released guide's own fill.sh prints them over the translation 09b53dc8d12baa09… (all of the seat's roots in one cut). By AI agents, Wed Nov 11 2026. No macro, syntax, notation, axiom, sorry.
-/
import Derived.Test.YtdlmlhmdjfbdiacChecked
import GoSem.Claim
import GoSem.ClaimJoined
import GoSem.ClaimMapViews
import Derived.JoinedTies
import Derived.KernelRfl
namespace Go.Proofs.Ytdlmlhmdjfbdiac
/- THE CELL 'sum', in the pinned program and in every row, IS THE sha256 OF THE DUMP (.gsa) THAT YtdlmlhmdjfbdiacProg.lean LOADS. Nothing in Lean hashes anything: it is a label: what it is worth is what the hold of that sum in a sandbox is worth. -/
noncomputable def Try.pinned : Pinned := { name := "ytdlmlhmdjfbdiac", sum := "09b53dc8d12baa09311122772a6fc432087cf5583682da0d2189c0288c24709e", checked := Try.checked }
namespace Rows
def none {H : Type} : Left H := { results := [], args := [] }

/-- 'quillworklaw.WriterAcks': WHATEVER THE INPUT: true; the input reads as it did. -/
def writerAcksSpec : ChangeSpec := { name := "writerAcks", fn := fun _ => fun
  | [d] => { results := [.lit (.bool true)], args := [d] }
  | _ => none }
def writerAcksRow : OpenClaim := { program := "ytdlmlhmdjfbdiac", sum := "09b53dc8d12baa09311122772a6fc432087cf5583682da0d2189c0288c24709e", func := "quillwork/quillworklaw.WriterAcks", spec := "writerAcks", unfollowed := true, recurses := true, apart := false }
def WriterAcksSaid : Prop := writerAcksRow.holds Try.pinned (OpenSpec.ofChange writerAcksSpec)

/-- ITS FALSE NEIGHBOUR: 'it returns false'. Refute it at one input. -/
def writerAcksWrong : ChangeSpec := { name := "writerAcks", fn := fun _ => fun
  | [d] => { results := [.lit (.bool false)], args := [d] }
  | _ => none }
def WriterAcksWrongFalsely : Prop := writerAcksRow.holds Try.pinned (OpenSpec.ofChange writerAcksWrong)

/-- 'quillworklaw.WriterTells': WHATEVER THE INPUT: true; the input reads as it did. -/
def writerTellsSpec : ChangeSpec := { name := "writerTells", fn := fun _ => fun
  | [d] => { results := [.lit (.bool true)], args := [d] }
  | _ => none }
def writerTellsRow : OpenClaim := { program := "ytdlmlhmdjfbdiac", sum := "09b53dc8d12baa09311122772a6fc432087cf5583682da0d2189c0288c24709e", func := "quillwork/quillworklaw.WriterTells", spec := "writerTells", unfollowed := true, recurses := true, apart := false }
def WriterTellsSaid : Prop := writerTellsRow.holds Try.pinned (OpenSpec.ofChange writerTellsSpec)

/-- ITS FALSE NEIGHBOUR: 'it returns false'. Refute it at one input. -/
def writerTellsWrong : ChangeSpec := { name := "writerTells", fn := fun _ => fun
  | [d] => { results := [.lit (.bool false)], args := [d] }
  | _ => none }
def WriterTellsWrongFalsely : Prop := writerTellsRow.holds Try.pinned (OpenSpec.ofChange writerTellsWrong)

/-- 'quillworklaw.WriterRefuses': WHATEVER THE INPUT: true; the input reads as it did. -/
def writerRefusesSpec : ChangeSpec := { name := "writerRefuses", fn := fun _ => fun
  | [d1, d2, d3] => { results := [.lit (.bool true)], args := [d1, d2, d3] }
  | _ => none }
def writerRefusesRow : OpenClaim := { program := "ytdlmlhmdjfbdiac", sum := "09b53dc8d12baa09311122772a6fc432087cf5583682da0d2189c0288c24709e", func := "quillwork/quillworklaw.WriterRefuses", spec := "writerRefuses", unfollowed := true, recurses := true, apart := false }
def WriterRefusesSaid : Prop := writerRefusesRow.holds Try.pinned (OpenSpec.ofChange writerRefusesSpec)

/-- ITS FALSE NEIGHBOUR: 'it returns false'. Refute it at one input. -/
def writerRefusesWrong : ChangeSpec := { name := "writerRefuses", fn := fun _ => fun
  | [d1, d2, d3] => { results := [.lit (.bool false)], args := [d1, d2, d3] }
  | _ => none }
def WriterRefusesWrongFalsely : Prop := writerRefusesRow.holds Try.pinned (OpenSpec.ofChange writerRefusesWrong)

/- THE SECOND FORM. 'bulk': how many values and letters a reading holds, each counted each time it is reached (what is shared counts as often as it is met; a slice's spare places count too). A statement '..UptoSaid' is the law's where the arguments, and the package variables that the reading takes, are together of bulk at most 1048576: NARROWER than '..Said'. Prove '..Said' where nothing that the law and all that it calls make is longer than what came in: it says more and counts as full. Else prove '..UptoSaid'. A law counts once. -/
mutual
def uptoBulk {H : Type} : DataW H → Nat
  | .lit (.string bytes) => bytes.length + 1
  | .lit _ => 1
  | .nil => 1
  | .ptr d => uptoBulk d + 1
  | .slice elems spare => uptoBulkAll elems + uptoBulkAll spare + 1
  | .agg parts => uptoBulkAll parts + 1
  | .iface _ d => uptoBulk d + 1
  | .map entries => uptoBulkEntries entries + 1
  | .held _ => 1
def uptoBulkAll {H : Type} : List (DataW H) → Nat
  | [] => 0
  | d :: r => uptoBulk d + uptoBulkAll r
def uptoBulkEntries {H : Type} : List (Lit × DataW H) → Nat
  | [] => 0
  | x :: r => uptoBulkEntry x + uptoBulkEntries r
def uptoBulkEntry {H : Type} : Lit × DataW H → Nat
  | (.string bytes, d) => bytes.length + uptoBulk d + 1
  | (_, d) => uptoBulk d + 1
 end
def uptoSmall : (H : Type) → List (DataW H) → Bool := fun _ ds => decide (uptoBulkAll ds ≤ 1048576)
def OpenSpec.upto (s : _root_.Go.ChangeSpec) : _root_.Go.OpenSpec := { _root_.Go.OpenSpec.ofChange s with cond := some uptoSmall }

/-- 'quillworklaw.WriterAcks', WHERE WHAT IT READS IS OF BULK AT MOST 1048576: true; the input reads as it did. -/
def writerAcksUptoRow : OpenClaim := { program := "ytdlmlhmdjfbdiac", sum := "09b53dc8d12baa09311122772a6fc432087cf5583682da0d2189c0288c24709e", func := "quillwork/quillworklaw.WriterAcks", spec := "writerAcks", unfollowed := true, recurses := true, apart := false, narrowed := true }
def WriterAcksUptoSaid : Prop := writerAcksUptoRow.holds Try.pinned (OpenSpec.upto writerAcksSpec)

/-- 'quillworklaw.WriterTells', WHERE WHAT IT READS IS OF BULK AT MOST 1048576: true; the input reads as it did. -/
def writerTellsUptoRow : OpenClaim := { program := "ytdlmlhmdjfbdiac", sum := "09b53dc8d12baa09311122772a6fc432087cf5583682da0d2189c0288c24709e", func := "quillwork/quillworklaw.WriterTells", spec := "writerTells", unfollowed := true, recurses := true, apart := false, narrowed := true }
def WriterTellsUptoSaid : Prop := writerTellsUptoRow.holds Try.pinned (OpenSpec.upto writerTellsSpec)

/-- 'quillworklaw.WriterRefuses', WHERE WHAT IT READS IS OF BULK AT MOST 1048576: true; the input reads as it did. -/
def writerRefusesUptoRow : OpenClaim := { program := "ytdlmlhmdjfbdiac", sum := "09b53dc8d12baa09311122772a6fc432087cf5583682da0d2189c0288c24709e", func := "quillwork/quillworklaw.WriterRefuses", spec := "writerRefuses", unfollowed := true, recurses := true, apart := false, narrowed := true }
def WriterRefusesUptoSaid : Prop := writerRefusesUptoRow.holds Try.pinned (OpenSpec.upto writerRefusesSpec)

end Rows
end Go.Proofs.Ytdlmlhmdjfbdiac
