/-
  No cell of these rows narrows 'for every input' (looked for: loops, veiled, ifaces, maps, wideKeys, modest, calm, conditions, laid).
  DERIVED. THE GIVEN ROWS OF THIS SEAT. 2 by the template 'for every input the law returns true; each argument reads behind the call as it read before'; 0 by the template 'total and deterministic' (their statements: YtnnfddemhhpfoaaTotals.lean).
  GIVEN WITH THE SEED: the statements are not yours to turn. If you find one false, say at which input.
  Laid BY PROGRAM, IN A SANDBOX (cutbox-rows.mjs): the forced cells as the released guide's own fill.sh prints them over the translation dd0929dc0e16b623… (all of the seat's roots in one cut). By AI agents, Wed Nov 11 2026. No macro, syntax, notation, axiom, sorry.
-/
import Derived.Test.YtnnfddemhhpfoaaChecked
import GoSem.Claim
import GoSem.ClaimJoined
import GoSem.ClaimMapViews
import Derived.JoinedTies
import Derived.KernelRfl
namespace Go.Proofs.Ytnnfddemhhpfoaa
/- THE CELL 'sum', in the pinned program and in every row, IS THE sha256 OF THE DUMP (.gsa) THAT YtnnfddemhhpfoaaProg.lean LOADS. Nothing in Lean hashes anything: it is a label: what it is worth is what the hold of that sum in a sandbox is worth. -/
noncomputable def Try.pinned : Pinned := { name := "ytnnfddemhhpfoaa", sum := "dd0929dc0e16b623f548ecdb67a30daae614d11a7634e94f37e43d833b72fec1", checked := Try.checked }
namespace Rows
def none {H : Type} : Left H := { results := [], args := [] }

/-- 'quillworklaw.CharsBehind': WHATEVER THE INPUT: true; the input reads as it did. -/
def charsBehindSpec : ChangeSpec := { name := "charsBehind", fn := fun _ => fun
  | [d1, d2, d3, d4] => { results := [.lit (.bool true)], args := [d1, d2, d3, d4] }
  | _ => none }
def charsBehindRow : OpenClaim := { program := "ytnnfddemhhpfoaa", sum := "dd0929dc0e16b623f548ecdb67a30daae614d11a7634e94f37e43d833b72fec1", func := "quillwork/quillworklaw.CharsBehind", spec := "charsBehind", unfollowed := true, recurses := true, apart := false }
def CharsBehindSaid : Prop := charsBehindRow.holds Try.pinned (OpenSpec.ofChange charsBehindSpec)

/-- ITS FALSE NEIGHBOUR: 'it returns false'. Refute it at one input. -/
def charsBehindWrong : ChangeSpec := { name := "charsBehind", fn := fun _ => fun
  | [d1, d2, d3, d4] => { results := [.lit (.bool false)], args := [d1, d2, d3, d4] }
  | _ => none }
def CharsBehindWrongFalsely : Prop := charsBehindRow.holds Try.pinned (OpenSpec.ofChange charsBehindWrong)

/-- 'quillworklaw.CharsMore': WHATEVER THE INPUT: true; the input reads as it did. -/
def charsMoreSpec : ChangeSpec := { name := "charsMore", fn := fun _ => fun
  | [d1, d2, d3, d4] => { results := [.lit (.bool true)], args := [d1, d2, d3, d4] }
  | _ => none }
def charsMoreRow : OpenClaim := { program := "ytnnfddemhhpfoaa", sum := "dd0929dc0e16b623f548ecdb67a30daae614d11a7634e94f37e43d833b72fec1", func := "quillwork/quillworklaw.CharsMore", spec := "charsMore", unfollowed := true, recurses := true, apart := false }
def CharsMoreSaid : Prop := charsMoreRow.holds Try.pinned (OpenSpec.ofChange charsMoreSpec)

/-- ITS FALSE NEIGHBOUR: 'it returns false'. Refute it at one input. -/
def charsMoreWrong : ChangeSpec := { name := "charsMore", fn := fun _ => fun
  | [d1, d2, d3, d4] => { results := [.lit (.bool false)], args := [d1, d2, d3, d4] }
  | _ => none }
def CharsMoreWrongFalsely : Prop := charsMoreRow.holds Try.pinned (OpenSpec.ofChange charsMoreWrong)

/- THE SECOND FORM. 'bulk': how many values and letters a reading holds, each counted each time it is reached (what is shared counts as often as it is met; a slice's spare places count too). A statement '..UptoSaid' is the law's where the arguments, and the package variables that the reading takes, are together of bulk at most 1048576: NARROWER than '..Said'. Prove '..Said' where nothing that the law and all that it calls make is longer than what came in: it says more and counts as full. Else prove '..UptoSaid'. A law counts once. -/
mutual
def uptoBulk {H : Type} : DataW H → Nat
  | .lit (.string bytes) => bytes.length + 1
  | .lit _ => 1
  | .nil => 1
  | .ptr d => uptoBulk d + 1
  | .slice elems spare => uptoBulkAll elems + uptoBulkAll spare + 1
  | .agg parts => uptoBulkAll parts + 1
  | .iface _ d => uptoBulk d + 1
  | .map entries => uptoBulkEntries entries + 1
  | .held _ => 1
def uptoBulkAll {H : Type} : List (DataW H) → Nat
  | [] => 0
  | d :: r => uptoBulk d + uptoBulkAll r
def uptoBulkEntries {H : Type} : List (Lit × DataW H) → Nat
  | [] => 0
  | x :: r => uptoBulkEntry x + uptoBulkEntries r
def uptoBulkEntry {H : Type} : Lit × DataW H → Nat
  | (.string bytes, d) => bytes.length + uptoBulk d + 1
  | (_, d) => uptoBulk d + 1
 end
def uptoSmall : (H : Type) → List (DataW H) → Bool := fun _ ds => decide (uptoBulkAll ds ≤ 1048576)
def OpenSpec.upto (s : _root_.Go.ChangeSpec) : _root_.Go.OpenSpec := { _root_.Go.OpenSpec.ofChange s with cond := some uptoSmall }

/-- 'quillworklaw.CharsBehind', WHERE WHAT IT READS IS OF BULK AT MOST 1048576: true; the input reads as it did. -/
def charsBehindUptoRow : OpenClaim := { program := "ytnnfddemhhpfoaa", sum := "dd0929dc0e16b623f548ecdb67a30daae614d11a7634e94f37e43d833b72fec1", func := "quillwork/quillworklaw.CharsBehind", spec := "charsBehind", unfollowed := true, recurses := true, apart := false, narrowed := true }
def CharsBehindUptoSaid : Prop := charsBehindUptoRow.holds Try.pinned (OpenSpec.upto charsBehindSpec)

/-- 'quillworklaw.CharsMore', WHERE WHAT IT READS IS OF BULK AT MOST 1048576: true; the input reads as it did. -/
def charsMoreUptoRow : OpenClaim := { program := "ytnnfddemhhpfoaa", sum := "dd0929dc0e16b623f548ecdb67a30daae614d11a7634e94f37e43d833b72fec1", func := "quillwork/quillworklaw.CharsMore", spec := "charsMore", unfollowed := true, recurses := true, apart := false, narrowed := true }
def CharsMoreUptoSaid : Prop := charsMoreUptoRow.holds Try.pinned (OpenSpec.upto charsMoreSpec)

end Rows
end Go.Proofs.Ytnnfddemhhpfoaa
