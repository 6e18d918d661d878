/-
  No cell of these rows narrows 'for every input' (looked for: loops, veiled, ifaces, maps, wideKeys, modest, calm, conditions, laid).
  DERIVED. THE GIVEN ROWS OF THIS SEAT. 11 by the template 'for every input the law returns true; each argument reads behind the call as it read before'; 0 by the template 'total and deterministic' (their statements: YtfcflnnleadpkaaTotals.lean).
  GIVEN WITH THE SEED: the statements are not yours to turn. If you find one false, say at which input.
  Laid BY PROGRAM, IN A SANDBOX (cutbox-rows.mjs): the forced cells as the released guide's own fill.sh prints them over the translation b8f494395b497995… (all of the seat's roots in one cut). By AI agents, Wed Nov 11 2026. No macro, syntax, notation, axiom, sorry.
-/
import Derived.Test.YtfcflnnleadpkaaChecked
import GoSem.Claim
import GoSem.ClaimJoined
import GoSem.ClaimMapViews
import Derived.JoinedTies
import Derived.KernelRfl
namespace Go.Proofs.Ytfcflnnleadpkaa
/- THE CELL 'sum', in the pinned program and in every row, IS THE sha256 OF THE DUMP (.gsa) THAT YtfcflnnleadpkaaProg.lean LOADS. Nothing in Lean hashes anything: it is a label: what it is worth is what the hold of that sum in a sandbox is worth. -/
noncomputable def Try.pinned : Pinned := { name := "ytfcflnnleadpkaa", sum := "b8f494395b49799586fbdea93128637f83808c0d9944e31de28f78a0bb491309", checked := Try.checked }
namespace Rows
def none {H : Type} : Left H := { results := [], args := [] }

/-- 'hushlaw.Orders': WHATEVER THE INPUT: true; the input reads as it did. -/
def ordersSpec : ChangeSpec := { name := "orders", fn := fun _ => fun
  | [d] => { results := [.lit (.bool true)], args := [d] }
  | _ => none }
def ordersRow : OpenClaim := { program := "ytfcflnnleadpkaa", sum := "b8f494395b49799586fbdea93128637f83808c0d9944e31de28f78a0bb491309", func := "hush/hushlaw.Orders", spec := "orders", apart := false }
def OrdersSaid : Prop := ordersRow.holds Try.pinned (OpenSpec.ofChange ordersSpec)

/-- ITS FALSE NEIGHBOUR: 'it returns false'. Refute it at one input. -/
def ordersWrong : ChangeSpec := { name := "orders", fn := fun _ => fun
  | [d] => { results := [.lit (.bool false)], args := [d] }
  | _ => none }
def OrdersWrongFalsely : Prop := ordersRow.holds Try.pinned (OpenSpec.ofChange ordersWrong)

/-- 'hushlaw.Joins': WHATEVER THE INPUT: true; the input reads as it did. -/
def joinsSpec : ChangeSpec := { name := "joins", fn := fun _ => fun
  | [d1, d2, d3] => { results := [.lit (.bool true)], args := [d1, d2, d3] }
  | _ => none }
def joinsRow : OpenClaim := { program := "ytfcflnnleadpkaa", sum := "b8f494395b49799586fbdea93128637f83808c0d9944e31de28f78a0bb491309", func := "hush/hushlaw.Joins", spec := "joins", apart := false }
def JoinsSaid : Prop := joinsRow.holds Try.pinned (OpenSpec.ofChange joinsSpec)

/-- ITS FALSE NEIGHBOUR: 'it returns false'. Refute it at one input. -/
def joinsWrong : ChangeSpec := { name := "joins", fn := fun _ => fun
  | [d1, d2, d3] => { results := [.lit (.bool false)], args := [d1, d2, d3] }
  | _ => none }
def JoinsWrongFalsely : Prop := joinsRow.holds Try.pinned (OpenSpec.ofChange joinsWrong)

/-- 'hushlaw.Bounds': WHATEVER THE INPUT: true; the input reads as it did. -/
def boundsSpec : ChangeSpec := { name := "bounds", fn := fun _ => fun
  | [d1, d2, d3, d4] => { results := [.lit (.bool true)], args := [d1, d2, d3, d4] }
  | _ => none }
def boundsRow : OpenClaim := { program := "ytfcflnnleadpkaa", sum := "b8f494395b49799586fbdea93128637f83808c0d9944e31de28f78a0bb491309", func := "hush/hushlaw.Bounds", spec := "bounds", apart := false }
def BoundsSaid : Prop := boundsRow.holds Try.pinned (OpenSpec.ofChange boundsSpec)

/-- ITS FALSE NEIGHBOUR: 'it returns false'. Refute it at one input. -/
def boundsWrong : ChangeSpec := { name := "bounds", fn := fun _ => fun
  | [d1, d2, d3, d4] => { results := [.lit (.bool false)], args := [d1, d2, d3, d4] }
  | _ => none }
def BoundsWrongFalsely : Prop := boundsRow.holds Try.pinned (OpenSpec.ofChange boundsWrong)

/-- 'hushlaw.Checks': WHATEVER THE INPUT: true; the input reads as it did. -/
def checksSpec : ChangeSpec := { name := "checks", fn := fun _ => fun
  | [d1, d2] => { results := [.lit (.bool true)], args := [d1, d2] }
  | _ => none }
def checksRow : OpenClaim := { program := "ytfcflnnleadpkaa", sum := "b8f494395b49799586fbdea93128637f83808c0d9944e31de28f78a0bb491309", func := "hush/hushlaw.Checks", spec := "checks", recurses := true, apart := false }
def ChecksSaid : Prop := checksRow.holds Try.pinned (OpenSpec.ofChange checksSpec)

/-- ITS FALSE NEIGHBOUR: 'it returns false'. Refute it at one input. -/
def checksWrong : ChangeSpec := { name := "checks", fn := fun _ => fun
  | [d1, d2] => { results := [.lit (.bool false)], args := [d1, d2] }
  | _ => none }
def ChecksWrongFalsely : Prop := checksRow.holds Try.pinned (OpenSpec.ofChange checksWrong)

/-- 'hushlaw.Labelled': WHATEVER THE INPUT: true; the input reads as it did. -/
def labelledSpec : ChangeSpec := { name := "labelled", fn := fun _ => fun
  | [d1, d2] => { results := [.lit (.bool true)], args := [d1, d2] }
  | _ => none }
def labelledRow : OpenClaim := { program := "ytfcflnnleadpkaa", sum := "b8f494395b49799586fbdea93128637f83808c0d9944e31de28f78a0bb491309", func := "hush/hushlaw.Labelled", spec := "labelled", recurses := true, apart := false }
def LabelledSaid : Prop := labelledRow.holds Try.pinned (OpenSpec.ofChange labelledSpec)

/-- ITS FALSE NEIGHBOUR: 'it returns false'. Refute it at one input. -/
def labelledWrong : ChangeSpec := { name := "labelled", fn := fun _ => fun
  | [d1, d2] => { results := [.lit (.bool false)], args := [d1, d2] }
  | _ => none }
def LabelledWrongFalsely : Prop := labelledRow.holds Try.pinned (OpenSpec.ofChange labelledWrong)

/-- 'hushlaw.Least': WHATEVER THE INPUT: true; the input reads as it did. -/
def leastSpec : ChangeSpec := { name := "least", fn := fun _ => fun
  | [d1, d2, d3] => { results := [.lit (.bool true)], args := [d1, d2, d3] }
  | _ => none }
def leastRow : OpenClaim := { program := "ytfcflnnleadpkaa", sum := "b8f494395b49799586fbdea93128637f83808c0d9944e31de28f78a0bb491309", func := "hush/hushlaw.Least", spec := "least", recurses := true, apart := false }
def LeastSaid : Prop := leastRow.holds Try.pinned (OpenSpec.ofChange leastSpec)

/-- ITS FALSE NEIGHBOUR: 'it returns false'. Refute it at one input. -/
def leastWrong : ChangeSpec := { name := "least", fn := fun _ => fun
  | [d1, d2, d3] => { results := [.lit (.bool false)], args := [d1, d2, d3] }
  | _ => none }
def LeastWrongFalsely : Prop := leastRow.holds Try.pinned (OpenSpec.ofChange leastWrong)

/-- 'hushlaw.Holds': WHATEVER THE INPUT: true; the input reads as it did. -/
def holdsSpec : ChangeSpec := { name := "holds", fn := fun _ => fun
  | [d1, d2] => { results := [.lit (.bool true)], args := [d1, d2] }
  | _ => none }
def holdsRow : OpenClaim := { program := "ytfcflnnleadpkaa", sum := "b8f494395b49799586fbdea93128637f83808c0d9944e31de28f78a0bb491309", func := "hush/hushlaw.Holds", spec := "holds", recurses := true, apart := false }
def HoldsSaid : Prop := holdsRow.holds Try.pinned (OpenSpec.ofChange holdsSpec)

/-- ITS FALSE NEIGHBOUR: 'it returns false'. Refute it at one input. -/
def holdsWrong : ChangeSpec := { name := "holds", fn := fun _ => fun
  | [d1, d2] => { results := [.lit (.bool false)], args := [d1, d2] }
  | _ => none }
def HoldsWrongFalsely : Prop := holdsRow.holds Try.pinned (OpenSpec.ofChange holdsWrong)

/-- 'hushlaw.Looser': WHATEVER THE INPUT: true; the input reads as it did. -/
def looserSpec : ChangeSpec := { name := "looser", fn := fun _ => fun
  | [d1, d2, d3] => { results := [.lit (.bool true)], args := [d1, d2, d3] }
  | _ => none }
def looserRow : OpenClaim := { program := "ytfcflnnleadpkaa", sum := "b8f494395b49799586fbdea93128637f83808c0d9944e31de28f78a0bb491309", func := "hush/hushlaw.Looser", spec := "looser", recurses := true, apart := false }
def LooserSaid : Prop := looserRow.holds Try.pinned (OpenSpec.ofChange looserSpec)

/-- ITS FALSE NEIGHBOUR: 'it returns false'. Refute it at one input. -/
def looserWrong : ChangeSpec := { name := "looser", fn := fun _ => fun
  | [d1, d2, d3] => { results := [.lit (.bool false)], args := [d1, d2, d3] }
  | _ => none }
def LooserWrongFalsely : Prop := looserRow.holds Try.pinned (OpenSpec.ofChange looserWrong)

/-- 'hushlaw.Agree': WHATEVER THE INPUT: true; the input reads as it did. -/
def agreeSpec : ChangeSpec := { name := "agree", fn := fun _ => fun
  | [d1, d2] => { results := [.lit (.bool true)], args := [d1, d2] }
  | _ => none }
def agreeRow : OpenClaim := { program := "ytfcflnnleadpkaa", sum := "b8f494395b49799586fbdea93128637f83808c0d9944e31de28f78a0bb491309", func := "hush/hushlaw.Agree", spec := "agree", recurses := true, apart := false }
def AgreeSaid : Prop := agreeRow.holds Try.pinned (OpenSpec.ofChange agreeSpec)

/-- ITS FALSE NEIGHBOUR: 'it returns false'. Refute it at one input. -/
def agreeWrong : ChangeSpec := { name := "agree", fn := fun _ => fun
  | [d1, d2] => { results := [.lit (.bool false)], args := [d1, d2] }
  | _ => none }
def AgreeWrongFalsely : Prop := agreeRow.holds Try.pinned (OpenSpec.ofChange agreeWrong)

/-- 'hushlaw.Longer': WHATEVER THE INPUT: true; the input reads as it did. -/
def longerSpec : ChangeSpec := { name := "longer", fn := fun _ => fun
  | [d1, d2, d3, d4, d5] => { results := [.lit (.bool true)], args := [d1, d2, d3, d4, d5] }
  | _ => none }
def longerRow : OpenClaim := { program := "ytfcflnnleadpkaa", sum := "b8f494395b49799586fbdea93128637f83808c0d9944e31de28f78a0bb491309", func := "hush/hushlaw.Longer", spec := "longer", recurses := true, apart := false }
def LongerSaid : Prop := longerRow.holds Try.pinned (OpenSpec.ofChange longerSpec)

/-- ITS FALSE NEIGHBOUR: 'it returns false'. Refute it at one input. -/
def longerWrong : ChangeSpec := { name := "longer", fn := fun _ => fun
  | [d1, d2, d3, d4, d5] => { results := [.lit (.bool false)], args := [d1, d2, d3, d4, d5] }
  | _ => none }
def LongerWrongFalsely : Prop := longerRow.holds Try.pinned (OpenSpec.ofChange longerWrong)

/-- 'hushlaw.Deaf': WHATEVER THE INPUT: true; the input reads as it did. -/
def deafSpec : ChangeSpec := { name := "deaf", fn := fun _ => fun
  | [d1, d2, d3, d4, d5] => { results := [.lit (.bool true)], args := [d1, d2, d3, d4, d5] }
  | _ => none }
def deafRow : OpenClaim := { program := "ytfcflnnleadpkaa", sum := "b8f494395b49799586fbdea93128637f83808c0d9944e31de28f78a0bb491309", func := "hush/hushlaw.Deaf", spec := "deaf", recurses := true, apart := false }
def DeafSaid : Prop := deafRow.holds Try.pinned (OpenSpec.ofChange deafSpec)

/-- ITS FALSE NEIGHBOUR: 'it returns false'. Refute it at one input. -/
def deafWrong : ChangeSpec := { name := "deaf", fn := fun _ => fun
  | [d1, d2, d3, d4, d5] => { results := [.lit (.bool false)], args := [d1, d2, d3, d4, d5] }
  | _ => none }
def DeafWrongFalsely : Prop := deafRow.holds Try.pinned (OpenSpec.ofChange deafWrong)

/- THE SECOND FORM. 'bulk': how many values and letters a reading holds, each counted each time it is reached (what is shared counts as often as it is met; a slice's spare places count too). A statement '..UptoSaid' is the law's where the arguments, and the package variables that the reading takes, are together of bulk at most 1048576: NARROWER than '..Said'. Prove '..Said' where nothing that the law and all that it calls make is longer than what came in: it says more and counts as full. Else prove '..UptoSaid'. A law counts once. -/
mutual
def uptoBulk {H : Type} : DataW H → Nat
  | .lit (.string bytes) => bytes.length + 1
  | .lit _ => 1
  | .nil => 1
  | .ptr d => uptoBulk d + 1
  | .slice elems spare => uptoBulkAll elems + uptoBulkAll spare + 1
  | .agg parts => uptoBulkAll parts + 1
  | .iface _ d => uptoBulk d + 1
  | .map entries => uptoBulkEntries entries + 1
  | .held _ => 1
def uptoBulkAll {H : Type} : List (DataW H) → Nat
  | [] => 0
  | d :: r => uptoBulk d + uptoBulkAll r
def uptoBulkEntries {H : Type} : List (Lit × DataW H) → Nat
  | [] => 0
  | x :: r => uptoBulkEntry x + uptoBulkEntries r
def uptoBulkEntry {H : Type} : Lit × DataW H → Nat
  | (.string bytes, d) => bytes.length + uptoBulk d + 1
  | (_, d) => uptoBulk d + 1
 end
def uptoSmall : (H : Type) → List (DataW H) → Bool := fun _ ds => decide (uptoBulkAll ds ≤ 1048576)
def OpenSpec.upto (s : _root_.Go.ChangeSpec) : _root_.Go.OpenSpec := { _root_.Go.OpenSpec.ofChange s with cond := some uptoSmall }

/-- 'hushlaw.Orders', WHERE WHAT IT READS IS OF BULK AT MOST 1048576: true; the input reads as it did. -/
def ordersUptoRow : OpenClaim := { program := "ytfcflnnleadpkaa", sum := "b8f494395b49799586fbdea93128637f83808c0d9944e31de28f78a0bb491309", func := "hush/hushlaw.Orders", spec := "orders", apart := false, narrowed := true }
def OrdersUptoSaid : Prop := ordersUptoRow.holds Try.pinned (OpenSpec.upto ordersSpec)

/-- 'hushlaw.Joins', WHERE WHAT IT READS IS OF BULK AT MOST 1048576: true; the input reads as it did. -/
def joinsUptoRow : OpenClaim := { program := "ytfcflnnleadpkaa", sum := "b8f494395b49799586fbdea93128637f83808c0d9944e31de28f78a0bb491309", func := "hush/hushlaw.Joins", spec := "joins", apart := false, narrowed := true }
def JoinsUptoSaid : Prop := joinsUptoRow.holds Try.pinned (OpenSpec.upto joinsSpec)

/-- 'hushlaw.Bounds', WHERE WHAT IT READS IS OF BULK AT MOST 1048576: true; the input reads as it did. -/
def boundsUptoRow : OpenClaim := { program := "ytfcflnnleadpkaa", sum := "b8f494395b49799586fbdea93128637f83808c0d9944e31de28f78a0bb491309", func := "hush/hushlaw.Bounds", spec := "bounds", apart := false, narrowed := true }
def BoundsUptoSaid : Prop := boundsUptoRow.holds Try.pinned (OpenSpec.upto boundsSpec)

/-- 'hushlaw.Checks', WHERE WHAT IT READS IS OF BULK AT MOST 1048576: true; the input reads as it did. -/
def checksUptoRow : OpenClaim := { program := "ytfcflnnleadpkaa", sum := "b8f494395b49799586fbdea93128637f83808c0d9944e31de28f78a0bb491309", func := "hush/hushlaw.Checks", spec := "checks", recurses := true, apart := false, narrowed := true }
def ChecksUptoSaid : Prop := checksUptoRow.holds Try.pinned (OpenSpec.upto checksSpec)

/-- 'hushlaw.Labelled', WHERE WHAT IT READS IS OF BULK AT MOST 1048576: true; the input reads as it did. -/
def labelledUptoRow : OpenClaim := { program := "ytfcflnnleadpkaa", sum := "b8f494395b49799586fbdea93128637f83808c0d9944e31de28f78a0bb491309", func := "hush/hushlaw.Labelled", spec := "labelled", recurses := true, apart := false, narrowed := true }
def LabelledUptoSaid : Prop := labelledUptoRow.holds Try.pinned (OpenSpec.upto labelledSpec)

/-- 'hushlaw.Least', WHERE WHAT IT READS IS OF BULK AT MOST 1048576: true; the input reads as it did. -/
def leastUptoRow : OpenClaim := { program := "ytfcflnnleadpkaa", sum := "b8f494395b49799586fbdea93128637f83808c0d9944e31de28f78a0bb491309", func := "hush/hushlaw.Least", spec := "least", recurses := true, apart := false, narrowed := true }
def LeastUptoSaid : Prop := leastUptoRow.holds Try.pinned (OpenSpec.upto leastSpec)

/-- 'hushlaw.Holds', WHERE WHAT IT READS IS OF BULK AT MOST 1048576: true; the input reads as it did. -/
def holdsUptoRow : OpenClaim := { program := "ytfcflnnleadpkaa", sum := "b8f494395b49799586fbdea93128637f83808c0d9944e31de28f78a0bb491309", func := "hush/hushlaw.Holds", spec := "holds", recurses := true, apart := false, narrowed := true }
def HoldsUptoSaid : Prop := holdsUptoRow.holds Try.pinned (OpenSpec.upto holdsSpec)

/-- 'hushlaw.Looser', WHERE WHAT IT READS IS OF BULK AT MOST 1048576: true; the input reads as it did. -/
def looserUptoRow : OpenClaim := { program := "ytfcflnnleadpkaa", sum := "b8f494395b49799586fbdea93128637f83808c0d9944e31de28f78a0bb491309", func := "hush/hushlaw.Looser", spec := "looser", recurses := true, apart := false, narrowed := true }
def LooserUptoSaid : Prop := looserUptoRow.holds Try.pinned (OpenSpec.upto looserSpec)

/-- 'hushlaw.Agree', WHERE WHAT IT READS IS OF BULK AT MOST 1048576: true; the input reads as it did. -/
def agreeUptoRow : OpenClaim := { program := "ytfcflnnleadpkaa", sum := "b8f494395b49799586fbdea93128637f83808c0d9944e31de28f78a0bb491309", func := "hush/hushlaw.Agree", spec := "agree", recurses := true, apart := false, narrowed := true }
def AgreeUptoSaid : Prop := agreeUptoRow.holds Try.pinned (OpenSpec.upto agreeSpec)

/-- 'hushlaw.Longer', WHERE WHAT IT READS IS OF BULK AT MOST 1048576: true; the input reads as it did. -/
def longerUptoRow : OpenClaim := { program := "ytfcflnnleadpkaa", sum := "b8f494395b49799586fbdea93128637f83808c0d9944e31de28f78a0bb491309", func := "hush/hushlaw.Longer", spec := "longer", recurses := true, apart := false, narrowed := true }
def LongerUptoSaid : Prop := longerUptoRow.holds Try.pinned (OpenSpec.upto longerSpec)

/-- 'hushlaw.Deaf', WHERE WHAT IT READS IS OF BULK AT MOST 1048576: true; the input reads as it did. -/
def deafUptoRow : OpenClaim := { program := "ytfcflnnleadpkaa", sum := "b8f494395b49799586fbdea93128637f83808c0d9944e31de28f78a0bb491309", func := "hush/hushlaw.Deaf", spec := "deaf", recurses := true, apart := false, narrowed := true }
def DeafUptoSaid : Prop := deafUptoRow.holds Try.pinned (OpenSpec.upto deafSpec)

end Rows
end Go.Proofs.Ytfcflnnleadpkaa
