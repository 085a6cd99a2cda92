/-
  No cell of these rows narrows 'for every input' (looked for: loops, veiled, ifaces, maps, wideKeys, modest, calm, conditions, laid).
  DERIVED. THE GIVEN ROWS OF THIS SEAT. 5 by the template 'for every input the law returns true; each argument reads behind the call as it read before'; 0 by the template 'total and deterministic' (their statements: YtknghmcdnlkfcaaTotals.lean).
  GIVEN WITH THE SEED: the statements are not yours to turn. If you find one false, say at which input.
  Laid BY PROGRAM, IN A SANDBOX (cutbox-rows.mjs): the forced cells as the released guide's own fill.sh prints them over the translation 97b120780c97d9e4… (all of the seat's roots in one cut). By AI agents, Wed Nov 11 2026. No macro, syntax, notation, axiom, sorry.
-/
import Derived.Test.YtknghmcdnlkfcaaChecked
import GoSem.Claim
import GoSem.ClaimJoined
import GoSem.ClaimMapViews
import Derived.JoinedTies
import Derived.KernelRfl
namespace Go.Proofs.Ytknghmcdnlkfcaa
/- THE CELL 'sum', in the pinned program and in every row, IS THE sha256 OF THE DUMP (.gsa) THAT YtknghmcdnlkfcaaProg.lean LOADS. Nothing in Lean hashes anything: it is a label: what it is worth is what the hold of that sum in a sandbox is worth. -/
noncomputable def Try.pinned : Pinned := { name := "ytknghmcdnlkfcaa", sum := "97b120780c97d9e482d0d9daaeb8be80a93519170f64225822397f36d700ea2c", checked := Try.checked }
namespace Rows
def none {H : Type} : Left H := { results := [], args := [] }

/-- 'taluslaw11.ColumnBytes': WHATEVER THE INPUT: true; the input reads as it did. -/
def columnBytesSpec : ChangeSpec := { name := "columnBytes", fn := fun _ => fun
  | [d1, d2] => { results := [.lit (.bool true)], args := [d1, d2] }
  | _ => none }
def columnBytesRow : OpenClaim := { program := "ytknghmcdnlkfcaa", sum := "97b120780c97d9e482d0d9daaeb8be80a93519170f64225822397f36d700ea2c", func := "talus/taluslaw11.ColumnBytes", spec := "columnBytes", unfollowed := true, recurses := true, apart := false }
def ColumnBytesSaid : Prop := columnBytesRow.holds Try.pinned (OpenSpec.ofChange columnBytesSpec)

/-- ITS FALSE NEIGHBOUR: 'it returns false'. Refute it at one input. -/
def columnBytesWrong : ChangeSpec := { name := "columnBytes", fn := fun _ => fun
  | [d1, d2] => { results := [.lit (.bool false)], args := [d1, d2] }
  | _ => none }
def ColumnBytesWrongFalsely : Prop := columnBytesRow.holds Try.pinned (OpenSpec.ofChange columnBytesWrong)

/-- 'taluslaw11.ColumnPicks': WHATEVER THE INPUT: true; the input reads as it did. -/
def columnPicksSpec : ChangeSpec := { name := "columnPicks", fn := fun _ => fun
  | [d1, d2, d3] => { results := [.lit (.bool true)], args := [d1, d2, d3] }
  | _ => none }
def columnPicksRow : OpenClaim := { program := "ytknghmcdnlkfcaa", sum := "97b120780c97d9e482d0d9daaeb8be80a93519170f64225822397f36d700ea2c", func := "talus/taluslaw11.ColumnPicks", spec := "columnPicks", unfollowed := true, recurses := true, apart := false }
def ColumnPicksSaid : Prop := columnPicksRow.holds Try.pinned (OpenSpec.ofChange columnPicksSpec)

/-- ITS FALSE NEIGHBOUR: 'it returns false'. Refute it at one input. -/
def columnPicksWrong : ChangeSpec := { name := "columnPicks", fn := fun _ => fun
  | [d1, d2, d3] => { results := [.lit (.bool false)], args := [d1, d2, d3] }
  | _ => none }
def ColumnPicksWrongFalsely : Prop := columnPicksRow.holds Try.pinned (OpenSpec.ofChange columnPicksWrong)

/-- 'taluslaw11.ColumnJoins': WHATEVER THE INPUT: true; the input reads as it did. -/
def columnJoinsSpec : ChangeSpec := { name := "columnJoins", fn := fun _ => fun
  | [d] => { results := [.lit (.bool true)], args := [d] }
  | _ => none }
def columnJoinsRow : OpenClaim := { program := "ytknghmcdnlkfcaa", sum := "97b120780c97d9e482d0d9daaeb8be80a93519170f64225822397f36d700ea2c", func := "talus/taluslaw11.ColumnJoins", spec := "columnJoins", unfollowed := true, recurses := true, apart := false }
def ColumnJoinsSaid : Prop := columnJoinsRow.holds Try.pinned (OpenSpec.ofChange columnJoinsSpec)

/-- ITS FALSE NEIGHBOUR: 'it returns false'. Refute it at one input. -/
def columnJoinsWrong : ChangeSpec := { name := "columnJoins", fn := fun _ => fun
  | [d] => { results := [.lit (.bool false)], args := [d] }
  | _ => none }
def ColumnJoinsWrongFalsely : Prop := columnJoinsRow.holds Try.pinned (OpenSpec.ofChange columnJoinsWrong)

/-- 'taluslaw11.ColumnBack': WHATEVER THE INPUT: true; the input reads as it did. -/
def columnBackSpec : ChangeSpec := { name := "columnBack", fn := fun _ => fun
  | [d1, d2] => { results := [.lit (.bool true)], args := [d1, d2] }
  | _ => none }
def columnBackRow : OpenClaim := { program := "ytknghmcdnlkfcaa", sum := "97b120780c97d9e482d0d9daaeb8be80a93519170f64225822397f36d700ea2c", func := "talus/taluslaw11.ColumnBack", spec := "columnBack", unfollowed := true, recurses := true, apart := false }
def ColumnBackSaid : Prop := columnBackRow.holds Try.pinned (OpenSpec.ofChange columnBackSpec)

/-- ITS FALSE NEIGHBOUR: 'it returns false'. Refute it at one input. -/
def columnBackWrong : ChangeSpec := { name := "columnBack", fn := fun _ => fun
  | [d1, d2] => { results := [.lit (.bool false)], args := [d1, d2] }
  | _ => none }
def ColumnBackWrongFalsely : Prop := columnBackRow.holds Try.pinned (OpenSpec.ofChange columnBackWrong)

/-- 'taluslaw11.ColumnRanges': WHATEVER THE INPUT: true; the input reads as it did. -/
def columnRangesSpec : ChangeSpec := { name := "columnRanges", fn := fun _ => fun
  | [d] => { results := [.lit (.bool true)], args := [d] }
  | _ => none }
def columnRangesRow : OpenClaim := { program := "ytknghmcdnlkfcaa", sum := "97b120780c97d9e482d0d9daaeb8be80a93519170f64225822397f36d700ea2c", func := "talus/taluslaw11.ColumnRanges", spec := "columnRanges", unfollowed := true, recurses := true, apart := false }
def ColumnRangesSaid : Prop := columnRangesRow.holds Try.pinned (OpenSpec.ofChange columnRangesSpec)

/-- ITS FALSE NEIGHBOUR: 'it returns false'. Refute it at one input. -/
def columnRangesWrong : ChangeSpec := { name := "columnRanges", fn := fun _ => fun
  | [d] => { results := [.lit (.bool false)], args := [d] }
  | _ => none }
def ColumnRangesWrongFalsely : Prop := columnRangesRow.holds Try.pinned (OpenSpec.ofChange columnRangesWrong)

/- THE SECOND FORM. 'bulk': how many values and letters a reading holds, each counted each time it is reached (what is shared counts as often as it is met; a slice's spare places count too). A statement '..UptoSaid' is the law's where the arguments, and the package variables that the reading takes, are together of bulk at most 1048576: NARROWER than '..Said'. Prove '..Said' where nothing that the law and all that it calls make is longer than what came in: it says more and counts as full. Else prove '..UptoSaid'. A law counts once. -/
mutual
def uptoBulk {H : Type} : DataW H → Nat
  | .lit (.string bytes) => bytes.length + 1
  | .lit _ => 1
  | .nil => 1
  | .ptr d => uptoBulk d + 1
  | .slice elems spare => uptoBulkAll elems + uptoBulkAll spare + 1
  | .agg parts => uptoBulkAll parts + 1
  | .iface _ d => uptoBulk d + 1
  | .map entries => uptoBulkEntries entries + 1
  | .held _ => 1
def uptoBulkAll {H : Type} : List (DataW H) → Nat
  | [] => 0
  | d :: r => uptoBulk d + uptoBulkAll r
def uptoBulkEntries {H : Type} : List (Lit × DataW H) → Nat
  | [] => 0
  | x :: r => uptoBulkEntry x + uptoBulkEntries r
def uptoBulkEntry {H : Type} : Lit × DataW H → Nat
  | (.string bytes, d) => bytes.length + uptoBulk d + 1
  | (_, d) => uptoBulk d + 1
 end
def uptoSmall : (H : Type) → List (DataW H) → Bool := fun _ ds => decide (uptoBulkAll ds ≤ 1048576)
def OpenSpec.upto (s : _root_.Go.ChangeSpec) : _root_.Go.OpenSpec := { _root_.Go.OpenSpec.ofChange s with cond := some uptoSmall }

/-- 'taluslaw11.ColumnBytes', WHERE WHAT IT READS IS OF BULK AT MOST 1048576: true; the input reads as it did. -/
def columnBytesUptoRow : OpenClaim := { program := "ytknghmcdnlkfcaa", sum := "97b120780c97d9e482d0d9daaeb8be80a93519170f64225822397f36d700ea2c", func := "talus/taluslaw11.ColumnBytes", spec := "columnBytes", unfollowed := true, recurses := true, apart := false, narrowed := true }
def ColumnBytesUptoSaid : Prop := columnBytesUptoRow.holds Try.pinned (OpenSpec.upto columnBytesSpec)

/-- 'taluslaw11.ColumnPicks', WHERE WHAT IT READS IS OF BULK AT MOST 1048576: true; the input reads as it did. -/
def columnPicksUptoRow : OpenClaim := { program := "ytknghmcdnlkfcaa", sum := "97b120780c97d9e482d0d9daaeb8be80a93519170f64225822397f36d700ea2c", func := "talus/taluslaw11.ColumnPicks", spec := "columnPicks", unfollowed := true, recurses := true, apart := false, narrowed := true }
def ColumnPicksUptoSaid : Prop := columnPicksUptoRow.holds Try.pinned (OpenSpec.upto columnPicksSpec)

/-- 'taluslaw11.ColumnJoins', WHERE WHAT IT READS IS OF BULK AT MOST 1048576: true; the input reads as it did. -/
def columnJoinsUptoRow : OpenClaim := { program := "ytknghmcdnlkfcaa", sum := "97b120780c97d9e482d0d9daaeb8be80a93519170f64225822397f36d700ea2c", func := "talus/taluslaw11.ColumnJoins", spec := "columnJoins", unfollowed := true, recurses := true, apart := false, narrowed := true }
def ColumnJoinsUptoSaid : Prop := columnJoinsUptoRow.holds Try.pinned (OpenSpec.upto columnJoinsSpec)

/-- 'taluslaw11.ColumnBack', WHERE WHAT IT READS IS OF BULK AT MOST 1048576: true; the input reads as it did. -/
def columnBackUptoRow : OpenClaim := { program := "ytknghmcdnlkfcaa", sum := "97b120780c97d9e482d0d9daaeb8be80a93519170f64225822397f36d700ea2c", func := "talus/taluslaw11.ColumnBack", spec := "columnBack", unfollowed := true, recurses := true, apart := false, narrowed := true }
def ColumnBackUptoSaid : Prop := columnBackUptoRow.holds Try.pinned (OpenSpec.upto columnBackSpec)

/-- 'taluslaw11.ColumnRanges', WHERE WHAT IT READS IS OF BULK AT MOST 1048576: true; the input reads as it did. -/
def columnRangesUptoRow : OpenClaim := { program := "ytknghmcdnlkfcaa", sum := "97b120780c97d9e482d0d9daaeb8be80a93519170f64225822397f36d700ea2c", func := "talus/taluslaw11.ColumnRanges", spec := "columnRanges", unfollowed := true, recurses := true, apart := false, narrowed := true }
def ColumnRangesUptoSaid : Prop := columnRangesUptoRow.holds Try.pinned (OpenSpec.upto columnRangesSpec)

end Rows
end Go.Proofs.Ytknghmcdnlkfcaa
