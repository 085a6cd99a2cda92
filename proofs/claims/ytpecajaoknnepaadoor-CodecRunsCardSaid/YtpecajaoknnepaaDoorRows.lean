/-
  NARROWER THAN 'FOR EVERY INPUT', by the rows' own cells (each row's printed sentence says how): CodecNumbers: laid · CodecPacks: laid · CodecRuns: laid · CodecBack: laid · CodecTells: laid · CodecShort: laid · CodecWidths: laid.
  DERIVED. THE GIVEN ROWS OF THIS SEAT. 7 by the template 'for every input the law returns true; each argument reads behind the call as it read before'; 0 by the template 'total and deterministic' (their statements: YtpecajaoknnepaaDoorTotals.lean).
  GIVEN WITH THE SEED: the statements are not yours to turn. If you find one false, say at which input.
  Laid BY PROGRAM, IN A SANDBOX (cutbox-rows.mjs): the forced cells as the released guide's own fill.sh prints them over the translation 155c196a6aceebac… (all of the seat's roots in one cut). By AI agents, Wed Nov 11 2026. No macro, syntax, notation, axiom, sorry.
-/
import Derived.Test.YtpecajaoknnepaaDoorChecked
import GoSem.Claim
import GoSem.ClaimJoined
import GoSem.ClaimMapViews
import Derived.JoinedTies
import Derived.KernelRfl
namespace Go.Proofs.YtpecajaoknnepaaDoor
/- THE CELL 'sum', in the pinned program and in every row, IS THE sha256 OF THE DUMP (.gsa) THAT YtpecajaoknnepaaDoorProg.lean LOADS. Nothing in Lean hashes anything: it is a label: what it is worth is what the hold of that sum in a sandbox is worth. -/
noncomputable def Tryd.pinned : Pinned := { name := "ytpecajaoknnepaadoor", sum := "155c196a6aceebacbf963ad81433665df7bd563bfda6dcc637fda6c6f45381f2", checked := Tryd.checked }
namespace Rows
def none {H : Type} : Left H := { results := [], args := [] }

/- WHAT THE LISTED PACKAGE-LEVEL VARIABLES READ AS WHEN THE CALL BEGINS. Each datum BY PROGRAM (the guide's laid-datum.mjs) off the statement by which the dump's own 'gosem.cut.vars' lays the variable. In a bare row this is a premise. The card (YtpecajaoknnepaaDoorCards.lean) ties it to the program's text. -/
def laid_talus_codec_quads {H : Type} : DataW H := .agg [.lit (.int .u32 0), .lit (.int .u32 498536548), .lit (.int .u32 997073096), .lit (.int .u32 651767980), .lit (.int .u32 1994146192), .lit (.int .u32 1802195444), .lit (.int .u32 1303535960), .lit (.int .u32 1342533948), .lit (.int .u32 3988292384), .lit (.int .u32 4027552580), .lit (.int .u32 3604390888), .lit (.int .u32 3412177804), .lit (.int .u32 2607071920), .lit (.int .u32 2262029012), .lit (.int .u32 2685067896), .lit (.int .u32 3183342108)]

/-- 'taluslaw02.CodecNumbers': WHATEVER THE INPUT: true; the input reads as it did. -/
def codecNumbersSpec : ChangeSpec := { name := "codecNumbers", fn := fun _ => fun
  | [d1, d2, d3] => { results := [.lit (.bool true)], args := [d1, d2, d3] }
  | _ => none }
def codecNumbersRow : OpenClaim := { program := "ytpecajaoknnepaadoor", sum := "155c196a6aceebacbf963ad81433665df7bd563bfda6dcc637fda6c6f45381f2", func := "talus/taluslaw02.CodecNumbers", spec := "codecNumbers", unfollowed := true, recurses := true, named := ["talus/codec.quads"], apart := false, laid := [("talus/codec.quads", laid_talus_codec_quads)] }
def CodecNumbersSaid : Prop := codecNumbersRow.holds Tryd.pinned (OpenSpec.ofChange codecNumbersSpec)

/-- ITS FALSE NEIGHBOUR: 'it returns false'. Refute it at one input. -/
def codecNumbersWrong : ChangeSpec := { name := "codecNumbers", fn := fun _ => fun
  | [d1, d2, d3] => { results := [.lit (.bool false)], args := [d1, d2, d3] }
  | _ => none }
def CodecNumbersWrongFalsely : Prop := codecNumbersRow.holds Tryd.pinned (OpenSpec.ofChange codecNumbersWrong)

/-- 'taluslaw02.CodecPacks': WHATEVER THE INPUT: true; the input reads as it did. -/
def codecPacksSpec : ChangeSpec := { name := "codecPacks", fn := fun _ => fun
  | [d1, d2, d3] => { results := [.lit (.bool true)], args := [d1, d2, d3] }
  | _ => none }
def codecPacksRow : OpenClaim := { program := "ytpecajaoknnepaadoor", sum := "155c196a6aceebacbf963ad81433665df7bd563bfda6dcc637fda6c6f45381f2", func := "talus/taluslaw02.CodecPacks", spec := "codecPacks", unfollowed := true, recurses := true, named := ["talus/codec.quads"], apart := false, laid := [("talus/codec.quads", laid_talus_codec_quads)] }
def CodecPacksSaid : Prop := codecPacksRow.holds Tryd.pinned (OpenSpec.ofChange codecPacksSpec)

/-- ITS FALSE NEIGHBOUR: 'it returns false'. Refute it at one input. -/
def codecPacksWrong : ChangeSpec := { name := "codecPacks", fn := fun _ => fun
  | [d1, d2, d3] => { results := [.lit (.bool false)], args := [d1, d2, d3] }
  | _ => none }
def CodecPacksWrongFalsely : Prop := codecPacksRow.holds Tryd.pinned (OpenSpec.ofChange codecPacksWrong)

/-- 'taluslaw02.CodecRuns': WHATEVER THE INPUT: true; the input reads as it did. -/
def codecRunsSpec : ChangeSpec := { name := "codecRuns", fn := fun _ => fun
  | [d1, d2] => { results := [.lit (.bool true)], args := [d1, d2] }
  | _ => none }
def codecRunsRow : OpenClaim := { program := "ytpecajaoknnepaadoor", sum := "155c196a6aceebacbf963ad81433665df7bd563bfda6dcc637fda6c6f45381f2", func := "talus/taluslaw02.CodecRuns", spec := "codecRuns", unfollowed := true, recurses := true, named := ["talus/codec.quads"], apart := false, laid := [("talus/codec.quads", laid_talus_codec_quads)] }
def CodecRunsSaid : Prop := codecRunsRow.holds Tryd.pinned (OpenSpec.ofChange codecRunsSpec)

/-- ITS FALSE NEIGHBOUR: 'it returns false'. Refute it at one input. -/
def codecRunsWrong : ChangeSpec := { name := "codecRuns", fn := fun _ => fun
  | [d1, d2] => { results := [.lit (.bool false)], args := [d1, d2] }
  | _ => none }
def CodecRunsWrongFalsely : Prop := codecRunsRow.holds Tryd.pinned (OpenSpec.ofChange codecRunsWrong)

/-- 'taluslaw02.CodecBack': WHATEVER THE INPUT: true; the input reads as it did. -/
def codecBackSpec : ChangeSpec := { name := "codecBack", fn := fun _ => fun
  | [d1, d2, d3] => { results := [.lit (.bool true)], args := [d1, d2, d3] }
  | _ => none }
def codecBackRow : OpenClaim := { program := "ytpecajaoknnepaadoor", sum := "155c196a6aceebacbf963ad81433665df7bd563bfda6dcc637fda6c6f45381f2", func := "talus/taluslaw02.CodecBack", spec := "codecBack", unfollowed := true, recurses := true, named := ["talus/codec.quads"], apart := false, laid := [("talus/codec.quads", laid_talus_codec_quads)] }
def CodecBackSaid : Prop := codecBackRow.holds Tryd.pinned (OpenSpec.ofChange codecBackSpec)

/-- ITS FALSE NEIGHBOUR: 'it returns false'. Refute it at one input. -/
def codecBackWrong : ChangeSpec := { name := "codecBack", fn := fun _ => fun
  | [d1, d2, d3] => { results := [.lit (.bool false)], args := [d1, d2, d3] }
  | _ => none }
def CodecBackWrongFalsely : Prop := codecBackRow.holds Tryd.pinned (OpenSpec.ofChange codecBackWrong)

/-- 'taluslaw02.CodecTells': WHATEVER THE INPUT: true; the input reads as it did. -/
def codecTellsSpec : ChangeSpec := { name := "codecTells", fn := fun _ => fun
  | [d1, d2, d3] => { results := [.lit (.bool true)], args := [d1, d2, d3] }
  | _ => none }
def codecTellsRow : OpenClaim := { program := "ytpecajaoknnepaadoor", sum := "155c196a6aceebacbf963ad81433665df7bd563bfda6dcc637fda6c6f45381f2", func := "talus/taluslaw02.CodecTells", spec := "codecTells", unfollowed := true, recurses := true, named := ["talus/codec.quads"], apart := false, laid := [("talus/codec.quads", laid_talus_codec_quads)] }
def CodecTellsSaid : Prop := codecTellsRow.holds Tryd.pinned (OpenSpec.ofChange codecTellsSpec)

/-- ITS FALSE NEIGHBOUR: 'it returns false'. Refute it at one input. -/
def codecTellsWrong : ChangeSpec := { name := "codecTells", fn := fun _ => fun
  | [d1, d2, d3] => { results := [.lit (.bool false)], args := [d1, d2, d3] }
  | _ => none }
def CodecTellsWrongFalsely : Prop := codecTellsRow.holds Tryd.pinned (OpenSpec.ofChange codecTellsWrong)

/-- 'taluslaw02.CodecShort': WHATEVER THE INPUT: true; the input reads as it did. -/
def codecShortSpec : ChangeSpec := { name := "codecShort", fn := fun _ => fun
  | [d] => { results := [.lit (.bool true)], args := [d] }
  | _ => none }
def codecShortRow : OpenClaim := { program := "ytpecajaoknnepaadoor", sum := "155c196a6aceebacbf963ad81433665df7bd563bfda6dcc637fda6c6f45381f2", func := "talus/taluslaw02.CodecShort", spec := "codecShort", unfollowed := true, recurses := true, named := ["talus/codec.quads"], apart := false, laid := [("talus/codec.quads", laid_talus_codec_quads)] }
def CodecShortSaid : Prop := codecShortRow.holds Tryd.pinned (OpenSpec.ofChange codecShortSpec)

/-- ITS FALSE NEIGHBOUR: 'it returns false'. Refute it at one input. -/
def codecShortWrong : ChangeSpec := { name := "codecShort", fn := fun _ => fun
  | [d] => { results := [.lit (.bool false)], args := [d] }
  | _ => none }
def CodecShortWrongFalsely : Prop := codecShortRow.holds Tryd.pinned (OpenSpec.ofChange codecShortWrong)

/-- 'taluslaw02.CodecWidths': WHATEVER THE INPUT: true; the input reads as it did. -/
def codecWidthsSpec : ChangeSpec := { name := "codecWidths", fn := fun _ => fun
  | [d1, d2] => { results := [.lit (.bool true)], args := [d1, d2] }
  | _ => none }
def codecWidthsRow : OpenClaim := { program := "ytpecajaoknnepaadoor", sum := "155c196a6aceebacbf963ad81433665df7bd563bfda6dcc637fda6c6f45381f2", func := "talus/taluslaw02.CodecWidths", spec := "codecWidths", unfollowed := true, recurses := true, named := ["talus/codec.quads"], apart := false, laid := [("talus/codec.quads", laid_talus_codec_quads)] }
def CodecWidthsSaid : Prop := codecWidthsRow.holds Tryd.pinned (OpenSpec.ofChange codecWidthsSpec)

/-- ITS FALSE NEIGHBOUR: 'it returns false'. Refute it at one input. -/
def codecWidthsWrong : ChangeSpec := { name := "codecWidths", fn := fun _ => fun
  | [d1, d2] => { results := [.lit (.bool false)], args := [d1, d2] }
  | _ => none }
def CodecWidthsWrongFalsely : Prop := codecWidthsRow.holds Tryd.pinned (OpenSpec.ofChange codecWidthsWrong)

/- THE SECOND FORM. 'bulk': how many values and letters a reading holds, each counted each time it is reached (what is shared counts as often as it is met; a slice's spare places count too). A statement '..UptoSaid' is the law's where the arguments, and the package variables that the reading takes, are together of bulk at most 1048576: NARROWER than '..Said'. Prove '..Said' where nothing that the law and all that it calls make is longer than what came in: it says more and counts as full. Else prove '..UptoSaid'. A law counts once. -/
mutual
def uptoBulk {H : Type} : DataW H → Nat
  | .lit (.string bytes) => bytes.length + 1
  | .lit _ => 1
  | .nil => 1
  | .ptr d => uptoBulk d + 1
  | .slice elems spare => uptoBulkAll elems + uptoBulkAll spare + 1
  | .agg parts => uptoBulkAll parts + 1
  | .iface _ d => uptoBulk d + 1
  | .map entries => uptoBulkEntries entries + 1
  | .held _ => 1
def uptoBulkAll {H : Type} : List (DataW H) → Nat
  | [] => 0
  | d :: r => uptoBulk d + uptoBulkAll r
def uptoBulkEntries {H : Type} : List (Lit × DataW H) → Nat
  | [] => 0
  | x :: r => uptoBulkEntry x + uptoBulkEntries r
def uptoBulkEntry {H : Type} : Lit × DataW H → Nat
  | (.string bytes, d) => bytes.length + uptoBulk d + 1
  | (_, d) => uptoBulk d + 1
 end
def uptoSmall : (H : Type) → List (DataW H) → Bool := fun _ ds => decide (uptoBulkAll ds ≤ 1048576)
def OpenSpec.upto (s : _root_.Go.ChangeSpec) : _root_.Go.OpenSpec := { _root_.Go.OpenSpec.ofChange s with cond := some uptoSmall }

/-- 'taluslaw02.CodecNumbers', WHERE WHAT IT READS IS OF BULK AT MOST 1048576: true; the input reads as it did. -/
def codecNumbersUptoRow : OpenClaim := { program := "ytpecajaoknnepaadoor", sum := "155c196a6aceebacbf963ad81433665df7bd563bfda6dcc637fda6c6f45381f2", func := "talus/taluslaw02.CodecNumbers", spec := "codecNumbers", unfollowed := true, recurses := true, named := ["talus/codec.quads"], apart := false, laid := [("talus/codec.quads", laid_talus_codec_quads)], narrowed := true }
def CodecNumbersUptoSaid : Prop := codecNumbersUptoRow.holds Tryd.pinned (OpenSpec.upto codecNumbersSpec)

/-- 'taluslaw02.CodecPacks', WHERE WHAT IT READS IS OF BULK AT MOST 1048576: true; the input reads as it did. -/
def codecPacksUptoRow : OpenClaim := { program := "ytpecajaoknnepaadoor", sum := "155c196a6aceebacbf963ad81433665df7bd563bfda6dcc637fda6c6f45381f2", func := "talus/taluslaw02.CodecPacks", spec := "codecPacks", unfollowed := true, recurses := true, named := ["talus/codec.quads"], apart := false, laid := [("talus/codec.quads", laid_talus_codec_quads)], narrowed := true }
def CodecPacksUptoSaid : Prop := codecPacksUptoRow.holds Tryd.pinned (OpenSpec.upto codecPacksSpec)

/-- 'taluslaw02.CodecRuns', WHERE WHAT IT READS IS OF BULK AT MOST 1048576: true; the input reads as it did. -/
def codecRunsUptoRow : OpenClaim := { program := "ytpecajaoknnepaadoor", sum := "155c196a6aceebacbf963ad81433665df7bd563bfda6dcc637fda6c6f45381f2", func := "talus/taluslaw02.CodecRuns", spec := "codecRuns", unfollowed := true, recurses := true, named := ["talus/codec.quads"], apart := false, laid := [("talus/codec.quads", laid_talus_codec_quads)], narrowed := true }
def CodecRunsUptoSaid : Prop := codecRunsUptoRow.holds Tryd.pinned (OpenSpec.upto codecRunsSpec)

/-- 'taluslaw02.CodecBack', WHERE WHAT IT READS IS OF BULK AT MOST 1048576: true; the input reads as it did. -/
def codecBackUptoRow : OpenClaim := { program := "ytpecajaoknnepaadoor", sum := "155c196a6aceebacbf963ad81433665df7bd563bfda6dcc637fda6c6f45381f2", func := "talus/taluslaw02.CodecBack", spec := "codecBack", unfollowed := true, recurses := true, named := ["talus/codec.quads"], apart := false, laid := [("talus/codec.quads", laid_talus_codec_quads)], narrowed := true }
def CodecBackUptoSaid : Prop := codecBackUptoRow.holds Tryd.pinned (OpenSpec.upto codecBackSpec)

/-- 'taluslaw02.CodecTells', WHERE WHAT IT READS IS OF BULK AT MOST 1048576: true; the input reads as it did. -/
def codecTellsUptoRow : OpenClaim := { program := "ytpecajaoknnepaadoor", sum := "155c196a6aceebacbf963ad81433665df7bd563bfda6dcc637fda6c6f45381f2", func := "talus/taluslaw02.CodecTells", spec := "codecTells", unfollowed := true, recurses := true, named := ["talus/codec.quads"], apart := false, laid := [("talus/codec.quads", laid_talus_codec_quads)], narrowed := true }
def CodecTellsUptoSaid : Prop := codecTellsUptoRow.holds Tryd.pinned (OpenSpec.upto codecTellsSpec)

/-- 'taluslaw02.CodecShort', WHERE WHAT IT READS IS OF BULK AT MOST 1048576: true; the input reads as it did. -/
def codecShortUptoRow : OpenClaim := { program := "ytpecajaoknnepaadoor", sum := "155c196a6aceebacbf963ad81433665df7bd563bfda6dcc637fda6c6f45381f2", func := "talus/taluslaw02.CodecShort", spec := "codecShort", unfollowed := true, recurses := true, named := ["talus/codec.quads"], apart := false, laid := [("talus/codec.quads", laid_talus_codec_quads)], narrowed := true }
def CodecShortUptoSaid : Prop := codecShortUptoRow.holds Tryd.pinned (OpenSpec.upto codecShortSpec)

/-- 'taluslaw02.CodecWidths', WHERE WHAT IT READS IS OF BULK AT MOST 1048576: true; the input reads as it did. -/
def codecWidthsUptoRow : OpenClaim := { program := "ytpecajaoknnepaadoor", sum := "155c196a6aceebacbf963ad81433665df7bd563bfda6dcc637fda6c6f45381f2", func := "talus/taluslaw02.CodecWidths", spec := "codecWidths", unfollowed := true, recurses := true, named := ["talus/codec.quads"], apart := false, laid := [("talus/codec.quads", laid_talus_codec_quads)], narrowed := true }
def CodecWidthsUptoSaid : Prop := codecWidthsUptoRow.holds Tryd.pinned (OpenSpec.upto codecWidthsSpec)

end Rows
end Go.Proofs.YtpecajaoknnepaaDoor
