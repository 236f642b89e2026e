/-
  No cell of these rows narrows 'for every input' (looked for: loops, veiled, ifaces, maps, wideKeys, modest, calm, conditions, laid).
  DERIVED. THE GIVEN ROWS OF THIS SEAT. 6 by the template 'for every input the law returns true; each argument reads behind the call as it read before'; 0 by the template 'total and deterministic' (their statements: YtpomcdolpmbhdaaTotals.lean).
  GIVEN WITH THE SEED: the statements are not yours to turn. If you find one false, say at which input.
  Laid BY PROGRAM, IN A SANDBOX (cutbox-rows.mjs): the forced cells as the released guide's own fill.sh prints them over the translation a55af815fd6feca5… (all of the seat's roots in one cut). By AI agents, Wed Nov 11 2026. No macro, syntax, notation, axiom, sorry.
-/
import Derived.Test.YtpomcdolpmbhdaaChecked
import GoSem.Claim
import GoSem.ClaimJoined
import GoSem.ClaimMapViews
import Derived.JoinedTies
import Derived.KernelRfl
namespace Go.Proofs.Ytpomcdolpmbhdaa
/- THE CELL 'sum', in the pinned program and in every row, IS THE sha256 OF THE DUMP (.gsa) THAT YtpomcdolpmbhdaaProg.lean LOADS. Nothing in Lean hashes anything: it is a label: what it is worth is what the hold of that sum in a sandbox is worth. -/
noncomputable def Try.pinned : Pinned := { name := "ytpomcdolpmbhdaa", sum := "a55af815fd6feca54b2b0822ccfbc296626009c98672c326e8a18dbf6a37624d", checked := Try.checked }
namespace Rows
def none {H : Type} : Left H := { results := [], args := [] }

/-- 'regletlaw03.LinesTells': WHATEVER THE INPUT: true; the input reads as it did. -/
def linesTellsSpec : ChangeSpec := { name := "linesTells", fn := fun _ => fun
  | [d] => { results := [.lit (.bool true)], args := [d] }
  | _ => none }
def linesTellsRow : OpenClaim := { program := "ytpomcdolpmbhdaa", sum := "a55af815fd6feca54b2b0822ccfbc296626009c98672c326e8a18dbf6a37624d", func := "reglet/regletlaw03.LinesTells", spec := "linesTells", unfollowed := true, recurses := true, apart := false }
def LinesTellsSaid : Prop := linesTellsRow.holds Try.pinned (OpenSpec.ofChange linesTellsSpec)

/-- ITS FALSE NEIGHBOUR: 'it returns false'. Refute it at one input. -/
def linesTellsWrong : ChangeSpec := { name := "linesTells", fn := fun _ => fun
  | [d] => { results := [.lit (.bool false)], args := [d] }
  | _ => none }
def LinesTellsWrongFalsely : Prop := linesTellsRow.holds Try.pinned (OpenSpec.ofChange linesTellsWrong)

/-- 'regletlaw03.LinesDepths': WHATEVER THE INPUT: true; the input reads as it did. -/
def linesDepthsSpec : ChangeSpec := { name := "linesDepths", fn := fun _ => fun
  | [d] => { results := [.lit (.bool true)], args := [d] }
  | _ => none }
def linesDepthsRow : OpenClaim := { program := "ytpomcdolpmbhdaa", sum := "a55af815fd6feca54b2b0822ccfbc296626009c98672c326e8a18dbf6a37624d", func := "reglet/regletlaw03.LinesDepths", spec := "linesDepths", apart := false }
def LinesDepthsSaid : Prop := linesDepthsRow.holds Try.pinned (OpenSpec.ofChange linesDepthsSpec)

/-- ITS FALSE NEIGHBOUR: 'it returns false'. Refute it at one input. -/
def linesDepthsWrong : ChangeSpec := { name := "linesDepths", fn := fun _ => fun
  | [d] => { results := [.lit (.bool false)], args := [d] }
  | _ => none }
def LinesDepthsWrongFalsely : Prop := linesDepthsRow.holds Try.pinned (OpenSpec.ofChange linesDepthsWrong)

/-- 'regletlaw03.LinesAlike': WHATEVER THE INPUT: true; the input reads as it did. -/
def linesAlikeSpec : ChangeSpec := { name := "linesAlike", fn := fun _ => fun
  | [d1, d2, d3] => { results := [.lit (.bool true)], args := [d1, d2, d3] }
  | _ => none }
def linesAlikeRow : OpenClaim := { program := "ytpomcdolpmbhdaa", sum := "a55af815fd6feca54b2b0822ccfbc296626009c98672c326e8a18dbf6a37624d", func := "reglet/regletlaw03.LinesAlike", spec := "linesAlike", unfollowed := true, recurses := true, apart := false }
def LinesAlikeSaid : Prop := linesAlikeRow.holds Try.pinned (OpenSpec.ofChange linesAlikeSpec)

/-- ITS FALSE NEIGHBOUR: 'it returns false'. Refute it at one input. -/
def linesAlikeWrong : ChangeSpec := { name := "linesAlike", fn := fun _ => fun
  | [d1, d2, d3] => { results := [.lit (.bool false)], args := [d1, d2, d3] }
  | _ => none }
def LinesAlikeWrongFalsely : Prop := linesAlikeRow.holds Try.pinned (OpenSpec.ofChange linesAlikeWrong)

/-- 'regletlaw03.LinesNames': WHATEVER THE INPUT: true; the input reads as it did. -/
def linesNamesSpec : ChangeSpec := { name := "linesNames", fn := fun _ => fun
  | [] => { results := [.lit (.bool true)], args := [] }
  | _ => none }
def linesNamesRow : OpenClaim := { program := "ytpomcdolpmbhdaa", sum := "a55af815fd6feca54b2b0822ccfbc296626009c98672c326e8a18dbf6a37624d", func := "reglet/regletlaw03.LinesNames", spec := "linesNames", inPlace := ["internal/bytealg.IndexByteString", "internal/abi.NoEscape", "internal/bytealg.IndexString"], unfollowed := true, recurses := true, named := ["internal/bytealg.MaxLen"], apart := false }
def LinesNamesSaid : Prop := linesNamesRow.holds Try.pinned (OpenSpec.ofChange linesNamesSpec)

/-- ITS FALSE NEIGHBOUR: 'it returns false'. Refute it at one input. -/
def linesNamesWrong : ChangeSpec := { name := "linesNames", fn := fun _ => fun
  | [] => { results := [.lit (.bool false)], args := [] }
  | _ => none }
def LinesNamesWrongFalsely : Prop := linesNamesRow.holds Try.pinned (OpenSpec.ofChange linesNamesWrong)

/-- 'regletlaw03.LinesWhole': WHATEVER THE INPUT: true; the input reads as it did. -/
def linesWholeSpec : ChangeSpec := { name := "linesWhole", fn := fun _ => fun
  | [d] => { results := [.lit (.bool true)], args := [d] }
  | _ => none }
def linesWholeRow : OpenClaim := { program := "ytpomcdolpmbhdaa", sum := "a55af815fd6feca54b2b0822ccfbc296626009c98672c326e8a18dbf6a37624d", func := "reglet/regletlaw03.LinesWhole", spec := "linesWhole", inPlace := ["internal/bytealg.IndexByteString", "internal/abi.NoEscape", "internal/bytealg.IndexString"], unfollowed := true, recurses := true, named := ["internal/bytealg.MaxLen"], apart := false }
def LinesWholeSaid : Prop := linesWholeRow.holds Try.pinned (OpenSpec.ofChange linesWholeSpec)

/-- ITS FALSE NEIGHBOUR: 'it returns false'. Refute it at one input. -/
def linesWholeWrong : ChangeSpec := { name := "linesWhole", fn := fun _ => fun
  | [d] => { results := [.lit (.bool false)], args := [d] }
  | _ => none }
def LinesWholeWrongFalsely : Prop := linesWholeRow.holds Try.pinned (OpenSpec.ofChange linesWholeWrong)

/-- 'regletlaw03.LinesWraps': WHATEVER THE INPUT: true; the input reads as it did. -/
def linesWrapsSpec : ChangeSpec := { name := "linesWraps", fn := fun _ => fun
  | [d] => { results := [.lit (.bool true)], args := [d] }
  | _ => none }
def linesWrapsRow : OpenClaim := { program := "ytpomcdolpmbhdaa", sum := "a55af815fd6feca54b2b0822ccfbc296626009c98672c326e8a18dbf6a37624d", func := "reglet/regletlaw03.LinesWraps", spec := "linesWraps", inPlace := ["internal/bytealg.IndexByteString", "internal/abi.NoEscape", "internal/bytealg.IndexString"], unfollowed := true, recurses := true, named := ["internal/bytealg.MaxLen"], apart := false }
def LinesWrapsSaid : Prop := linesWrapsRow.holds Try.pinned (OpenSpec.ofChange linesWrapsSpec)

/-- ITS FALSE NEIGHBOUR: 'it returns false'. Refute it at one input. -/
def linesWrapsWrong : ChangeSpec := { name := "linesWraps", fn := fun _ => fun
  | [d] => { results := [.lit (.bool false)], args := [d] }
  | _ => none }
def LinesWrapsWrongFalsely : Prop := linesWrapsRow.holds Try.pinned (OpenSpec.ofChange linesWrapsWrong)

/- THE SECOND FORM. 'bulk': how many values and letters a reading holds, each counted each time it is reached (what is shared counts as often as it is met; a slice's spare places count too). A statement '..UptoSaid' is the law's where the arguments, and the package variables that the reading takes, are together of bulk at most 1048576: NARROWER than '..Said'. Prove '..Said' where nothing that the law and all that it calls make is longer than what came in: it says more and counts as full. Else prove '..UptoSaid'. A law counts once. -/
mutual
def uptoBulk {H : Type} : DataW H → Nat
  | .lit (.string bytes) => bytes.length + 1
  | .lit _ => 1
  | .nil => 1
  | .ptr d => uptoBulk d + 1
  | .slice elems spare => uptoBulkAll elems + uptoBulkAll spare + 1
  | .agg parts => uptoBulkAll parts + 1
  | .iface _ d => uptoBulk d + 1
  | .map entries => uptoBulkEntries entries + 1
  | .held _ => 1
def uptoBulkAll {H : Type} : List (DataW H) → Nat
  | [] => 0
  | d :: r => uptoBulk d + uptoBulkAll r
def uptoBulkEntries {H : Type} : List (Lit × DataW H) → Nat
  | [] => 0
  | x :: r => uptoBulkEntry x + uptoBulkEntries r
def uptoBulkEntry {H : Type} : Lit × DataW H → Nat
  | (.string bytes, d) => bytes.length + uptoBulk d + 1
  | (_, d) => uptoBulk d + 1
 end
def uptoSmall : (H : Type) → List (DataW H) → Bool := fun _ ds => decide (uptoBulkAll ds ≤ 1048576)
def OpenSpec.upto (s : _root_.Go.ChangeSpec) : _root_.Go.OpenSpec := { _root_.Go.OpenSpec.ofChange s with cond := some uptoSmall }

/-- 'regletlaw03.LinesTells', WHERE WHAT IT READS IS OF BULK AT MOST 1048576: true; the input reads as it did. -/
def linesTellsUptoRow : OpenClaim := { program := "ytpomcdolpmbhdaa", sum := "a55af815fd6feca54b2b0822ccfbc296626009c98672c326e8a18dbf6a37624d", func := "reglet/regletlaw03.LinesTells", spec := "linesTells", unfollowed := true, recurses := true, apart := false, narrowed := true }
def LinesTellsUptoSaid : Prop := linesTellsUptoRow.holds Try.pinned (OpenSpec.upto linesTellsSpec)

/-- 'regletlaw03.LinesDepths', WHERE WHAT IT READS IS OF BULK AT MOST 1048576: true; the input reads as it did. -/
def linesDepthsUptoRow : OpenClaim := { program := "ytpomcdolpmbhdaa", sum := "a55af815fd6feca54b2b0822ccfbc296626009c98672c326e8a18dbf6a37624d", func := "reglet/regletlaw03.LinesDepths", spec := "linesDepths", apart := false, narrowed := true }
def LinesDepthsUptoSaid : Prop := linesDepthsUptoRow.holds Try.pinned (OpenSpec.upto linesDepthsSpec)

/-- 'regletlaw03.LinesAlike', WHERE WHAT IT READS IS OF BULK AT MOST 1048576: true; the input reads as it did. -/
def linesAlikeUptoRow : OpenClaim := { program := "ytpomcdolpmbhdaa", sum := "a55af815fd6feca54b2b0822ccfbc296626009c98672c326e8a18dbf6a37624d", func := "reglet/regletlaw03.LinesAlike", spec := "linesAlike", unfollowed := true, recurses := true, apart := false, narrowed := true }
def LinesAlikeUptoSaid : Prop := linesAlikeUptoRow.holds Try.pinned (OpenSpec.upto linesAlikeSpec)

/-- 'regletlaw03.LinesNames', WHERE WHAT IT READS IS OF BULK AT MOST 1048576: true; the input reads as it did. -/
def linesNamesUptoRow : OpenClaim := { program := "ytpomcdolpmbhdaa", sum := "a55af815fd6feca54b2b0822ccfbc296626009c98672c326e8a18dbf6a37624d", func := "reglet/regletlaw03.LinesNames", spec := "linesNames", inPlace := ["internal/bytealg.IndexByteString", "internal/abi.NoEscape", "internal/bytealg.IndexString"], unfollowed := true, recurses := true, named := ["internal/bytealg.MaxLen"], apart := false, narrowed := true }
def LinesNamesUptoSaid : Prop := linesNamesUptoRow.holds Try.pinned (OpenSpec.upto linesNamesSpec)

/-- 'regletlaw03.LinesWhole', WHERE WHAT IT READS IS OF BULK AT MOST 1048576: true; the input reads as it did. -/
def linesWholeUptoRow : OpenClaim := { program := "ytpomcdolpmbhdaa", sum := "a55af815fd6feca54b2b0822ccfbc296626009c98672c326e8a18dbf6a37624d", func := "reglet/regletlaw03.LinesWhole", spec := "linesWhole", inPlace := ["internal/bytealg.IndexByteString", "internal/abi.NoEscape", "internal/bytealg.IndexString"], unfollowed := true, recurses := true, named := ["internal/bytealg.MaxLen"], apart := false, narrowed := true }
def LinesWholeUptoSaid : Prop := linesWholeUptoRow.holds Try.pinned (OpenSpec.upto linesWholeSpec)

/-- 'regletlaw03.LinesWraps', WHERE WHAT IT READS IS OF BULK AT MOST 1048576: true; the input reads as it did. -/
def linesWrapsUptoRow : OpenClaim := { program := "ytpomcdolpmbhdaa", sum := "a55af815fd6feca54b2b0822ccfbc296626009c98672c326e8a18dbf6a37624d", func := "reglet/regletlaw03.LinesWraps", spec := "linesWraps", inPlace := ["internal/bytealg.IndexByteString", "internal/abi.NoEscape", "internal/bytealg.IndexString"], unfollowed := true, recurses := true, named := ["internal/bytealg.MaxLen"], apart := false, narrowed := true }
def LinesWrapsUptoSaid : Prop := linesWrapsUptoRow.holds Try.pinned (OpenSpec.upto linesWrapsSpec)

end Rows
end Go.Proofs.Ytpomcdolpmbhdaa
