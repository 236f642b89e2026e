/-
  No cell of these rows narrows 'for every input' (looked for: loops, veiled, ifaces, maps, wideKeys, modest, calm, conditions, laid).
  DERIVED. THE GIVEN ROWS OF THIS SEAT. 6 by the template 'for every input the law returns true; each argument reads behind the call as it read before'; 0 by the template 'total and deterministic' (their statements: YtoepfehgimhmnaaTotals.lean).
  GIVEN WITH THE SEED: the statements are not yours to turn. If you find one false, say at which input.
  Laid BY PROGRAM, IN A SANDBOX (cutbox-rows.mjs): the forced cells as the released guide's own fill.sh prints them over the translation f981ab40651a0c11… (all of the seat's roots in one cut). By AI agents, Wed Nov 11 2026. No macro, syntax, notation, axiom, sorry.
-/
import Derived.Test.YtoepfehgimhmnaaChecked
import GoSem.Claim
import GoSem.ClaimJoined
import GoSem.ClaimMapViews
import Derived.JoinedTies
import Derived.KernelRfl
namespace Go.Proofs.Ytoepfehgimhmnaa
/- THE CELL 'sum', in the pinned program and in every row, IS THE sha256 OF THE DUMP (.gsa) THAT YtoepfehgimhmnaaProg.lean LOADS. Nothing in Lean hashes anything: it is a label: what it is worth is what the hold of that sum in a sandbox is worth. -/
noncomputable def Try.pinned : Pinned := { name := "ytoepfehgimhmnaa", sum := "f981ab40651a0c11db43cdfde0fdf4b04c865710ca78dce0934f9c58a50e70a5", checked := Try.checked }
namespace Rows
def none {H : Type} : Left H := { results := [], args := [] }

/-- 'regletlaw02.ScanOnes': WHATEVER THE INPUT: true; the input reads as it did. -/
def scanOnesSpec : ChangeSpec := { name := "scanOnes", fn := fun _ => fun
  | [d1, d2] => { results := [.lit (.bool true)], args := [d1, d2] }
  | _ => none }
def scanOnesRow : OpenClaim := { program := "ytoepfehgimhmnaa", sum := "f981ab40651a0c11db43cdfde0fdf4b04c865710ca78dce0934f9c58a50e70a5", func := "reglet/regletlaw02.ScanOnes", spec := "scanOnes", inPlace := ["internal/bytealg.IndexByteString", "internal/bytealg.IndexString"], unfollowed := true, recurses := true, named := ["internal/bytealg.MaxLen"], apart := false }
def ScanOnesSaid : Prop := scanOnesRow.holds Try.pinned (OpenSpec.ofChange scanOnesSpec)

/-- ITS FALSE NEIGHBOUR: 'it returns false'. Refute it at one input. -/
def scanOnesWrong : ChangeSpec := { name := "scanOnes", fn := fun _ => fun
  | [d1, d2] => { results := [.lit (.bool false)], args := [d1, d2] }
  | _ => none }
def ScanOnesWrongFalsely : Prop := scanOnesRow.holds Try.pinned (OpenSpec.ofChange scanOnesWrong)

/-- 'regletlaw02.ScanBares': WHATEVER THE INPUT: true; the input reads as it did. -/
def scanBaresSpec : ChangeSpec := { name := "scanBares", fn := fun _ => fun
  | [d] => { results := [.lit (.bool true)], args := [d] }
  | _ => none }
def scanBaresRow : OpenClaim := { program := "ytoepfehgimhmnaa", sum := "f981ab40651a0c11db43cdfde0fdf4b04c865710ca78dce0934f9c58a50e70a5", func := "reglet/regletlaw02.ScanBares", spec := "scanBares", apart := false }
def ScanBaresSaid : Prop := scanBaresRow.holds Try.pinned (OpenSpec.ofChange scanBaresSpec)

/-- ITS FALSE NEIGHBOUR: 'it returns false'. Refute it at one input. -/
def scanBaresWrong : ChangeSpec := { name := "scanBares", fn := fun _ => fun
  | [d] => { results := [.lit (.bool false)], args := [d] }
  | _ => none }
def ScanBaresWrongFalsely : Prop := scanBaresRow.holds Try.pinned (OpenSpec.ofChange scanBaresWrong)

/-- 'regletlaw02.ScanNames': WHATEVER THE INPUT: true; the input reads as it did. -/
def scanNamesSpec : ChangeSpec := { name := "scanNames", fn := fun _ => fun
  | [] => { results := [.lit (.bool true)], args := [] }
  | _ => none }
def scanNamesRow : OpenClaim := { program := "ytoepfehgimhmnaa", sum := "f981ab40651a0c11db43cdfde0fdf4b04c865710ca78dce0934f9c58a50e70a5", func := "reglet/regletlaw02.ScanNames", spec := "scanNames", inPlace := ["internal/bytealg.IndexByteString", "internal/abi.NoEscape", "internal/bytealg.IndexString"], unfollowed := true, recurses := true, named := ["internal/bytealg.MaxLen"], apart := false }
def ScanNamesSaid : Prop := scanNamesRow.holds Try.pinned (OpenSpec.ofChange scanNamesSpec)

/-- ITS FALSE NEIGHBOUR: 'it returns false'. Refute it at one input. -/
def scanNamesWrong : ChangeSpec := { name := "scanNames", fn := fun _ => fun
  | [] => { results := [.lit (.bool false)], args := [] }
  | _ => none }
def ScanNamesWrongFalsely : Prop := scanNamesRow.holds Try.pinned (OpenSpec.ofChange scanNamesWrong)

/-- 'regletlaw02.ScanCovers': WHATEVER THE INPUT: true; the input reads as it did. -/
def scanCoversSpec : ChangeSpec := { name := "scanCovers", fn := fun _ => fun
  | [d] => { results := [.lit (.bool true)], args := [d] }
  | _ => none }
def scanCoversRow : OpenClaim := { program := "ytoepfehgimhmnaa", sum := "f981ab40651a0c11db43cdfde0fdf4b04c865710ca78dce0934f9c58a50e70a5", func := "reglet/regletlaw02.ScanCovers", spec := "scanCovers", inPlace := ["internal/bytealg.IndexByteString", "internal/abi.NoEscape", "internal/bytealg.IndexString"], unfollowed := true, recurses := true, named := ["internal/bytealg.MaxLen"], apart := false }
def ScanCoversSaid : Prop := scanCoversRow.holds Try.pinned (OpenSpec.ofChange scanCoversSpec)

/-- ITS FALSE NEIGHBOUR: 'it returns false'. Refute it at one input. -/
def scanCoversWrong : ChangeSpec := { name := "scanCovers", fn := fun _ => fun
  | [d] => { results := [.lit (.bool false)], args := [d] }
  | _ => none }
def ScanCoversWrongFalsely : Prop := scanCoversRow.holds Try.pinned (OpenSpec.ofChange scanCoversWrong)

/-- 'regletlaw02.ScanMunch': WHATEVER THE INPUT: true; the input reads as it did. -/
def scanMunchSpec : ChangeSpec := { name := "scanMunch", fn := fun _ => fun
  | [d] => { results := [.lit (.bool true)], args := [d] }
  | _ => none }
def scanMunchRow : OpenClaim := { program := "ytoepfehgimhmnaa", sum := "f981ab40651a0c11db43cdfde0fdf4b04c865710ca78dce0934f9c58a50e70a5", func := "reglet/regletlaw02.ScanMunch", spec := "scanMunch", inPlace := ["internal/bytealg.IndexByteString", "internal/abi.NoEscape", "internal/bytealg.IndexString"], unfollowed := true, recurses := true, named := ["internal/bytealg.MaxLen"], apart := false }
def ScanMunchSaid : Prop := scanMunchRow.holds Try.pinned (OpenSpec.ofChange scanMunchSpec)

/-- ITS FALSE NEIGHBOUR: 'it returns false'. Refute it at one input. -/
def scanMunchWrong : ChangeSpec := { name := "scanMunch", fn := fun _ => fun
  | [d] => { results := [.lit (.bool false)], args := [d] }
  | _ => none }
def ScanMunchWrongFalsely : Prop := scanMunchRow.holds Try.pinned (OpenSpec.ofChange scanMunchWrong)

/-- 'regletlaw02.ScanSpaces': WHATEVER THE INPUT: true; the input reads as it did. -/
def scanSpacesSpec : ChangeSpec := { name := "scanSpaces", fn := fun _ => fun
  | [d] => { results := [.lit (.bool true)], args := [d] }
  | _ => none }
def scanSpacesRow : OpenClaim := { program := "ytoepfehgimhmnaa", sum := "f981ab40651a0c11db43cdfde0fdf4b04c865710ca78dce0934f9c58a50e70a5", func := "reglet/regletlaw02.ScanSpaces", spec := "scanSpaces", inPlace := ["internal/bytealg.IndexByteString", "internal/abi.NoEscape", "internal/bytealg.IndexString"], unfollowed := true, recurses := true, named := ["internal/bytealg.MaxLen"], apart := false }
def ScanSpacesSaid : Prop := scanSpacesRow.holds Try.pinned (OpenSpec.ofChange scanSpacesSpec)

/-- ITS FALSE NEIGHBOUR: 'it returns false'. Refute it at one input. -/
def scanSpacesWrong : ChangeSpec := { name := "scanSpaces", fn := fun _ => fun
  | [d] => { results := [.lit (.bool false)], args := [d] }
  | _ => none }
def ScanSpacesWrongFalsely : Prop := scanSpacesRow.holds Try.pinned (OpenSpec.ofChange scanSpacesWrong)

/- THE SECOND FORM. 'bulk': how many values and letters a reading holds, each counted each time it is reached (what is shared counts as often as it is met; a slice's spare places count too). A statement '..UptoSaid' is the law's where the arguments, and the package variables that the reading takes, are together of bulk at most 1048576: NARROWER than '..Said'. Prove '..Said' where nothing that the law and all that it calls make is longer than what came in: it says more and counts as full. Else prove '..UptoSaid'. A law counts once. -/
mutual
def uptoBulk {H : Type} : DataW H → Nat
  | .lit (.string bytes) => bytes.length + 1
  | .lit _ => 1
  | .nil => 1
  | .ptr d => uptoBulk d + 1
  | .slice elems spare => uptoBulkAll elems + uptoBulkAll spare + 1
  | .agg parts => uptoBulkAll parts + 1
  | .iface _ d => uptoBulk d + 1
  | .map entries => uptoBulkEntries entries + 1
  | .held _ => 1
def uptoBulkAll {H : Type} : List (DataW H) → Nat
  | [] => 0
  | d :: r => uptoBulk d + uptoBulkAll r
def uptoBulkEntries {H : Type} : List (Lit × DataW H) → Nat
  | [] => 0
  | x :: r => uptoBulkEntry x + uptoBulkEntries r
def uptoBulkEntry {H : Type} : Lit × DataW H → Nat
  | (.string bytes, d) => bytes.length + uptoBulk d + 1
  | (_, d) => uptoBulk d + 1
 end
def uptoSmall : (H : Type) → List (DataW H) → Bool := fun _ ds => decide (uptoBulkAll ds ≤ 1048576)
def OpenSpec.upto (s : _root_.Go.ChangeSpec) : _root_.Go.OpenSpec := { _root_.Go.OpenSpec.ofChange s with cond := some uptoSmall }

/-- 'regletlaw02.ScanOnes', WHERE WHAT IT READS IS OF BULK AT MOST 1048576: true; the input reads as it did. -/
def scanOnesUptoRow : OpenClaim := { program := "ytoepfehgimhmnaa", sum := "f981ab40651a0c11db43cdfde0fdf4b04c865710ca78dce0934f9c58a50e70a5", func := "reglet/regletlaw02.ScanOnes", spec := "scanOnes", inPlace := ["internal/bytealg.IndexByteString", "internal/bytealg.IndexString"], unfollowed := true, recurses := true, named := ["internal/bytealg.MaxLen"], apart := false, narrowed := true }
def ScanOnesUptoSaid : Prop := scanOnesUptoRow.holds Try.pinned (OpenSpec.upto scanOnesSpec)

/-- 'regletlaw02.ScanBares', WHERE WHAT IT READS IS OF BULK AT MOST 1048576: true; the input reads as it did. -/
def scanBaresUptoRow : OpenClaim := { program := "ytoepfehgimhmnaa", sum := "f981ab40651a0c11db43cdfde0fdf4b04c865710ca78dce0934f9c58a50e70a5", func := "reglet/regletlaw02.ScanBares", spec := "scanBares", apart := false, narrowed := true }
def ScanBaresUptoSaid : Prop := scanBaresUptoRow.holds Try.pinned (OpenSpec.upto scanBaresSpec)

/-- 'regletlaw02.ScanNames', WHERE WHAT IT READS IS OF BULK AT MOST 1048576: true; the input reads as it did. -/
def scanNamesUptoRow : OpenClaim := { program := "ytoepfehgimhmnaa", sum := "f981ab40651a0c11db43cdfde0fdf4b04c865710ca78dce0934f9c58a50e70a5", func := "reglet/regletlaw02.ScanNames", spec := "scanNames", inPlace := ["internal/bytealg.IndexByteString", "internal/abi.NoEscape", "internal/bytealg.IndexString"], unfollowed := true, recurses := true, named := ["internal/bytealg.MaxLen"], apart := false, narrowed := true }
def ScanNamesUptoSaid : Prop := scanNamesUptoRow.holds Try.pinned (OpenSpec.upto scanNamesSpec)

/-- 'regletlaw02.ScanCovers', WHERE WHAT IT READS IS OF BULK AT MOST 1048576: true; the input reads as it did. -/
def scanCoversUptoRow : OpenClaim := { program := "ytoepfehgimhmnaa", sum := "f981ab40651a0c11db43cdfde0fdf4b04c865710ca78dce0934f9c58a50e70a5", func := "reglet/regletlaw02.ScanCovers", spec := "scanCovers", inPlace := ["internal/bytealg.IndexByteString", "internal/abi.NoEscape", "internal/bytealg.IndexString"], unfollowed := true, recurses := true, named := ["internal/bytealg.MaxLen"], apart := false, narrowed := true }
def ScanCoversUptoSaid : Prop := scanCoversUptoRow.holds Try.pinned (OpenSpec.upto scanCoversSpec)

/-- 'regletlaw02.ScanMunch', WHERE WHAT IT READS IS OF BULK AT MOST 1048576: true; the input reads as it did. -/
def scanMunchUptoRow : OpenClaim := { program := "ytoepfehgimhmnaa", sum := "f981ab40651a0c11db43cdfde0fdf4b04c865710ca78dce0934f9c58a50e70a5", func := "reglet/regletlaw02.ScanMunch", spec := "scanMunch", inPlace := ["internal/bytealg.IndexByteString", "internal/abi.NoEscape", "internal/bytealg.IndexString"], unfollowed := true, recurses := true, named := ["internal/bytealg.MaxLen"], apart := false, narrowed := true }
def ScanMunchUptoSaid : Prop := scanMunchUptoRow.holds Try.pinned (OpenSpec.upto scanMunchSpec)

/-- 'regletlaw02.ScanSpaces', WHERE WHAT IT READS IS OF BULK AT MOST 1048576: true; the input reads as it did. -/
def scanSpacesUptoRow : OpenClaim := { program := "ytoepfehgimhmnaa", sum := "f981ab40651a0c11db43cdfde0fdf4b04c865710ca78dce0934f9c58a50e70a5", func := "reglet/regletlaw02.ScanSpaces", spec := "scanSpaces", inPlace := ["internal/bytealg.IndexByteString", "internal/abi.NoEscape", "internal/bytealg.IndexString"], unfollowed := true, recurses := true, named := ["internal/bytealg.MaxLen"], apart := false, narrowed := true }
def ScanSpacesUptoSaid : Prop := scanSpacesUptoRow.holds Try.pinned (OpenSpec.upto scanSpacesSpec)

end Rows
end Go.Proofs.Ytoepfehgimhmnaa
