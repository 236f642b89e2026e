/-
  No cell of these rows narrows 'for every input' (looked for: loops, veiled, ifaces, maps, wideKeys, modest, calm, conditions, laid).
  DERIVED. THE GIVEN ROWS OF THIS SEAT. 4 by the template 'for every input the law returns true; each argument reads behind the call as it read before'; 0 by the template 'total and deterministic' (their statements: YtaodjipnffgihaaTotals.lean).
  GIVEN WITH THE SEED: the statements are not yours to turn. If you find one false, say at which input.
  Laid BY PROGRAM, IN A SANDBOX (cutbox-rows.mjs): the forced cells as the released guide's own fill.sh prints them over the translation afeebc93a86c6c8d… (all of the seat's roots in one cut). By AI agents, Wed Nov 11 2026. No macro, syntax, notation, axiom, sorry.
-/
import Derived.Test.YtaodjipnffgihaaChecked
import GoSem.Claim
import GoSem.ClaimJoined
import GoSem.ClaimMapViews
import Derived.JoinedTies
import Derived.KernelRfl
namespace Go.Proofs.Ytaodjipnffgihaa
/- THE CELL 'sum', in the pinned program and in every row, IS THE sha256 OF THE DUMP (.gsa) THAT YtaodjipnffgihaaProg.lean LOADS. Nothing in Lean hashes anything: it is a label: what it is worth is what the hold of that sum in a sandbox is worth. -/
noncomputable def Try.pinned : Pinned := { name := "ytaodjipnffgihaa", sum := "afeebc93a86c6c8d5bdc666d780f8298e492aab890b1464cc43080948982d25b", checked := Try.checked }
namespace Rows
def none {H : Type} : Left H := { results := [], args := [] }

/-- 'regletlaw05.MacroDefines': WHATEVER THE INPUT: true; the input reads as it did. -/
def macroDefinesSpec : ChangeSpec := { name := "macroDefines", fn := fun _ => fun
  | [d] => { results := [.lit (.bool true)], args := [d] }
  | _ => none }
def macroDefinesRow : OpenClaim := { program := "ytaodjipnffgihaa", sum := "afeebc93a86c6c8d5bdc666d780f8298e492aab890b1464cc43080948982d25b", func := "reglet/regletlaw05.MacroDefines", spec := "macroDefines", unfollowed := true, recurses := true, apart := false }
def MacroDefinesSaid : Prop := macroDefinesRow.holds Try.pinned (OpenSpec.ofChange macroDefinesSpec)

/-- ITS FALSE NEIGHBOUR: 'it returns false'. Refute it at one input. -/
def macroDefinesWrong : ChangeSpec := { name := "macroDefines", fn := fun _ => fun
  | [d] => { results := [.lit (.bool false)], args := [d] }
  | _ => none }
def MacroDefinesWrongFalsely : Prop := macroDefinesRow.holds Try.pinned (OpenSpec.ofChange macroDefinesWrong)

/-- 'regletlaw05.MacroNames': WHATEVER THE INPUT: true; the input reads as it did. -/
def macroNamesSpec : ChangeSpec := { name := "macroNames", fn := fun _ => fun
  | [] => { results := [.lit (.bool true)], args := [] }
  | _ => none }
def macroNamesRow : OpenClaim := { program := "ytaodjipnffgihaa", sum := "afeebc93a86c6c8d5bdc666d780f8298e492aab890b1464cc43080948982d25b", func := "reglet/regletlaw05.MacroNames", spec := "macroNames", inPlace := ["internal/bytealg.IndexByteString", "internal/abi.NoEscape", "internal/bytealg.IndexString"], unfollowed := true, recurses := true, named := ["internal/bytealg.MaxLen"], apart := false }
def MacroNamesSaid : Prop := macroNamesRow.holds Try.pinned (OpenSpec.ofChange macroNamesSpec)

/-- ITS FALSE NEIGHBOUR: 'it returns false'. Refute it at one input. -/
def macroNamesWrong : ChangeSpec := { name := "macroNames", fn := fun _ => fun
  | [] => { results := [.lit (.bool false)], args := [] }
  | _ => none }
def MacroNamesWrongFalsely : Prop := macroNamesRow.holds Try.pinned (OpenSpec.ofChange macroNamesWrong)

/-- 'regletlaw05.MacroBack': WHATEVER THE INPUT: true; the input reads as it did. -/
def macroBackSpec : ChangeSpec := { name := "macroBack", fn := fun _ => fun
  | [d] => { results := [.lit (.bool true)], args := [d] }
  | _ => none }
def macroBackRow : OpenClaim := { program := "ytaodjipnffgihaa", sum := "afeebc93a86c6c8d5bdc666d780f8298e492aab890b1464cc43080948982d25b", func := "reglet/regletlaw05.MacroBack", spec := "macroBack", inPlace := ["internal/bytealg.IndexByteString", "internal/abi.NoEscape", "internal/bytealg.IndexString"], unfollowed := true, recurses := true, named := ["internal/bytealg.MaxLen"], apart := false }
def MacroBackSaid : Prop := macroBackRow.holds Try.pinned (OpenSpec.ofChange macroBackSpec)

/-- ITS FALSE NEIGHBOUR: 'it returns false'. Refute it at one input. -/
def macroBackWrong : ChangeSpec := { name := "macroBack", fn := fun _ => fun
  | [d] => { results := [.lit (.bool false)], args := [d] }
  | _ => none }
def MacroBackWrongFalsely : Prop := macroBackRow.holds Try.pinned (OpenSpec.ofChange macroBackWrong)

/-- 'regletlaw05.MacroRemarks': WHATEVER THE INPUT: true; the input reads as it did. -/
def macroRemarksSpec : ChangeSpec := { name := "macroRemarks", fn := fun _ => fun
  | [d1, d2] => { results := [.lit (.bool true)], args := [d1, d2] }
  | _ => none }
def macroRemarksRow : OpenClaim := { program := "ytaodjipnffgihaa", sum := "afeebc93a86c6c8d5bdc666d780f8298e492aab890b1464cc43080948982d25b", func := "reglet/regletlaw05.MacroRemarks", spec := "macroRemarks", inPlace := ["internal/bytealg.IndexByteString", "internal/abi.NoEscape", "internal/bytealg.IndexString"], unfollowed := true, recurses := true, named := ["internal/bytealg.MaxLen"], apart := false }
def MacroRemarksSaid : Prop := macroRemarksRow.holds Try.pinned (OpenSpec.ofChange macroRemarksSpec)

/-- ITS FALSE NEIGHBOUR: 'it returns false'. Refute it at one input. -/
def macroRemarksWrong : ChangeSpec := { name := "macroRemarks", fn := fun _ => fun
  | [d1, d2] => { results := [.lit (.bool false)], args := [d1, d2] }
  | _ => none }
def MacroRemarksWrongFalsely : Prop := macroRemarksRow.holds Try.pinned (OpenSpec.ofChange macroRemarksWrong)

/- THE SECOND FORM. 'bulk': how many values and letters a reading holds, each counted each time it is reached (what is shared counts as often as it is met; a slice's spare places count too). A statement '..UptoSaid' is the law's where the arguments, and the package variables that the reading takes, are together of bulk at most 1048576: NARROWER than '..Said'. Prove '..Said' where nothing that the law and all that it calls make is longer than what came in: it says more and counts as full. Else prove '..UptoSaid'. A law counts once. -/
mutual
def uptoBulk {H : Type} : DataW H → Nat
  | .lit (.string bytes) => bytes.length + 1
  | .lit _ => 1
  | .nil => 1
  | .ptr d => uptoBulk d + 1
  | .slice elems spare => uptoBulkAll elems + uptoBulkAll spare + 1
  | .agg parts => uptoBulkAll parts + 1
  | .iface _ d => uptoBulk d + 1
  | .map entries => uptoBulkEntries entries + 1
  | .held _ => 1
def uptoBulkAll {H : Type} : List (DataW H) → Nat
  | [] => 0
  | d :: r => uptoBulk d + uptoBulkAll r
def uptoBulkEntries {H : Type} : List (Lit × DataW H) → Nat
  | [] => 0
  | x :: r => uptoBulkEntry x + uptoBulkEntries r
def uptoBulkEntry {H : Type} : Lit × DataW H → Nat
  | (.string bytes, d) => bytes.length + uptoBulk d + 1
  | (_, d) => uptoBulk d + 1
 end
def uptoSmall : (H : Type) → List (DataW H) → Bool := fun _ ds => decide (uptoBulkAll ds ≤ 1048576)
def OpenSpec.upto (s : _root_.Go.ChangeSpec) : _root_.Go.OpenSpec := { _root_.Go.OpenSpec.ofChange s with cond := some uptoSmall }

/-- 'regletlaw05.MacroDefines', WHERE WHAT IT READS IS OF BULK AT MOST 1048576: true; the input reads as it did. -/
def macroDefinesUptoRow : OpenClaim := { program := "ytaodjipnffgihaa", sum := "afeebc93a86c6c8d5bdc666d780f8298e492aab890b1464cc43080948982d25b", func := "reglet/regletlaw05.MacroDefines", spec := "macroDefines", unfollowed := true, recurses := true, apart := false, narrowed := true }
def MacroDefinesUptoSaid : Prop := macroDefinesUptoRow.holds Try.pinned (OpenSpec.upto macroDefinesSpec)

/-- 'regletlaw05.MacroNames', WHERE WHAT IT READS IS OF BULK AT MOST 1048576: true; the input reads as it did. -/
def macroNamesUptoRow : OpenClaim := { program := "ytaodjipnffgihaa", sum := "afeebc93a86c6c8d5bdc666d780f8298e492aab890b1464cc43080948982d25b", func := "reglet/regletlaw05.MacroNames", spec := "macroNames", inPlace := ["internal/bytealg.IndexByteString", "internal/abi.NoEscape", "internal/bytealg.IndexString"], unfollowed := true, recurses := true, named := ["internal/bytealg.MaxLen"], apart := false, narrowed := true }
def MacroNamesUptoSaid : Prop := macroNamesUptoRow.holds Try.pinned (OpenSpec.upto macroNamesSpec)

/-- 'regletlaw05.MacroBack', WHERE WHAT IT READS IS OF BULK AT MOST 1048576: true; the input reads as it did. -/
def macroBackUptoRow : OpenClaim := { program := "ytaodjipnffgihaa", sum := "afeebc93a86c6c8d5bdc666d780f8298e492aab890b1464cc43080948982d25b", func := "reglet/regletlaw05.MacroBack", spec := "macroBack", inPlace := ["internal/bytealg.IndexByteString", "internal/abi.NoEscape", "internal/bytealg.IndexString"], unfollowed := true, recurses := true, named := ["internal/bytealg.MaxLen"], apart := false, narrowed := true }
def MacroBackUptoSaid : Prop := macroBackUptoRow.holds Try.pinned (OpenSpec.upto macroBackSpec)

/-- 'regletlaw05.MacroRemarks', WHERE WHAT IT READS IS OF BULK AT MOST 1048576: true; the input reads as it did. -/
def macroRemarksUptoRow : OpenClaim := { program := "ytaodjipnffgihaa", sum := "afeebc93a86c6c8d5bdc666d780f8298e492aab890b1464cc43080948982d25b", func := "reglet/regletlaw05.MacroRemarks", spec := "macroRemarks", inPlace := ["internal/bytealg.IndexByteString", "internal/abi.NoEscape", "internal/bytealg.IndexString"], unfollowed := true, recurses := true, named := ["internal/bytealg.MaxLen"], apart := false, narrowed := true }
def MacroRemarksUptoSaid : Prop := macroRemarksUptoRow.holds Try.pinned (OpenSpec.upto macroRemarksSpec)

end Rows
end Go.Proofs.Ytaodjipnffgihaa
