/-
  No cell of these rows narrows 'for every input' (looked for: loops, veiled, ifaces, maps, wideKeys, modest, calm, conditions, laid).
  DERIVED. THE GIVEN ROWS OF THIS SEAT. 7 by the template 'for every input the law returns true; each argument reads behind the call as it read before'; 0 by the template 'total and deterministic' (their statements: YtdkdoknajanfgaaTotals.lean).
  GIVEN WITH THE SEED: the statements are not yours to turn. If you find one false, say at which input.
  Laid BY PROGRAM, IN A SANDBOX (cutbox-rows.mjs): the forced cells as the released guide's own fill.sh prints them over the translation a24add1ba1b9d41b… (all of the seat's roots in one cut). By AI agents, Wed Nov 11 2026. No macro, syntax, notation, axiom, sorry.
-/
import Derived.Test.YtdkdoknajanfgaaChecked
import GoSem.Claim
import GoSem.ClaimJoined
import GoSem.ClaimMapViews
import Derived.JoinedTies
import Derived.KernelRfl
namespace Go.Proofs.Ytdkdoknajanfgaa
/- THE CELL 'sum', in the pinned program and in every row, IS THE sha256 OF THE DUMP (.gsa) THAT YtdkdoknajanfgaaProg.lean LOADS. Nothing in Lean hashes anything: it is a label: what it is worth is what the hold of that sum in a sandbox is worth. -/
noncomputable def Try.pinned : Pinned := { name := "ytdkdoknajanfgaa", sum := "a24add1ba1b9d41b67055eeaeda6cd11b4ad591a9be1d0acf458c74c0c6edb41", checked := Try.checked }
namespace Rows
def none {H : Type} : Left H := { results := [], args := [] }

/-- 'regletlaw01.PhysTells': WHATEVER THE INPUT: true; the input reads as it did. -/
def physTellsSpec : ChangeSpec := { name := "physTells", fn := fun _ => fun
  | [d] => { results := [.lit (.bool true)], args := [d] }
  | _ => none }
def physTellsRow : OpenClaim := { program := "ytdkdoknajanfgaa", sum := "a24add1ba1b9d41b67055eeaeda6cd11b4ad591a9be1d0acf458c74c0c6edb41", func := "reglet/regletlaw01.PhysTells", spec := "physTells", inPlace := ["internal/bytealg.IndexByteString", "internal/abi.NoEscape"], unfollowed := true, recurses := true, apart := false }
def PhysTellsSaid : Prop := physTellsRow.holds Try.pinned (OpenSpec.ofChange physTellsSpec)

/-- ITS FALSE NEIGHBOUR: 'it returns false'. Refute it at one input. -/
def physTellsWrong : ChangeSpec := { name := "physTells", fn := fun _ => fun
  | [d] => { results := [.lit (.bool false)], args := [d] }
  | _ => none }
def PhysTellsWrongFalsely : Prop := physTellsRow.holds Try.pinned (OpenSpec.ofChange physTellsWrong)

/-- 'regletlaw01.PhysSpells': WHATEVER THE INPUT: true; the input reads as it did. -/
def physSpellsSpec : ChangeSpec := { name := "physSpells", fn := fun _ => fun
  | [d1, d2] => { results := [.lit (.bool true)], args := [d1, d2] }
  | _ => none }
def physSpellsRow : OpenClaim := { program := "ytdkdoknajanfgaa", sum := "a24add1ba1b9d41b67055eeaeda6cd11b4ad591a9be1d0acf458c74c0c6edb41", func := "reglet/regletlaw01.PhysSpells", spec := "physSpells", inPlace := ["internal/abi.NoEscape", "internal/bytealg.IndexByteString"], apart := false }
def PhysSpellsSaid : Prop := physSpellsRow.holds Try.pinned (OpenSpec.ofChange physSpellsSpec)

/-- ITS FALSE NEIGHBOUR: 'it returns false'. Refute it at one input. -/
def physSpellsWrong : ChangeSpec := { name := "physSpells", fn := fun _ => fun
  | [d1, d2] => { results := [.lit (.bool false)], args := [d1, d2] }
  | _ => none }
def PhysSpellsWrongFalsely : Prop := physSpellsRow.holds Try.pinned (OpenSpec.ofChange physSpellsWrong)

/-- 'regletlaw01.PhysNames': WHATEVER THE INPUT: true; the input reads as it did. -/
def physNamesSpec : ChangeSpec := { name := "physNames", fn := fun _ => fun
  | [] => { results := [.lit (.bool true)], args := [] }
  | _ => none }
def physNamesRow : OpenClaim := { program := "ytdkdoknajanfgaa", sum := "a24add1ba1b9d41b67055eeaeda6cd11b4ad591a9be1d0acf458c74c0c6edb41", func := "reglet/regletlaw01.PhysNames", spec := "physNames", inPlace := ["internal/bytealg.IndexByteString", "internal/abi.NoEscape"], unfollowed := true, recurses := true, apart := false }
def PhysNamesSaid : Prop := physNamesRow.holds Try.pinned (OpenSpec.ofChange physNamesSpec)

/-- ITS FALSE NEIGHBOUR: 'it returns false'. Refute it at one input. -/
def physNamesWrong : ChangeSpec := { name := "physNames", fn := fun _ => fun
  | [] => { results := [.lit (.bool false)], args := [] }
  | _ => none }
def PhysNamesWrongFalsely : Prop := physNamesRow.holds Try.pinned (OpenSpec.ofChange physNamesWrong)

/-- 'regletlaw01.PhysBack': WHATEVER THE INPUT: true; the input reads as it did. -/
def physBackSpec : ChangeSpec := { name := "physBack", fn := fun _ => fun
  | [d] => { results := [.lit (.bool true)], args := [d] }
  | _ => none }
def physBackRow : OpenClaim := { program := "ytdkdoknajanfgaa", sum := "a24add1ba1b9d41b67055eeaeda6cd11b4ad591a9be1d0acf458c74c0c6edb41", func := "reglet/regletlaw01.PhysBack", spec := "physBack", inPlace := ["internal/bytealg.IndexByteString", "internal/abi.NoEscape"], unfollowed := true, recurses := true, apart := false }
def PhysBackSaid : Prop := physBackRow.holds Try.pinned (OpenSpec.ofChange physBackSpec)

/-- ITS FALSE NEIGHBOUR: 'it returns false'. Refute it at one input. -/
def physBackWrong : ChangeSpec := { name := "physBack", fn := fun _ => fun
  | [d] => { results := [.lit (.bool false)], args := [d] }
  | _ => none }
def PhysBackWrongFalsely : Prop := physBackRow.holds Try.pinned (OpenSpec.ofChange physBackWrong)

/-- 'regletlaw01.PhysCovers': WHATEVER THE INPUT: true; the input reads as it did. -/
def physCoversSpec : ChangeSpec := { name := "physCovers", fn := fun _ => fun
  | [d] => { results := [.lit (.bool true)], args := [d] }
  | _ => none }
def physCoversRow : OpenClaim := { program := "ytdkdoknajanfgaa", sum := "a24add1ba1b9d41b67055eeaeda6cd11b4ad591a9be1d0acf458c74c0c6edb41", func := "reglet/regletlaw01.PhysCovers", spec := "physCovers", inPlace := ["internal/bytealg.IndexByteString", "internal/abi.NoEscape"], unfollowed := true, recurses := true, apart := false }
def PhysCoversSaid : Prop := physCoversRow.holds Try.pinned (OpenSpec.ofChange physCoversSpec)

/-- ITS FALSE NEIGHBOUR: 'it returns false'. Refute it at one input. -/
def physCoversWrong : ChangeSpec := { name := "physCovers", fn := fun _ => fun
  | [d] => { results := [.lit (.bool false)], args := [d] }
  | _ => none }
def PhysCoversWrongFalsely : Prop := physCoversRow.holds Try.pinned (OpenSpec.ofChange physCoversWrong)

/-- 'regletlaw01.PhysParts': WHATEVER THE INPUT: true; the input reads as it did. -/
def physPartsSpec : ChangeSpec := { name := "physParts", fn := fun _ => fun
  | [d1, d2] => { results := [.lit (.bool true)], args := [d1, d2] }
  | _ => none }
def physPartsRow : OpenClaim := { program := "ytdkdoknajanfgaa", sum := "a24add1ba1b9d41b67055eeaeda6cd11b4ad591a9be1d0acf458c74c0c6edb41", func := "reglet/regletlaw01.PhysParts", spec := "physParts", inPlace := ["internal/bytealg.IndexByteString", "internal/abi.NoEscape"], unfollowed := true, recurses := true, apart := false }
def PhysPartsSaid : Prop := physPartsRow.holds Try.pinned (OpenSpec.ofChange physPartsSpec)

/-- ITS FALSE NEIGHBOUR: 'it returns false'. Refute it at one input. -/
def physPartsWrong : ChangeSpec := { name := "physParts", fn := fun _ => fun
  | [d1, d2] => { results := [.lit (.bool false)], args := [d1, d2] }
  | _ => none }
def PhysPartsWrongFalsely : Prop := physPartsRow.holds Try.pinned (OpenSpec.ofChange physPartsWrong)

/-- 'regletlaw01.PhysSplice': WHATEVER THE INPUT: true; the input reads as it did. -/
def physSpliceSpec : ChangeSpec := { name := "physSplice", fn := fun _ => fun
  | [d1, d2] => { results := [.lit (.bool true)], args := [d1, d2] }
  | _ => none }
def physSpliceRow : OpenClaim := { program := "ytdkdoknajanfgaa", sum := "a24add1ba1b9d41b67055eeaeda6cd11b4ad591a9be1d0acf458c74c0c6edb41", func := "reglet/regletlaw01.PhysSplice", spec := "physSplice", inPlace := ["internal/bytealg.IndexByteString", "internal/abi.NoEscape"], unfollowed := true, recurses := true, apart := false }
def PhysSpliceSaid : Prop := physSpliceRow.holds Try.pinned (OpenSpec.ofChange physSpliceSpec)

/-- ITS FALSE NEIGHBOUR: 'it returns false'. Refute it at one input. -/
def physSpliceWrong : ChangeSpec := { name := "physSplice", fn := fun _ => fun
  | [d1, d2] => { results := [.lit (.bool false)], args := [d1, d2] }
  | _ => none }
def PhysSpliceWrongFalsely : Prop := physSpliceRow.holds Try.pinned (OpenSpec.ofChange physSpliceWrong)

/- THE SECOND FORM. 'bulk': how many values and letters a reading holds, each counted each time it is reached (what is shared counts as often as it is met; a slice's spare places count too). A statement '..UptoSaid' is the law's where the arguments, and the package variables that the reading takes, are together of bulk at most 1048576: NARROWER than '..Said'. Prove '..Said' where nothing that the law and all that it calls make is longer than what came in: it says more and counts as full. Else prove '..UptoSaid'. A law counts once. -/
mutual
def uptoBulk {H : Type} : DataW H → Nat
  | .lit (.string bytes) => bytes.length + 1
  | .lit _ => 1
  | .nil => 1
  | .ptr d => uptoBulk d + 1
  | .slice elems spare => uptoBulkAll elems + uptoBulkAll spare + 1
  | .agg parts => uptoBulkAll parts + 1
  | .iface _ d => uptoBulk d + 1
  | .map entries => uptoBulkEntries entries + 1
  | .held _ => 1
def uptoBulkAll {H : Type} : List (DataW H) → Nat
  | [] => 0
  | d :: r => uptoBulk d + uptoBulkAll r
def uptoBulkEntries {H : Type} : List (Lit × DataW H) → Nat
  | [] => 0
  | x :: r => uptoBulkEntry x + uptoBulkEntries r
def uptoBulkEntry {H : Type} : Lit × DataW H → Nat
  | (.string bytes, d) => bytes.length + uptoBulk d + 1
  | (_, d) => uptoBulk d + 1
 end
def uptoSmall : (H : Type) → List (DataW H) → Bool := fun _ ds => decide (uptoBulkAll ds ≤ 1048576)
def OpenSpec.upto (s : _root_.Go.ChangeSpec) : _root_.Go.OpenSpec := { _root_.Go.OpenSpec.ofChange s with cond := some uptoSmall }

/-- 'regletlaw01.PhysTells', WHERE WHAT IT READS IS OF BULK AT MOST 1048576: true; the input reads as it did. -/
def physTellsUptoRow : OpenClaim := { program := "ytdkdoknajanfgaa", sum := "a24add1ba1b9d41b67055eeaeda6cd11b4ad591a9be1d0acf458c74c0c6edb41", func := "reglet/regletlaw01.PhysTells", spec := "physTells", inPlace := ["internal/bytealg.IndexByteString", "internal/abi.NoEscape"], unfollowed := true, recurses := true, apart := false, narrowed := true }
def PhysTellsUptoSaid : Prop := physTellsUptoRow.holds Try.pinned (OpenSpec.upto physTellsSpec)

/-- 'regletlaw01.PhysSpells', WHERE WHAT IT READS IS OF BULK AT MOST 1048576: true; the input reads as it did. -/
def physSpellsUptoRow : OpenClaim := { program := "ytdkdoknajanfgaa", sum := "a24add1ba1b9d41b67055eeaeda6cd11b4ad591a9be1d0acf458c74c0c6edb41", func := "reglet/regletlaw01.PhysSpells", spec := "physSpells", inPlace := ["internal/abi.NoEscape", "internal/bytealg.IndexByteString"], apart := false, narrowed := true }
def PhysSpellsUptoSaid : Prop := physSpellsUptoRow.holds Try.pinned (OpenSpec.upto physSpellsSpec)

/-- 'regletlaw01.PhysNames', WHERE WHAT IT READS IS OF BULK AT MOST 1048576: true; the input reads as it did. -/
def physNamesUptoRow : OpenClaim := { program := "ytdkdoknajanfgaa", sum := "a24add1ba1b9d41b67055eeaeda6cd11b4ad591a9be1d0acf458c74c0c6edb41", func := "reglet/regletlaw01.PhysNames", spec := "physNames", inPlace := ["internal/bytealg.IndexByteString", "internal/abi.NoEscape"], unfollowed := true, recurses := true, apart := false, narrowed := true }
def PhysNamesUptoSaid : Prop := physNamesUptoRow.holds Try.pinned (OpenSpec.upto physNamesSpec)

/-- 'regletlaw01.PhysBack', WHERE WHAT IT READS IS OF BULK AT MOST 1048576: true; the input reads as it did. -/
def physBackUptoRow : OpenClaim := { program := "ytdkdoknajanfgaa", sum := "a24add1ba1b9d41b67055eeaeda6cd11b4ad591a9be1d0acf458c74c0c6edb41", func := "reglet/regletlaw01.PhysBack", spec := "physBack", inPlace := ["internal/bytealg.IndexByteString", "internal/abi.NoEscape"], unfollowed := true, recurses := true, apart := false, narrowed := true }
def PhysBackUptoSaid : Prop := physBackUptoRow.holds Try.pinned (OpenSpec.upto physBackSpec)

/-- 'regletlaw01.PhysCovers', WHERE WHAT IT READS IS OF BULK AT MOST 1048576: true; the input reads as it did. -/
def physCoversUptoRow : OpenClaim := { program := "ytdkdoknajanfgaa", sum := "a24add1ba1b9d41b67055eeaeda6cd11b4ad591a9be1d0acf458c74c0c6edb41", func := "reglet/regletlaw01.PhysCovers", spec := "physCovers", inPlace := ["internal/bytealg.IndexByteString", "internal/abi.NoEscape"], unfollowed := true, recurses := true, apart := false, narrowed := true }
def PhysCoversUptoSaid : Prop := physCoversUptoRow.holds Try.pinned (OpenSpec.upto physCoversSpec)

/-- 'regletlaw01.PhysParts', WHERE WHAT IT READS IS OF BULK AT MOST 1048576: true; the input reads as it did. -/
def physPartsUptoRow : OpenClaim := { program := "ytdkdoknajanfgaa", sum := "a24add1ba1b9d41b67055eeaeda6cd11b4ad591a9be1d0acf458c74c0c6edb41", func := "reglet/regletlaw01.PhysParts", spec := "physParts", inPlace := ["internal/bytealg.IndexByteString", "internal/abi.NoEscape"], unfollowed := true, recurses := true, apart := false, narrowed := true }
def PhysPartsUptoSaid : Prop := physPartsUptoRow.holds Try.pinned (OpenSpec.upto physPartsSpec)

/-- 'regletlaw01.PhysSplice', WHERE WHAT IT READS IS OF BULK AT MOST 1048576: true; the input reads as it did. -/
def physSpliceUptoRow : OpenClaim := { program := "ytdkdoknajanfgaa", sum := "a24add1ba1b9d41b67055eeaeda6cd11b4ad591a9be1d0acf458c74c0c6edb41", func := "reglet/regletlaw01.PhysSplice", spec := "physSplice", inPlace := ["internal/bytealg.IndexByteString", "internal/abi.NoEscape"], unfollowed := true, recurses := true, apart := false, narrowed := true }
def PhysSpliceUptoSaid : Prop := physSpliceUptoRow.holds Try.pinned (OpenSpec.upto physSpliceSpec)

end Rows
end Go.Proofs.Ytdkdoknajanfgaa
