/-
  No cell of these rows narrows 'for every input' (looked for: loops, veiled, ifaces, maps, wideKeys, modest, calm, conditions, laid).
  DERIVED. THE GIVEN ROWS OF THIS SEAT. 5 by the template 'for every input the law returns true; each argument reads behind the call as it read before'; 0 by the template 'total and deterministic' (their statements: YtenmapahigbbeaaTotals.lean).
  GIVEN WITH THE SEED: the statements are not yours to turn. If you find one false, say at which input.
  Laid BY PROGRAM, IN A SANDBOX (cutbox-rows.mjs): the forced cells as the released guide's own fill.sh prints them over the translation d5896f71ca3337f2… (all of the seat's roots in one cut). By AI agents, Wed Nov 11 2026. No macro, syntax, notation, axiom, sorry.
-/
import Derived.Test.YtenmapahigbbeaaChecked
import GoSem.Claim
import GoSem.ClaimJoined
import GoSem.ClaimMapViews
import Derived.JoinedTies
import Derived.KernelRfl
namespace Go.Proofs.Ytenmapahigbbeaa
/- THE CELL 'sum', in the pinned program and in every row, IS THE sha256 OF THE DUMP (.gsa) THAT YtenmapahigbbeaaProg.lean LOADS. Nothing in Lean hashes anything: it is a label: what it is worth is what the hold of that sum in a sandbox is worth. -/
noncomputable def Try.pinned : Pinned := { name := "ytenmapahigbbeaa", sum := "d5896f71ca3337f24d7f76bffd1bc3e08586e335ff177461d013cc4cdaeccee6", checked := Try.checked }
namespace Rows
def none {H : Type} : Left H := { results := [], args := [] }

/-- 'regletlaw04.CtokWorths': WHATEVER THE INPUT: true; the input reads as it did. -/
def ctokWorthsSpec : ChangeSpec := { name := "ctokWorths", fn := fun _ => fun
  | [d] => { results := [.lit (.bool true)], args := [d] }
  | _ => none }
def ctokWorthsRow : OpenClaim := { program := "ytenmapahigbbeaa", sum := "d5896f71ca3337f24d7f76bffd1bc3e08586e335ff177461d013cc4cdaeccee6", func := "reglet/regletlaw04.CtokWorths", spec := "ctokWorths", inPlace := ["internal/bytealg.IndexByteString", "internal/bytealg.IndexString"], unfollowed := true, recurses := true, named := ["internal/bytealg.MaxLen"], apart := false }
def CtokWorthsSaid : Prop := ctokWorthsRow.holds Try.pinned (OpenSpec.ofChange ctokWorthsSpec)

/-- ITS FALSE NEIGHBOUR: 'it returns false'. Refute it at one input. -/
def ctokWorthsWrong : ChangeSpec := { name := "ctokWorths", fn := fun _ => fun
  | [d] => { results := [.lit (.bool false)], args := [d] }
  | _ => none }
def CtokWorthsWrongFalsely : Prop := ctokWorthsRow.holds Try.pinned (OpenSpec.ofChange ctokWorthsWrong)

/-- 'regletlaw04.CtokNames': WHATEVER THE INPUT: true; the input reads as it did. -/
def ctokNamesSpec : ChangeSpec := { name := "ctokNames", fn := fun _ => fun
  | [] => { results := [.lit (.bool true)], args := [] }
  | _ => none }
def ctokNamesRow : OpenClaim := { program := "ytenmapahigbbeaa", sum := "d5896f71ca3337f24d7f76bffd1bc3e08586e335ff177461d013cc4cdaeccee6", func := "reglet/regletlaw04.CtokNames", spec := "ctokNames", inPlace := ["internal/bytealg.IndexByteString", "internal/bytealg.IndexString"], unfollowed := true, recurses := true, named := ["internal/bytealg.MaxLen"], apart := false }
def CtokNamesSaid : Prop := ctokNamesRow.holds Try.pinned (OpenSpec.ofChange ctokNamesSpec)

/-- ITS FALSE NEIGHBOUR: 'it returns false'. Refute it at one input. -/
def ctokNamesWrong : ChangeSpec := { name := "ctokNames", fn := fun _ => fun
  | [] => { results := [.lit (.bool false)], args := [] }
  | _ => none }
def CtokNamesWrongFalsely : Prop := ctokNamesRow.holds Try.pinned (OpenSpec.ofChange ctokNamesWrong)

/-- 'regletlaw04.CtokBack': WHATEVER THE INPUT: true; the input reads as it did. -/
def ctokBackSpec : ChangeSpec := { name := "ctokBack", fn := fun _ => fun
  | [d] => { results := [.lit (.bool true)], args := [d] }
  | _ => none }
def ctokBackRow : OpenClaim := { program := "ytenmapahigbbeaa", sum := "d5896f71ca3337f24d7f76bffd1bc3e08586e335ff177461d013cc4cdaeccee6", func := "reglet/regletlaw04.CtokBack", spec := "ctokBack", inPlace := ["internal/bytealg.IndexByteString", "internal/bytealg.IndexString"], unfollowed := true, recurses := true, named := ["internal/bytealg.MaxLen"], apart := false }
def CtokBackSaid : Prop := ctokBackRow.holds Try.pinned (OpenSpec.ofChange ctokBackSpec)

/-- ITS FALSE NEIGHBOUR: 'it returns false'. Refute it at one input. -/
def ctokBackWrong : ChangeSpec := { name := "ctokBack", fn := fun _ => fun
  | [d] => { results := [.lit (.bool false)], args := [d] }
  | _ => none }
def CtokBackWrongFalsely : Prop := ctokBackRow.holds Try.pinned (OpenSpec.ofChange ctokBackWrong)

/-- 'regletlaw04.CtokOne': WHATEVER THE INPUT: true; the input reads as it did. -/
def ctokOneSpec : ChangeSpec := { name := "ctokOne", fn := fun _ => fun
  | [d] => { results := [.lit (.bool true)], args := [d] }
  | _ => none }
def ctokOneRow : OpenClaim := { program := "ytenmapahigbbeaa", sum := "d5896f71ca3337f24d7f76bffd1bc3e08586e335ff177461d013cc4cdaeccee6", func := "reglet/regletlaw04.CtokOne", spec := "ctokOne", inPlace := ["internal/bytealg.IndexByteString", "internal/bytealg.IndexString"], unfollowed := true, recurses := true, named := ["internal/bytealg.MaxLen"], apart := false }
def CtokOneSaid : Prop := ctokOneRow.holds Try.pinned (OpenSpec.ofChange ctokOneSpec)

/-- ITS FALSE NEIGHBOUR: 'it returns false'. Refute it at one input. -/
def ctokOneWrong : ChangeSpec := { name := "ctokOne", fn := fun _ => fun
  | [d] => { results := [.lit (.bool false)], args := [d] }
  | _ => none }
def CtokOneWrongFalsely : Prop := ctokOneRow.holds Try.pinned (OpenSpec.ofChange ctokOneWrong)

/-- 'regletlaw04.CtokBytes': WHATEVER THE INPUT: true; the input reads as it did. -/
def ctokBytesSpec : ChangeSpec := { name := "ctokBytes", fn := fun _ => fun
  | [d] => { results := [.lit (.bool true)], args := [d] }
  | _ => none }
def ctokBytesRow : OpenClaim := { program := "ytenmapahigbbeaa", sum := "d5896f71ca3337f24d7f76bffd1bc3e08586e335ff177461d013cc4cdaeccee6", func := "reglet/regletlaw04.CtokBytes", spec := "ctokBytes", inPlace := ["internal/bytealg.IndexByteString", "internal/bytealg.IndexString"], unfollowed := true, recurses := true, named := ["internal/bytealg.MaxLen"], apart := false }
def CtokBytesSaid : Prop := ctokBytesRow.holds Try.pinned (OpenSpec.ofChange ctokBytesSpec)

/-- ITS FALSE NEIGHBOUR: 'it returns false'. Refute it at one input. -/
def ctokBytesWrong : ChangeSpec := { name := "ctokBytes", fn := fun _ => fun
  | [d] => { results := [.lit (.bool false)], args := [d] }
  | _ => none }
def CtokBytesWrongFalsely : Prop := ctokBytesRow.holds Try.pinned (OpenSpec.ofChange ctokBytesWrong)

/- THE SECOND FORM. 'bulk': how many values and letters a reading holds, each counted each time it is reached (what is shared counts as often as it is met; a slice's spare places count too). A statement '..UptoSaid' is the law's where the arguments, and the package variables that the reading takes, are together of bulk at most 1048576: NARROWER than '..Said'. Prove '..Said' where nothing that the law and all that it calls make is longer than what came in: it says more and counts as full. Else prove '..UptoSaid'. A law counts once. -/
mutual
def uptoBulk {H : Type} : DataW H → Nat
  | .lit (.string bytes) => bytes.length + 1
  | .lit _ => 1
  | .nil => 1
  | .ptr d => uptoBulk d + 1
  | .slice elems spare => uptoBulkAll elems + uptoBulkAll spare + 1
  | .agg parts => uptoBulkAll parts + 1
  | .iface _ d => uptoBulk d + 1
  | .map entries => uptoBulkEntries entries + 1
  | .held _ => 1
def uptoBulkAll {H : Type} : List (DataW H) → Nat
  | [] => 0
  | d :: r => uptoBulk d + uptoBulkAll r
def uptoBulkEntries {H : Type} : List (Lit × DataW H) → Nat
  | [] => 0
  | x :: r => uptoBulkEntry x + uptoBulkEntries r
def uptoBulkEntry {H : Type} : Lit × DataW H → Nat
  | (.string bytes, d) => bytes.length + uptoBulk d + 1
  | (_, d) => uptoBulk d + 1
 end
def uptoSmall : (H : Type) → List (DataW H) → Bool := fun _ ds => decide (uptoBulkAll ds ≤ 1048576)
def OpenSpec.upto (s : _root_.Go.ChangeSpec) : _root_.Go.OpenSpec := { _root_.Go.OpenSpec.ofChange s with cond := some uptoSmall }

/-- 'regletlaw04.CtokWorths', WHERE WHAT IT READS IS OF BULK AT MOST 1048576: true; the input reads as it did. -/
def ctokWorthsUptoRow : OpenClaim := { program := "ytenmapahigbbeaa", sum := "d5896f71ca3337f24d7f76bffd1bc3e08586e335ff177461d013cc4cdaeccee6", func := "reglet/regletlaw04.CtokWorths", spec := "ctokWorths", inPlace := ["internal/bytealg.IndexByteString", "internal/bytealg.IndexString"], unfollowed := true, recurses := true, named := ["internal/bytealg.MaxLen"], apart := false, narrowed := true }
def CtokWorthsUptoSaid : Prop := ctokWorthsUptoRow.holds Try.pinned (OpenSpec.upto ctokWorthsSpec)

/-- 'regletlaw04.CtokNames', WHERE WHAT IT READS IS OF BULK AT MOST 1048576: true; the input reads as it did. -/
def ctokNamesUptoRow : OpenClaim := { program := "ytenmapahigbbeaa", sum := "d5896f71ca3337f24d7f76bffd1bc3e08586e335ff177461d013cc4cdaeccee6", func := "reglet/regletlaw04.CtokNames", spec := "ctokNames", inPlace := ["internal/bytealg.IndexByteString", "internal/bytealg.IndexString"], unfollowed := true, recurses := true, named := ["internal/bytealg.MaxLen"], apart := false, narrowed := true }
def CtokNamesUptoSaid : Prop := ctokNamesUptoRow.holds Try.pinned (OpenSpec.upto ctokNamesSpec)

/-- 'regletlaw04.CtokBack', WHERE WHAT IT READS IS OF BULK AT MOST 1048576: true; the input reads as it did. -/
def ctokBackUptoRow : OpenClaim := { program := "ytenmapahigbbeaa", sum := "d5896f71ca3337f24d7f76bffd1bc3e08586e335ff177461d013cc4cdaeccee6", func := "reglet/regletlaw04.CtokBack", spec := "ctokBack", inPlace := ["internal/bytealg.IndexByteString", "internal/bytealg.IndexString"], unfollowed := true, recurses := true, named := ["internal/bytealg.MaxLen"], apart := false, narrowed := true }
def CtokBackUptoSaid : Prop := ctokBackUptoRow.holds Try.pinned (OpenSpec.upto ctokBackSpec)

/-- 'regletlaw04.CtokOne', WHERE WHAT IT READS IS OF BULK AT MOST 1048576: true; the input reads as it did. -/
def ctokOneUptoRow : OpenClaim := { program := "ytenmapahigbbeaa", sum := "d5896f71ca3337f24d7f76bffd1bc3e08586e335ff177461d013cc4cdaeccee6", func := "reglet/regletlaw04.CtokOne", spec := "ctokOne", inPlace := ["internal/bytealg.IndexByteString", "internal/bytealg.IndexString"], unfollowed := true, recurses := true, named := ["internal/bytealg.MaxLen"], apart := false, narrowed := true }
def CtokOneUptoSaid : Prop := ctokOneUptoRow.holds Try.pinned (OpenSpec.upto ctokOneSpec)

/-- 'regletlaw04.CtokBytes', WHERE WHAT IT READS IS OF BULK AT MOST 1048576: true; the input reads as it did. -/
def ctokBytesUptoRow : OpenClaim := { program := "ytenmapahigbbeaa", sum := "d5896f71ca3337f24d7f76bffd1bc3e08586e335ff177461d013cc4cdaeccee6", func := "reglet/regletlaw04.CtokBytes", spec := "ctokBytes", inPlace := ["internal/bytealg.IndexByteString", "internal/bytealg.IndexString"], unfollowed := true, recurses := true, named := ["internal/bytealg.MaxLen"], apart := false, narrowed := true }
def CtokBytesUptoSaid : Prop := ctokBytesUptoRow.holds Try.pinned (OpenSpec.upto ctokBytesSpec)

end Rows
end Go.Proofs.Ytenmapahigbbeaa
