/-
  No cell of these rows narrows 'for every input' (looked for: loops, veiled, ifaces, maps, wideKeys, modest, calm, conditions, laid).
  DERIVED. THE GIVEN ROWS OF THIS SEAT. 11 by the template 'for every input the law returns true; each argument reads behind the call as it read before'; 0 by the template 'total and deterministic' (their statements: YthbancphegnpdaaTotals.lean).
  GIVEN WITH THE SEED: the statements are not yours to turn. If you find one false, say at which input.
  Laid BY PROGRAM, IN A SANDBOX (cutbox-rows.mjs): the forced cells as the released guide's own fill.sh prints them over the translation 74fbfb947408214e… (all of the seat's roots in one cut). By AI agents, Wed Nov 11 2026. No macro, syntax, notation, axiom, sorry.
-/
import Derived.Test.YthbancphegnpdaaChecked
import GoSem.Claim
import GoSem.ClaimJoined
import GoSem.ClaimMapViews
import Derived.JoinedTies
import Derived.KernelRfl
namespace Go.Proofs.Ythbancphegnpdaa
/- THE CELL 'sum', in the pinned program and in every row, IS THE sha256 OF THE DUMP (.gsa) THAT YthbancphegnpdaaProg.lean LOADS. Nothing in Lean hashes anything: it is a label: what it is worth is what the hold of that sum in a sandbox is worth. -/
noncomputable def Try.pinned : Pinned := { name := "ythbancphegnpdaa", sum := "74fbfb947408214e052de984729e87666c10e85905ccecccf998ab6d8c51e93f", checked := Try.checked }
namespace Rows
def none {H : Type} : Left H := { results := [], args := [] }

/-- 'laws.FnSetText': WHATEVER THE INPUT: true; the input reads as it did. -/
def fnSetTextSpec : ChangeSpec := { name := "fnSetText", fn := fun _ => fun
  | [d] => { results := [.lit (.bool true)], args := [d] }
  | _ => none }
def fnSetTextRow : OpenClaim := { program := "ythbancphegnpdaa", sum := "74fbfb947408214e052de984729e87666c10e85905ccecccf998ab6d8c51e93f", func := "loop.example/partsandwholes/laws.FnSetText", spec := "fnSetText", inPlace := ["internal/bytealg.IndexByteString"], apart := false }
def FnSetTextSaid : Prop := fnSetTextRow.holds Try.pinned (OpenSpec.ofChange fnSetTextSpec)

/-- ITS FALSE NEIGHBOUR: 'it returns false'. Refute it at one input. -/
def fnSetTextWrong : ChangeSpec := { name := "fnSetText", fn := fun _ => fun
  | [d] => { results := [.lit (.bool false)], args := [d] }
  | _ => none }
def FnSetTextWrongFalsely : Prop := fnSetTextRow.holds Try.pinned (OpenSpec.ofChange fnSetTextWrong)

/-- 'laws.FnReadSet': WHATEVER THE INPUT: true; the input reads as it did. -/
def fnReadSetSpec : ChangeSpec := { name := "fnReadSet", fn := fun _ => fun
  | [d] => { results := [.lit (.bool true)], args := [d] }
  | _ => none }
def fnReadSetRow : OpenClaim := { program := "ythbancphegnpdaa", sum := "74fbfb947408214e052de984729e87666c10e85905ccecccf998ab6d8c51e93f", func := "loop.example/partsandwholes/laws.FnReadSet", spec := "fnReadSet", inPlace := ["internal/bytealg.IndexByteString"], apart := false }
def FnReadSetSaid : Prop := fnReadSetRow.holds Try.pinned (OpenSpec.ofChange fnReadSetSpec)

/-- ITS FALSE NEIGHBOUR: 'it returns false'. Refute it at one input. -/
def fnReadSetWrong : ChangeSpec := { name := "fnReadSet", fn := fun _ => fun
  | [d] => { results := [.lit (.bool false)], args := [d] }
  | _ => none }
def FnReadSetWrongFalsely : Prop := fnReadSetRow.holds Try.pinned (OpenSpec.ofChange fnReadSetWrong)

/-- 'laws.FnDeedText': WHATEVER THE INPUT: true; the input reads as it did. -/
def fnDeedTextSpec : ChangeSpec := { name := "fnDeedText", fn := fun _ => fun
  | [d] => { results := [.lit (.bool true)], args := [d] }
  | _ => none }
def fnDeedTextRow : OpenClaim := { program := "ythbancphegnpdaa", sum := "74fbfb947408214e052de984729e87666c10e85905ccecccf998ab6d8c51e93f", func := "loop.example/partsandwholes/laws.FnDeedText", spec := "fnDeedText", inPlace := ["internal/bytealg.IndexByteString", "internal/bytealg.IndexString"], named := ["internal/bytealg.MaxLen"], apart := false }
def FnDeedTextSaid : Prop := fnDeedTextRow.holds Try.pinned (OpenSpec.ofChange fnDeedTextSpec)

/-- ITS FALSE NEIGHBOUR: 'it returns false'. Refute it at one input. -/
def fnDeedTextWrong : ChangeSpec := { name := "fnDeedText", fn := fun _ => fun
  | [d] => { results := [.lit (.bool false)], args := [d] }
  | _ => none }
def FnDeedTextWrongFalsely : Prop := fnDeedTextRow.holds Try.pinned (OpenSpec.ofChange fnDeedTextWrong)

/-- 'laws.FnReadDeed': WHATEVER THE INPUT: true; the input reads as it did. -/
def fnReadDeedSpec : ChangeSpec := { name := "fnReadDeed", fn := fun _ => fun
  | [d] => { results := [.lit (.bool true)], args := [d] }
  | _ => none }
def fnReadDeedRow : OpenClaim := { program := "ythbancphegnpdaa", sum := "74fbfb947408214e052de984729e87666c10e85905ccecccf998ab6d8c51e93f", func := "loop.example/partsandwholes/laws.FnReadDeed", spec := "fnReadDeed", inPlace := ["internal/bytealg.IndexByteString", "internal/bytealg.IndexString"], named := ["internal/bytealg.MaxLen"], apart := false }
def FnReadDeedSaid : Prop := fnReadDeedRow.holds Try.pinned (OpenSpec.ofChange fnReadDeedSpec)

/-- ITS FALSE NEIGHBOUR: 'it returns false'. Refute it at one input. -/
def fnReadDeedWrong : ChangeSpec := { name := "fnReadDeed", fn := fun _ => fun
  | [d] => { results := [.lit (.bool false)], args := [d] }
  | _ => none }
def FnReadDeedWrongFalsely : Prop := fnReadDeedRow.holds Try.pinned (OpenSpec.ofChange fnReadDeedWrong)

/-- 'laws.FnJournalText': WHATEVER THE INPUT: true; the input reads as it did. -/
def fnJournalTextSpec : ChangeSpec := { name := "fnJournalText", fn := fun _ => fun
  | [d] => { results := [.lit (.bool true)], args := [d] }
  | _ => none }
def fnJournalTextRow : OpenClaim := { program := "ythbancphegnpdaa", sum := "74fbfb947408214e052de984729e87666c10e85905ccecccf998ab6d8c51e93f", func := "loop.example/partsandwholes/laws.FnJournalText", spec := "fnJournalText", inPlace := ["internal/abi.NoEscape", "internal/bytealg.IndexByteString", "internal/bytealg.IndexString"], unfollowed := true, recurses := true, named := ["internal/bytealg.MaxLen"], apart := false }
def FnJournalTextSaid : Prop := fnJournalTextRow.holds Try.pinned (OpenSpec.ofChange fnJournalTextSpec)

/-- ITS FALSE NEIGHBOUR: 'it returns false'. Refute it at one input. -/
def fnJournalTextWrong : ChangeSpec := { name := "fnJournalText", fn := fun _ => fun
  | [d] => { results := [.lit (.bool false)], args := [d] }
  | _ => none }
def FnJournalTextWrongFalsely : Prop := fnJournalTextRow.holds Try.pinned (OpenSpec.ofChange fnJournalTextWrong)

/-- 'laws.FnExactSetText': WHATEVER THE INPUT: true; the input reads as it did. -/
def fnExactSetTextSpec : ChangeSpec := { name := "fnExactSetText", fn := fun _ => fun
  | [d] => { results := [.lit (.bool true)], args := [d] }
  | _ => none }
def fnExactSetTextRow : OpenClaim := { program := "ythbancphegnpdaa", sum := "74fbfb947408214e052de984729e87666c10e85905ccecccf998ab6d8c51e93f", func := "loop.example/partsandwholes/laws.FnExactSetText", spec := "fnExactSetText", apart := false }
def FnExactSetTextSaid : Prop := fnExactSetTextRow.holds Try.pinned (OpenSpec.ofChange fnExactSetTextSpec)

/-- ITS FALSE NEIGHBOUR: 'it returns false'. Refute it at one input. -/
def fnExactSetTextWrong : ChangeSpec := { name := "fnExactSetText", fn := fun _ => fun
  | [d] => { results := [.lit (.bool false)], args := [d] }
  | _ => none }
def FnExactSetTextWrongFalsely : Prop := fnExactSetTextRow.holds Try.pinned (OpenSpec.ofChange fnExactSetTextWrong)

/-- 'laws.FnExactReadSet': WHATEVER THE INPUT: true; the input reads as it did. -/
def fnExactReadSetSpec : ChangeSpec := { name := "fnExactReadSet", fn := fun _ => fun
  | [d] => { results := [.lit (.bool true)], args := [d] }
  | _ => none }
def fnExactReadSetRow : OpenClaim := { program := "ythbancphegnpdaa", sum := "74fbfb947408214e052de984729e87666c10e85905ccecccf998ab6d8c51e93f", func := "loop.example/partsandwholes/laws.FnExactReadSet", spec := "fnExactReadSet", inPlace := ["internal/bytealg.IndexByteString"], apart := false }
def FnExactReadSetSaid : Prop := fnExactReadSetRow.holds Try.pinned (OpenSpec.ofChange fnExactReadSetSpec)

/-- ITS FALSE NEIGHBOUR: 'it returns false'. Refute it at one input. -/
def fnExactReadSetWrong : ChangeSpec := { name := "fnExactReadSet", fn := fun _ => fun
  | [d] => { results := [.lit (.bool false)], args := [d] }
  | _ => none }
def FnExactReadSetWrongFalsely : Prop := fnExactReadSetRow.holds Try.pinned (OpenSpec.ofChange fnExactReadSetWrong)

/-- 'laws.FnExactDeedText': WHATEVER THE INPUT: true; the input reads as it did. -/
def fnExactDeedTextSpec : ChangeSpec := { name := "fnExactDeedText", fn := fun _ => fun
  | [d] => { results := [.lit (.bool true)], args := [d] }
  | _ => none }
def fnExactDeedTextRow : OpenClaim := { program := "ythbancphegnpdaa", sum := "74fbfb947408214e052de984729e87666c10e85905ccecccf998ab6d8c51e93f", func := "loop.example/partsandwholes/laws.FnExactDeedText", spec := "fnExactDeedText", apart := false }
def FnExactDeedTextSaid : Prop := fnExactDeedTextRow.holds Try.pinned (OpenSpec.ofChange fnExactDeedTextSpec)

/-- ITS FALSE NEIGHBOUR: 'it returns false'. Refute it at one input. -/
def fnExactDeedTextWrong : ChangeSpec := { name := "fnExactDeedText", fn := fun _ => fun
  | [d] => { results := [.lit (.bool false)], args := [d] }
  | _ => none }
def FnExactDeedTextWrongFalsely : Prop := fnExactDeedTextRow.holds Try.pinned (OpenSpec.ofChange fnExactDeedTextWrong)

/-- 'laws.FnExactReadDeed': WHATEVER THE INPUT: true; the input reads as it did. -/
def fnExactReadDeedSpec : ChangeSpec := { name := "fnExactReadDeed", fn := fun _ => fun
  | [d] => { results := [.lit (.bool true)], args := [d] }
  | _ => none }
def fnExactReadDeedRow : OpenClaim := { program := "ythbancphegnpdaa", sum := "74fbfb947408214e052de984729e87666c10e85905ccecccf998ab6d8c51e93f", func := "loop.example/partsandwholes/laws.FnExactReadDeed", spec := "fnExactReadDeed", inPlace := ["internal/bytealg.IndexByteString", "internal/bytealg.IndexString"], named := ["internal/bytealg.MaxLen"], apart := false }
def FnExactReadDeedSaid : Prop := fnExactReadDeedRow.holds Try.pinned (OpenSpec.ofChange fnExactReadDeedSpec)

/-- ITS FALSE NEIGHBOUR: 'it returns false'. Refute it at one input. -/
def fnExactReadDeedWrong : ChangeSpec := { name := "fnExactReadDeed", fn := fun _ => fun
  | [d] => { results := [.lit (.bool false)], args := [d] }
  | _ => none }
def FnExactReadDeedWrongFalsely : Prop := fnExactReadDeedRow.holds Try.pinned (OpenSpec.ofChange fnExactReadDeedWrong)

/-- 'laws.FnExactJournalText': WHATEVER THE INPUT: true; the input reads as it did. -/
def fnExactJournalTextSpec : ChangeSpec := { name := "fnExactJournalText", fn := fun _ => fun
  | [d] => { results := [.lit (.bool true)], args := [d] }
  | _ => none }
def fnExactJournalTextRow : OpenClaim := { program := "ythbancphegnpdaa", sum := "74fbfb947408214e052de984729e87666c10e85905ccecccf998ab6d8c51e93f", func := "loop.example/partsandwholes/laws.FnExactJournalText", spec := "fnExactJournalText", inPlace := ["internal/abi.NoEscape"], apart := false }
def FnExactJournalTextSaid : Prop := fnExactJournalTextRow.holds Try.pinned (OpenSpec.ofChange fnExactJournalTextSpec)

/-- ITS FALSE NEIGHBOUR: 'it returns false'. Refute it at one input. -/
def fnExactJournalTextWrong : ChangeSpec := { name := "fnExactJournalText", fn := fun _ => fun
  | [d] => { results := [.lit (.bool false)], args := [d] }
  | _ => none }
def FnExactJournalTextWrongFalsely : Prop := fnExactJournalTextRow.holds Try.pinned (OpenSpec.ofChange fnExactJournalTextWrong)

/-- 'laws.FnExactReadJournal': WHATEVER THE INPUT: true; the input reads as it did. -/
def fnExactReadJournalSpec : ChangeSpec := { name := "fnExactReadJournal", fn := fun _ => fun
  | [d] => { results := [.lit (.bool true)], args := [d] }
  | _ => none }
def fnExactReadJournalRow : OpenClaim := { program := "ythbancphegnpdaa", sum := "74fbfb947408214e052de984729e87666c10e85905ccecccf998ab6d8c51e93f", func := "loop.example/partsandwholes/laws.FnExactReadJournal", spec := "fnExactReadJournal", inPlace := ["internal/bytealg.IndexByteString", "internal/bytealg.IndexString"], unfollowed := true, recurses := true, named := ["internal/bytealg.MaxLen"], apart := false }
def FnExactReadJournalSaid : Prop := fnExactReadJournalRow.holds Try.pinned (OpenSpec.ofChange fnExactReadJournalSpec)

/-- ITS FALSE NEIGHBOUR: 'it returns false'. Refute it at one input. -/
def fnExactReadJournalWrong : ChangeSpec := { name := "fnExactReadJournal", fn := fun _ => fun
  | [d] => { results := [.lit (.bool false)], args := [d] }
  | _ => none }
def FnExactReadJournalWrongFalsely : Prop := fnExactReadJournalRow.holds Try.pinned (OpenSpec.ofChange fnExactReadJournalWrong)

/- THE SECOND FORM. 'bulk': how many values and letters a reading holds, each counted each time it is reached (what is shared counts as often as it is met; a slice's spare places count too). A statement '..UptoSaid' is the law's where the arguments, and the package variables that the reading takes, are together of bulk at most 1048576: NARROWER than '..Said'. Prove '..Said' where nothing that the law and all that it calls make is longer than what came in: it says more and counts as full. Else prove '..UptoSaid'. A law counts once. -/
mutual
def uptoBulk {H : Type} : DataW H → Nat
  | .lit (.string bytes) => bytes.length + 1
  | .lit _ => 1
  | .nil => 1
  | .ptr d => uptoBulk d + 1
  | .slice elems spare => uptoBulkAll elems + uptoBulkAll spare + 1
  | .agg parts => uptoBulkAll parts + 1
  | .iface _ d => uptoBulk d + 1
  | .map entries => uptoBulkEntries entries + 1
  | .held _ => 1
def uptoBulkAll {H : Type} : List (DataW H) → Nat
  | [] => 0
  | d :: r => uptoBulk d + uptoBulkAll r
def uptoBulkEntries {H : Type} : List (Lit × DataW H) → Nat
  | [] => 0
  | x :: r => uptoBulkEntry x + uptoBulkEntries r
def uptoBulkEntry {H : Type} : Lit × DataW H → Nat
  | (.string bytes, d) => bytes.length + uptoBulk d + 1
  | (_, d) => uptoBulk d + 1
 end
def uptoSmall : (H : Type) → List (DataW H) → Bool := fun _ ds => decide (uptoBulkAll ds ≤ 1048576)
def OpenSpec.upto (s : _root_.Go.ChangeSpec) : _root_.Go.OpenSpec := { _root_.Go.OpenSpec.ofChange s with cond := some uptoSmall }

/-- 'laws.FnSetText', WHERE WHAT IT READS IS OF BULK AT MOST 1048576: true; the input reads as it did. -/
def fnSetTextUptoRow : OpenClaim := { program := "ythbancphegnpdaa", sum := "74fbfb947408214e052de984729e87666c10e85905ccecccf998ab6d8c51e93f", func := "loop.example/partsandwholes/laws.FnSetText", spec := "fnSetText", inPlace := ["internal/bytealg.IndexByteString"], apart := false, narrowed := true }
def FnSetTextUptoSaid : Prop := fnSetTextUptoRow.holds Try.pinned (OpenSpec.upto fnSetTextSpec)

/-- 'laws.FnReadSet', WHERE WHAT IT READS IS OF BULK AT MOST 1048576: true; the input reads as it did. -/
def fnReadSetUptoRow : OpenClaim := { program := "ythbancphegnpdaa", sum := "74fbfb947408214e052de984729e87666c10e85905ccecccf998ab6d8c51e93f", func := "loop.example/partsandwholes/laws.FnReadSet", spec := "fnReadSet", inPlace := ["internal/bytealg.IndexByteString"], apart := false, narrowed := true }
def FnReadSetUptoSaid : Prop := fnReadSetUptoRow.holds Try.pinned (OpenSpec.upto fnReadSetSpec)

/-- 'laws.FnDeedText', WHERE WHAT IT READS IS OF BULK AT MOST 1048576: true; the input reads as it did. -/
def fnDeedTextUptoRow : OpenClaim := { program := "ythbancphegnpdaa", sum := "74fbfb947408214e052de984729e87666c10e85905ccecccf998ab6d8c51e93f", func := "loop.example/partsandwholes/laws.FnDeedText", spec := "fnDeedText", inPlace := ["internal/bytealg.IndexByteString", "internal/bytealg.IndexString"], named := ["internal/bytealg.MaxLen"], apart := false, narrowed := true }
def FnDeedTextUptoSaid : Prop := fnDeedTextUptoRow.holds Try.pinned (OpenSpec.upto fnDeedTextSpec)

/-- 'laws.FnReadDeed', WHERE WHAT IT READS IS OF BULK AT MOST 1048576: true; the input reads as it did. -/
def fnReadDeedUptoRow : OpenClaim := { program := "ythbancphegnpdaa", sum := "74fbfb947408214e052de984729e87666c10e85905ccecccf998ab6d8c51e93f", func := "loop.example/partsandwholes/laws.FnReadDeed", spec := "fnReadDeed", inPlace := ["internal/bytealg.IndexByteString", "internal/bytealg.IndexString"], named := ["internal/bytealg.MaxLen"], apart := false, narrowed := true }
def FnReadDeedUptoSaid : Prop := fnReadDeedUptoRow.holds Try.pinned (OpenSpec.upto fnReadDeedSpec)

/-- 'laws.FnJournalText', WHERE WHAT IT READS IS OF BULK AT MOST 1048576: true; the input reads as it did. -/
def fnJournalTextUptoRow : OpenClaim := { program := "ythbancphegnpdaa", sum := "74fbfb947408214e052de984729e87666c10e85905ccecccf998ab6d8c51e93f", func := "loop.example/partsandwholes/laws.FnJournalText", spec := "fnJournalText", inPlace := ["internal/abi.NoEscape", "internal/bytealg.IndexByteString", "internal/bytealg.IndexString"], unfollowed := true, recurses := true, named := ["internal/bytealg.MaxLen"], apart := false, narrowed := true }
def FnJournalTextUptoSaid : Prop := fnJournalTextUptoRow.holds Try.pinned (OpenSpec.upto fnJournalTextSpec)

/-- 'laws.FnExactSetText', WHERE WHAT IT READS IS OF BULK AT MOST 1048576: true; the input reads as it did. -/
def fnExactSetTextUptoRow : OpenClaim := { program := "ythbancphegnpdaa", sum := "74fbfb947408214e052de984729e87666c10e85905ccecccf998ab6d8c51e93f", func := "loop.example/partsandwholes/laws.FnExactSetText", spec := "fnExactSetText", apart := false, narrowed := true }
def FnExactSetTextUptoSaid : Prop := fnExactSetTextUptoRow.holds Try.pinned (OpenSpec.upto fnExactSetTextSpec)

/-- 'laws.FnExactReadSet', WHERE WHAT IT READS IS OF BULK AT MOST 1048576: true; the input reads as it did. -/
def fnExactReadSetUptoRow : OpenClaim := { program := "ythbancphegnpdaa", sum := "74fbfb947408214e052de984729e87666c10e85905ccecccf998ab6d8c51e93f", func := "loop.example/partsandwholes/laws.FnExactReadSet", spec := "fnExactReadSet", inPlace := ["internal/bytealg.IndexByteString"], apart := false, narrowed := true }
def FnExactReadSetUptoSaid : Prop := fnExactReadSetUptoRow.holds Try.pinned (OpenSpec.upto fnExactReadSetSpec)

/-- 'laws.FnExactDeedText', WHERE WHAT IT READS IS OF BULK AT MOST 1048576: true; the input reads as it did. -/
def fnExactDeedTextUptoRow : OpenClaim := { program := "ythbancphegnpdaa", sum := "74fbfb947408214e052de984729e87666c10e85905ccecccf998ab6d8c51e93f", func := "loop.example/partsandwholes/laws.FnExactDeedText", spec := "fnExactDeedText", apart := false, narrowed := true }
def FnExactDeedTextUptoSaid : Prop := fnExactDeedTextUptoRow.holds Try.pinned (OpenSpec.upto fnExactDeedTextSpec)

/-- 'laws.FnExactReadDeed', WHERE WHAT IT READS IS OF BULK AT MOST 1048576: true; the input reads as it did. -/
def fnExactReadDeedUptoRow : OpenClaim := { program := "ythbancphegnpdaa", sum := "74fbfb947408214e052de984729e87666c10e85905ccecccf998ab6d8c51e93f", func := "loop.example/partsandwholes/laws.FnExactReadDeed", spec := "fnExactReadDeed", inPlace := ["internal/bytealg.IndexByteString", "internal/bytealg.IndexString"], named := ["internal/bytealg.MaxLen"], apart := false, narrowed := true }
def FnExactReadDeedUptoSaid : Prop := fnExactReadDeedUptoRow.holds Try.pinned (OpenSpec.upto fnExactReadDeedSpec)

/-- 'laws.FnExactJournalText', WHERE WHAT IT READS IS OF BULK AT MOST 1048576: true; the input reads as it did. -/
def fnExactJournalTextUptoRow : OpenClaim := { program := "ythbancphegnpdaa", sum := "74fbfb947408214e052de984729e87666c10e85905ccecccf998ab6d8c51e93f", func := "loop.example/partsandwholes/laws.FnExactJournalText", spec := "fnExactJournalText", inPlace := ["internal/abi.NoEscape"], apart := false, narrowed := true }
def FnExactJournalTextUptoSaid : Prop := fnExactJournalTextUptoRow.holds Try.pinned (OpenSpec.upto fnExactJournalTextSpec)

/-- 'laws.FnExactReadJournal', WHERE WHAT IT READS IS OF BULK AT MOST 1048576: true; the input reads as it did. -/
def fnExactReadJournalUptoRow : OpenClaim := { program := "ythbancphegnpdaa", sum := "74fbfb947408214e052de984729e87666c10e85905ccecccf998ab6d8c51e93f", func := "loop.example/partsandwholes/laws.FnExactReadJournal", spec := "fnExactReadJournal", inPlace := ["internal/bytealg.IndexByteString", "internal/bytealg.IndexString"], unfollowed := true, recurses := true, named := ["internal/bytealg.MaxLen"], apart := false, narrowed := true }
def FnExactReadJournalUptoSaid : Prop := fnExactReadJournalUptoRow.holds Try.pinned (OpenSpec.upto fnExactReadJournalSpec)

end Rows
end Go.Proofs.Ythbancphegnpdaa
