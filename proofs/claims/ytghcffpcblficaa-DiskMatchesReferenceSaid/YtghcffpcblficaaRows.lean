/-
  No cell of these rows narrows 'for every input' (looked for: loops, veiled, ifaces, maps, wideKeys, modest, calm, conditions, laid).
  DERIVED. THE GIVEN ROWS OF THIS SEAT. 9 by the template 'for every input the law returns true; each argument reads behind the call as it read before'; 0 by the template 'total and deterministic' (their statements: YtghcffpcblficaaTotals.lean).
  GIVEN WITH THE SEED: the statements are not yours to turn. If you find one false, say at which input.
  Laid BY PROGRAM, IN A SANDBOX (cutbox-rows.mjs): the forced cells as the released guide's own fill.sh prints them over the translation 101ddb73bf005cb4… (all of the seat's roots in one cut). By AI agents, Wed Nov 11 2026. No macro, syntax, notation, axiom, sorry.
-/
import Derived.Test.YtghcffpcblficaaChecked
import GoSem.Claim
import GoSem.ClaimJoined
import GoSem.ClaimMapViews
import Derived.JoinedTies
import Derived.KernelRfl
namespace Go.Proofs.Ytghcffpcblficaa
/- THE CELL 'sum', in the pinned program and in every row, IS THE sha256 OF THE DUMP (.gsa) THAT YtghcffpcblficaaProg.lean LOADS. Nothing in Lean hashes anything: it is a label: what it is worth is what the hold of that sum in a sandbox is worth. -/
noncomputable def Try.pinned : Pinned := { name := "ytghcffpcblficaa", sum := "101ddb73bf005cb477e1d37f20ac57cd76c5abca81dcfdf82ada1ce919b471c8", checked := Try.checked }
namespace Rows
def none {H : Type} : Left H := { results := [], args := [] }

/-- 'dialtonelaw09.DiskNewMatches': WHATEVER THE INPUT: true; the input reads as it did. -/
def diskNewMatchesSpec : ChangeSpec := { name := "diskNewMatches", fn := fun _ => fun
  | [d1, d2] => { results := [.lit (.bool true)], args := [d1, d2] }
  | _ => none }
def diskNewMatchesRow : OpenClaim := { program := "ytghcffpcblficaa", sum := "101ddb73bf005cb477e1d37f20ac57cd76c5abca81dcfdf82ada1ce919b471c8", func := "dialtone/dialtonelaw09.DiskNewMatches", spec := "diskNewMatches", apart := false }
def DiskNewMatchesSaid : Prop := diskNewMatchesRow.holds Try.pinned (OpenSpec.ofChange diskNewMatchesSpec)

/-- ITS FALSE NEIGHBOUR: 'it returns false'. Refute it at one input. -/
def diskNewMatchesWrong : ChangeSpec := { name := "diskNewMatches", fn := fun _ => fun
  | [d1, d2] => { results := [.lit (.bool false)], args := [d1, d2] }
  | _ => none }
def DiskNewMatchesWrongFalsely : Prop := diskNewMatchesRow.holds Try.pinned (OpenSpec.ofChange diskNewMatchesWrong)

/-- 'dialtonelaw09.DiskMatchesReference': WHATEVER THE INPUT: true; the input reads as it did. -/
def diskMatchesReferenceSpec : ChangeSpec := { name := "diskMatchesReference", fn := fun _ => fun
  | [d1, d2] => { results := [.lit (.bool true)], args := [d1, d2] }
  | _ => none }
def diskMatchesReferenceRow : OpenClaim := { program := "ytghcffpcblficaa", sum := "101ddb73bf005cb477e1d37f20ac57cd76c5abca81dcfdf82ada1ce919b471c8", func := "dialtone/dialtonelaw09.DiskMatchesReference", spec := "diskMatchesReference", apart := false }
def DiskMatchesReferenceSaid : Prop := diskMatchesReferenceRow.holds Try.pinned (OpenSpec.ofChange diskMatchesReferenceSpec)

/-- ITS FALSE NEIGHBOUR: 'it returns false'. Refute it at one input. -/
def diskMatchesReferenceWrong : ChangeSpec := { name := "diskMatchesReference", fn := fun _ => fun
  | [d1, d2] => { results := [.lit (.bool false)], args := [d1, d2] }
  | _ => none }
def DiskMatchesReferenceWrongFalsely : Prop := diskMatchesReferenceRow.holds Try.pinned (OpenSpec.ofChange diskMatchesReferenceWrong)

/-- 'dialtonelaw09.DiskNil': WHATEVER THE INPUT: true; the input reads as it did. -/
def diskNilSpec : ChangeSpec := { name := "diskNil", fn := fun _ => fun
  | [d1, d2, d3, d4] => { results := [.lit (.bool true)], args := [d1, d2, d3, d4] }
  | _ => none }
def diskNilRow : OpenClaim := { program := "ytghcffpcblficaa", sum := "101ddb73bf005cb477e1d37f20ac57cd76c5abca81dcfdf82ada1ce919b471c8", func := "dialtone/dialtonelaw09.DiskNil", spec := "diskNil", apart := false }
def DiskNilSaid : Prop := diskNilRow.holds Try.pinned (OpenSpec.ofChange diskNilSpec)

/-- ITS FALSE NEIGHBOUR: 'it returns false'. Refute it at one input. -/
def diskNilWrong : ChangeSpec := { name := "diskNil", fn := fun _ => fun
  | [d1, d2, d3, d4] => { results := [.lit (.bool false)], args := [d1, d2, d3, d4] }
  | _ => none }
def DiskNilWrongFalsely : Prop := diskNilRow.holds Try.pinned (OpenSpec.ofChange diskNilWrong)

/-- 'dialtonelaw09.DiskReadsBack': WHATEVER THE INPUT: true; the input reads as it did. -/
def diskReadsBackSpec : ChangeSpec := { name := "diskReadsBack", fn := fun _ => fun
  | [d1, d2] => { results := [.lit (.bool true)], args := [d1, d2] }
  | _ => none }
def diskReadsBackRow : OpenClaim := { program := "ytghcffpcblficaa", sum := "101ddb73bf005cb477e1d37f20ac57cd76c5abca81dcfdf82ada1ce919b471c8", func := "dialtone/dialtonelaw09.DiskReadsBack", spec := "diskReadsBack", apart := false }
def DiskReadsBackSaid : Prop := diskReadsBackRow.holds Try.pinned (OpenSpec.ofChange diskReadsBackSpec)

/-- ITS FALSE NEIGHBOUR: 'it returns false'. Refute it at one input. -/
def diskReadsBackWrong : ChangeSpec := { name := "diskReadsBack", fn := fun _ => fun
  | [d1, d2] => { results := [.lit (.bool false)], args := [d1, d2] }
  | _ => none }
def DiskReadsBackWrongFalsely : Prop := diskReadsBackRow.holds Try.pinned (OpenSpec.ofChange diskReadsBackWrong)

/-- 'dialtonelaw09.DiskSynced': WHATEVER THE INPUT: true; the input reads as it did. -/
def diskSyncedSpec : ChangeSpec := { name := "diskSynced", fn := fun _ => fun
  | [d1, d2, d3] => { results := [.lit (.bool true)], args := [d1, d2, d3] }
  | _ => none }
def diskSyncedRow : OpenClaim := { program := "ytghcffpcblficaa", sum := "101ddb73bf005cb477e1d37f20ac57cd76c5abca81dcfdf82ada1ce919b471c8", func := "dialtone/dialtonelaw09.DiskSynced", spec := "diskSynced", apart := false }
def DiskSyncedSaid : Prop := diskSyncedRow.holds Try.pinned (OpenSpec.ofChange diskSyncedSpec)

/-- ITS FALSE NEIGHBOUR: 'it returns false'. Refute it at one input. -/
def diskSyncedWrong : ChangeSpec := { name := "diskSynced", fn := fun _ => fun
  | [d1, d2, d3] => { results := [.lit (.bool false)], args := [d1, d2, d3] }
  | _ => none }
def DiskSyncedWrongFalsely : Prop := diskSyncedRow.holds Try.pinned (OpenSpec.ofChange diskSyncedWrong)

/-- 'dialtonelaw09.DiskCrashBytes': WHATEVER THE INPUT: true; the input reads as it did. -/
def diskCrashBytesSpec : ChangeSpec := { name := "diskCrashBytes", fn := fun _ => fun
  | [d1, d2, d3, d4] => { results := [.lit (.bool true)], args := [d1, d2, d3, d4] }
  | _ => none }
def diskCrashBytesRow : OpenClaim := { program := "ytghcffpcblficaa", sum := "101ddb73bf005cb477e1d37f20ac57cd76c5abca81dcfdf82ada1ce919b471c8", func := "dialtone/dialtonelaw09.DiskCrashBytes", spec := "diskCrashBytes", apart := false }
def DiskCrashBytesSaid : Prop := diskCrashBytesRow.holds Try.pinned (OpenSpec.ofChange diskCrashBytesSpec)

/-- ITS FALSE NEIGHBOUR: 'it returns false'. Refute it at one input. -/
def diskCrashBytesWrong : ChangeSpec := { name := "diskCrashBytes", fn := fun _ => fun
  | [d1, d2, d3, d4] => { results := [.lit (.bool false)], args := [d1, d2, d3, d4] }
  | _ => none }
def DiskCrashBytesWrongFalsely : Prop := diskCrashBytesRow.holds Try.pinned (OpenSpec.ofChange diskCrashBytesWrong)

/-- 'dialtonelaw09.DiskAllSurvive': WHATEVER THE INPUT: true; the input reads as it did. -/
def diskAllSurviveSpec : ChangeSpec := { name := "diskAllSurvive", fn := fun _ => fun
  | [d1, d2] => { results := [.lit (.bool true)], args := [d1, d2] }
  | _ => none }
def diskAllSurviveRow : OpenClaim := { program := "ytghcffpcblficaa", sum := "101ddb73bf005cb477e1d37f20ac57cd76c5abca81dcfdf82ada1ce919b471c8", func := "dialtone/dialtonelaw09.DiskAllSurvive", spec := "diskAllSurvive", apart := false }
def DiskAllSurviveSaid : Prop := diskAllSurviveRow.holds Try.pinned (OpenSpec.ofChange diskAllSurviveSpec)

/-- ITS FALSE NEIGHBOUR: 'it returns false'. Refute it at one input. -/
def diskAllSurviveWrong : ChangeSpec := { name := "diskAllSurvive", fn := fun _ => fun
  | [d1, d2] => { results := [.lit (.bool false)], args := [d1, d2] }
  | _ => none }
def DiskAllSurviveWrongFalsely : Prop := diskAllSurviveRow.holds Try.pinned (OpenSpec.ofChange diskAllSurviveWrong)

/-- 'dialtonelaw09.DiskCut': WHATEVER THE INPUT: true; the input reads as it did. -/
def diskCutSpec : ChangeSpec := { name := "diskCut", fn := fun _ => fun
  | [d1, d2, d3] => { results := [.lit (.bool true)], args := [d1, d2, d3] }
  | _ => none }
def diskCutRow : OpenClaim := { program := "ytghcffpcblficaa", sum := "101ddb73bf005cb477e1d37f20ac57cd76c5abca81dcfdf82ada1ce919b471c8", func := "dialtone/dialtonelaw09.DiskCut", spec := "diskCut", apart := false }
def DiskCutSaid : Prop := diskCutRow.holds Try.pinned (OpenSpec.ofChange diskCutSpec)

/-- ITS FALSE NEIGHBOUR: 'it returns false'. Refute it at one input. -/
def diskCutWrong : ChangeSpec := { name := "diskCut", fn := fun _ => fun
  | [d1, d2, d3] => { results := [.lit (.bool false)], args := [d1, d2, d3] }
  | _ => none }
def DiskCutWrongFalsely : Prop := diskCutRow.holds Try.pinned (OpenSpec.ofChange diskCutWrong)

/-- 'dialtonelaw09.DiskTwins': WHATEVER THE INPUT: true; the input reads as it did. -/
def diskTwinsSpec : ChangeSpec := { name := "diskTwins", fn := fun _ => fun
  | [d1, d2] => { results := [.lit (.bool true)], args := [d1, d2] }
  | _ => none }
def diskTwinsRow : OpenClaim := { program := "ytghcffpcblficaa", sum := "101ddb73bf005cb477e1d37f20ac57cd76c5abca81dcfdf82ada1ce919b471c8", func := "dialtone/dialtonelaw09.DiskTwins", spec := "diskTwins", apart := false }
def DiskTwinsSaid : Prop := diskTwinsRow.holds Try.pinned (OpenSpec.ofChange diskTwinsSpec)

/-- ITS FALSE NEIGHBOUR: 'it returns false'. Refute it at one input. -/
def diskTwinsWrong : ChangeSpec := { name := "diskTwins", fn := fun _ => fun
  | [d1, d2] => { results := [.lit (.bool false)], args := [d1, d2] }
  | _ => none }
def DiskTwinsWrongFalsely : Prop := diskTwinsRow.holds Try.pinned (OpenSpec.ofChange diskTwinsWrong)

/- THE SECOND FORM. 'bulk': how many values and letters a reading holds, each counted each time it is reached (what is shared counts as often as it is met; a slice's spare places count too). A statement '..UptoSaid' is the law's where the arguments, and the package variables that the reading takes, are together of bulk at most 1048576: NARROWER than '..Said'. Prove '..Said' where nothing that the law and all that it calls make is longer than what came in: it says more and counts as full. Else prove '..UptoSaid'. A law counts once. -/
mutual
def uptoBulk {H : Type} : DataW H → Nat
  | .lit (.string bytes) => bytes.length + 1
  | .lit _ => 1
  | .nil => 1
  | .ptr d => uptoBulk d + 1
  | .slice elems spare => uptoBulkAll elems + uptoBulkAll spare + 1
  | .agg parts => uptoBulkAll parts + 1
  | .iface _ d => uptoBulk d + 1
  | .map entries => uptoBulkEntries entries + 1
  | .held _ => 1
def uptoBulkAll {H : Type} : List (DataW H) → Nat
  | [] => 0
  | d :: r => uptoBulk d + uptoBulkAll r
def uptoBulkEntries {H : Type} : List (Lit × DataW H) → Nat
  | [] => 0
  | x :: r => uptoBulkEntry x + uptoBulkEntries r
def uptoBulkEntry {H : Type} : Lit × DataW H → Nat
  | (.string bytes, d) => bytes.length + uptoBulk d + 1
  | (_, d) => uptoBulk d + 1
 end
def uptoSmall : (H : Type) → List (DataW H) → Bool := fun _ ds => decide (uptoBulkAll ds ≤ 1048576)
def OpenSpec.upto (s : _root_.Go.ChangeSpec) : _root_.Go.OpenSpec := { _root_.Go.OpenSpec.ofChange s with cond := some uptoSmall }

/-- 'dialtonelaw09.DiskNewMatches', WHERE WHAT IT READS IS OF BULK AT MOST 1048576: true; the input reads as it did. -/
def diskNewMatchesUptoRow : OpenClaim := { program := "ytghcffpcblficaa", sum := "101ddb73bf005cb477e1d37f20ac57cd76c5abca81dcfdf82ada1ce919b471c8", func := "dialtone/dialtonelaw09.DiskNewMatches", spec := "diskNewMatches", apart := false, narrowed := true }
def DiskNewMatchesUptoSaid : Prop := diskNewMatchesUptoRow.holds Try.pinned (OpenSpec.upto diskNewMatchesSpec)

/-- 'dialtonelaw09.DiskMatchesReference', WHERE WHAT IT READS IS OF BULK AT MOST 1048576: true; the input reads as it did. -/
def diskMatchesReferenceUptoRow : OpenClaim := { program := "ytghcffpcblficaa", sum := "101ddb73bf005cb477e1d37f20ac57cd76c5abca81dcfdf82ada1ce919b471c8", func := "dialtone/dialtonelaw09.DiskMatchesReference", spec := "diskMatchesReference", apart := false, narrowed := true }
def DiskMatchesReferenceUptoSaid : Prop := diskMatchesReferenceUptoRow.holds Try.pinned (OpenSpec.upto diskMatchesReferenceSpec)

/-- 'dialtonelaw09.DiskNil', WHERE WHAT IT READS IS OF BULK AT MOST 1048576: true; the input reads as it did. -/
def diskNilUptoRow : OpenClaim := { program := "ytghcffpcblficaa", sum := "101ddb73bf005cb477e1d37f20ac57cd76c5abca81dcfdf82ada1ce919b471c8", func := "dialtone/dialtonelaw09.DiskNil", spec := "diskNil", apart := false, narrowed := true }
def DiskNilUptoSaid : Prop := diskNilUptoRow.holds Try.pinned (OpenSpec.upto diskNilSpec)

/-- 'dialtonelaw09.DiskReadsBack', WHERE WHAT IT READS IS OF BULK AT MOST 1048576: true; the input reads as it did. -/
def diskReadsBackUptoRow : OpenClaim := { program := "ytghcffpcblficaa", sum := "101ddb73bf005cb477e1d37f20ac57cd76c5abca81dcfdf82ada1ce919b471c8", func := "dialtone/dialtonelaw09.DiskReadsBack", spec := "diskReadsBack", apart := false, narrowed := true }
def DiskReadsBackUptoSaid : Prop := diskReadsBackUptoRow.holds Try.pinned (OpenSpec.upto diskReadsBackSpec)

/-- 'dialtonelaw09.DiskSynced', WHERE WHAT IT READS IS OF BULK AT MOST 1048576: true; the input reads as it did. -/
def diskSyncedUptoRow : OpenClaim := { program := "ytghcffpcblficaa", sum := "101ddb73bf005cb477e1d37f20ac57cd76c5abca81dcfdf82ada1ce919b471c8", func := "dialtone/dialtonelaw09.DiskSynced", spec := "diskSynced", apart := false, narrowed := true }
def DiskSyncedUptoSaid : Prop := diskSyncedUptoRow.holds Try.pinned (OpenSpec.upto diskSyncedSpec)

/-- 'dialtonelaw09.DiskCrashBytes', WHERE WHAT IT READS IS OF BULK AT MOST 1048576: true; the input reads as it did. -/
def diskCrashBytesUptoRow : OpenClaim := { program := "ytghcffpcblficaa", sum := "101ddb73bf005cb477e1d37f20ac57cd76c5abca81dcfdf82ada1ce919b471c8", func := "dialtone/dialtonelaw09.DiskCrashBytes", spec := "diskCrashBytes", apart := false, narrowed := true }
def DiskCrashBytesUptoSaid : Prop := diskCrashBytesUptoRow.holds Try.pinned (OpenSpec.upto diskCrashBytesSpec)

/-- 'dialtonelaw09.DiskAllSurvive', WHERE WHAT IT READS IS OF BULK AT MOST 1048576: true; the input reads as it did. -/
def diskAllSurviveUptoRow : OpenClaim := { program := "ytghcffpcblficaa", sum := "101ddb73bf005cb477e1d37f20ac57cd76c5abca81dcfdf82ada1ce919b471c8", func := "dialtone/dialtonelaw09.DiskAllSurvive", spec := "diskAllSurvive", apart := false, narrowed := true }
def DiskAllSurviveUptoSaid : Prop := diskAllSurviveUptoRow.holds Try.pinned (OpenSpec.upto diskAllSurviveSpec)

/-- 'dialtonelaw09.DiskCut', WHERE WHAT IT READS IS OF BULK AT MOST 1048576: true; the input reads as it did. -/
def diskCutUptoRow : OpenClaim := { program := "ytghcffpcblficaa", sum := "101ddb73bf005cb477e1d37f20ac57cd76c5abca81dcfdf82ada1ce919b471c8", func := "dialtone/dialtonelaw09.DiskCut", spec := "diskCut", apart := false, narrowed := true }
def DiskCutUptoSaid : Prop := diskCutUptoRow.holds Try.pinned (OpenSpec.upto diskCutSpec)

/-- 'dialtonelaw09.DiskTwins', WHERE WHAT IT READS IS OF BULK AT MOST 1048576: true; the input reads as it did. -/
def diskTwinsUptoRow : OpenClaim := { program := "ytghcffpcblficaa", sum := "101ddb73bf005cb477e1d37f20ac57cd76c5abca81dcfdf82ada1ce919b471c8", func := "dialtone/dialtonelaw09.DiskTwins", spec := "diskTwins", apart := false, narrowed := true }
def DiskTwinsUptoSaid : Prop := diskTwinsUptoRow.holds Try.pinned (OpenSpec.upto diskTwinsSpec)

end Rows
end Go.Proofs.Ytghcffpcblficaa
