/-
  No cell of these rows narrows 'for every input' (looked for: loops, veiled, ifaces, maps, wideKeys, modest, calm, conditions, laid).
  DERIVED. THE GIVEN ROWS OF THIS SEAT. 9 by the template 'for every input the law returns true; each argument reads behind the call as it read before'; 0 by the template 'total and deterministic' (their statements: YtblbfpokkpkcjaaTotals.lean).
  GIVEN WITH THE SEED: the statements are not yours to turn. If you find one false, say at which input.
  Laid BY PROGRAM, IN A SANDBOX (cutbox-rows.mjs): the forced cells as the released guide's own fill.sh prints them over the translation 7561aa2c88eeec72… (all of the seat's roots in one cut). By AI agents, Wed Nov 11 2026. No macro, syntax, notation, axiom, sorry.
-/
import Derived.Test.YtblbfpokkpkcjaaChecked
import GoSem.Claim
import GoSem.ClaimJoined
import GoSem.ClaimMapViews
import Derived.JoinedTies
import Derived.KernelRfl
namespace Go.Proofs.Ytblbfpokkpkcjaa
/- THE CELL 'sum', in the pinned program and in every row, IS THE sha256 OF THE DUMP (.gsa) THAT YtblbfpokkpkcjaaProg.lean LOADS. Nothing in Lean hashes anything: it is a label: what it is worth is what the hold of that sum in a sandbox is worth. -/
noncomputable def Try.pinned : Pinned := { name := "ytblbfpokkpkcjaa", sum := "7561aa2c88eeec72cee98d72e00177aa2ceea9d96d1c483f3d8f35c40e6b021a", checked := Try.checked }
namespace Rows
def none {H : Type} : Left H := { results := [], args := [] }

/-- 'loglaw1.SamplesReported': WHATEVER THE INPUT: true; the input reads as it did. -/
def samplesReportedSpec : ChangeSpec := { name := "samplesReported", fn := fun _ => fun
  | [d] => { results := [.lit (.bool true)], args := [d] }
  | _ => none }
def samplesReportedRow : OpenClaim := { program := "ytblbfpokkpkcjaa", sum := "7561aa2c88eeec72cee98d72e00177aa2ceea9d96d1c483f3d8f35c40e6b021a", func := "plantlog/loglaw1.SamplesReported", spec := "samplesReported", unfollowed := true, recurses := true, apart := false }
def SamplesReportedSaid : Prop := samplesReportedRow.holds Try.pinned (OpenSpec.ofChange samplesReportedSpec)

/-- ITS FALSE NEIGHBOUR: 'it returns false'. Refute it at one input. -/
def samplesReportedWrong : ChangeSpec := { name := "samplesReported", fn := fun _ => fun
  | [d] => { results := [.lit (.bool false)], args := [d] }
  | _ => none }
def SamplesReportedWrongFalsely : Prop := samplesReportedRow.holds Try.pinned (OpenSpec.ofChange samplesReportedWrong)

/-- 'loglaw1.SamplesCompressed': WHATEVER THE INPUT: true; the input reads as it did. -/
def samplesCompressedSpec : ChangeSpec := { name := "samplesCompressed", fn := fun _ => fun
  | [d] => { results := [.lit (.bool true)], args := [d] }
  | _ => none }
def samplesCompressedRow : OpenClaim := { program := "ytblbfpokkpkcjaa", sum := "7561aa2c88eeec72cee98d72e00177aa2ceea9d96d1c483f3d8f35c40e6b021a", func := "plantlog/loglaw1.SamplesCompressed", spec := "samplesCompressed", unfollowed := true, recurses := true, apart := false }
def SamplesCompressedSaid : Prop := samplesCompressedRow.holds Try.pinned (OpenSpec.ofChange samplesCompressedSpec)

/-- ITS FALSE NEIGHBOUR: 'it returns false'. Refute it at one input. -/
def samplesCompressedWrong : ChangeSpec := { name := "samplesCompressed", fn := fun _ => fun
  | [d] => { results := [.lit (.bool false)], args := [d] }
  | _ => none }
def SamplesCompressedWrongFalsely : Prop := samplesCompressedRow.holds Try.pinned (OpenSpec.ofChange samplesCompressedWrong)

/-- 'loglaw1.SamplesReconstructed': WHATEVER THE INPUT: true; the input reads as it did. -/
def samplesReconstructedSpec : ChangeSpec := { name := "samplesReconstructed", fn := fun _ => fun
  | [d] => { results := [.lit (.bool true)], args := [d] }
  | _ => none }
def samplesReconstructedRow : OpenClaim := { program := "ytblbfpokkpkcjaa", sum := "7561aa2c88eeec72cee98d72e00177aa2ceea9d96d1c483f3d8f35c40e6b021a", func := "plantlog/loglaw1.SamplesReconstructed", spec := "samplesReconstructed", unfollowed := true, recurses := true, apart := false }
def SamplesReconstructedSaid : Prop := samplesReconstructedRow.holds Try.pinned (OpenSpec.ofChange samplesReconstructedSpec)

/-- ITS FALSE NEIGHBOUR: 'it returns false'. Refute it at one input. -/
def samplesReconstructedWrong : ChangeSpec := { name := "samplesReconstructed", fn := fun _ => fun
  | [d] => { results := [.lit (.bool false)], args := [d] }
  | _ => none }
def SamplesReconstructedWrongFalsely : Prop := samplesReconstructedRow.holds Try.pinned (OpenSpec.ofChange samplesReconstructedWrong)

/-- 'loglaw1.SamplesStream': WHATEVER THE INPUT: true; the input reads as it did. -/
def samplesStreamSpec : ChangeSpec := { name := "samplesStream", fn := fun _ => fun
  | [d] => { results := [.lit (.bool true)], args := [d] }
  | _ => none }
def samplesStreamRow : OpenClaim := { program := "ytblbfpokkpkcjaa", sum := "7561aa2c88eeec72cee98d72e00177aa2ceea9d96d1c483f3d8f35c40e6b021a", func := "plantlog/loglaw1.SamplesStream", spec := "samplesStream", unfollowed := true, recurses := true, apart := false }
def SamplesStreamSaid : Prop := samplesStreamRow.holds Try.pinned (OpenSpec.ofChange samplesStreamSpec)

/-- ITS FALSE NEIGHBOUR: 'it returns false'. Refute it at one input. -/
def samplesStreamWrong : ChangeSpec := { name := "samplesStream", fn := fun _ => fun
  | [d] => { results := [.lit (.bool false)], args := [d] }
  | _ => none }
def SamplesStreamWrongFalsely : Prop := samplesStreamRow.holds Try.pinned (OpenSpec.ofChange samplesStreamWrong)

/-- 'loglaw1.ValuesBetween': WHATEVER THE INPUT: true; the input reads as it did. -/
def valuesBetweenSpec : ChangeSpec := { name := "valuesBetween", fn := fun _ => fun
  | [d] => { results := [.lit (.bool true)], args := [d] }
  | _ => none }
def valuesBetweenRow : OpenClaim := { program := "ytblbfpokkpkcjaa", sum := "7561aa2c88eeec72cee98d72e00177aa2ceea9d96d1c483f3d8f35c40e6b021a", func := "plantlog/loglaw1.ValuesBetween", spec := "valuesBetween", unfollowed := true, recurses := true, apart := false }
def ValuesBetweenSaid : Prop := valuesBetweenRow.holds Try.pinned (OpenSpec.ofChange valuesBetweenSpec)

/-- ITS FALSE NEIGHBOUR: 'it returns false'. Refute it at one input. -/
def valuesBetweenWrong : ChangeSpec := { name := "valuesBetween", fn := fun _ => fun
  | [d] => { results := [.lit (.bool false)], args := [d] }
  | _ => none }
def ValuesBetweenWrongFalsely : Prop := valuesBetweenRow.holds Try.pinned (OpenSpec.ofChange valuesBetweenWrong)

/-- 'loglaw1.LimitsCrossed': WHATEVER THE INPUT: true; the input reads as it did. -/
def limitsCrossedSpec : ChangeSpec := { name := "limitsCrossed", fn := fun _ => fun
  | [d] => { results := [.lit (.bool true)], args := [d] }
  | _ => none }
def limitsCrossedRow : OpenClaim := { program := "ytblbfpokkpkcjaa", sum := "7561aa2c88eeec72cee98d72e00177aa2ceea9d96d1c483f3d8f35c40e6b021a", func := "plantlog/loglaw1.LimitsCrossed", spec := "limitsCrossed", unfollowed := true, recurses := true, apart := false }
def LimitsCrossedSaid : Prop := limitsCrossedRow.holds Try.pinned (OpenSpec.ofChange limitsCrossedSpec)

/-- ITS FALSE NEIGHBOUR: 'it returns false'. Refute it at one input. -/
def limitsCrossedWrong : ChangeSpec := { name := "limitsCrossed", fn := fun _ => fun
  | [d] => { results := [.lit (.bool false)], args := [d] }
  | _ => none }
def LimitsCrossedWrongFalsely : Prop := limitsCrossedRow.holds Try.pinned (OpenSpec.ofChange limitsCrossedWrong)

/-- 'loglaw1.AggregatesWeighed': WHATEVER THE INPUT: true; the input reads as it did. -/
def aggregatesWeighedSpec : ChangeSpec := { name := "aggregatesWeighed", fn := fun _ => fun
  | [d] => { results := [.lit (.bool true)], args := [d] }
  | _ => none }
def aggregatesWeighedRow : OpenClaim := { program := "ytblbfpokkpkcjaa", sum := "7561aa2c88eeec72cee98d72e00177aa2ceea9d96d1c483f3d8f35c40e6b021a", func := "plantlog/loglaw1.AggregatesWeighed", spec := "aggregatesWeighed", unfollowed := true, recurses := true, apart := false }
def AggregatesWeighedSaid : Prop := aggregatesWeighedRow.holds Try.pinned (OpenSpec.ofChange aggregatesWeighedSpec)

/-- ITS FALSE NEIGHBOUR: 'it returns false'. Refute it at one input. -/
def aggregatesWeighedWrong : ChangeSpec := { name := "aggregatesWeighed", fn := fun _ => fun
  | [d] => { results := [.lit (.bool false)], args := [d] }
  | _ => none }
def AggregatesWeighedWrongFalsely : Prop := aggregatesWeighedRow.holds Try.pinned (OpenSpec.ofChange aggregatesWeighedWrong)

/-- 'loglaw1.IntervalsWeighed': WHATEVER THE INPUT: true; the input reads as it did. -/
def intervalsWeighedSpec : ChangeSpec := { name := "intervalsWeighed", fn := fun _ => fun
  | [d] => { results := [.lit (.bool true)], args := [d] }
  | _ => none }
def intervalsWeighedRow : OpenClaim := { program := "ytblbfpokkpkcjaa", sum := "7561aa2c88eeec72cee98d72e00177aa2ceea9d96d1c483f3d8f35c40e6b021a", func := "plantlog/loglaw1.IntervalsWeighed", spec := "intervalsWeighed", unfollowed := true, recurses := true, apart := false }
def IntervalsWeighedSaid : Prop := intervalsWeighedRow.holds Try.pinned (OpenSpec.ofChange intervalsWeighedSpec)

/-- ITS FALSE NEIGHBOUR: 'it returns false'. Refute it at one input. -/
def intervalsWeighedWrong : ChangeSpec := { name := "intervalsWeighed", fn := fun _ => fun
  | [d] => { results := [.lit (.bool false)], args := [d] }
  | _ => none }
def IntervalsWeighedWrongFalsely : Prop := intervalsWeighedRow.holds Try.pinned (OpenSpec.ofChange intervalsWeighedWrong)

/-- 'loglaw1.CountersTotalled': WHATEVER THE INPUT: true; the input reads as it did. -/
def countersTotalledSpec : ChangeSpec := { name := "countersTotalled", fn := fun _ => fun
  | [d] => { results := [.lit (.bool true)], args := [d] }
  | _ => none }
def countersTotalledRow : OpenClaim := { program := "ytblbfpokkpkcjaa", sum := "7561aa2c88eeec72cee98d72e00177aa2ceea9d96d1c483f3d8f35c40e6b021a", func := "plantlog/loglaw1.CountersTotalled", spec := "countersTotalled", unfollowed := true, recurses := true, apart := false }
def CountersTotalledSaid : Prop := countersTotalledRow.holds Try.pinned (OpenSpec.ofChange countersTotalledSpec)

/-- ITS FALSE NEIGHBOUR: 'it returns false'. Refute it at one input. -/
def countersTotalledWrong : ChangeSpec := { name := "countersTotalled", fn := fun _ => fun
  | [d] => { results := [.lit (.bool false)], args := [d] }
  | _ => none }
def CountersTotalledWrongFalsely : Prop := countersTotalledRow.holds Try.pinned (OpenSpec.ofChange countersTotalledWrong)

/- THE SECOND FORM. 'bulk': how many values and letters a reading holds, each counted each time it is reached (what is shared counts as often as it is met; a slice's spare places count too). A statement '..UptoSaid' is the law's where the arguments, and the package variables that the reading takes, are together of bulk at most 1048576: NARROWER than '..Said'. Prove '..Said' where nothing that the law and all that it calls make is longer than what came in: it says more and counts as full. Else prove '..UptoSaid'. A law counts once. -/
mutual
def uptoBulk {H : Type} : DataW H → Nat
  | .lit (.string bytes) => bytes.length + 1
  | .lit _ => 1
  | .nil => 1
  | .ptr d => uptoBulk d + 1
  | .slice elems spare => uptoBulkAll elems + uptoBulkAll spare + 1
  | .agg parts => uptoBulkAll parts + 1
  | .iface _ d => uptoBulk d + 1
  | .map entries => uptoBulkEntries entries + 1
  | .held _ => 1
def uptoBulkAll {H : Type} : List (DataW H) → Nat
  | [] => 0
  | d :: r => uptoBulk d + uptoBulkAll r
def uptoBulkEntries {H : Type} : List (Lit × DataW H) → Nat
  | [] => 0
  | x :: r => uptoBulkEntry x + uptoBulkEntries r
def uptoBulkEntry {H : Type} : Lit × DataW H → Nat
  | (.string bytes, d) => bytes.length + uptoBulk d + 1
  | (_, d) => uptoBulk d + 1
 end
def uptoSmall : (H : Type) → List (DataW H) → Bool := fun _ ds => decide (uptoBulkAll ds ≤ 1048576)
def OpenSpec.upto (s : _root_.Go.ChangeSpec) : _root_.Go.OpenSpec := { _root_.Go.OpenSpec.ofChange s with cond := some uptoSmall }

/-- 'loglaw1.SamplesReported', WHERE WHAT IT READS IS OF BULK AT MOST 1048576: true; the input reads as it did. -/
def samplesReportedUptoRow : OpenClaim := { program := "ytblbfpokkpkcjaa", sum := "7561aa2c88eeec72cee98d72e00177aa2ceea9d96d1c483f3d8f35c40e6b021a", func := "plantlog/loglaw1.SamplesReported", spec := "samplesReported", unfollowed := true, recurses := true, apart := false, narrowed := true }
def SamplesReportedUptoSaid : Prop := samplesReportedUptoRow.holds Try.pinned (OpenSpec.upto samplesReportedSpec)

/-- 'loglaw1.SamplesCompressed', WHERE WHAT IT READS IS OF BULK AT MOST 1048576: true; the input reads as it did. -/
def samplesCompressedUptoRow : OpenClaim := { program := "ytblbfpokkpkcjaa", sum := "7561aa2c88eeec72cee98d72e00177aa2ceea9d96d1c483f3d8f35c40e6b021a", func := "plantlog/loglaw1.SamplesCompressed", spec := "samplesCompressed", unfollowed := true, recurses := true, apart := false, narrowed := true }
def SamplesCompressedUptoSaid : Prop := samplesCompressedUptoRow.holds Try.pinned (OpenSpec.upto samplesCompressedSpec)

/-- 'loglaw1.SamplesReconstructed', WHERE WHAT IT READS IS OF BULK AT MOST 1048576: true; the input reads as it did. -/
def samplesReconstructedUptoRow : OpenClaim := { program := "ytblbfpokkpkcjaa", sum := "7561aa2c88eeec72cee98d72e00177aa2ceea9d96d1c483f3d8f35c40e6b021a", func := "plantlog/loglaw1.SamplesReconstructed", spec := "samplesReconstructed", unfollowed := true, recurses := true, apart := false, narrowed := true }
def SamplesReconstructedUptoSaid : Prop := samplesReconstructedUptoRow.holds Try.pinned (OpenSpec.upto samplesReconstructedSpec)

/-- 'loglaw1.SamplesStream', WHERE WHAT IT READS IS OF BULK AT MOST 1048576: true; the input reads as it did. -/
def samplesStreamUptoRow : OpenClaim := { program := "ytblbfpokkpkcjaa", sum := "7561aa2c88eeec72cee98d72e00177aa2ceea9d96d1c483f3d8f35c40e6b021a", func := "plantlog/loglaw1.SamplesStream", spec := "samplesStream", unfollowed := true, recurses := true, apart := false, narrowed := true }
def SamplesStreamUptoSaid : Prop := samplesStreamUptoRow.holds Try.pinned (OpenSpec.upto samplesStreamSpec)

/-- 'loglaw1.ValuesBetween', WHERE WHAT IT READS IS OF BULK AT MOST 1048576: true; the input reads as it did. -/
def valuesBetweenUptoRow : OpenClaim := { program := "ytblbfpokkpkcjaa", sum := "7561aa2c88eeec72cee98d72e00177aa2ceea9d96d1c483f3d8f35c40e6b021a", func := "plantlog/loglaw1.ValuesBetween", spec := "valuesBetween", unfollowed := true, recurses := true, apart := false, narrowed := true }
def ValuesBetweenUptoSaid : Prop := valuesBetweenUptoRow.holds Try.pinned (OpenSpec.upto valuesBetweenSpec)

/-- 'loglaw1.LimitsCrossed', WHERE WHAT IT READS IS OF BULK AT MOST 1048576: true; the input reads as it did. -/
def limitsCrossedUptoRow : OpenClaim := { program := "ytblbfpokkpkcjaa", sum := "7561aa2c88eeec72cee98d72e00177aa2ceea9d96d1c483f3d8f35c40e6b021a", func := "plantlog/loglaw1.LimitsCrossed", spec := "limitsCrossed", unfollowed := true, recurses := true, apart := false, narrowed := true }
def LimitsCrossedUptoSaid : Prop := limitsCrossedUptoRow.holds Try.pinned (OpenSpec.upto limitsCrossedSpec)

/-- 'loglaw1.AggregatesWeighed', WHERE WHAT IT READS IS OF BULK AT MOST 1048576: true; the input reads as it did. -/
def aggregatesWeighedUptoRow : OpenClaim := { program := "ytblbfpokkpkcjaa", sum := "7561aa2c88eeec72cee98d72e00177aa2ceea9d96d1c483f3d8f35c40e6b021a", func := "plantlog/loglaw1.AggregatesWeighed", spec := "aggregatesWeighed", unfollowed := true, recurses := true, apart := false, narrowed := true }
def AggregatesWeighedUptoSaid : Prop := aggregatesWeighedUptoRow.holds Try.pinned (OpenSpec.upto aggregatesWeighedSpec)

/-- 'loglaw1.IntervalsWeighed', WHERE WHAT IT READS IS OF BULK AT MOST 1048576: true; the input reads as it did. -/
def intervalsWeighedUptoRow : OpenClaim := { program := "ytblbfpokkpkcjaa", sum := "7561aa2c88eeec72cee98d72e00177aa2ceea9d96d1c483f3d8f35c40e6b021a", func := "plantlog/loglaw1.IntervalsWeighed", spec := "intervalsWeighed", unfollowed := true, recurses := true, apart := false, narrowed := true }
def IntervalsWeighedUptoSaid : Prop := intervalsWeighedUptoRow.holds Try.pinned (OpenSpec.upto intervalsWeighedSpec)

/-- 'loglaw1.CountersTotalled', WHERE WHAT IT READS IS OF BULK AT MOST 1048576: true; the input reads as it did. -/
def countersTotalledUptoRow : OpenClaim := { program := "ytblbfpokkpkcjaa", sum := "7561aa2c88eeec72cee98d72e00177aa2ceea9d96d1c483f3d8f35c40e6b021a", func := "plantlog/loglaw1.CountersTotalled", spec := "countersTotalled", unfollowed := true, recurses := true, apart := false, narrowed := true }
def CountersTotalledUptoSaid : Prop := countersTotalledUptoRow.holds Try.pinned (OpenSpec.upto countersTotalledSpec)

end Rows
end Go.Proofs.Ytblbfpokkpkcjaa
