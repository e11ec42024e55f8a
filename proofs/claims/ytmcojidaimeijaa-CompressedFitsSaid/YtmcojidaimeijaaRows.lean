/-
  No cell of these rows narrows 'for every input' (looked for: loops, veiled, ifaces, maps, wideKeys, modest, calm, conditions, laid).
  DERIVED. THE GIVEN ROWS OF THIS SEAT. 9 by the template 'for every input the law returns true; each argument reads behind the call as it read before'; 0 by the template 'total and deterministic' (their statements: YtmcojidaimeijaaTotals.lean).
  GIVEN WITH THE SEED: the statements are not yours to turn. If you find one false, say at which input.
  Laid BY PROGRAM, IN A SANDBOX (cutbox-rows.mjs): the forced cells as the released guide's own fill.sh prints them over the translation 566a4c64adc19e86… (all of the seat's roots in one cut). By AI agents, Wed Nov 11 2026. No macro, syntax, notation, axiom, sorry.
-/
import Derived.Test.YtmcojidaimeijaaChecked
import GoSem.Claim
import GoSem.ClaimJoined
import GoSem.ClaimMapViews
import Derived.JoinedTies
import Derived.KernelRfl
namespace Go.Proofs.Ytmcojidaimeijaa
/- THE CELL 'sum', in the pinned program and in every row, IS THE sha256 OF THE DUMP (.gsa) THAT YtmcojidaimeijaaProg.lean LOADS. Nothing in Lean hashes anything: it is a label: what it is worth is what the hold of that sum in a sandbox is worth. -/
noncomputable def Try.pinned : Pinned := { name := "ytmcojidaimeijaa", sum := "566a4c64adc19e86c35a057ce7f210ef1dbbc7f1a78b49021ae1d64981b9293d", checked := Try.checked }
namespace Rows
def none {H : Type} : Left H := { results := [], args := [] }

/-- 'logkeep1.StepsHold': WHATEVER THE INPUT: true; the input reads as it did. -/
def stepsHoldSpec : ChangeSpec := { name := "stepsHold", fn := fun _ => fun
  | [d] => { results := [.lit (.bool true)], args := [d] }
  | _ => none }
def stepsHoldRow : OpenClaim := { program := "ytmcojidaimeijaa", sum := "566a4c64adc19e86c35a057ce7f210ef1dbbc7f1a78b49021ae1d64981b9293d", func := "plantlog/logkeep1.StepsHold", spec := "stepsHold", unfollowed := true, recurses := true, apart := false }
def StepsHoldSaid : Prop := stepsHoldRow.holds Try.pinned (OpenSpec.ofChange stepsHoldSpec)

/-- ITS FALSE NEIGHBOUR: 'it returns false'. Refute it at one input. -/
def stepsHoldWrong : ChangeSpec := { name := "stepsHold", fn := fun _ => fun
  | [d] => { results := [.lit (.bool false)], args := [d] }
  | _ => none }
def StepsHoldWrongFalsely : Prop := stepsHoldRow.holds Try.pinned (OpenSpec.ofChange stepsHoldWrong)

/-- 'logkeep1.AboveIsAbove': WHATEVER THE INPUT: true; the input reads as it did. -/
def aboveIsAboveSpec : ChangeSpec := { name := "aboveIsAbove", fn := fun _ => fun
  | [d] => { results := [.lit (.bool true)], args := [d] }
  | _ => none }
def aboveIsAboveRow : OpenClaim := { program := "ytmcojidaimeijaa", sum := "566a4c64adc19e86c35a057ce7f210ef1dbbc7f1a78b49021ae1d64981b9293d", func := "plantlog/logkeep1.AboveIsAbove", spec := "aboveIsAbove", unfollowed := true, recurses := true, apart := false }
def AboveIsAboveSaid : Prop := aboveIsAboveRow.holds Try.pinned (OpenSpec.ofChange aboveIsAboveSpec)

/-- ITS FALSE NEIGHBOUR: 'it returns false'. Refute it at one input. -/
def aboveIsAboveWrong : ChangeSpec := { name := "aboveIsAbove", fn := fun _ => fun
  | [d] => { results := [.lit (.bool false)], args := [d] }
  | _ => none }
def AboveIsAboveWrongFalsely : Prop := aboveIsAboveRow.holds Try.pinned (OpenSpec.ofChange aboveIsAboveWrong)

/-- 'logkeep1.StreamsAreBatches': WHATEVER THE INPUT: true; the input reads as it did. -/
def streamsAreBatchesSpec : ChangeSpec := { name := "streamsAreBatches", fn := fun _ => fun
  | [d] => { results := [.lit (.bool true)], args := [d] }
  | _ => none }
def streamsAreBatchesRow : OpenClaim := { program := "ytmcojidaimeijaa", sum := "566a4c64adc19e86c35a057ce7f210ef1dbbc7f1a78b49021ae1d64981b9293d", func := "plantlog/logkeep1.StreamsAreBatches", spec := "streamsAreBatches", unfollowed := true, recurses := true, apart := false }
def StreamsAreBatchesSaid : Prop := streamsAreBatchesRow.holds Try.pinned (OpenSpec.ofChange streamsAreBatchesSpec)

/-- ITS FALSE NEIGHBOUR: 'it returns false'. Refute it at one input. -/
def streamsAreBatchesWrong : ChangeSpec := { name := "streamsAreBatches", fn := fun _ => fun
  | [d] => { results := [.lit (.bool false)], args := [d] }
  | _ => none }
def StreamsAreBatchesWrongFalsely : Prop := streamsAreBatchesRow.holds Try.pinned (OpenSpec.ofChange streamsAreBatchesWrong)

/-- 'logkeep1.KeptAreThemselves': WHATEVER THE INPUT: true; the input reads as it did. -/
def keptAreThemselvesSpec : ChangeSpec := { name := "keptAreThemselves", fn := fun _ => fun
  | [d] => { results := [.lit (.bool true)], args := [d] }
  | _ => none }
def keptAreThemselvesRow : OpenClaim := { program := "ytmcojidaimeijaa", sum := "566a4c64adc19e86c35a057ce7f210ef1dbbc7f1a78b49021ae1d64981b9293d", func := "plantlog/logkeep1.KeptAreThemselves", spec := "keptAreThemselves", unfollowed := true, recurses := true, apart := false }
def KeptAreThemselvesSaid : Prop := keptAreThemselvesRow.holds Try.pinned (OpenSpec.ofChange keptAreThemselvesSpec)

/-- ITS FALSE NEIGHBOUR: 'it returns false'. Refute it at one input. -/
def keptAreThemselvesWrong : ChangeSpec := { name := "keptAreThemselves", fn := fun _ => fun
  | [d] => { results := [.lit (.bool false)], args := [d] }
  | _ => none }
def KeptAreThemselvesWrongFalsely : Prop := keptAreThemselvesRow.holds Try.pinned (OpenSpec.ofChange keptAreThemselvesWrong)

/-- 'logkeep1.BucketsAreWindows': WHATEVER THE INPUT: true; the input reads as it did. -/
def bucketsAreWindowsSpec : ChangeSpec := { name := "bucketsAreWindows", fn := fun _ => fun
  | [d] => { results := [.lit (.bool true)], args := [d] }
  | _ => none }
def bucketsAreWindowsRow : OpenClaim := { program := "ytmcojidaimeijaa", sum := "566a4c64adc19e86c35a057ce7f210ef1dbbc7f1a78b49021ae1d64981b9293d", func := "plantlog/logkeep1.BucketsAreWindows", spec := "bucketsAreWindows", unfollowed := true, recurses := true, apart := false }
def BucketsAreWindowsSaid : Prop := bucketsAreWindowsRow.holds Try.pinned (OpenSpec.ofChange bucketsAreWindowsSpec)

/-- ITS FALSE NEIGHBOUR: 'it returns false'. Refute it at one input. -/
def bucketsAreWindowsWrong : ChangeSpec := { name := "bucketsAreWindows", fn := fun _ => fun
  | [d] => { results := [.lit (.bool false)], args := [d] }
  | _ => none }
def BucketsAreWindowsWrongFalsely : Prop := bucketsAreWindowsRow.holds Try.pinned (OpenSpec.ofChange bucketsAreWindowsWrong)

/-- 'logkeep1.CrossingsCross': WHATEVER THE INPUT: true; the input reads as it did. -/
def crossingsCrossSpec : ChangeSpec := { name := "crossingsCross", fn := fun _ => fun
  | [d] => { results := [.lit (.bool true)], args := [d] }
  | _ => none }
def crossingsCrossRow : OpenClaim := { program := "ytmcojidaimeijaa", sum := "566a4c64adc19e86c35a057ce7f210ef1dbbc7f1a78b49021ae1d64981b9293d", func := "plantlog/logkeep1.CrossingsCross", spec := "crossingsCross", unfollowed := true, recurses := true, apart := false }
def CrossingsCrossSaid : Prop := crossingsCrossRow.holds Try.pinned (OpenSpec.ofChange crossingsCrossSpec)

/-- ITS FALSE NEIGHBOUR: 'it returns false'. Refute it at one input. -/
def crossingsCrossWrong : ChangeSpec := { name := "crossingsCross", fn := fun _ => fun
  | [d] => { results := [.lit (.bool false)], args := [d] }
  | _ => none }
def CrossingsCrossWrongFalsely : Prop := crossingsCrossRow.holds Try.pinned (OpenSpec.ofChange crossingsCrossWrong)

/-- 'logkeep1.CompressedFits': WHATEVER THE INPUT: true; the input reads as it did. -/
def compressedFitsSpec : ChangeSpec := { name := "compressedFits", fn := fun _ => fun
  | [d] => { results := [.lit (.bool true)], args := [d] }
  | _ => none }
def compressedFitsRow : OpenClaim := { program := "ytmcojidaimeijaa", sum := "566a4c64adc19e86c35a057ce7f210ef1dbbc7f1a78b49021ae1d64981b9293d", func := "plantlog/logkeep1.CompressedFits", spec := "compressedFits", unfollowed := true, recurses := true, apart := false }
def CompressedFitsSaid : Prop := compressedFitsRow.holds Try.pinned (OpenSpec.ofChange compressedFitsSpec)

/-- ITS FALSE NEIGHBOUR: 'it returns false'. Refute it at one input. -/
def compressedFitsWrong : ChangeSpec := { name := "compressedFits", fn := fun _ => fun
  | [d] => { results := [.lit (.bool false)], args := [d] }
  | _ => none }
def CompressedFitsWrongFalsely : Prop := compressedFitsRow.holds Try.pinned (OpenSpec.ofChange compressedFitsWrong)

/-- 'logkeep1.IntegralsAddUp': WHATEVER THE INPUT: true; the input reads as it did. -/
def integralsAddUpSpec : ChangeSpec := { name := "integralsAddUp", fn := fun _ => fun
  | [d] => { results := [.lit (.bool true)], args := [d] }
  | _ => none }
def integralsAddUpRow : OpenClaim := { program := "ytmcojidaimeijaa", sum := "566a4c64adc19e86c35a057ce7f210ef1dbbc7f1a78b49021ae1d64981b9293d", func := "plantlog/logkeep1.IntegralsAddUp", spec := "integralsAddUp", unfollowed := true, recurses := true, apart := false }
def IntegralsAddUpSaid : Prop := integralsAddUpRow.holds Try.pinned (OpenSpec.ofChange integralsAddUpSpec)

/-- ITS FALSE NEIGHBOUR: 'it returns false'. Refute it at one input. -/
def integralsAddUpWrong : ChangeSpec := { name := "integralsAddUp", fn := fun _ => fun
  | [d] => { results := [.lit (.bool false)], args := [d] }
  | _ => none }
def IntegralsAddUpWrongFalsely : Prop := integralsAddUpRow.holds Try.pinned (OpenSpec.ofChange integralsAddUpWrong)

/-- 'logkeep1.FramesAreFrames': WHATEVER THE INPUT: true; the input reads as it did. -/
def framesAreFramesSpec : ChangeSpec := { name := "framesAreFrames", fn := fun _ => fun
  | [d] => { results := [.lit (.bool true)], args := [d] }
  | _ => none }
def framesAreFramesRow : OpenClaim := { program := "ytmcojidaimeijaa", sum := "566a4c64adc19e86c35a057ce7f210ef1dbbc7f1a78b49021ae1d64981b9293d", func := "plantlog/logkeep1.FramesAreFrames", spec := "framesAreFrames", unfollowed := true, recurses := true, apart := false }
def FramesAreFramesSaid : Prop := framesAreFramesRow.holds Try.pinned (OpenSpec.ofChange framesAreFramesSpec)

/-- ITS FALSE NEIGHBOUR: 'it returns false'. Refute it at one input. -/
def framesAreFramesWrong : ChangeSpec := { name := "framesAreFrames", fn := fun _ => fun
  | [d] => { results := [.lit (.bool false)], args := [d] }
  | _ => none }
def FramesAreFramesWrongFalsely : Prop := framesAreFramesRow.holds Try.pinned (OpenSpec.ofChange framesAreFramesWrong)

/- THE SECOND FORM. 'bulk': how many values and letters a reading holds, each counted each time it is reached (what is shared counts as often as it is met; a slice's spare places count too). A statement '..UptoSaid' is the law's where the arguments, and the package variables that the reading takes, are together of bulk at most 1048576: NARROWER than '..Said'. Prove '..Said' where nothing that the law and all that it calls make is longer than what came in: it says more and counts as full. Else prove '..UptoSaid'. A law counts once. -/
mutual
def uptoBulk {H : Type} : DataW H → Nat
  | .lit (.string bytes) => bytes.length + 1
  | .lit _ => 1
  | .nil => 1
  | .ptr d => uptoBulk d + 1
  | .slice elems spare => uptoBulkAll elems + uptoBulkAll spare + 1
  | .agg parts => uptoBulkAll parts + 1
  | .iface _ d => uptoBulk d + 1
  | .map entries => uptoBulkEntries entries + 1
  | .held _ => 1
def uptoBulkAll {H : Type} : List (DataW H) → Nat
  | [] => 0
  | d :: r => uptoBulk d + uptoBulkAll r
def uptoBulkEntries {H : Type} : List (Lit × DataW H) → Nat
  | [] => 0
  | x :: r => uptoBulkEntry x + uptoBulkEntries r
def uptoBulkEntry {H : Type} : Lit × DataW H → Nat
  | (.string bytes, d) => bytes.length + uptoBulk d + 1
  | (_, d) => uptoBulk d + 1
 end
def uptoSmall : (H : Type) → List (DataW H) → Bool := fun _ ds => decide (uptoBulkAll ds ≤ 1048576)
def OpenSpec.upto (s : _root_.Go.ChangeSpec) : _root_.Go.OpenSpec := { _root_.Go.OpenSpec.ofChange s with cond := some uptoSmall }

/-- 'logkeep1.StepsHold', WHERE WHAT IT READS IS OF BULK AT MOST 1048576: true; the input reads as it did. -/
def stepsHoldUptoRow : OpenClaim := { program := "ytmcojidaimeijaa", sum := "566a4c64adc19e86c35a057ce7f210ef1dbbc7f1a78b49021ae1d64981b9293d", func := "plantlog/logkeep1.StepsHold", spec := "stepsHold", unfollowed := true, recurses := true, apart := false, narrowed := true }
def StepsHoldUptoSaid : Prop := stepsHoldUptoRow.holds Try.pinned (OpenSpec.upto stepsHoldSpec)

/-- 'logkeep1.AboveIsAbove', WHERE WHAT IT READS IS OF BULK AT MOST 1048576: true; the input reads as it did. -/
def aboveIsAboveUptoRow : OpenClaim := { program := "ytmcojidaimeijaa", sum := "566a4c64adc19e86c35a057ce7f210ef1dbbc7f1a78b49021ae1d64981b9293d", func := "plantlog/logkeep1.AboveIsAbove", spec := "aboveIsAbove", unfollowed := true, recurses := true, apart := false, narrowed := true }
def AboveIsAboveUptoSaid : Prop := aboveIsAboveUptoRow.holds Try.pinned (OpenSpec.upto aboveIsAboveSpec)

/-- 'logkeep1.StreamsAreBatches', WHERE WHAT IT READS IS OF BULK AT MOST 1048576: true; the input reads as it did. -/
def streamsAreBatchesUptoRow : OpenClaim := { program := "ytmcojidaimeijaa", sum := "566a4c64adc19e86c35a057ce7f210ef1dbbc7f1a78b49021ae1d64981b9293d", func := "plantlog/logkeep1.StreamsAreBatches", spec := "streamsAreBatches", unfollowed := true, recurses := true, apart := false, narrowed := true }
def StreamsAreBatchesUptoSaid : Prop := streamsAreBatchesUptoRow.holds Try.pinned (OpenSpec.upto streamsAreBatchesSpec)

/-- 'logkeep1.KeptAreThemselves', WHERE WHAT IT READS IS OF BULK AT MOST 1048576: true; the input reads as it did. -/
def keptAreThemselvesUptoRow : OpenClaim := { program := "ytmcojidaimeijaa", sum := "566a4c64adc19e86c35a057ce7f210ef1dbbc7f1a78b49021ae1d64981b9293d", func := "plantlog/logkeep1.KeptAreThemselves", spec := "keptAreThemselves", unfollowed := true, recurses := true, apart := false, narrowed := true }
def KeptAreThemselvesUptoSaid : Prop := keptAreThemselvesUptoRow.holds Try.pinned (OpenSpec.upto keptAreThemselvesSpec)

/-- 'logkeep1.BucketsAreWindows', WHERE WHAT IT READS IS OF BULK AT MOST 1048576: true; the input reads as it did. -/
def bucketsAreWindowsUptoRow : OpenClaim := { program := "ytmcojidaimeijaa", sum := "566a4c64adc19e86c35a057ce7f210ef1dbbc7f1a78b49021ae1d64981b9293d", func := "plantlog/logkeep1.BucketsAreWindows", spec := "bucketsAreWindows", unfollowed := true, recurses := true, apart := false, narrowed := true }
def BucketsAreWindowsUptoSaid : Prop := bucketsAreWindowsUptoRow.holds Try.pinned (OpenSpec.upto bucketsAreWindowsSpec)

/-- 'logkeep1.CrossingsCross', WHERE WHAT IT READS IS OF BULK AT MOST 1048576: true; the input reads as it did. -/
def crossingsCrossUptoRow : OpenClaim := { program := "ytmcojidaimeijaa", sum := "566a4c64adc19e86c35a057ce7f210ef1dbbc7f1a78b49021ae1d64981b9293d", func := "plantlog/logkeep1.CrossingsCross", spec := "crossingsCross", unfollowed := true, recurses := true, apart := false, narrowed := true }
def CrossingsCrossUptoSaid : Prop := crossingsCrossUptoRow.holds Try.pinned (OpenSpec.upto crossingsCrossSpec)

/-- 'logkeep1.CompressedFits', WHERE WHAT IT READS IS OF BULK AT MOST 1048576: true; the input reads as it did. -/
def compressedFitsUptoRow : OpenClaim := { program := "ytmcojidaimeijaa", sum := "566a4c64adc19e86c35a057ce7f210ef1dbbc7f1a78b49021ae1d64981b9293d", func := "plantlog/logkeep1.CompressedFits", spec := "compressedFits", unfollowed := true, recurses := true, apart := false, narrowed := true }
def CompressedFitsUptoSaid : Prop := compressedFitsUptoRow.holds Try.pinned (OpenSpec.upto compressedFitsSpec)

/-- 'logkeep1.IntegralsAddUp', WHERE WHAT IT READS IS OF BULK AT MOST 1048576: true; the input reads as it did. -/
def integralsAddUpUptoRow : OpenClaim := { program := "ytmcojidaimeijaa", sum := "566a4c64adc19e86c35a057ce7f210ef1dbbc7f1a78b49021ae1d64981b9293d", func := "plantlog/logkeep1.IntegralsAddUp", spec := "integralsAddUp", unfollowed := true, recurses := true, apart := false, narrowed := true }
def IntegralsAddUpUptoSaid : Prop := integralsAddUpUptoRow.holds Try.pinned (OpenSpec.upto integralsAddUpSpec)

/-- 'logkeep1.FramesAreFrames', WHERE WHAT IT READS IS OF BULK AT MOST 1048576: true; the input reads as it did. -/
def framesAreFramesUptoRow : OpenClaim := { program := "ytmcojidaimeijaa", sum := "566a4c64adc19e86c35a057ce7f210ef1dbbc7f1a78b49021ae1d64981b9293d", func := "plantlog/logkeep1.FramesAreFrames", spec := "framesAreFrames", unfollowed := true, recurses := true, apart := false, narrowed := true }
def FramesAreFramesUptoSaid : Prop := framesAreFramesUptoRow.holds Try.pinned (OpenSpec.upto framesAreFramesSpec)

end Rows
end Go.Proofs.Ytmcojidaimeijaa
