/- The contract of checkWithin (package query), at one series and at two. -/
import Derived.Test.YtdacdiigeainmaaWinb
import Derived.Test.YtdacdiigeainmaaApp
namespace Go.Proofs.Ytdacdiigeainmaa
open Go.RowKit
set_option linter.unusedVariables false
set_option linter.unusedSimpArgs false

/-- What checkWithin keeps. -/
structure KQ (w0 : World) (f t : Int) (b : Nat) (cs : Array Value) (vs : List (Value × List Smp)) (w : World) : Prop where
  bw : Blk w w0.heap.size 49 #[.int .i64 f, .int .i64 t]
  bl : Blk w b 29 cs
  rd : ∀ p ∈ vs, RdS w 55 p.1 p.2
  be : Below w0.heap.size w0 w
theorem KQ.step {w0 w w' : World} {f t : Int} {b : Nat} {cs : Array Value} {vs : List (Value × List Smp)} (hb : Below w.heap.size w w') (h : KQ w0 f t b cs vs w) : KQ w0 f t b cs vs w' :=
  ⟨h.bw.below hb h.bw.lt, h.bl.below hb h.bl.lt, fun p hp => Rd.below (h.rd p hp) hb, h.be.trans (hb.mono h.be.size)⟩
theorem KQ.start {w : World} {f t : Int} {b : Nat} {cs : Array Value} {vs : List (Value × List Smp)} (hB : Blk w b 29 cs) (hr : ∀ p ∈ vs, RdS w 55 p.1 p.2) :
    KQ w f t b cs vs (w.alloc (.cells #[.int .i64 f, .int .i64 t] 49)) :=
  ⟨Blk.new w _ _, hB.alloc _, fun p hp => Rd.alloc (hr p hp) _, (Below.refl _ w).alloc (Nat.le_refl _) _⟩

end Go.Proofs.Ytdacdiigeainmaa
