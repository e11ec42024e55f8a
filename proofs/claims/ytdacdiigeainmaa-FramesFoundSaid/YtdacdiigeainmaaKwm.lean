/- What stays readable while a query goes on. -/
import Derived.Test.YtdacdiigeainmaaQck
namespace Go.Proofs.Ytdacdiigeainmaa
open Go.RowKit
set_option linter.unusedVariables false
set_option linter.unusedSimpArgs false

/-- What stays while a query goes on. -/
structure KW (w0 : World) (v : Value) (l : List Smp) (f t : Int) (w : World) : Prop where
  rs : RdS w 55 v l
  bw : Blk w w0.heap.size 49 #[.int .i64 f, .int .i64 t]
  be : Below w0.heap.size w0 w
section
variable {w0 w w' : World} {v : Value} {l : List Smp} {f t : Int}
theorem KW.step (hb : Below w.heap.size w w') (h : KW w0 v l f t w) : KW w0 v l f t w' := ⟨Rd.below h.rs hb, h.bw.below hb h.bw.lt, h.be.trans (hb.mono h.be.size)⟩
theorem KW.drew (h : KW w0 v l f t w) : KW w0 v l f t w.drew := ⟨h.rs, h.bw, h.be.drew⟩
theorem KW.alloc (h : KW w0 v l f t w) (o : Obj) : KW w0 v l f t (w.alloc o) := KW.step ((Below.refl _ w).alloc (Nat.le_refl _) o) h
theorem KW.start (hR : RdS w 55 v l) : KW w v l f t (w.alloc (.cells #[.int .i64 f, .int .i64 t] 49)) := ⟨Rd.alloc hR _, Blk.new w _ _, (Below.refl _ w).alloc (Nat.le_refl _) _⟩
end
end Go.Proofs.Ytdacdiigeainmaa
