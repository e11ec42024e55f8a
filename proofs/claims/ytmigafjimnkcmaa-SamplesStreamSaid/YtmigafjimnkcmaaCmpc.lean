/- The contract of the reference's CompressedOf: what a round keeps. -/
import Derived.Test.YtmigafjimnkcmaaCmpk
import Derived.Deep.RegionHeld3
namespace Go.Proofs.Ytmigafjimnkcmaa
open Go.RowKit
set_option linter.unusedVariables false
set_option linter.unusedSimpArgs false

structure KeK (w0 : World) (m : Nat) (s : List Int × Nat) (w : World) : Prop where
  st : KeSt w m s
  bl : Below m w0 w
theorem KeK.lt {w0 w : World} {m : Nat} {s : List Int × Nat} (h : KeK w0 m s w) : m + 1 < w.heap.size := h.st.piv.lt
theorem KeK.step {w0 w w' : World} {m : Nat} {s : List Int × Nat} {B : Nat} (h : KeK w0 m s w) (hb : Below B w w') (hB : w.heap.size ≤ B) : KeK w0 m s w' :=
  ⟨h.st.below (hb.mono hB), h.bl.trans (hb.mono (by have := h.lt; omega))⟩
theorem KeK.alloc {w0 w : World} {m : Nat} {s : List Int × Nat} (h : KeK w0 m s w) (o : Obj) : KeK w0 m s (w.alloc o) := h.step ((Below.refl _ w).alloc (Nat.le_refl _) o) (Nat.le_refl _)
theorem KeK.drewN {w0 w : World} {m : Nat} {s : List Int × Nat} (h : KeK w0 m s w) (n : Nat) : KeK w0 m s (w.drewN n) := h.step (show Below w.heap.size w (w.drewN n) from ⟨rfl, rfl, rfl, Nat.le_refl _, fun _ _ => rfl⟩) (Nat.le_refl _)
theorem enter_keep1 (args : Array Value) (w : World) : (callFunc 96 args).run Try.prog w = .ok (.enter 96 args) w := by kernel_rfl
theorem keepI_long (i : Nat) (s : List Int × Nat) : (keepI i s).1.length ≤ s.1.length + 1 := by
  unfold keepI
  split
  · exact Nat.le_succ _
  · simp
end Go.Proofs.Ytmigafjimnkcmaa
