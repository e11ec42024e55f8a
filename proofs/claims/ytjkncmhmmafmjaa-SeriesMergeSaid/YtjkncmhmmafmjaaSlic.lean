/- The contracts of SliceOf's test and of SliceOf (the reference). -/
import Derived.Test.YtjkncmhmmafmjaaDele
namespace Go.Proofs.Ytjkncmhmmafmjaa
open Go.RowKit
set_option linter.unusedVariables false
set_option linter.unusedSimpArgs false

/-- Whether a sample lies outside of the window. -/
def outB (f t : Int) (x : Smp) : Bool := decide (x.t < f ∨ t ≤ x.t)

set_option maxHeartbeats 1000000 in
theorem sliceOf1_any (x : Smp) (b : Nat) (f t : Int) (w : World) (hB : Blk w b 32 #[.int .i64 f, .int .i64 t]) :
    Calls Try.prog 59 #[x.agg, .pointer (some ⟨b, 0, none⟩)] w fun e w' => e = .returned (.bool (outB f t x)) ∧ Below w.heap.size w w' := by
  have hb := hB.lt
  have c0 : w.cell? ⟨b, 0, none⟩ = some (.int .i64 f) := hB.cell 0
  have c1 : w.cell? ⟨b, 1, none⟩ = some (.int .i64 t) := hB.cell 1
  clear hB
  unfold Smp.agg
  have hout : outB f t x = decide (x.t < f ∨ t ≤ x.t) := rfl
  have HO := Lib.hid hout
  clear hout
  obtain ⟨s, v, q⟩ := x
  simp only at *
  by_cases h1 : s < f
  · go_enter Try.func59, Try.ntmps59
    go_wp2_with fail
    go_ret
    exact ⟨ret_bool (by rw [HO.out]; simp; omega), (Below.refl _ _).alloc (Nat.le_refl _) _⟩
  · by_cases h2 : t ≤ s
    · go_enter Try.func59, Try.ntmps59
      go_wp2_with fail
      go_ret
      exact ⟨ret_bool (by rw [HO.out]; simp; omega), (Below.refl _ _).alloc (Nat.le_refl _) _⟩
    · go_enter Try.func59, Try.ntmps59
      go_wp2_with fail
      go_ret
      exact ⟨ret_bool (by rw [HO.out]; simp; omega), (Below.refl _ _).alloc (Nat.le_refl _) _⟩

theorem enter_sliceOf1 (args : Array Value) (w : World) : (callFunc 59 args).run Try.prog w = .ok (.enter 59 args) w := by kernel_rfl

/-- The samples that lie in the window. -/
def slicF (f t : Int) (l : List Smp) : List Smp := l.filter fun x => !outB f t x

set_option maxRecDepth 100000 in
set_option maxHeartbeats 2000000 in
theorem sliceOf_any (v : Value) (l : List Smp) (f t : Int) (w : World) (hR : RdS w 27 v l) (hlong : l.length ≤ 5000) :
    Calls Try.prog 15 #[v, .agg #[.int .i64 f, .int .i64 t]] w fun e w' => ∃ v', e = .returned v' ∧ RdS w' 27 v' (slicF f t l) ∧ Below w.heap.size w w' := by
  have hB := Blk.new w 32 #[.int .i64 f, .int .i64 t]
  have HB := Lib.hid hB
  have HR := Lib.hid hR
  clear hB
  obtain ⟨pa, ca, rfl⟩ : ∃ pa ca, v = .slice pa l.length ca := by obtain ⟨_, pa, ca, rfl, _⟩ := hR; exact ⟨pa, ca, rfl⟩
  clear hR
  go_enter Try.func15, Try.ntmps15
  go_wp2_with fail
  refine (clone_any _ l _ (Rd.alloc HR.out _) (by omega)).mono ?_
  rintro e w1 ⟨v1, rfl, hown, hb1⟩
  have hbw1 : Blk w1 w.heap.size 32 #[.int .i64 f, .int .i64 t] := HB.out.below hb1 (by simp)
  have hb01 : Below (w.heap.size + 1) (w.alloc (.cells #[.int .i64 f, .int .i64 t] 32)) w1 := by simpa using hb1
  have hw1 : w.heap.size + 1 ≤ w1.heap.size := by have := hb1.size; simpa using this
  have HBW := Lib.hid hbw1
  have hask : AsksB (w.heap.size + 1) w1 59 #[.pointer (some ⟨w.heap.size, 0, none⟩)] (outB f t) := by
    intro x w' hb'
    exact sliceOf1_any x w.heap.size f t w' (HBW.out.below hb' (by omega))
  have hown' : w1.ownsRow (w.heap.size + 1) 27 3 v1 l.length (cellsOf l) := by simpa using hown
  have HA := Lib.hid hask
  have HO := Lib.hid hown'
  clear hown hown' hask hb1 hbw1
  go_wp2_with fail
  refine (deleteFunc_any v1 l w1 (w.heap.size + 1) _ _ (outB f t) HO.out hw1 hlong enter_sliceOf1 HA.out).mono ?_
  rintro e w2 ⟨v2, rfl, hr2, hb2⟩
  go_wp2_with fail
  go_ret
  exact ⟨v2, rfl, hr2, ((Below.refl _ w).alloc (Nat.le_refl _) _).trans ((hb01.trans hb2).mono (by omega))⟩
end Go.Proofs.Ytjkncmhmmafmjaa
