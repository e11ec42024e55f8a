/- That the statements' sampled holds: package sample merges series. -/
import Derived.Test.YtjkncmhmmafmjaaMerge
import Derived.Test.YtjkncmhmmafmjaaErrs
namespace Go.Proofs.Ytjkncmhmmafmjaa
open Go.RowKit
set_option linter.unusedVariables false
set_option linter.unusedSimpArgs false

theorem RdS.lit (w : World) (l : List Smp) (h : l.length ≤ 1000000) : RdS (w.alloc (.cells (cellsOf l).toArray 27)) 27 (.slice (some ⟨w.heap.size, 0, none⟩) l.length l.length) l :=
  ⟨cellsOf_length l, _, _, rfl, Nat.le_refl _, by simp only [maxLen]; omega, fun _ => ⟨w.heap.size, 0, _, _, rfl, heap_alloc_new w _, fun j hj => by simp⟩⟩

theorem sampled_E : mergeE [⟨1, 5, 0⟩] [⟨2, 6, 0⟩] = 0 := by
  simp [mergeE, orErr2, serErr, serFrom, smpErr, inB, notAfter, algn]
theorem sampled_R : mergeR [⟨1, 5, 0⟩] [⟨2, 6, 0⟩] = [⟨1, 5, 0⟩, ⟨2, 6, 0⟩] := by
  simp [mergeR, sampled_E, algn]

set_option maxRecDepth 100000 in
set_option maxHeartbeats 1000000 in
theorem sampled_any (w : World) : Calls Try.prog 20 #[] w fun e w' => e = .returned (.bool true) ∧ Below w.heap.size w w' := by
  have h1 : RdS (w.alloc (.cells #[.int .i64 1, .int .i64 5, .int .i64 0] 27)) 27 (.slice (some ⟨w.heap.size, 0, none⟩) 1 1) [⟨1, 5, 0⟩] := RdS.lit w [⟨1, 5, 0⟩] (by simp)
  have h2 : RdS ((w.alloc (.cells #[.int .i64 1, .int .i64 5, .int .i64 0] 27)).alloc (.cells #[.int .i64 2, .int .i64 6, .int .i64 0] 27)) 27 (.slice (some ⟨w.heap.size + 1, 0, none⟩) 1 1) [⟨2, 6, 0⟩] := by
    have := RdS.lit (w.alloc (.cells #[.int .i64 1, .int .i64 5, .int .i64 0] 27)) [⟨2, 6, 0⟩] (by simp)
    rwa [World.size_alloc] at this
  have H1 := Lib.hid h1
  have H2 := Lib.hid h2
  clear h1 h2
  go_enter Try.func20, Try.ntmps20
  go_wp2_with fail
  refine (merge_any _ _ [⟨1, 5, 0⟩] [⟨2, 6, 0⟩] _ (Rd.alloc H1.out _) H2.out).mono ?_
  rintro e w1 ⟨v', rfl, hr, hb⟩
  rw [sampled_R] at hr
  rw [sampled_E]
  obtain ⟨b, off, c, rfl, hc1, hc2, hblt, hcell⟩ := RdS.cells hr (by simp)
  obtain ⟨_, c1, _⟩ := hcell 1 (by simp)
  have c1' : w1.cell? ⟨b, off + 4, none⟩ = some (.int .i64 6) := by simpa [Nat.add_assoc] using c1
  clear hcell c1
  simp only [List.length_cons, List.length_nil, Nat.zero_add, Nat.reduceAdd] at *
  go_wp2_with fail
  go_ret
  exact ⟨rfl, (((Below.refl _ w).alloc (Nat.le_refl _) _).alloc (by simp) _).trans (hb.mono (by simp; omega))⟩

theorem errs2_any (w : World) (b : Nat) (x y : Int) (hB : Blk w b 34 #[.int .i64 x, .int .i64 y]) :
    Calls Try.prog 12 #[.slice (some ⟨b, 0, none⟩) 2 2] w fun e w' => e = .returned (.int .i64 (if x ≠ 0 then x else y)) ∧ w = w' := by
  refine (errs_any w b [x, y] hB (by simp)).mono fun e w' h => ⟨?_, h.2⟩
  rw [h.1]
  refine ret_int ?_
  simp only [firstErr]
  split <;> (try split) <;> omega
end Go.Proofs.Ytjkncmhmmafmjaa
