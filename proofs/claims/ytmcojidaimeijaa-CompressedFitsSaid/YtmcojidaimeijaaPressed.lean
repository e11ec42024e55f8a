/- pressed() is true: package compress reconstructs. -/
import Derived.Test.YtmcojidaimeijaaRecon
import Derived.Laws.StructEq
namespace Go.Proofs.Ytmcojidaimeijaa
open Go.RowKit
set_option linter.unusedVariables false
set_option linter.unusedSimpArgs false

theorem RdS.lit (w : World) (l : List Smp) (h : l.length ≤ 1000000) : RdS (w.alloc (.cells (cellsOf l).toArray 57)) 57 (.slice (some ⟨w.heap.size, 0, none⟩) l.length l.length) l :=
  ⟨cellsOf_length l, _, _, rfl, Nat.le_refl _, by simp only [maxLen]; omega, fun _ => ⟨w.heap.size, 0, _, _, rfl, heap_alloc_new w _, fun j hj => by simp⟩⟩
theorem frac_held : Try.prog.stoodInHeld 35 = false := by kernel_rfl
theorem frac_guard : Try.prog.eqGuardType Try.prog.depth 35 = false := by kernel_rfl
theorem frac_fields : (Try.prog.fieldsOf 35).toList.map (fun f => (f.name, f.type, f.offset)) = [("Num", 3, 0), ("Den", 3, 1)] := by kernel_rfl
theorem frac_under : Try.prog.underlying 35 = some (.struct (Try.prog.fieldsOf 35)) := by kernel_rfl
theorem fint_size : (Try.prog.info? 3).map (fun i => (i.zero, i.size, i.bytes)) = some (some (.int .i64 0), 1, 8) := by kernel_rfl
theorem ffields2 {fs : List Field} {a b : String × TypeId × Nat} (h : fs.map (fun f => (f.name, f.type, f.offset)) = [a, b]) :
    ∃ f g : Field, fs = [f, g] ∧ f.name = a.1 ∧ f.type = a.2.1 ∧ f.offset = a.2.2 ∧ g.name = b.1 ∧ g.type = b.2.1 ∧ g.offset = b.2.2 := by
  match fs, h with
  | [f, g], h =>
    simp only [List.map_cons, List.map_nil, List.cons.injEq, and_true] at h
    obtain ⟨h1, h2⟩ := h
    exact ⟨f, g, rfl, by rw [← h1], by rw [← h1], by rw [← h1], by rw [← h2], by rw [← h2], by rw [← h2]⟩
theorem frac_eqIn (w : World) (x y : Int × Int) : (Op.equalIn 10000 35 (.agg #[.int .i64 x.1, .int .i64 x.2]) (.agg #[.int .i64 y.1, .int .i64 y.2])).run Try.prog w = .ok (decide (x = y)) w := by
  obtain ⟨f, g, hf, f1, f2, f3, g1, g2, g3⟩ := ffields2 frac_fields
  obtain ⟨i0, hi0, hz0, hz1, hz2⟩ := info_parts fint_size
  obtain ⟨t, v⟩ := x
  obtain ⟨t', v'⟩ := y
  rw [run_equalIn_struct w 9999 35 _ _ frac_under frac_held, hf]
  simp [Op.eqFields, f1, f2, f3, g1, g2, g3, part, sizeOf, typeInfo, hi0, hz1, go_sem, Try.underlying3]
  by_cases h1 : t = t' <;> by_cases h2 : v = v' <;> simp [h1, h2, Result.andThen]

theorem pressed_E : rcE [⟨0, 0, 0⟩, ⟨4, 2, 0⟩] 1 = 0 := by
  simp [rcE, serErr, serFrom, smpErr, inB, notAfter]
theorem pressed_O : reconOf [⟨0, 0, 0⟩, ⟨4, 2, 0⟩] 1 = some (1, 2) := by
  simp [reconOf, posF, atS, lineAt, fracOf, Int.gcd]
theorem pressed_V : rcV [⟨0, 0, 0⟩, ⟨4, 2, 0⟩] 1 = (1, 2) := by
  simp [rcV, reconV, pressed_E, pressed_O]
theorem pressed_B : rcB [⟨0, 0, 0⟩, ⟨4, 2, 0⟩] 1 = true := by
  simp [rcB, reconB, pressed_E, pressed_O]

end Go.Proofs.Ytmcojidaimeijaa
