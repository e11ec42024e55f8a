/- queried() is true: points, and their equality. -/
import Derived.Test.YtblbfpokkpkcjaaVat
import Derived.Test.YtblbfpokkpkcjaaPressed
namespace Go.Proofs.Ytblbfpokkpkcjaa
open Go.RowKit
set_option linter.unusedVariables false
set_option linter.unusedSimpArgs false

theorem pnt_held : Try.prog.stoodInHeld 86 = false := by kernel_rfl
theorem pnt_guard : Try.prog.eqGuardType Try.prog.depth 86 = false := by kernel_rfl
theorem pnt_fields : (Try.prog.fieldsOf 86).toList.map (fun f => (f.name, f.type, f.offset)) = [("At", 3, 0), ("Value", 57, 1), ("Quality", 3, 3)] := by kernel_rfl
theorem pnt_under : Try.prog.underlying 86 = some (.struct (Try.prog.fieldsOf 86)) := by kernel_rfl
theorem fr_size : (Try.prog.info? 57).map (fun i => (i.zero, i.size, i.bytes)) = some (some (.agg #[.int .i64 0, .int .i64 0]), 2, 16) := by kernel_rfl
theorem ffields3 {fs : List Field} {a b c : String × TypeId × Nat} (h : fs.map (fun f => (f.name, f.type, f.offset)) = [a, b, c]) :
    ∃ f g k : Field, fs = [f, g, k] ∧ f.name = a.1 ∧ f.type = a.2.1 ∧ f.offset = a.2.2 ∧ g.name = b.1 ∧ g.type = b.2.1 ∧ g.offset = b.2.2 ∧ k.name = c.1 ∧ k.type = c.2.1 ∧ k.offset = c.2.2 := by
  match fs, h with
  | [f, g, k], h =>
    simp only [List.map_cons, List.map_nil, List.cons.injEq, and_true] at h
    obtain ⟨h1, h2, h3⟩ := h
    exact ⟨f, g, k, rfl, by rw [← h1], by rw [← h1], by rw [← h1], by rw [← h2], by rw [← h2], by rw [← h2], by rw [← h3], by rw [← h3], by rw [← h3]⟩
theorem frac_eqIn9 (w : World) (x y : Int × Int) : (Op.equalIn 9999 57 (.agg #[.int .i64 x.1, .int .i64 x.2]) (.agg #[.int .i64 y.1, .int .i64 y.2])).run Try.prog w = .ok (decide (x = y)) w := by
  obtain ⟨f, g, hf, f1, f2, f3, g1, g2, g3⟩ := ffields2 frac_fields
  obtain ⟨i0, hi0, hz0, hz1, hz2⟩ := info_parts fint_size
  obtain ⟨t, v⟩ := x
  obtain ⟨t', v'⟩ := y
  rw [run_equalIn_struct w 9998 57 _ _ frac_under frac_held, hf]
  simp [Op.eqFields, f1, f2, f3, g1, g2, g3, part, sizeOf, typeInfo, hi0, hz1, go_sem, Try.underlying3]
  by_cases h1 : t = t' <;> by_cases h2 : v = v' <;> simp [h1, h2, Result.andThen]
theorem pnt_eqIn (w : World) (a b c d a' b' c' d' : Int) : (Op.equalIn 10000 86 (.agg #[.int .i64 a, .int .i64 b, .int .i64 c, .int .i64 d]) (.agg #[.int .i64 a', .int .i64 b', .int .i64 c', .int .i64 d'])).run Try.prog w = .ok (decide (a = a' ∧ (b, c) = (b', c') ∧ d = d')) w := by
  obtain ⟨f, g, k, hf, f1, f2, f3, g1, g2, g3, k1, k2, k3⟩ := ffields3 pnt_fields
  obtain ⟨i0, hi0, hz0, hz1, hz2⟩ := info_parts fint_size
  obtain ⟨j0, hj0, jz0, jz1, jz2⟩ := info_parts fr_size
  have hfr := frac_eqIn9 w (b, c) (b', c')
  rw [run_equalIn_struct w 9999 86 _ _ pnt_under pnt_held, hf]
  simp only at hfr
  simp [Op.eqFields, f1, f2, f3, g1, g2, g3, k1, k2, k3, part, sizeOf, typeInfo, hi0, hz1, hj0, jz1, go_sem, Try.underlying3, hfr]
  by_cases h1 : a = a' <;> by_cases h2 : b = b' <;> by_cases h3 : c = c' <;> by_cases h4 : d = d' <;> simp [h1, h2, h3, h4, Result.andThen]

theorem queried_E : vatE [⟨0, 0, 0⟩, ⟨4, 2, 0⟩] 1 = 0 := by
  simp [vatE, serErr, serFrom, smpErr, inB, notAfter]
theorem queried_O : vatO [⟨0, 0, 0⟩, ⟨4, 2, 0⟩] false 1 = some ⟨1, 2, 0⟩ := by
  simp [vatO, queried_E, valO, posF, atS, lineAt, fracOf, Int.gcd]

set_option maxRecDepth 100000 in
set_option maxHeartbeats 1000000 in
theorem queried_any (w : World) : Calls Try.prog 61 #[] w fun e w' => e = .returned (.bool true) ∧ Below w.heap.size w w' := by
  have h1 : RdS (w.alloc (.cells #[.int .i64 0, .int .i64 0, .int .i64 0, .int .i64 4, .int .i64 2, .int .i64 0] 71)) 71 (.slice (some ⟨w.heap.size, 0, none⟩) 2 2) [⟨0, 0, 0⟩, ⟨4, 2, 0⟩] := RdS.lit w [⟨0, 0, 0⟩, ⟨4, 2, 0⟩] (by simp)
  have h2 := publicValueAt_any _ _ false 1 _ h1
  rw [queried_E, queried_O] at h2
  have H2 := Lib.hid h2
  have hgd := pnt_guard
  have heq := pnt_eqIn
  clear h1 h2
  go_enter Try.func61, Try.ntmps61
  go_wp2_with fail
  refine H2.out.mono ?_
  rintro e w1 ⟨rfl, hb⟩
  have hbw : Below w.heap.size w w1 := ((Below.refl _ w).alloc (Nat.le_refl _) _).trans (hb.mono (by simp))
  have hsz := hbw.size
  clear H2 hb
  simp only [pntV, Option.isSome_some]
  go_wp2_with fail
  go_ret
  exact ⟨rfl, hbw.alloc hsz _⟩
end Go.Proofs.Ytblbfpokkpkcjaa
