/- slices.Equal at windows, of one list. No condition. -/
import Derived.Test.YtjoknaglhahbaaaPressed
import Derived.Test.YtjoknaglhahbaaaWdv
import Derived.Deep.QuietTactic
import Derived.BigQuiet
namespace Go.Proofs.Ytjoknaglhahbaaa
open Go.RowKit
set_option linter.unusedVariables false
set_option linter.unusedSimpArgs false

theorem wdw_held : Try.prog.stoodInHeld 40 = false := by kernel_rfl
theorem wdw_guard : Try.prog.eqGuardType Try.prog.depth 40 = false := by kernel_rfl
theorem wdw_fields : (Try.prog.fieldsOf 40).toList.map (fun f => (f.name, f.type, f.offset)) = [("From", 3, 0), ("To", 3, 1)] := by kernel_rfl
theorem wdw_under : Try.prog.underlying 40 = some (.struct (Try.prog.fieldsOf 40)) := by kernel_rfl
theorem wdw_eqIn9 (w : World) (x y : Int × Int) : (Op.equalIn 9999 40 (.agg #[.int .i64 x.1, .int .i64 x.2]) (.agg #[.int .i64 y.1, .int .i64 y.2])).run Try.prog w = .ok (decide (x = y)) w := by
  obtain ⟨f, g, hf, f1, f2, f3, g1, g2, g3⟩ := ffields2 wdw_fields
  obtain ⟨i0, hi0, hz0, hz1, hz2⟩ := info_parts fint_size
  obtain ⟨t, v⟩ := x
  obtain ⟨t', v'⟩ := y
  rw [run_equalIn_struct w 9998 40 _ _ wdw_under wdw_held, hf]
  simp [Op.eqFields, f1, f2, f3, g1, g2, g3, part, sizeOf, typeInfo, hi0, hz1, go_sem, Try.underlying3]
  by_cases h1 : t = t' <;> by_cases h2 : v = v' <;> simp [h1, h2, Result.andThen]
theorem wdw_eqIn0 (w : World) (x y : Int × Int) : (Op.equalIn 10000 40 (.agg #[.int .i64 x.1, .int .i64 x.2]) (.agg #[.int .i64 y.1, .int .i64 y.2])).run Try.prog w = .ok (decide (x = y)) w := by
  obtain ⟨f, g, hf, f1, f2, f3, g1, g2, g3⟩ := ffields2 wdw_fields
  obtain ⟨i0, hi0, hz0, hz1, hz2⟩ := info_parts fint_size
  obtain ⟨t, v⟩ := x
  obtain ⟨t', v'⟩ := y
  rw [run_equalIn_struct w 9999 40 _ _ wdw_under wdw_held, hf]
  simp [Op.eqFields, f1, f2, f3, g1, g2, g3, part, sizeOf, typeInfo, hi0, hz1, go_sem, Try.underlying3]
  by_cases h1 : t = t' <;> by_cases h2 : v = v' <;> simp [h1, h2, Result.andThen]
theorem wdw_neq (w : World) (x : Int × Int) : (binOp .neq 40 (.agg #[.int .i64 x.1, .int .i64 x.2]) (.agg #[.int .i64 x.1, .int .i64 x.2])).run Try.prog w = .ok (.bool false) w := by
  have h := wdw_eqIn0 w x x
  rw [run_neq_struct, h]
  simp

set_option maxRecDepth 100000 in
set_option maxHeartbeats 1000000 in
theorem equalW_same (v v' : Value) (l : List (Int × Int)) (w : World) (hR : RdWdw w v l) (hR' : RdWdw w v' l) :
    Calls Try.prog 9 #[v, v'] w fun e w' => e = .returned (.bool true) ∧ ∃ m, w' = w.drewN m := by
  rcases Nat.eq_zero_or_pos l.length with h0 | h0
  · obtain rfl := List.eq_nil_of_length_eq_zero h0
    obtain ⟨_, a, c, rfl, _, _, _⟩ := hR
    obtain ⟨_, a', c', rfl, _, _, _⟩ := hR'
    clear h0
    go_enter Try.func9, Try.ntmps9
    go_wp2_with fail
    refine wp_loop_rounds 1 ?_
    rw [rounds_succ]
    go_wp2_with fail
    go_ret
    exact ⟨rfl, 0, rfl⟩
  · obtain ⟨b, off, c, rfl, hc1, hc2, hblt, hcell⟩ := RdWdw.cells hR h0
    obtain ⟨b', off', c', rfl, hc1', hc2', hblt', hcell'⟩ := RdWdw.cells hR' h0
    unfold maxLen at hc2 hc2'
    have HC := Lib.hid hcell
    have HC' := Lib.hid hcell'
    have hgd := wdw_guard
    clear hcell hcell' hR hR'
    go_enter Try.func9, Try.ntmps9
    go_wp2_with fail
    go_loopw [13] (fun i wr => ∃ j : Nat, j ≤ l.length ∧ i = .int .i64 (j : Int) ∧ ∃ m, wr = w.drewN m) (fun i _ => l.length - (intOf i).toNat)
    case atStart => exact ⟨0, by omega, rfl, 0, rfl⟩
    case round =>
      obtain ⟨j, hj, rfl, m, rfl⟩ := hrel
      by_cases hlt : j < l.length
      · obtain ⟨c0, c1⟩ := HC.out j hlt
        obtain ⟨d0, d1⟩ := HC'.out j hlt
        generalize l[j] = x at *
        have hneq := fun w => wdw_neq w x
        go_wp2_with fail
        go_quiet (fail)
        go_wp2_with fail
        go_roundw
        case rel => exact ⟨j + 1, by omega, by go_num, _, rfl⟩
        case measure => simp [intOf]; omega
      · obtain rfl : j = l.length := by omega
        go_wp2_with fail
        go_ret
        exact ⟨rfl, m, rfl⟩
end Go.Proofs.Ytjoknaglhahbaaa
