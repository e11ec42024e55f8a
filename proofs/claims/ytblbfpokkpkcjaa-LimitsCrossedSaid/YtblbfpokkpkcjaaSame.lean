/- Equality of samples; slices.Equal at samples. -/
import Derived.Deep.QuietTactic
import Derived.Test.YtblbfpokkpkcjaaSer
import Derived.Lib.SliceRun
import Derived.Laws.StructEq
namespace Go.Proofs.Ytblbfpokkpkcjaa
open Go.RowKit
set_option linter.unusedVariables false
set_option linter.unusedSimpArgs false

theorem smp_held : Try.prog.stoodInHeld 71 = false := by kernel_rfl
theorem smp_guard : Try.prog.eqGuardType Try.prog.depth 71 = false := by kernel_rfl
theorem smp_fields : (Try.prog.fieldsOf 71).toList.map (fun f => (f.name, f.type, f.offset)) = [("At", 3, 0), ("Value", 3, 1), ("Quality", 3, 2)] := by kernel_rfl
theorem smp_under : Try.prog.underlying 71 = some (.struct (Try.prog.fieldsOf 71)) := by kernel_rfl
theorem int_size : (Try.prog.info? 3).map (fun i => (i.zero, i.size, i.bytes)) = some (some (.int .i64 0), 1, 8) := by kernel_rfl

theorem fields3 {fs : List Field} {a b c : String × TypeId × Nat} (h : fs.map (fun f => (f.name, f.type, f.offset)) = [a, b, c]) :
    ∃ f g k : Field, fs = [f, g, k] ∧ f.name = a.1 ∧ f.type = a.2.1 ∧ f.offset = a.2.2 ∧ g.name = b.1 ∧ g.type = b.2.1 ∧ g.offset = b.2.2 ∧ k.name = c.1 ∧ k.type = c.2.1 ∧ k.offset = c.2.2 := by
  match fs, h with
  | [f, g, k], h =>
    simp only [List.map_cons, List.map_nil, List.cons.injEq, and_true] at h
    obtain ⟨h1, h2, h3⟩ := h
    exact ⟨f, g, k, rfl, by rw [← h1], by rw [← h1], by rw [← h1], by rw [← h2], by rw [← h2], by rw [← h2], by rw [← h3], by rw [← h3], by rw [← h3]⟩

theorem smp_eq (w : World) (x y : Smp) : (Op.equalIn 10000 71 x.agg y.agg).run Try.prog w = .ok (decide (x = y)) w := by
  obtain ⟨f, g, k, hf, f1, f2, f3, g1, g2, g3, k1, k2, k3⟩ := fields3 smp_fields
  obtain ⟨i0, hi0, hz0, hz1, hz2⟩ := info_parts int_size
  obtain ⟨t, v, q⟩ := x
  obtain ⟨t', v', q'⟩ := y
  unfold Smp.agg
  rw [run_equalIn_struct w 9999 71 _ _ smp_under smp_held, hf]
  simp [Op.eqFields, f1, f2, f3, g1, g2, g3, k1, k2, k3, part, sizeOf, typeInfo, hi0, hz1, go_sem, Try.underlying3]
  by_cases h1 : t = t' <;> by_cases h2 : v = v' <;> by_cases h3 : q = q' <;> simp [h1, h2, h3]
theorem smp_neq (w : World) (x y : Smp) : (binOp .neq 71 (.agg #[.int .i64 x.t, .int .i64 x.v, .int .i64 x.q]) (.agg #[.int .i64 y.t, .int .i64 y.v, .int .i64 y.q])).run Try.prog w = .ok (.bool (!(decide (x = y)))) w := by
  have h := smp_eq w x y
  unfold Smp.agg at h
  rw [run_neq_struct, h]
  rfl


set_option maxRecDepth 100000 in
set_option maxHeartbeats 1000000 in
theorem equal_any (v v' : Value) (l l' : List Smp) (w : World) (hR : RdS w 71 v l) (hR' : RdS w 71 v' l') :
    Calls Try.prog 44 #[v, v'] w fun e w' => e = .returned (.bool (decide (l = l'))) ∧ ∃ m, w' = w.drewN m := by
  by_cases hle : l.length = l'.length
  · rcases Nat.eq_zero_or_pos l.length with h0 | h0
    · obtain rfl := List.eq_nil_of_length_eq_zero h0
      obtain rfl : l' = [] := List.eq_nil_of_length_eq_zero (by simpa using hle.symm)
      obtain ⟨_, a, c, rfl, _, _, _⟩ := hR
      obtain ⟨_, a', c', rfl, _, _, _⟩ := hR'
      clear hle h0
      go_enter Try.func44, Try.ntmps44
      go_wp2_with fail
      refine wp_loop_rounds 1 ?_
      rw [rounds_succ]
      go_wp2_with fail
      go_ret
      exact ⟨rfl, 0, rfl⟩
    · obtain ⟨b, off, c, rfl, hc1, hc2, hblt, hcell⟩ := RdS.cells hR h0
      obtain ⟨b', off', c', rfl, hc1', hc2', hblt', hcell'⟩ := RdS.cells hR' (by omega)
      unfold maxLen at hc2 hc2'
      have HC := Lib.hid hcell
      have HC' := Lib.hid hcell'
      have HLE := Lib.hid hle
      have hne : ((l.length : Int) != (l'.length : Int)) = false := by rw [hle]; simp
      clear hcell hcell' hle
      go_enter Try.func44, Try.ntmps44
      go_wp2_with fail
      go_loopw [13] (fun i wr => ∃ j : Nat, j ≤ l.length ∧ i = .int .i64 (j : Int) ∧ l.take j = l'.take j ∧ ∃ m, wr = w.drewN m) (fun i _ => l.length - (intOf i).toNat)
      case atStart => exact ⟨0, by omega, rfl, by simp, 0, rfl⟩
      case round =>
        obtain ⟨j, hj, rfl, heq, m, rfl⟩ := hrel
        have HEQ := Lib.hid heq
        clear heq
        by_cases hlt : j < l.length
        · have hlt' : j < l'.length := by have := HLE.out; omega
          obtain ⟨c0, c1, c2⟩ := HC.out j hlt
          obtain ⟨d0, d1, d2⟩ := HC'.out j hlt'
          have hlt2 : (j : Int) < (l'.length : Int) := by omega
          have htk : l.take (j + 1) = l.take j ++ [l[j]] := by rw [List.take_succ_eq_append_getElem hlt]
          have htk' : l'.take (j + 1) = l'.take j ++ [l'[j]] := by rw [List.take_succ_eq_append_getElem hlt']
          have hgl : l[j]? = some l[j] := List.getElem?_eq_getElem hlt
          have hgl' : l'[j]? = some l'[j] := List.getElem?_eq_getElem hlt'
          generalize l[j] = x at *
          generalize l'[j] = y at *
          have HTK := Lib.hid htk
          have HTK' := Lib.hid htk'
          have HG := Lib.hid hgl
          have HG' := Lib.hid hgl'
          clear htk htk' hgl hgl'
          have hgd := smp_guard
          by_cases hxy : x = y
          · have hneq : ∀ w : World, (binOp .neq 71 (.agg #[.int .i64 x.t, .int .i64 x.v, .int .i64 x.q]) (.agg #[.int .i64 y.t, .int .i64 y.v, .int .i64 y.q])).run Try.prog w = .ok (.bool false) w := fun w => by rw [smp_neq, decide_eq_true hxy]; rfl
            have HXY := Lib.hid hxy
            clear hxy
            go_wp2_with fail
            go_quiet (fail)
            go_wp2_with fail
            go_roundw
            case rel => exact ⟨j + 1, by omega, by go_num, by rw [HTK.out, HTK'.out, HEQ.out, HXY.out], _, rfl⟩
            case measure => simp [intOf]; omega
          · have hneq : ∀ w : World, (binOp .neq 71 (.agg #[.int .i64 x.t, .int .i64 x.v, .int .i64 x.q]) (.agg #[.int .i64 y.t, .int .i64 y.v, .int .i64 y.q])).run Try.prog w = .ok (.bool true) w := fun w => by rw [smp_neq, decide_eq_false hxy]; rfl
            have HXY := Lib.hid hxy
            clear hxy
            go_wp2_with fail
            go_quiet (fail)
            go_wp2_with fail
            go_ret
            have hd : decide (l = l') = false := by
              refine decide_eq_false fun he => HXY.out ?_
              have h1 := HG.out
              rw [he, HG'.out] at h1
              exact (Option.some.inj h1).symm
            exact ⟨ret_bool hd.symm, _, World.drewN_drewN _ _ _⟩
        · obtain rfl : j = l.length := by omega
          have hd : decide (l = l') = true := by
            refine decide_eq_true ?_
            have h1 := HEQ.out
            rw [List.take_of_length_le (Nat.le_refl _), List.take_of_length_le (by have := HLE.out; omega)] at h1
            exact h1
          have HD := Lib.hid hd
          clear hd
          go_wp2_with fail
          go_ret
          exact ⟨ret_bool HD.out.symm, m, rfl⟩
  · obtain ⟨_, a, c, rfl, _, _, _⟩ := hR
    obtain ⟨_, a', c', rfl, _, _, _⟩ := hR'
    have hne : ((l.length : Int) != (l'.length : Int)) = true := by simp; omega
    have hd : decide (l = l') = false := decide_eq_false fun he => hle (by rw [he])
    have HD := Lib.hid hd
    clear hd hle
    go_enter Try.func44, Try.ntmps44
    go_wp2_with fail
    go_ret
    exact ⟨ret_bool HD.out.symm, 0, rfl⟩
end Go.Proofs.Ytblbfpokkpkcjaa
