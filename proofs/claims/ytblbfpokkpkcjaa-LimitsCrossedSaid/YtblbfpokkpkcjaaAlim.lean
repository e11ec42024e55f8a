/- A limit: how it is drawn, its error. No condition. -/
import Derived.Test.YtblbfpokkpkcjaaKmm
import Derived.Test.YtblbfpokkpkcjaaDist
namespace Go.Proofs.Ytblbfpokkpkcjaa
open Go.RowKit
set_option linter.unusedVariables false
set_option linter.unusedSimpArgs false

theorem aLimit_went (w : World) (g : Nat) (L : List Int) (A : Option Addr) (cap k : Nat) (hS : Strm w g L A cap k) (hk : k ≤ 800000000) :
    Calls Try.prog 62 #[.pointer (some ⟨g, 0, none⟩)] w fun e w' => ∃ x : Int, e = .returned (.int .i64 x) ∧ (-2000000 ≤ x ∧ x ≤ 2000000) ∧ Went w g L A cap (k + 2) w' := by
  have hlt0 := hS.lt
  go_enter Try.func62, Try.ntmps62
  go_wp2_with fail
  refine (pick_new _ _ g L A cap k [-1000001, 1000001] hS rfl (by omega) (by simp)).mono ?_
  rintro e w1 ⟨rfl, hw1⟩
  have hm1 := pk_mem [-1000001, 1000001] L k (by simp)
  simp only [List.mem_cons, List.not_mem_nil, or_false] at hm1
  generalize pk [-1000001, 1000001] L k = y at *
  have hy : -1000001 ≤ y ∧ y ≤ 1000001 := by omega
  clear hm1
  go_wp2_with fail
  refine (pick_new _ _ g L A cap (k + 1) [0, 1, 3, 5, 8, -2, 10, y] hw1.1 rfl (by omega) (by simp)).mono ?_
  rintro e w2 ⟨rfl, hw2⟩
  have hm2 := pk_mem [0, 1, 3, 5, 8, -2, 10, y] L (k + 1) (by simp)
  simp only [List.mem_cons, List.not_mem_nil, or_false] at hm2
  generalize pk [0, 1, 3, 5, 8, -2, 10, y] L (k + 1) = x at *
  go_wp2_with fail
  go_ret
  exact ⟨x, rfl, by omega, hw2.1, hw1.2.trans hw2.2⟩
theorem KM.drews {w0 w : World} {n : Nat} {v : Value} {l : List Smp} {f t : Int} (m : Nat) (h : KM w0 n f t v l w) : KM w0 n f t v l (w.drewN m) :=
  KM.step (w' := w.drewN m) (show Below w.heap.size w (w.drewN m) from ⟨rfl, rfl, rfl, Nat.le_refl _, fun _ _ => rfl⟩) h
theorem limitFault_any (n : Int) (w : World) : Calls Try.prog 65 #[.int .i64 n] w fun e w' => e = .returned (.int .i64 (if inB n (-1000000) 1000000 = false then 1 else 0)) ∧ w = w' := by
  have hsp : spanErr n (-1000000) 1000000 = if inB n (-1000000) 1000000 = false then 1 else 0 := by unfold spanErr; cases inB n (-1000000) 1000000 <;> rfl
  have hs := fun w => spanFault_any n (-1000000) 1000000 w
  rw [hsp] at hs
  clear hsp
  generalize (if inB n (-1000000) 1000000 = false then (1 : Int) else 0) = X at *
  go_enter Try.func65, Try.ntmps65
  go_wp2_with (go_at_call 83; refine (hs _).mono ?_; rintro e w' ⟨rfl, rfl⟩)
  go_ret
  exact ⟨rfl, rfl⟩
end Go.Proofs.Ytblbfpokkpkcjaa
