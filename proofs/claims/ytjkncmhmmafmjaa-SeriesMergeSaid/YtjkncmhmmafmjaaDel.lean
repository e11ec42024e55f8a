/- The contracts of slices.IndexFunc and slices.DeleteFunc at samples, with a condition on each sample. -/
import Derived.Test.YtjkncmhmmafmjaaRun
import Derived.Laws.CopyRow
namespace Go.Proofs.Ytjkncmhmmafmjaa
open Go.RowKit
set_option linter.unusedVariables false
set_option linter.unusedSimpArgs false

/-- The function value fn with what it captured asks p of a sample: it answers, and turns nothing that was there. -/
def Asks (w : World) (fn : FuncId) (caps : Array Value) (p : Smp → Bool) : Prop :=
  ∀ (x : Smp) (w' : World), Below w.heap.size w w' → Calls Try.prog fn (#[x.agg] ++ caps) w' fun e w'' => e = .returned (.bool (p x)) ∧ Below w'.heap.size w' w''

/-- The index of the first sample of which p holds, from i on. -/
def idxF (p : Smp → Bool) (l : List Smp) (i : Nat) : Int :=
  if h : i < l.length then (if p (atS l i) = true then (i : Int) else idxF p l (i + 1)) else -1
  termination_by l.length - i

theorem idxF_end (p : Smp → Bool) (l : List Smp) (i : Nat) (h : l.length ≤ i) : idxF p l i = -1 := by rw [idxF.eq_def, dif_neg (by omega)]
theorem idxF_step (p : Smp → Bool) (l : List Smp) (i : Nat) (h : i < l.length) : idxF p l i = if p (atS l i) = true then (i : Int) else idxF p l (i + 1) := by rw [idxF.eq_def, dif_pos h]

theorem idxF_spec (p : Smp → Bool) (l : List Smp) (i : Nat) : (idxF p l i = -1 ∧ ∀ k, i ≤ k → k < l.length → p (atS l k) = false) ∨ (∃ n : Nat, idxF p l i = (n : Int) ∧ i ≤ n ∧ n < l.length ∧ p (atS l n) = true ∧ ∀ k, i ≤ k → k < n → p (atS l k) = false) := by
  rcases Nat.lt_or_ge i l.length with h | h
  · rw [idxF_step p l i h]
    by_cases hp : p (atS l i) = true
    · rw [if_pos hp]
      exact .inr ⟨i, rfl, Nat.le_refl _, h, hp, fun k h1 h2 => by omega⟩
    · rw [if_neg hp]
      have hp' : p (atS l i) = false := by simpa using hp
      rcases idxF_spec p l (i + 1) with ⟨h1, h2⟩ | ⟨n, h1, h2, h3, h4, h5⟩
      · exact .inl ⟨h1, fun k hk1 hk2 => by
          rcases Nat.eq_or_lt_of_le hk1 with e | e
          · rw [← e]; exact hp'
          · exact h2 k e hk2⟩
      · exact .inr ⟨n, h1, by omega, h3, h4, fun k hk1 hk2 => by
          rcases Nat.eq_or_lt_of_le hk1 with e | e
          · rw [← e]; exact hp'
          · exact h5 k e hk2⟩
  · rw [idxF_end p l i h]
    exact .inl ⟨rfl, fun k h1 h2 => by omega⟩
  termination_by l.length - i

set_option maxRecDepth 100000 in
set_option maxHeartbeats 2000000 in
theorem indexFunc_any (v : Value) (l : List Smp) (w : World) (fn : FuncId) (c1 : Value) (p : Smp → Bool) (hR : RdS w 27 v l) (hlong : l.length ≤ 5000)
    (hcf : ∀ (args : Array Value) (w : World), (callFunc fn args).run Try.prog w = .ok (.enter fn args) w) (hp : Asks w fn #[c1] p) :
    Calls Try.prog 86 #[v, .func (.func fn) #[] #[c1]] w fun e w' => e = .returned (.int .i64 (idxF p l 0)) ∧ Below w.heap.size w w' := by
  have HP := Lib.hid hp
  obtain ⟨hlen1, pa, ca, rfl, na1, na2, ca3⟩ := hR
  have HR := Lib.hid (show RdS w 27 (.slice pa l.length ca) l from ⟨hlen1, pa, ca, rfl, na1, na2, ca3⟩)
  clear hlen1 ca3 hp
  go_enter Try.func86, Try.ntmps86
  go_wp2_with fail
  go_loopw [8] (fun si wr => ∃ j : Nat, j ≤ l.length ∧ si = .int .i64 (j : Int) ∧ idxF p l j = idxF p l 0 ∧ Below w.heap.size w wr) (fun si _ => l.length - (intOf si).toNat)
  case atStart => exact ⟨0, by omega, rfl, rfl, Below.refl _ _⟩
  case round =>
    obtain ⟨j, hj, rfl, hidx, hbr⟩ := hrel
    have HIDX := Lib.hid hidx
    clear hidx
    by_cases hlt : j < l.length
    · have hRr : RdS wr 27 (.slice pa l.length ca) l := Rd.below HR.out hbr
      obtain ⟨b, off, c, hv, hc1, hc2, hblt, hcell⟩ := RdS.at_ hRr (by omega)
      simp only [Value.slice.injEq, true_and] at hv
      obtain ⟨rfl, rfl⟩ := hv
      obtain ⟨c0, c1', c2⟩ := hcell j hlt
      have hstep := idxF_step p l j hlt
      generalize atS l j = x at *
      have HSTEP := Lib.hid hstep
      clear hcell hRr hstep
      unfold maxLen at hc2
      go_wp2_with fail
      refine (HP.out x _ hbr).mono ?_
      rintro e w2 ⟨rfl, hb2⟩
      generalize p x = px at *
      cases px
      · go_wp2_with fail
        go_roundw
        case rel => exact ⟨j + 1, by omega, by go_num, by rw [← HIDX.out, HSTEP.out]; simp, hbr.trans (hb2.mono hbr.size)⟩
        case measure => simp [intOf]; omega
      · go_wp2_with fail
        go_ret
        exact ⟨ret_int (by rw [← HIDX.out, HSTEP.out]; simp), hbr.trans (hb2.mono hbr.size)⟩
    · obtain rfl : j = l.length := by omega
      have hf := idxF_end p l l.length (Nat.le_refl _)
      have HF := Lib.hid hf
      clear hf
      go_wp2_with fail
      go_ret
      exact ⟨ret_int (by rw [← HIDX.out, HF.out]), hbr⟩
end Go.Proofs.Ytjkncmhmmafmjaa
