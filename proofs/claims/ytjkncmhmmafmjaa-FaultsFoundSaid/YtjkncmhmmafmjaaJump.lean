/- The contracts of Jumps (package sample), and of its reference. -/
import Derived.Test.YtjkncmhmmafmjaaRun
namespace Go.Proofs.Ytjkncmhmmafmjaa
open Go.RowKit
set_option linter.unusedVariables false

def fastB (n d : Int) (x y : Smp) : Bool := decide (n * (y.t - x.t) < max (x.v - y.v) (y.v - x.v) * d)

theorem mulP_range (a b A B : Int) (ha : 0 ≤ a ∧ a ≤ A) (hb : 0 ≤ b ∧ b ≤ B) : 0 ≤ a * b ∧ a * b ≤ A * B := by
  exact ⟨Int.mul_nonneg ha.1 hb.1, Int.mul_le_mul ha.2 hb.2 hb.1 (by omega)⟩
theorem mulN_range (a b A B : Int) (ha : 0 ≤ a ∧ a ≤ A) (hb : -B ≤ b ∧ b ≤ B) : -(A * B) ≤ a * b ∧ a * b ≤ A * B := by
  rcases Int.le_total 0 b with h | h
  · have := mulP_range a b A B ha ⟨h, hb.2⟩
    have h2 : 0 ≤ A * B := by omega
    omega
  · have := mulP_range a (-b) A B ha ⟨by omega, by omega⟩
    rw [Int.mul_neg] at this
    omega

set_option maxRecDepth 100000 in
set_option maxHeartbeats 1000000 in
theorem faster_any (x y : Smp) (n d : Int) (w : World) (hx : -1000000 ≤ x.v ∧ x.v ≤ 1000000) (hy : -1000000 ≤ y.v ∧ y.v ≤ 1000000) (htx : 0 ≤ x.t ∧ x.t ≤ 345686399999) (hty : 0 ≤ y.t ∧ y.t ≤ 345686399999)
    (hn : 0 ≤ n ∧ n ≤ 1000000) (hd : 1 ≤ d ∧ d ≤ 1000000) :
    Calls Try.prog 69 #[x.agg, y.agg, .agg #[.int .i64 n, .int .i64 d]] w fun e w' => e = .returned (.bool (fastB n d x y)) ∧ Below w.heap.size w w' := by
  have hm2 := mulN_range n (y.t - x.t) 1000000 345686400000 hn (by omega)
  unfold Smp.agg
  have hf : fastB n d x y = decide (n * (y.t - x.t) < max (x.v - y.v) (y.v - x.v) * d) := rfl
  generalize fastB n d x y = R at *
  rcases Int.le_total (x.v - y.v) (y.v - x.v) with h | h
  · have hm1 := mulP_range (y.v - x.v) d 2000000 1000000 (by omega) (by omega)
    have hR : R = decide (n * (y.t - x.t) < (y.v - x.v) * d) := by rw [hf, show max (x.v - y.v) (y.v - x.v) = y.v - x.v from by omega]
    have HR := Lib.hid hR
    clear hf hR
    rcases Int.lt_or_le (x.v - y.v) (y.v - x.v) with h' | h'
    · go_enter Try.func69, Try.ntmps69
      go_wp2_with fail
      go_ret
      exact ⟨ret_bool HR.out.symm, (((Below.refl _ w).alloc (Nat.le_refl _) _).alloc (by simp) _).alloc (by simp; omega) _⟩
    · have hz : y.v = x.v := by omega
      have hR2 : R = decide (n * (y.t - x.t) < (x.v - y.v) * d) := by rw [HR.out, show y.v - x.v = x.v - y.v from by omega]
      have HR2 := Lib.hid hR2
      have hm3 := mulP_range (x.v - y.v) d 2000000 1000000 (by omega) (by omega)
      have HZ := Lib.hid hz
      clear hR2 hz
      go_enter Try.func69, Try.ntmps69
      go_wp2_with fail
      go_ret
      exact ⟨ret_bool HR2.out.symm, (((Below.refl _ w).alloc (Nat.le_refl _) _).alloc (by simp) _).alloc (by simp; omega) _⟩
  · have hm1 := mulP_range (x.v - y.v) d 2000000 1000000 (by omega) (by omega)
    have hR : R = decide (n * (y.t - x.t) < (x.v - y.v) * d) := by rw [hf, show max (x.v - y.v) (y.v - x.v) = x.v - y.v from by omega]
    have HR := Lib.hid hR
    clear hf hR
    go_enter Try.func69, Try.ntmps69
    go_wp2_with fail
    go_ret
    exact ⟨ret_bool HR.out.symm, (((Below.refl _ w).alloc (Nat.le_refl _) _).alloc (by simp) _).alloc (by simp; omega) _⟩

/-- The indices of the jumps from index i on, the last sample that is not Bad given. -/
def jumpsF (l : List Smp) (n d : Int) (last : Option Nat) (i : Nat) : List Int :=
  if h : i < l.length then
    if (atS l i).q = 2 then jumpsF l n d last (i + 1)
    else (match last with | none => [] | some p => if fastB n d (atS l p) (atS l i) = true then [(i : Int)] else []) ++ jumpsF l n d (some i) (i + 1)
  else []
  termination_by l.length - i
theorem jumpsF_end (l : List Smp) (n d : Int) (last : Option Nat) (i : Nat) (h : l.length ≤ i) : jumpsF l n d last i = [] := by
  rw [jumpsF.eq_def, dif_neg (by omega)]
theorem jumpsF_bad (l : List Smp) (n d : Int) (last : Option Nat) (i : Nat) (h : i < l.length) (hq : (atS l i).q = 2) : jumpsF l n d last i = jumpsF l n d last (i + 1) := by
  rw [jumpsF.eq_def, dif_pos h, if_pos hq]
theorem jumpsF_first (l : List Smp) (n d : Int) (i : Nat) (h : i < l.length) (hq : (atS l i).q ≠ 2) : jumpsF l n d none i = jumpsF l n d (some i) (i + 1) := by
  rw [jumpsF.eq_def, dif_pos h, if_neg hq]; rfl
theorem jumpsF_next (l : List Smp) (n d : Int) (p i : Nat) (h : i < l.length) (hq : (atS l i).q ≠ 2) : jumpsF l n d (some p) i = (if fastB n d (atS l p) (atS l i) = true then [(i : Int)] else []) ++ jumpsF l n d (some i) (i + 1) := by
  rw [jumpsF.eq_def, dif_pos h, if_neg hq]
def lastV : Option Nat → Int
  | none => -1
  | some p => (p : Int)
end Go.Proofs.Ytjkncmhmmafmjaa
