/- Plain mathematics of varints: digits in base 128, the zigzag form, decoding. -/
import Derived.WalkKit
namespace Go.Proofs.Ytiaoclnhocadeaa
set_option linter.unusedVariables false
set_option linter.unusedSimpArgs false

/-- The bytes of a number from 0 on in groups of seven bits. -/
def vb (z : Nat) : List Int := if z < 128 then [(z : Int)] else ((z % 128 + 128 : Nat) : Int) :: vb (z / 128)
termination_by z
decreasing_by omega

theorem vb_small {z : Nat} (h : z < 128) : vb z = [(z : Int)] := by rw [vb.eq_def, if_pos h]
theorem vb_big {z : Nat} (h : ¬ z < 128) : vb z = ((z % 128 + 128 : Nat) : Int) :: vb (z / 128) := by rw [vb.eq_def, if_neg h]
theorem vb_bytes (z : Nat) : ∀ x ∈ vb z, 0 ≤ x ∧ x < 256 := by
  induction z using vb.induct with
  | case1 z h => rw [vb_small h]; intro x hx; simp at hx; omega
  | case2 z h ih =>
    rw [vb_big h]; intro x hx
    rcases List.mem_cons.mp hx with rfl | hx
    · omega
    · exact ih x hx
theorem vb_pos (z : Nat) : 0 < (vb z).length := by rw [vb.eq_def]; split <;> simp
theorem vb_len_le (z : Nat) : ∀ k, z < 128 ^ (k + 1) → (vb z).length ≤ k + 1 := by
  induction z using vb.induct with
  | case1 z h => rw [vb_small h]; intro k _; simp
  | case2 z h ih =>
    rw [vb_big h]; intro k hk
    rcases k with _ | k
    · simp at hk; omega
    · have := ih k (by rw [Nat.pow_succ] at hk; omega)
      simp; omega
theorem vb_len_ge (z : Nat) : ∀ k, 128 ^ k ≤ z → k + 1 ≤ (vb z).length := by
  induction z using vb.induct with
  | case1 z h =>
    rw [vb_small h]; intro k hk
    rcases k with _ | k
    · simp
    · rw [Nat.pow_succ] at hk; have := Nat.pow_pos (n := k) (show 0 < 128 by omega); omega
  | case2 z h ih =>
    rw [vb_big h]; intro k hk
    rcases k with _ | k
    · simp
    · have := ih k (by rw [Nat.pow_succ] at hk; omega)
      simp; omega

def inV (n : Int) : Prop := -1000000000000 ≤ n ∧ n ≤ 1000000000000
instance (n : Int) : Decidable (inV n) := by unfold inV; infer_instance
def zig (n : Int) : Nat := if n < 0 then (-2 * n - 1).toNat else (2 * n).toNat
def unzig (z : Nat) : Int := if z % 2 = 1 then -((z / 2 : Nat) : Int) - 1 else ((z / 2 : Nat) : Int)
theorem zig_unzig (z : Nat) : zig (unzig z) = z := by unfold zig unzig; split <;> split <;> omega
theorem unzig_zig (n : Int) : unzig (zig n) = n := by unfold zig unzig; split <;> split <;> omega
theorem zig_lt {n : Int} (h : inV n) : zig n ≤ 2000000000000 := by unfold zig; unfold inV at h; split <;> omega
theorem zig_neg {n : Int} (h : n < 0) : ((zig n : Nat) : Int) = -2 * n - 1 := by unfold zig; rw [if_pos h]; omega
theorem zig_nonneg {n : Int} (h : ¬ n < 0) : ((zig n : Nat) : Int) = 2 * n := by unfold zig; rw [if_neg h]; omega
theorem vb_zig_len {n : Int} (h : inV n) : (vb (zig n)).length ≤ 6 := vb_len_le _ 5 (by have := zig_lt h; omega)

/-- The checksum. -/
def csum (l : List Int) : Int := l.foldl (fun s c => (s * 31 + c + 1) % 65521) 1
theorem csum_snoc (l : List Int) (c : Int) : csum (l ++ [c]) = (csum l * 31 + c + 1) % 65521 := by simp [csum]
theorem csum_range (l : List Int) : 0 ≤ csum l ∧ csum l < 65521 := by
  rcases List.eq_nil_or_concat l with rfl | ⟨l, c, rfl⟩
  · simp [csum]
  · rw [List.concat_eq_append, csum_snoc]; omega

/-- What the first k groups are. -/
def grp (b : List Int) (a : Nat) : Nat → Nat
  | 0 => 0
  | k + 1 => grp b a k + ((b.getD (a + k) 0) % 128).toNat * 128 ^ k
theorem grp_lt (b : List Int) (a k : Nat) : grp b a k < 128 ^ k := by
  induction k with
  | zero => simp [grp]
  | succ k ih =>
    unfold grp
    rw [Nat.pow_succ]
    have h : ((b.getD (a + k) 0) % 128).toNat ≤ 127 := by omega
    have := Nat.mul_le_mul_right (128 ^ k) h
    omega

/-- Decoding from group k on. -/
def unv (b : List Int) (a : Nat) (k : Nat) : Int × Int × Int :=
  if k < 6 ∧ a + k < b.length then
    if 128 ≤ b.getD (a + k) 0 then unv b a (k + 1)
    else if (b.getD (a + k) 0 = 0 ∧ 0 < k) ∨ ¬ inV (unzig (grp b a (k + 1))) then (0, 0, 9) else (unzig (grp b a (k + 1)), ((a + k + 1 : Nat) : Int), 0)
  else (0, 0, 9)
termination_by 6 - k
decreasing_by omega

theorem unv_go {b : List Int} {a k : Nat} (h1 : k < 6) (h2 : a + k < b.length) (h3 : 128 ≤ b.getD (a + k) 0) : unv b a k = unv b a (k + 1) := by
  rw [unv.eq_def, if_pos ⟨h1, h2⟩, if_pos h3]
theorem unv_ok {b : List Int} {a k : Nat} (h1 : k < 6) (h2 : a + k < b.length) (h3 : b.getD (a + k) 0 < 128) (h4 : ¬ (b.getD (a + k) 0 = 0 ∧ 0 < k)) (h5 : inV (unzig (grp b a (k + 1)))) :
    unv b a k = (unzig (grp b a (k + 1)), ((a + k + 1 : Nat) : Int), 0) := by
  rw [unv.eq_def, if_pos ⟨h1, h2⟩, if_neg (by omega), if_neg (by rintro (h | h) <;> contradiction)]
theorem unv_bad {b : List Int} {a k : Nat} (h : ¬ (k < 6 ∧ a + k < b.length) ∨ (b.getD (a + k) 0 < 128 ∧ ((b.getD (a + k) 0 = 0 ∧ 0 < k) ∨ ¬ inV (unzig (grp b a (k + 1)))))) :
    unv b a k = (0, 0, 9) := by
  rw [unv.eq_def]
  by_cases h1 : k < 6 ∧ a + k < b.length
  · rw [if_pos h1]
    rcases h with h | ⟨h, h'⟩
    · contradiction
    · rw [if_neg (by omega), if_pos h']
  · rw [if_neg h1]

/-- The number of a varint's bytes tells whether its last byte is needless. -/
theorem vb_exact {b : List Int} {a k : Nat} (h0 : 0 ≤ b.getD (a + k) 0) (h3 : b.getD (a + k) 0 < 128) (h4 : ¬ (b.getD (a + k) 0 = 0 ∧ 0 < k)) : (vb (grp b a (k + 1))).length = k + 1 := by
  have h1 := vb_len_le _ k (grp_lt b a (k + 1))
  rcases Nat.eq_zero_or_pos k with rfl | hk
  · have := vb_pos (grp b a (0 + 1)); omega
  · have h2 : 128 ^ k ≤ grp b a (k + 1) := by
      unfold grp
      have h : 1 ≤ ((b.getD (a + k) 0) % 128).toNat := by omega
      have := Nat.mul_le_mul_right (128 ^ k) h
      omega
    have := vb_len_ge _ k h2
    omega
theorem vb_short {b : List Int} {a k : Nat} (h : b.getD (a + k) 0 = 0) (hk : 0 < k) : (vb (grp b a (k + 1))).length ≠ k + 1 := by
  have e : grp b a (k + 1) = grp b a k := by show grp b a k + ((b.getD (a + k) 0) % 128).toNat * 128 ^ k = _; rw [h]; simp
  rw [e]
  obtain ⟨k, rfl⟩ : ∃ j, k = j + 1 := ⟨k - 1, by omega⟩
  have := vb_len_le _ k (grp_lt b a (k + 1))
  omega
/-- What is longer than six groups is out of range, or has a needless byte. -/
theorem unv_long {b : List Int} {a k : Nat} (hk : 6 ≤ k) (h0 : 0 < b.getD (a + k) 0) (h3 : b.getD (a + k) 0 < 128) : ¬ inV (unzig (grp b a (k + 1))) := by
  have h2 : 128 ^ k ≤ grp b a (k + 1) := by
    unfold grp
    have h : 1 ≤ ((b.getD (a + k) 0) % 128).toNat := by omega
    have := Nat.mul_le_mul_right (128 ^ k) h
    omega
  have h4 : 128 ^ 6 ≤ 128 ^ k := Nat.pow_le_pow_right (by omega) hk
  have h5 : (128 : Nat) ^ 6 = 4398046511104 := by decide
  intro h
  unfold inV unzig at h
  split at h <;> omega
end Go.Proofs.Ytiaoclnhocadeaa
