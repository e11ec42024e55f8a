/- The contracts on fractions: Lowest, the reference's divisor, and the checks of factors and limits. -/
import Derived.Test.YtjkncmhmmafmjaaSer
namespace Go.Proofs.Ytjkncmhmmafmjaa
open Go.RowKit
set_option linter.unusedVariables false
set_option linter.unusedSimpArgs false

/-- Euclid's way, with Go's remainder. -/
def euc (a b : Int) : Int := if b = 0 then a else euc b (a.tmod b)
  termination_by b.natAbs
  decreasing_by
  rename_i hb
  have := Int.natAbs_tmod a b
  rw [this]
  exact Nat.mod_lt _ (by omega)

theorem euc_zero (a : Int) : euc a 0 = a := by rw [euc]; simp
theorem euc_step (a b : Int) (h : b ≠ 0) : euc a b = euc b (a.tmod b) := by rw [euc]; simp [h]
theorem tmod_less (a b : Int) (h : b ≠ 0) : (a.tmod b).natAbs < b.natAbs := by
  rw [Int.natAbs_tmod]
  exact Nat.mod_lt _ (by omega)

def lowB (n d : Int) : Bool := decide (0 < d ∧ (euc n d = 1 ∨ euc n d = -1))

set_option maxRecDepth 100000 in
set_option maxHeartbeats 1000000 in
theorem lowest_any (n d : Int) (w : World) (hn : -9223372036854775808 ≤ n ∧ n ≤ 9223372036854775807) (hd : -9223372036854775808 ≤ d ∧ d ≤ 9223372036854775807) :
    Calls Try.prog 68 #[.agg #[.int .i64 n, .int .i64 d]] w fun e w' => e = .returned (.bool (lowB n d)) ∧ Below w.heap.size w w' := by
  by_cases h0 : d ≤ 0
  · go_enter Try.func68, Try.ntmps68
    go_wp2_with fail
    go_ret
    exact ⟨ret_bool (by simp [lowB]; omega), (Below.refl _ _).alloc (Nat.le_refl _) _⟩
  · go_enter Try.func68, Try.ntmps68
    go_wp2_with fail
    go_quiet (fail)
    go_wp2_with fail
    go_loopw [3, 4] (fun a b wr => ∃ x y : Int, a = .int .i64 x ∧ b = .int .i64 y ∧ euc n d = euc x y ∧ (-9223372036854775808 ≤ x ∧ x ≤ 9223372036854775807) ∧ (-9223372036854775808 ≤ y ∧ y ≤ 9223372036854775807) ∧ Below w.heap.size w wr) (fun _ b _ => (intOf b).natAbs)
    case atStart => exact ⟨n, d, rfl, rfl, rfl, hn, hd, bdrewN ((Below.refl _ _).alloc (Nat.le_refl _) _) _⟩
    case round =>
      obtain ⟨x, y, rfl, rfl, he, hx, hy, hwr⟩ := hrel
      have HE := Lib.hid he
      clear he
      by_cases hy0 : y = 0
      · subst hy0
        have hz := euc_zero x
        have HZ := Lib.hid hz
        clear hz
        by_cases h1 : x = 1
        · subst h1
          go_wp2_with fail
          go_ret
          exact ⟨ret_bool (by simp [lowB, HE.out, HZ.out]; omega), hwr⟩
        · have h1' : (x == 1) = false := by simpa using h1
          have H1 := Lib.hid h1
          clear h1
          go_wp2_with fail
          go_ret
          exact ⟨ret_bool (by have := H1.out; rw [lowB, HE.out, HZ.out, Bool.eq_iff_iff]; simp; omega), hwr⟩
      · have hy0' : (y != 0) = true := by simpa using hy0
        have hs := euc_step x y hy0
        have hl := tmod_less x y hy0
        have htb : -9223372036854775808 ≤ x.tmod y ∧ x.tmod y ≤ 9223372036854775807 := by omega
        have HS := Lib.hid hs
        clear hs
        go_wp2_with fail
        go_quiet (fail)
        go_wp2_with fail
        go_roundw
        case rel => exact ⟨y, x.tmod y, rfl, rfl, HE.out.trans HS.out, hy, htb, bdrewN hwr _⟩
        case measure => exact hl

set_option maxRecDepth 100000 in
set_option maxHeartbeats 1000000 in
theorem divisor_any (n d : Int) (w : World) (hn : -9223372036854775808 ≤ n ∧ n ≤ 9223372036854775807) (hd : -9223372036854775808 ≤ d ∧ d ≤ 9223372036854775807) :
    Calls Try.prog 70 #[.int .i64 n, .int .i64 d] w fun e w' => e = .returned (.int .i64 (max (euc n d) (wrap64 (-(euc n d))))) ∧ ∃ m, w' = w.drewN m := by
  go_enter Try.func70, Try.ntmps70
  go_wp2_with fail
  go_loopw [0, 1] (fun a b wr => ∃ x y : Int, a = .int .i64 x ∧ b = .int .i64 y ∧ euc n d = euc x y ∧ (-9223372036854775808 ≤ x ∧ x ≤ 9223372036854775807) ∧ (-9223372036854775808 ≤ y ∧ y ≤ 9223372036854775807) ∧ ∃ m, wr = w.drewN m) (fun _ b _ => (intOf b).natAbs)
  case atStart => exact ⟨n, d, rfl, rfl, rfl, hn, hd, 0, rfl⟩
  case round =>
    obtain ⟨x, y, rfl, rfl, he, hx, hy, m, rfl⟩ := hrel
    have HE := Lib.hid he
    clear he
    by_cases hy0 : y = 0
    · subst hy0
      have hz := euc_zero x
      have HZ := Lib.hid hz
      clear hz
      go_wp2_with fail
      all_goals go_ret
      all_goals exact ⟨ret_int (by rw [HE.out, HZ.out]; omega), m, rfl⟩
    · have hy0' : (y != 0) = true := by simpa using hy0
      have hs := euc_step x y hy0
      have hl := tmod_less x y hy0
      have htb : -9223372036854775808 ≤ x.tmod y ∧ x.tmod y ≤ 9223372036854775807 := by omega
      have HS := Lib.hid hs
      clear hs
      go_wp2_with fail
      go_quiet (fail)
      go_wp2_with fail
      go_roundw
      case rel => exact ⟨y, x.tmod y, rfl, rfl, HE.out.trans HS.out, hy, htb, _, World.drewN_drewN _ _ _⟩
      case measure => exact hl

theorem wrap64_range (x : Int) : -9223372036854775808 ≤ wrap64 x ∧ wrap64 x ≤ 9223372036854775807 := by
  unfold wrap64; omega
theorem div_one (e : Int) (h : -9223372036854775808 ≤ e ∧ e ≤ 9223372036854775807) : max e (wrap64 (-e)) = 1 ↔ e = 1 ∨ e = -1 := by
  unfold wrap64; omega
theorem euc_range (n d : Int) (hn : -9223372036854775808 ≤ n ∧ n ≤ 9223372036854775807) (hd : -9223372036854775808 ≤ d ∧ d ≤ 9223372036854775807) : -9223372036854775808 ≤ euc n d ∧ euc n d ≤ 9223372036854775807 := by
  by_cases h : d = 0
  · subst h; rw [euc_zero]; exact hn
  · rw [euc_step n d h]
    have hl := tmod_less n d h
    exact euc_range d (n.tmod d) hd (by omega)
  termination_by d.natAbs
  decreasing_by exact tmod_less n d h

/-- What is wrong with a factor and an offset. -/
def facErr (n d o : Int) : Int := if lowB n d = false then 3 else if inB n (-1000000) 1000000 = false ∨ 1000000 < d ∨ inB o (-1000000) 1000000 = false then 1 else 0

set_option maxRecDepth 100000 in
set_option maxHeartbeats 1000000 in
theorem factorFault_any (n d o : Int) (w : World) (hn : -9223372036854775808 ≤ n ∧ n ≤ 9223372036854775807) (hd : -9223372036854775808 ≤ d ∧ d ≤ 9223372036854775807) :
    Calls Try.prog 35 #[.agg #[.int .i64 n, .int .i64 d], .int .i64 o] w fun e w' => e = .returned (.int .i64 (facErr n d o)) ∧ Below w.heap.size w w' := by
  have hfin : facErr n d o = if lowB n d = false then 3 else if inB n (-1000000) 1000000 = false ∨ 1000000 < d ∨ inB o (-1000000) 1000000 = false then 1 else 0 := rfl
  have hlow : lowB n d = true ↔ (0 < d ∧ max (euc n d) (wrap64 (-(euc n d))) = 1) := by rw [div_one _ (euc_range n d hn hd)]; simp [lowB]
  have hdv := divisor_any n d
  generalize max (euc n d) (wrap64 (-(euc n d))) = E at *
  generalize facErr n d o = F at *
  have HF := Lib.hid hfin
  have HDV := Lib.hid hdv
  clear hfin hdv
  by_cases h0 : d < 1
  · have hlw : lowB n d = false := by rw [← Bool.not_eq_true, hlow]; omega
    have HLW := Lib.hid hlw
    clear hlow hlw
    go_enter Try.func35, Try.ntmps35
    go_wp2_with fail
    go_ret
    exact ⟨ret_int (by rw [HF.out, if_pos HLW.out]), (Below.refl _ _).alloc (Nat.le_refl _) _⟩
  · by_cases hE : E = 1
    · have hlw : lowB n d = true := by rw [hlow]; omega
      have HLW := Lib.hid hlw
      have hE' : (E != 1) = false := by simpa using hE
      clear hlow hlw hE
      go_enter Try.func35, Try.ntmps35
      go_wp2_with (first | (go_at_call 70; refine (HDV.out _ hn hd).mono ?_; rintro e w' ⟨rfl, m, rfl⟩) | (go_at_call 51; refine (in_any _ _ _ _).mono ?_; rintro e w' ⟨rfl, rfl⟩))
      all_goals go_ret
      all_goals exact ⟨ret_int (by rw [HF.out, HLW.out]; simp_all), bdrewN ((Below.refl _ _).alloc (Nat.le_refl _) _) _⟩
    · have hlw : lowB n d = false := by rw [← Bool.not_eq_true, hlow]; omega
      have HLW := Lib.hid hlw
      have hE' : (E != 1) = true := by simpa using hE
      clear hlow hlw hE
      go_enter Try.func35, Try.ntmps35
      go_wp2_with (first | (go_at_call 70; refine (HDV.out _ hn hd).mono ?_; rintro e w' ⟨rfl, m, rfl⟩) | (go_at_call 51; refine (in_any _ _ _ _).mono ?_; rintro e w' ⟨rfl, rfl⟩))
      all_goals go_ret
      all_goals exact ⟨ret_int (by rw [HF.out, if_pos HLW.out]), bdrewN ((Below.refl _ _).alloc (Nat.le_refl _) _) _⟩

/-- What is wrong with limits. -/
def limErr (lo hi : Int) : Int := if lo < -1000000 ∨ hi < lo ∨ 1000000 < hi then 1 else 0
set_option maxHeartbeats 1000000 in
theorem limitFault_any (lo hi : Int) (w : World) : Calls Try.prog 36 #[.int .i64 lo, .int .i64 hi] w fun e w' => e = .returned (.int .i64 (limErr lo hi)) ∧ w = w' := by
  have hfin : limErr lo hi = if inB lo (-1000000) hi = false ∨ 1000000 < hi then 1 else 0 := by
    unfold limErr inB
    by_cases h1 : lo < -1000000 ∨ hi < lo ∨ 1000000 < hi
    · rw [if_pos h1, if_pos (by simp; omega)]
    · rw [if_neg h1, if_neg (by simp; omega)]
  generalize limErr lo hi = F at *
  have HF := Lib.hid hfin
  clear hfin
  go_enter Try.func36, Try.ntmps36
  go_wp2_with (go_at_call 51; refine (in_any _ _ _ _).mono ?_; rintro e w' ⟨rfl, rfl⟩)
  all_goals go_ret
  all_goals exact ⟨ret_int (by rw [HF.out]; simp_all), rfl⟩

def sgn (n : Int) : Int := if n < 0 then -1 else if 0 < n then 1 else 0
set_option maxHeartbeats 1000000 in
theorem sign_any (n : Int) (w : World) : Calls Try.prog 76 #[.int .i64 n] w fun e w' => e = .returned (.int .i64 (sgn n)) ∧ w = w' := by
  have hfin : sgn n = if n < 0 then -1 else if 0 < n then 1 else 0 := rfl
  generalize sgn n = F at *
  have HF := Lib.hid hfin
  clear hfin
  go_enter Try.func76, Try.ntmps76
  go_wp2_with fail
  all_goals go_ret
  all_goals exact ⟨ret_int (by rw [HF.out]; first | rw [if_pos (by omega)] | rw [if_neg (by omega), if_pos (by omega)] | rw [if_neg (by omega), if_neg (by omega)]), rfl⟩

/-- Half away from 0. -/
def rndP (n d : Int) : Int := (2 * n + d) / (2 * d)
def rnd (n d : Int) : Int := if n < 0 then -(rndP (-n) d) else rndP n d
set_option maxHeartbeats 1000000 in
theorem rounded_pos (n d : Int) (w : World) (hn : 0 ≤ n ∧ n ≤ 1000000000000000) (hd : 1 ≤ d ∧ d ≤ 1000000) : Calls Try.prog 74 #[.int .i64 n, .int .i64 d] w fun e w' => e = .returned (.int .i64 (rndP n d)) ∧ w = w' := by
  go_enter Try.func74, Try.ntmps74
  go_wp2_with fail
  go_ret
  exact ⟨rfl, rfl⟩
theorem rndP_range (n d : Int) (hn : 0 ≤ n) (hd : 1 ≤ d) : 0 ≤ rndP n d ∧ rndP n d ≤ n + 1 := by
  unfold rndP
  have h1 : 0 ≤ (2 * n + d) / (2 * d) := Int.ediv_nonneg (by omega) (by omega)
  refine ⟨h1, ?_⟩
  have h2 : (2 * n + d) / (2 * d) < n + 2 := by
    rw [Int.ediv_lt_iff_lt_mul (by omega)]
    have : n * d ≥ n := by have := Int.mul_le_mul_of_nonneg_left hd hn; omega
    have h3 : (n + 2) * (2 * d) = 2 * (n * d) + 4 * d := by rw [Int.add_mul, Int.mul_left_comm]; omega
    omega
  omega
set_option maxHeartbeats 1000000 in
theorem rounded_any (n d : Int) (w : World) (hn : -1000000000000000 ≤ n ∧ n ≤ 1000000000000000) (hd : 1 ≤ d ∧ d ≤ 1000000) : Calls Try.prog 74 #[.int .i64 n, .int .i64 d] w fun e w' => e = .returned (.int .i64 (rnd n d)) ∧ w = w' := by
  by_cases h : n < 0
  · have h2 := rndP_range (-n) d (by omega) (by omega)
    have hfin : rnd n d = -(rndP (-n) d) := by unfold rnd; rw [if_pos h]
    have HF := Lib.hid hfin
    clear hfin
    go_enter Try.func74, Try.ntmps74
    go_wp2_with (go_at_call 74; refine (rounded_pos _ _ _ (by omega) hd).mono ?_; rintro e w' ⟨rfl, rfl⟩)
    go_ret
    exact ⟨ret_int HF.out.symm, rfl⟩
  · have hfin : rnd n d = rndP n d := by unfold rnd; rw [if_neg h]
    rw [hfin]
    exact rounded_pos n d w (by omega) hd
end Go.Proofs.Ytjkncmhmmafmjaa
