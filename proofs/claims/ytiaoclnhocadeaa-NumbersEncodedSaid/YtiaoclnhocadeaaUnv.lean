/- The contracts of Unvarint (package block), and of the reference's UnvarintOf. -/
import Derived.Deep.DeepCutAuto
import Derived.Test.YtiaoclnhocadeaaVar
namespace Go.Proofs.Ytiaoclnhocadeaa
open Go.RowKit
set_option linter.unusedVariables false
set_option linter.unusedSimpArgs false

theorem bits_or_i64 (a c n : Nat) (ha : a < 2 ^ n) (hac : a + c * 2 ^ n < 9223372036854775808) : bits .or .i64 (a : Int) ((c * 2 ^ n : Nat) : Int) = ((a + c * 2 ^ n : Nat) : Int) := by
  have h0 : a ||| c * 2 ^ n = a + c * 2 ^ n := by
    have := Nat.two_pow_add_eq_or_of_lt ha c
    rw [Nat.or_comm, Nat.mul_comm, ← this, Nat.add_comm]
  have h1 : (BitVec.ofInt 64 (a : Int)).toNat = a := by
    rw [BitVec.ofInt_natCast, BitVec.toNat_ofNat]; exact Nat.mod_eq_of_lt (by omega)
  have h2 : (BitVec.ofInt 64 ((c * 2 ^ n : Nat) : Int)).toNat = c * 2 ^ n := by
    rw [BitVec.ofInt_natCast, BitVec.toNat_ofNat]; exact Nat.mod_eq_of_lt (by omega)
  show IntKind.i64.wrap ((BitVec.ofInt 64 (a : Int) ||| BitVec.ofInt 64 ((c * 2 ^ n : Nat) : Int)).toNat : Int) = _
  rw [BitVec.toNat_or, h1, h2, h0]
  exact IntWalk.i64_in _ (by omega)
/-- A group more. -/
theorem grp_or (l : List Int) (a k : Nat) (hk : k < 6) : bits .or .i64 ((grp l a k : Nat) : Int) (l.getD (a + k) 0 % 128 * 2 ^ (7 * k)) = ((grp l a (k + 1) : Nat) : Int) := by
  have hg := grp_lt l a k
  have e7 : (128 : Nat) ^ k = 2 ^ (7 * k) := by rw [Nat.pow_mul]
  have hx : ∃ c : Nat, l.getD (a + k) 0 % 128 = (c : Int) ∧ c ≤ 127 := ⟨(l.getD (a + k) 0 % 128).toNat, by omega, by omega⟩
  obtain ⟨c, hc, hc'⟩ := hx
  have e : grp l a (k + 1) = grp l a k + c * 2 ^ (7 * k) := by
    show grp l a k + ((l.getD (a + k) 0) % 128).toNat * 128 ^ k = _
    rw [hc, e7]; simp
  rw [hc, e]
  rw [e7] at hg
  have hp : (2 : Nat) ^ (7 * k) ≤ 2 ^ 35 := Nat.pow_le_pow_right (by omega) (by omega)
  have hm := Nat.mul_le_mul_right (2 ^ (7 * k)) hc'
  have h35 : (2 : Nat) ^ 35 = 34359738368 := by decide
  have := bits_or_i64 (grp l a k) c (7 * k) hg (by omega)
  rw [← this]
  congr 1
theorem ret3_int {a b c a' b' c' : Int} (h1 : a = a') (h2 : b = b') (h3 : c = c') : Ending.returned (.tuple #[.int .i64 a, .int .i64 b, .int .i64 c]) = .returned (.tuple #[.int .i64 a', .int .i64 b', .int .i64 c']) := by rw [h1, h2, h3]
theorem grp6 (l : List Int) (a k : Nat) (hk : k < 6) : grp l a (k + 1) < 4398046511104 := by
  have h1 := grp_lt l a (k + 1)
  have h2 : (128 : Nat) ^ (k + 1) ≤ 128 ^ 6 := Nat.pow_le_pow_right (by omega) (by omega)
  have h3 : (128 : Nat) ^ 6 = 4398046511104 := by decide
  omega
theorem grp_wrap (l : List Int) (a k : Nat) (hk : k < 6) : IntKind.i64.wrap (l.getD (a + k) 0 % 128 * 2 ^ (7 * k)) = l.getD (a + k) 0 % 128 * 2 ^ (7 * k) := by
  have hx : ∃ c : Nat, l.getD (a + k) 0 % 128 = (c : Int) ∧ c ≤ 127 := ⟨(l.getD (a + k) 0 % 128).toNat, by omega, by omega⟩
  obtain ⟨c, hc, hc'⟩ := hx
  rw [hc]
  have hp : (2 : Nat) ^ (7 * k) ≤ 2 ^ 35 := Nat.pow_le_pow_right (by omega) (by omega)
  have hm := Nat.mul_le_mul_right (2 ^ (7 * k)) hc'
  have h35 : (2 : Nat) ^ 35 = 34359738368 := by decide
  have e : (c : Int) * 2 ^ (7 * k) = ((c * 2 ^ (7 * k) : Nat) : Int) := by rw [Int.natCast_mul, Int.natCast_pow]; rfl
  rw [e]
  exact IntWalk.i64_in _ (by omega)

set_option maxRecDepth 100000 in
set_option maxHeartbeats 2000000 in
theorem unvarint_any (v : Value) (l : List Int) (a : Nat) (w : World) (hR : RdB w v l) (hB : IsB l) (ha : a ≤ l.length) (hlong : l.length ≤ 1000000000) :
    Calls Try.prog 21 #[v, .int .i64 (a : Int)] w fun e w' => e = .returned (.tuple #[.int .i64 (unv l a 0).1, .int .i64 (unv l a 0).2.1, .int .i64 (unv l a 0).2.2]) ∧ w = w' := by
  obtain ⟨pa, ca, rfl, hc1, hc2⟩ := hR.lenv
  unfold maxLen at hc2
  have HR := Lib.hid hR
  have HB := Lib.hid hB
  clear hR hB
  have hin := fun w => within_any a 0 l.length w
  have hin' : inB a 0 l.length = true := inB_true.2 (by omega)
  rw [hin'] at hin
  clear hin'
  rcases Nat.lt_or_ge a l.length with hlt | hge
  · have hca : ¬ ca = a := by omega
    obtain ⟨b, off, c, hv, hc3, hc4, hblt, hcell⟩ := HR.out.cells (by omega)
    cases hv
    have HC := Lib.hid hcell
    clear hcell
    have hN : ∃ N : Nat, (N = 6 ∧ a + 6 ≤ l.length ∨ a + N = l.length ∧ N < 6) := by
      rcases Nat.lt_or_ge (l.length - a) 6 with h | h
      · exact ⟨l.length - a, .inr ⟨by omega, h⟩⟩
      · exact ⟨6, .inl ⟨rfl, by omega⟩⟩
    obtain ⟨N, hN⟩ := hN
    have hnn : N ≤ 6 ∧ a + N ≤ l.length := by omega
    have hend : ¬ (N < 6 ∧ a + N < l.length) := by omega
    have HEND := Lib.hid hend
    clear hend
    rcases hN with ⟨rfl, h6⟩ | ⟨h6, hN6⟩
    · have h6' : ¬ ((l.length : Int) < (a : Int) + 6) := by omega
      go_enter Try.func21, Try.ntmps21
      go_wp2_with (go_at_call 44; refine (hin _).mono ?_; rintro e w' ⟨rfl, rfl⟩)
      go_loop [7, 26] (fun z i => ∃ k : Nat, k ≤ 6 ∧ i = .int .i64 (k : Int) ∧ z = .int .i64 ((grp l a k : Nat) : Int) ∧ unv l a 0 = unv l a k) (fun _ i => 6 - (intOf i).toNat)
      case atStart => exact ⟨0, by omega, rfl, rfl, rfl⟩
      case round =>
        obtain ⟨k, hk, rfl, rfl, hu⟩ := hrel
        have HU := Lib.hid hu
        clear hu
        by_cases hlt2 : k < 6
        · have c0 : w.cell? ⟨b, off + a + k, none⟩ = some (.int .u8 (l.getD (a + k) 0)) := by rw [Nat.add_assoc]; exact HC.out (a + k) (by omega)
          have hx := HB.out.getD (a + k)
          have h1 : (k : Int) < (6 : Int) := by omega
          have hor : bits .or .i64 ((grp l a k : Nat) : Int) (wrap64 (l.getD (a + k) 0 % 128 * 2 ^ (7 * k))) = ((grp l a (k + 1) : Nat) : Int) := by
            rw [← IntWalk.i64_left, grp_wrap l a k (by omega)]
            exact grp_or l a k (by omega)
          have hG : grp l a (k + 1) < 4398046511104 := grp6 l a k (by omega)
          have hgo := fun (h : (128 : Int) ≤ l.getD (a + k) 0) => unv_go (b := l) (a := a) (k := k) (by omega) (by omega) h
          have hok := fun (h3 : l.getD (a + k) 0 < (128 : Int)) h4 h5 => unv_ok (b := l) (a := a) (k := k) (by omega) (by omega) h3 h4 h5
          have hbad := fun h => unv_bad (b := l) (a := a) (k := k) h
          generalize hG' : grp l a (k + 1) = G at *
          have hun := fun w => unzigzag_any G w (by omega)
          have hiv := fun w => isVarint_any (unzig G) w
          have HG' := Lib.hid hG'
          clear hG'
          generalize l.getD (a + k) 0 = x at *
          have hw1 : IntKind.i64.wrap (x % 128) = x % 128 := IntWalk.i64_in _ (by omega)
          generalize hgk : grp l a k = gk at *
          have HGO := Lib.hid hgo
          have HOK := Lib.hid hok
          have HBAD := Lib.hid hbad
          clear hgo hok hbad hgk
          by_cases h128 : (128 : Int) ≤ x
          · have hd : decide ((128 : Int) ≤ x) = true := by simpa using h128
            have HR2 := Lib.hid (HGO.out h128)
            clear hun hiv
            go_wp2_with fail
            go_round
            case rel => exact ⟨k + 1, by omega, by go_num, by rw [HG'.out], by rw [HU.out, HR2.out]⟩
            case measure => simp [intOf]; omega
          · have hd : decide ((128 : Int) ≤ x) = false := by simpa using h128
            by_cases hn : x = 0 ∧ 0 < k
            · have HR2 := Lib.hid (HBAD.out (.inr ⟨by omega, .inl hn⟩))
              obtain ⟨hx0, hk0⟩ := hn
              have hx0' : (x == 0) = true := by simpa using hx0
              have hk0' : decide (0 < (k : Int)) = true := by simpa using hk0
              clear hx0
              clear hiv
              go_wp2_with (go_at_call 45; refine (hun _).mono ?_; rintro e w' ⟨rfl, rfl⟩)
              rw [HU.out, HR2.out]
              go_ret3
              exact ⟨rfl, rfl⟩
            · by_cases hi : inB (unzig G) (-1000000000000) 1000000000000 = true
              · have HR2 := Lib.hid (HOK.out (by omega) hn (inB_inV.1 hi))
                rw [hi] at hiv
                have HI := Lib.hid hi
                clear hi
                by_cases hx0 : x = 0
                · have hx0' : (x == 0) = true := by simpa using hx0
                  have hk0' : decide (0 < k) = false := by simp; omega
                  clear hx0 hn
                  go_wp2_with (first
                    | (go_at_call 45; refine (hun _).mono ?_; rintro e w' ⟨rfl, rfl⟩)
                    | (go_at_call 42; refine (hiv _).mono ?_; rintro e w' ⟨rfl, rfl⟩))
                  rw [HU.out, HR2.out]
                  go_ret3
                  exact ⟨ret3_int rfl (by simp at hk0'; omega) rfl, rfl⟩
                · have hx0' : (x == 0) = false := by simpa using hx0
                  clear hx0 hn
                  go_wp2_with (first
                    | (go_at_call 45; refine (hun _).mono ?_; rintro e w' ⟨rfl, rfl⟩)
                    | (go_at_call 42; refine (hiv _).mono ?_; rintro e w' ⟨rfl, rfl⟩))
                  rw [HU.out, HR2.out]
                  go_ret3
                  exact ⟨ret3_int rfl (by omega) rfl, rfl⟩
              · have hi' : inB (unzig G) (-1000000000000) 1000000000000 = false := by simpa using hi
                have HR2 := Lib.hid (HBAD.out (.inr ⟨by omega, .inr fun h => hi (inB_inV.2 h)⟩))
                rw [hi'] at hiv
                clear hi hi'
                by_cases hx0 : x = 0
                · have hx0' : (x == 0) = true := by simpa using hx0
                  have hk0' : decide (0 < k) = false := by simp; omega
                  clear hx0 hn
                  go_wp2_with (first
                    | (go_at_call 45; refine (hun _).mono ?_; rintro e w' ⟨rfl, rfl⟩)
                    | (go_at_call 42; refine (hiv _).mono ?_; rintro e w' ⟨rfl, rfl⟩))
                  rw [HU.out, HR2.out]
                  go_ret3
                  exact ⟨rfl, rfl⟩
                · have hx0' : (x == 0) = false := by simpa using hx0
                  clear hx0 hn
                  go_wp2_with (first
                    | (go_at_call 45; refine (hun _).mono ?_; rintro e w' ⟨rfl, rfl⟩)
                    | (go_at_call 42; refine (hiv _).mono ?_; rintro e w' ⟨rfl, rfl⟩))
                  rw [HU.out, HR2.out]
                  go_ret3
                  exact ⟨rfl, rfl⟩
        · obtain rfl : k = 6 := by omega
          have HR2 := Lib.hid (unv_bad (b := l) (a := a) (k := _) (.inl HEND.out))
          go_wp2_with fail
          rw [HU.out, HR2.out]
          go_ret3
          exact ⟨rfl, rfl⟩
    · have h6' : ((l.length : Int) < (a : Int) + 6) := by omega
      have e6 : l.length - a = N := by omega
      have H6 := Lib.hid e6
      clear e6
      go_enter Try.func21, Try.ntmps21
      go_wp2_with (go_at_call 44; refine (hin _).mono ?_; rintro e w' ⟨rfl, rfl⟩)
      rw [H6.out]
      go_loop [7, 26] (fun z i => ∃ k : Nat, k ≤ N ∧ i = .int .i64 (k : Int) ∧ z = .int .i64 ((grp l a k : Nat) : Int) ∧ unv l a 0 = unv l a k) (fun _ i => 6 - (intOf i).toNat)
      case atStart => exact ⟨0, by omega, rfl, rfl, rfl⟩
      case round =>
        obtain ⟨k, hk, rfl, rfl, hu⟩ := hrel
        have HU := Lib.hid hu
        clear hu
        by_cases hlt2 : k < N
        · have c0 : w.cell? ⟨b, off + a + k, none⟩ = some (.int .u8 (l.getD (a + k) 0)) := by rw [Nat.add_assoc]; exact HC.out (a + k) (by omega)
          have hx := HB.out.getD (a + k)
          have h1 : (k : Int) < (N : Int) := by omega
          have hor : bits .or .i64 ((grp l a k : Nat) : Int) (wrap64 (l.getD (a + k) 0 % 128 * 2 ^ (7 * k))) = ((grp l a (k + 1) : Nat) : Int) := by
            rw [← IntWalk.i64_left, grp_wrap l a k (by omega)]
            exact grp_or l a k (by omega)
          have hG : grp l a (k + 1) < 4398046511104 := grp6 l a k (by omega)
          have hgo := fun (h : (128 : Int) ≤ l.getD (a + k) 0) => unv_go (b := l) (a := a) (k := k) (by omega) (by omega) h
          have hok := fun (h3 : l.getD (a + k) 0 < (128 : Int)) h4 h5 => unv_ok (b := l) (a := a) (k := k) (by omega) (by omega) h3 h4 h5
          have hbad := fun h => unv_bad (b := l) (a := a) (k := k) h
          generalize hG' : grp l a (k + 1) = G at *
          have hun := fun w => unzigzag_any G w (by omega)
          have hiv := fun w => isVarint_any (unzig G) w
          have HG' := Lib.hid hG'
          clear hG'
          generalize l.getD (a + k) 0 = x at *
          have hw1 : IntKind.i64.wrap (x % 128) = x % 128 := IntWalk.i64_in _ (by omega)
          generalize hgk : grp l a k = gk at *
          have HGO := Lib.hid hgo
          have HOK := Lib.hid hok
          have HBAD := Lib.hid hbad
          clear hgo hok hbad hgk
          by_cases h128 : (128 : Int) ≤ x
          · have hd : decide ((128 : Int) ≤ x) = true := by simpa using h128
            have HR2 := Lib.hid (HGO.out h128)
            clear hun hiv
            go_wp2_with fail
            go_round
            case rel => exact ⟨k + 1, by omega, by go_num, by rw [HG'.out], by rw [HU.out, HR2.out]⟩
            case measure => simp [intOf]; omega
          · have hd : decide ((128 : Int) ≤ x) = false := by simpa using h128
            by_cases hn : x = 0 ∧ 0 < k
            · have HR2 := Lib.hid (HBAD.out (.inr ⟨by omega, .inl hn⟩))
              obtain ⟨hx0, hk0⟩ := hn
              have hx0' : (x == 0) = true := by simpa using hx0
              have hk0' : decide (0 < (k : Int)) = true := by simpa using hk0
              clear hx0
              clear hiv
              go_wp2_with (go_at_call 45; refine (hun _).mono ?_; rintro e w' ⟨rfl, rfl⟩)
              rw [HU.out, HR2.out]
              go_ret3
              exact ⟨rfl, rfl⟩
            · by_cases hi : inB (unzig G) (-1000000000000) 1000000000000 = true
              · have HR2 := Lib.hid (HOK.out (by omega) hn (inB_inV.1 hi))
                rw [hi] at hiv
                have HI := Lib.hid hi
                clear hi
                by_cases hx0 : x = 0
                · have hx0' : (x == 0) = true := by simpa using hx0
                  have hk0' : decide (0 < k) = false := by simp; omega
                  clear hx0 hn
                  go_wp2_with (first
                    | (go_at_call 45; refine (hun _).mono ?_; rintro e w' ⟨rfl, rfl⟩)
                    | (go_at_call 42; refine (hiv _).mono ?_; rintro e w' ⟨rfl, rfl⟩))
                  rw [HU.out, HR2.out]
                  go_ret3
                  exact ⟨ret3_int rfl (by simp at hk0'; omega) rfl, rfl⟩
                · have hx0' : (x == 0) = false := by simpa using hx0
                  clear hx0 hn
                  go_wp2_with (first
                    | (go_at_call 45; refine (hun _).mono ?_; rintro e w' ⟨rfl, rfl⟩)
                    | (go_at_call 42; refine (hiv _).mono ?_; rintro e w' ⟨rfl, rfl⟩))
                  rw [HU.out, HR2.out]
                  go_ret3
                  exact ⟨ret3_int rfl (by omega) rfl, rfl⟩
              · have hi' : inB (unzig G) (-1000000000000) 1000000000000 = false := by simpa using hi
                have HR2 := Lib.hid (HBAD.out (.inr ⟨by omega, .inr fun h => hi (inB_inV.2 h)⟩))
                rw [hi'] at hiv
                clear hi hi'
                by_cases hx0 : x = 0
                · have hx0' : (x == 0) = true := by simpa using hx0
                  have hk0' : decide (0 < k) = false := by simp; omega
                  clear hx0 hn
                  go_wp2_with (first
                    | (go_at_call 45; refine (hun _).mono ?_; rintro e w' ⟨rfl, rfl⟩)
                    | (go_at_call 42; refine (hiv _).mono ?_; rintro e w' ⟨rfl, rfl⟩))
                  rw [HU.out, HR2.out]
                  go_ret3
                  exact ⟨rfl, rfl⟩
                · have hx0' : (x == 0) = false := by simpa using hx0
                  clear hx0 hn
                  go_wp2_with (first
                    | (go_at_call 45; refine (hun _).mono ?_; rintro e w' ⟨rfl, rfl⟩)
                    | (go_at_call 42; refine (hiv _).mono ?_; rintro e w' ⟨rfl, rfl⟩))
                  rw [HU.out, HR2.out]
                  go_ret3
                  exact ⟨rfl, rfl⟩
        · obtain rfl : k = N := by omega
          have HR2 := Lib.hid (unv_bad (b := l) (a := a) (k := _) (.inl HEND.out))
          go_wp2_with fail
          rw [HU.out, HR2.out]
          go_ret3
          exact ⟨rfl, rfl⟩
  · obtain rfl : a = l.length := by omega
    have hu : unv l l.length 0 = (0, 0, 9) := unv_bad (.inl (by omega))
    rw [hu]
    clear hu
    by_cases hca : ca = l.length
    all_goals
      go_enter Try.func21, Try.ntmps21
      go_wp2_with (go_at_call 44; refine (hin _).mono ?_; rintro e w' ⟨rfl, rfl⟩)
      refine wp_loop_rounds 1 ?_
      rw [rounds_succ]
      go_wp2_with fail
      go_ret3
      exact ⟨rfl, rfl⟩
end Go.Proofs.Ytiaoclnhocadeaa
