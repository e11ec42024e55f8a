/- The contract of what is wrong with levels (the reference). -/
import Derived.Test.YtefbkdbjfgccpaaLvk
import Derived.BigQuiet
namespace Go.Proofs.Ytefbkdbjfgccpaa
open Go.RowKit
set_option linter.unusedVariables false
set_option linter.unusedSimpArgs false

theorem bdrewL {B : Nat} {w w' : World} (h : Below B w w') (m : Nat) : Below B w (w'.drewN m) := ⟨h.os, h.tape, h.output, h.size, h.block⟩
/-- Right levels have a step, but for the first one. -/
def LvRi (x : Int × Int) (i : Nat) : Prop := LvOk x ∧ (x.1 = 0 ↔ i = 0)
theorem lvRi_of {l : List (Int × Int)} {j : Nat} (hj : j < l.length) (h : lvErr (lvPre l j) l[j] = 0) : LvRi l[j] j := by
  refine ⟨lvErr_ok h, ?_⟩
  generalize l[j] = x at *
  unfold lvErr at h
  split at h
  · omega
  · by_cases h0 : j = 0
    · rw [show lvPre l j = none from by simp [lvPre, h0]] at h
      simp only at h
      split at h
      · rename_i h1; exact ⟨fun _ => h0, fun _ => h1⟩
      · omega
    · obtain ⟨y, hy⟩ : ∃ y, lvPre l j = some y := ⟨l[j - 1]'(by omega), by simp [lvPre, h0]⟩
      rw [hy] at h
      simp only at h
      split at h
      · omega
      · rename_i h1; exact ⟨fun h2 => absurd h2 h1, fun h2 => absurd h2 h0⟩
theorem LvRi.prev {l : List (Int × Int)} {j : Nat} (h : ∀ i (hi : i < l.length), i < j → LvRi l[i] i) (hj : j < l.length) (he : LvRi l[j] j) : ∀ i (hi : i < l.length), i < j + 1 → LvRi l[i] i := fun i hi h2 => by
  by_cases hij : i = j
  · subst hij; exact he
  · exact h i hi (by omega)

set_option maxRecDepth 100000 in
set_option maxHeartbeats 4000000 in
theorem levelsFault_any (v : Value) (l : List (Int × Int)) (w : World) (hR : RdLvl w v l) (hsm : ∀ x ∈ l, -9000000000000000000 ≤ x.1 ∧ x.1 ≤ 9000000000000000000) :
    Calls Try.prog 10 #[v] w fun e w' => e = .returned (.int .i64 (lvsErr l)) ∧ Below w.heap.size w w' := by
  have hdef : lvsErr l = if l = [] then 8 else if 6 < l.length then 2 else lvFrom none l := rfl
  rcases Nat.eq_zero_or_pos l.length with h0 | h0
  · obtain rfl := List.eq_nil_of_length_eq_zero h0
    obtain ⟨_, a, c, rfl, _, _, _⟩ := hR
    clear h0
    go_enter Try.func10, Try.ntmps10
    go_wp2_with fail
    go_ret
    exact ⟨rfl, Below.refl _ _⟩
  · rw [if_neg (fun h => by rw [h] at h0; simp at h0)] at hdef
    obtain ⟨b, off, c, rfl, hc1, hc2, hblt, hcell⟩ := RdLvl.cells hR h0
    unfold maxLen at hc2
    have HC := Lib.hid hcell
    have HSM := Lib.hid hsm
    clear hcell hR hsm
    have n0 : ((l.length : Int) == 0) = false := beq_eq_false_iff_ne.2 (by omega)
    by_cases hlong : 6 < l.length
    · rw [if_pos hlong] at hdef
      generalize lvsErr l = E at *
      have HD := Lib.hid hdef
      clear hdef
      have n1 : (6 : Int) < (l.length : Int) := by omega
      go_enter Try.func10, Try.ntmps10
      go_wp2_with fail
      go_ret
      exact ⟨ret_int HD.out.symm, Below.refl _ _⟩
    · rw [if_neg hlong] at hdef
      generalize lvsErr l = E at *
      have HD := Lib.hid hdef
      clear hdef
      have n1 : (l.length : Int) ≤ 6 := by omega
      go_enter Try.func10, Try.ntmps10
      go_wp2_with fail
      go_loopw [15] (fun i wr => ∃ j : Nat, j ≤ l.length ∧ i = .int .i64 (j : Int) ∧ lvFrom none l = lvFrom (lvPre l j) (l.drop j) ∧ (∀ i (hi : i < l.length), i < j → LvRi l[i] i) ∧ Below w.heap.size w wr) (fun i _ => l.length - (intOf i).toNat)
      case atStart => exact ⟨0, by omega, rfl, by simp [lvPre], fun i hi h => by omega, Below.refl _ _⟩
      case round =>
        obtain ⟨j, hj, rfl, hser, hok, hwr⟩ := hrel
        have HSER := Lib.hid hser
        have HOK := Lib.hid hok
        clear hser hok
        by_cases hlt : j < l.length
        · obtain ⟨c0, c1⟩ := HC.out j hlt
          rw [← hwr.cell (p := ⟨b, off + j * 2, none⟩) hblt] at c0
          rw [← hwr.cell (p := ⟨b, off + j * 2 + 1, none⟩) hblt] at c1
          have hx := HSM.out _ (List.getElem_mem hlt)
          have hstep := lvFrom_step hlt
          have hnext : lvErr (lvPre l j) l[j] = 0 → ∀ i (hi : i < l.length), i < j + 1 → LvRi l[i] i := fun he => LvRi.prev HOK.out hlt (lvRi_of hlt he)
          have hbr : b < wr.heap.size := Nat.lt_of_lt_of_le hblt hwr.size
          rcases Nat.eq_zero_or_pos j with hj0 | hj0
          · subst hj0
            rw [show lvPre l 0 = none from rfl] at hstep hnext
            have hser2 := HSER.out
            rw [show lvPre l 0 = none from rfl] at hser2
            clear HSER
            have HSER := Lib.hid hser2
            clear hser2
            generalize l[0] = x at *
            obtain ⟨s, k⟩ := x
            simp only at c0 c1 hx
            rw [show off + 0 * 2 = off from by omega] at c0 c1
            have hd : lvErr none (s, k) = if (s ≠ 0 ∧ stepB s = false) ∨ inB k 1 345686400000 = false then 1 else if s = 0 then 0 else 3 := rfl
            generalize lvErr none (s, k) = R at *
            have HSTEP := Lib.hid hstep
            have HNEXT := Lib.hid hnext
            clear hstep hnext
            by_cases h0s : s = 0
            · subst h0s
              have HS : Hid True := Lib.hid trivial
              cases hi : inB k 1 345686400000 with
              | true =>
                have HR := Lib.hid (show (0 : Int) = R from by rw [hd]; simp [hi])
                have HI := Lib.hid hi
                clear hd hi
                go_wp2_with (first | (go_at_call 23; refine (rStep_any _ _).mono ?_; rintro e w' ⟨rfl, rfl⟩; have hs' := HS.out) | (go_at_call 24; refine (in_any _ _ _ _).mono ?_; rintro e w' ⟨rfl, rfl⟩; have hi' := HI.out))
                go_quiet (fail)
                go_wp2_with (first | (go_at_call 23; refine (rStep_any _ _).mono ?_; rintro e w' ⟨rfl, rfl⟩; have hs' := HS.out) | (go_at_call 24; refine (in_any _ _ _ _).mono ?_; rintro e w' ⟨rfl, rfl⟩; have hi' := HI.out))
                go_quiet (fail)
                go_wp2_with (first | (go_at_call 23; refine (rStep_any _ _).mono ?_; rintro e w' ⟨rfl, rfl⟩; have hs' := HS.out) | (go_at_call 24; refine (in_any _ _ _ _).mono ?_; rintro e w' ⟨rfl, rfl⟩; have hi' := HI.out))
                go_roundw
                case rel => exact ⟨_, by omega, by go_num, by rw [HSER.out, HSTEP.out, if_pos HR.out.symm], HNEXT.out HR.out.symm, (by first | exact bdrewL (hwr.alloc hwr.size _) _ | exact bdrewL (bdrewL (hwr.alloc hwr.size _) _) _)⟩
                case measure => simp [intOf]; omega
              | false =>
                have HR := Lib.hid (show (1 : Int) = R from by rw [hd]; simp [hi])
                have HI := Lib.hid hi
                clear hd hi
                go_wp2_with (first | (go_at_call 23; refine (rStep_any _ _).mono ?_; rintro e w' ⟨rfl, rfl⟩; have hs' := HS.out) | (go_at_call 24; refine (in_any _ _ _ _).mono ?_; rintro e w' ⟨rfl, rfl⟩; have hi' := HI.out))
                go_ret
                exact ⟨ret_int (by rw [HD.out, HSER.out, HSTEP.out, if_neg (by rw [← HR.out]; decide), ← HR.out]), hwr.alloc hwr.size _⟩
            · have hz : (s == 0) = false := by simpa using h0s
              have hz' : (s != 0) = true := by simpa using h0s
              cases hs : stepB s with
              | true =>
                have HS := Lib.hid hs
                cases hi : inB k 1 345686400000 with
                | true =>
                  have HR := Lib.hid (show (3 : Int) = R from by rw [hd]; simp [hi, hs, h0s])
                  have HI := Lib.hid hi
                  clear hd hi hs
                  go_wp2_with (first | (go_at_call 23; refine (rStep_any _ _).mono ?_; rintro e w' ⟨rfl, rfl⟩; have hs' := HS.out) | (go_at_call 24; refine (in_any _ _ _ _).mono ?_; rintro e w' ⟨rfl, rfl⟩; have hi' := HI.out))
                  go_ret
                  exact ⟨ret_int (by rw [HD.out, HSER.out, HSTEP.out, if_neg (by rw [← HR.out]; decide), ← HR.out]), hwr.alloc hwr.size _⟩
                | false =>
                  have HR := Lib.hid (show (1 : Int) = R from by rw [hd]; simp [hi])
                  have HI := Lib.hid hi
                  clear hd hi hs
                  go_wp2_with (first | (go_at_call 23; refine (rStep_any _ _).mono ?_; rintro e w' ⟨rfl, rfl⟩; have hs' := HS.out) | (go_at_call 24; refine (in_any _ _ _ _).mono ?_; rintro e w' ⟨rfl, rfl⟩; have hi' := HI.out))
                  go_ret
                  exact ⟨ret_int (by rw [HD.out, HSER.out, HSTEP.out, if_neg (by rw [← HR.out]; decide), ← HR.out]), hwr.alloc hwr.size _⟩
              | false =>
                have HS := Lib.hid hs
                have HI : Hid True := Lib.hid trivial
                have HR := Lib.hid (show (1 : Int) = R from by rw [hd]; simp [hs, h0s])
                clear hd hs
                go_wp2_with (first | (go_at_call 23; refine (rStep_any _ _).mono ?_; rintro e w' ⟨rfl, rfl⟩; have hs' := HS.out) | (go_at_call 24; refine (in_any _ _ _ _).mono ?_; rintro e w' ⟨rfl, rfl⟩; have hi' := HI.out))
                go_ret
                exact ⟨ret_int (by rw [HD.out, HSER.out, HSTEP.out, if_neg (by rw [← HR.out]; decide), ← HR.out]), hwr.alloc hwr.size _⟩
          · obtain ⟨n, rfl⟩ : ∃ n, j = n + 1 := ⟨j - 1, by omega⟩
            obtain ⟨d0, d1⟩ := HC.out n (by omega)
            rw [← hwr.cell (p := ⟨b, off + n * 2, none⟩) hblt] at d0
            rw [← hwr.cell (p := ⟨b, off + n * 2 + 1, none⟩) hblt] at d1
            have hp : lvPre l (n + 1) = some (l[n]'(by omega)) := by simp [lvPre]
            have hri := HOK.out n (by omega) (by omega)
            rw [hp] at hstep hnext
            have hser2 := HSER.out
            rw [hp] at hser2
            clear HSER
            have HSER := Lib.hid hser2
            clear hser2
            generalize l[n + 1] = x at *
            generalize l[n]'(by omega) = y at *
            obtain ⟨s, k⟩ := x
            obtain ⟨sy, ky⟩ := y
            obtain ⟨⟨hy1, hy2⟩, hy3⟩ := hri
            simp only at hx hy1 hy2 hy3 c0 c1 d0 d1
            have hd : lvErr (some (sy, ky)) (s, k) = if (s ≠ 0 ∧ stepB s = false) ∨ inB k 1 345686400000 = false then 1 else if s = 0 then 3 else if s ≤ sy ∨ k ≤ ky then 7 else if sy ≠ 0 ∧ s.tmod sy ≠ 0 then 16 else 0 := rfl
            generalize lvErr (some (sy, ky)) (s, k) = R at *
            have HSTEP := Lib.hid hstep
            have HNEXT := Lib.hid hnext
            have HY3 := Lib.hid hy3
            clear hstep hnext hy3 hp
            have i1 : IntKind.i64.wrap (((n + 1 : Nat) : Int) - 1) = (n : Int) := by rw [show ((n + 1 : Nat) : Int) - 1 = (n : Int) from by omega]; exact IntWalk.i64_in _ (by omega)
            have i2 : IntKind.i64.wrap ((n : Int) + 1 - 1) = (n : Int) := by rw [show (n : Int) + 1 - 1 = (n : Int) from by omega]; exact IntWalk.i64_in _ (by omega)
            have i3 : (0 : Int) ≤ (n : Int) := by omega
            have i4 : (n : Int) < (n : Int) + 1 := by omega
            have i5 : ((n : Int) + 1 == 0) = false := beq_eq_false_iff_ne.2 (by omega)
            have i6 : (((n + 1 : Nat) : Int) == 0) = false := beq_eq_false_iff_ne.2 (by omega)
            have i7 : (0 : Int) < (n : Int) + 1 := by omega
            have i8 : n < l.length := by omega
            have i9 : (n : Int) < (l.length : Int) := by omega
            by_cases h0s : s = 0
            · subst h0s
              have HS : Hid True := Lib.hid trivial
              cases hi : inB k 1 345686400000 with
              | true =>
                have HR := Lib.hid (show (3 : Int) = R from by rw [hd]; simp [hi])
                have HI := Lib.hid hi
                clear hd hi
                go_wp2_with (first | (go_at_call 23; refine (rStep_any _ _).mono ?_; rintro e w' ⟨rfl, rfl⟩; have hs' := HS.out) | (go_at_call 24; refine (in_any _ _ _ _).mono ?_; rintro e w' ⟨rfl, rfl⟩; have hi' := HI.out))
                go_ret
                exact ⟨ret_int (by rw [HD.out, HSER.out, HSTEP.out, if_neg (by rw [← HR.out]; decide), ← HR.out]), hwr.alloc hwr.size _⟩
              | false =>
                have HR := Lib.hid (show (1 : Int) = R from by rw [hd]; simp [hi])
                have HI := Lib.hid hi
                clear hd hi
                go_wp2_with (first | (go_at_call 23; refine (rStep_any _ _).mono ?_; rintro e w' ⟨rfl, rfl⟩; have hs' := HS.out) | (go_at_call 24; refine (in_any _ _ _ _).mono ?_; rintro e w' ⟨rfl, rfl⟩; have hi' := HI.out))
                go_ret
                exact ⟨ret_int (by rw [HD.out, HSER.out, HSTEP.out, if_neg (by rw [← HR.out]; decide), ← HR.out]), hwr.alloc hwr.size _⟩
            · have hz : (s == 0) = false := by simpa using h0s
              have hz' : (s != 0) = true := by simpa using h0s
              cases hs : stepB s with
              | false =>
                have HS := Lib.hid hs
                have HI : Hid True := Lib.hid trivial
                have HR := Lib.hid (show (1 : Int) = R from by rw [hd]; simp [hs, h0s])
                clear hd hs
                go_wp2_with (first | (go_at_call 23; refine (rStep_any _ _).mono ?_; rintro e w' ⟨rfl, rfl⟩; have hs' := HS.out) | (go_at_call 24; refine (in_any _ _ _ _).mono ?_; rintro e w' ⟨rfl, rfl⟩; have hi' := HI.out))
                go_ret
                exact ⟨ret_int (by rw [HD.out, HSER.out, HSTEP.out, if_neg (by rw [← HR.out]; decide), ← HR.out]), hwr.alloc hwr.size _⟩
              | true =>
                have hsr := stepB_range hs
                have HS := Lib.hid hs
                cases hi : inB k 1 345686400000 with
                | false =>
                  have HR := Lib.hid (show (1 : Int) = R from by rw [hd]; simp [hi])
                  have HI := Lib.hid hi
                  clear hd hi hs
                  go_wp2_with (first | (go_at_call 23; refine (rStep_any _ _).mono ?_; rintro e w' ⟨rfl, rfl⟩; have hs' := HS.out) | (go_at_call 24; refine (in_any _ _ _ _).mono ?_; rintro e w' ⟨rfl, rfl⟩; have hi' := HI.out))
                  go_ret
                  exact ⟨ret_int (by rw [HD.out, HSER.out, HSTEP.out, if_neg (by rw [← HR.out]; decide), ← HR.out]), hwr.alloc hwr.size _⟩
                | true =>
                  have HI := Lib.hid hi
                  rw [if_neg (by simp [hs, hi]), if_neg h0s] at hd
                  by_cases h1 : s ≤ sy
                  · have h1' : decide (s ≤ sy) = true := by simpa using h1
                    have HR := Lib.hid (show (7 : Int) = R from by rw [hd]; simp [h1])
                    clear hd hi hs
                    go_wp2_with (first | (go_at_call 23; refine (rStep_any _ _).mono ?_; rintro e w' ⟨rfl, rfl⟩; have hs' := HS.out) | (go_at_call 24; refine (in_any _ _ _ _).mono ?_; rintro e w' ⟨rfl, rfl⟩; have hi' := HI.out))
                    go_quiet (fail)
                    go_wp2_with (first | (go_at_call 23; refine (rStep_any _ _).mono ?_; rintro e w' ⟨rfl, rfl⟩; have hs' := HS.out) | (go_at_call 24; refine (in_any _ _ _ _).mono ?_; rintro e w' ⟨rfl, rfl⟩; have hi' := HI.out))
                    go_ret
                    exact ⟨ret_int (by rw [HD.out, HSER.out, HSTEP.out, if_neg (by rw [← HR.out]; decide), ← HR.out]), bdrewL (hwr.alloc hwr.size _) _⟩
                  · have h1' : decide (s ≤ sy) = false := by simpa using h1
                    by_cases h2 : k ≤ ky
                    · have h2' : decide (k ≤ ky) = true := by simpa using h2
                      have HR := Lib.hid (show (7 : Int) = R from by rw [hd]; simp [h2])
                      clear hd hi hs
                      go_wp2_with (first | (go_at_call 23; refine (rStep_any _ _).mono ?_; rintro e w' ⟨rfl, rfl⟩; have hs' := HS.out) | (go_at_call 24; refine (in_any _ _ _ _).mono ?_; rintro e w' ⟨rfl, rfl⟩; have hi' := HI.out))
                      go_quiet (fail)
                      go_wp2_with (first | (go_at_call 23; refine (rStep_any _ _).mono ?_; rintro e w' ⟨rfl, rfl⟩; have hs' := HS.out) | (go_at_call 24; refine (in_any _ _ _ _).mono ?_; rintro e w' ⟨rfl, rfl⟩; have hi' := HI.out))
                      go_ret
                      exact ⟨ret_int (by rw [HD.out, HSER.out, HSTEP.out, if_neg (by rw [← HR.out]; decide), ← HR.out]), bdrewL (hwr.alloc hwr.size _) _⟩
                    · have h2' : decide (k ≤ ky) = false := by simpa using h2
                      rw [if_neg (by simp only [not_or]; exact ⟨h1, h2⟩)] at hd
                      by_cases h3 : n = 0
                      · have h3' := HY3.out.2 h3
                        subst h3'
                        have i10 : decide ((1 : Int) < (n : Int) + 1) = false := by simp; omega
                        have i11 : ¬ (1 : Int) < (n : Int) + 1 := by omega
                        have i12 : decide (0 < n) = false := by simp; omega
                        have HN := Lib.hid h3
                        clear h3
                        have HR := Lib.hid (show (0 : Int) = R from by rw [hd]; simp)
                        clear hd hi hs
                        go_wp2_with (first | (go_at_call 23; refine (rStep_any _ _).mono ?_; rintro e w' ⟨rfl, rfl⟩; have hs' := HS.out) | (go_at_call 24; refine (in_any _ _ _ _).mono ?_; rintro e w' ⟨rfl, rfl⟩; have hi' := HI.out))
                        go_quiet (fail)
                        go_wp2_with (first | (go_at_call 23; refine (rStep_any _ _).mono ?_; rintro e w' ⟨rfl, rfl⟩; have hs' := HS.out) | (go_at_call 24; refine (in_any _ _ _ _).mono ?_; rintro e w' ⟨rfl, rfl⟩; have hi' := HI.out))
                        go_quiet (fail)
                        go_wp2_with (first | (go_at_call 23; refine (rStep_any _ _).mono ?_; rintro e w' ⟨rfl, rfl⟩; have hs' := HS.out) | (go_at_call 24; refine (in_any _ _ _ _).mono ?_; rintro e w' ⟨rfl, rfl⟩; have hi' := HI.out))
                        go_roundw
                        case rel => exact ⟨_, by omega, by go_num, by rw [HSER.out, HSTEP.out, if_pos HR.out.symm], HNEXT.out HR.out.symm, (by first | exact bdrewL (hwr.alloc hwr.size _) _ | exact bdrewL (bdrewL (hwr.alloc hwr.size _) _) _)⟩
                        case measure => simp [intOf]; omega
                      · have h3' : ¬ sy = 0 := fun h => h3 (HY3.out.1 h)
                        have hsy : 1 ≤ sy ∧ sy ≤ 86400000 := by omega
                        have i10 : (1 : Int) < (n : Int) + 1 := by omega
                        have i11 : decide ((1 : Int) < (n : Int) + 1) = true := by simpa using i10
                        have i12 : decide (0 < n) = true := by simp; omega
                        have htb : 0 ≤ s.tmod sy ∧ s.tmod sy ≤ 86400000 := by
                          rw [Int.tmod_eq_emod_of_nonneg (by omega)]
                          have e1 := Int.emod_nonneg s (b := sy) (by omega)
                          have e2 := Int.emod_lt_of_pos s (b := sy) (by omega)
                          omega
                        by_cases h4 : s.tmod sy = 0
                        · have hv2 : (s % sy != 0) = false := by rw [← Int.tmod_eq_emod_of_nonneg (by omega)]; simpa using h4
                          have hv3 : (s.tmod sy != 0) = false := by simpa using h4
                          have HR := Lib.hid (show (0 : Int) = R from by rw [hd]; simp [h4])
                          clear hd hi hs h4
                          go_wp2_with (first | (go_at_call 23; refine (rStep_any _ _).mono ?_; rintro e w' ⟨rfl, rfl⟩; have hs' := HS.out) | (go_at_call 24; refine (in_any _ _ _ _).mono ?_; rintro e w' ⟨rfl, rfl⟩; have hi' := HI.out))
                          go_quiet (fail)
                          go_wp2_with (first | (go_at_call 23; refine (rStep_any _ _).mono ?_; rintro e w' ⟨rfl, rfl⟩; have hs' := HS.out) | (go_at_call 24; refine (in_any _ _ _ _).mono ?_; rintro e w' ⟨rfl, rfl⟩; have hi' := HI.out))
                          go_quiet (fail)
                          go_wp2_with (first | (go_at_call 23; refine (rStep_any _ _).mono ?_; rintro e w' ⟨rfl, rfl⟩; have hs' := HS.out) | (go_at_call 24; refine (in_any _ _ _ _).mono ?_; rintro e w' ⟨rfl, rfl⟩; have hi' := HI.out))
                          go_roundw
                          case rel => exact ⟨_, by omega, by go_num, by rw [HSER.out, HSTEP.out, if_pos HR.out.symm], HNEXT.out HR.out.symm, (by first | exact bdrewL (hwr.alloc hwr.size _) _ | exact bdrewL (bdrewL (hwr.alloc hwr.size _) _) _)⟩
                          case measure => simp [intOf]; omega
                        · have hv2 : (s % sy != 0) = true := by rw [← Int.tmod_eq_emod_of_nonneg (by omega)]; simpa using h4
                          have hv3 : (s.tmod sy != 0) = true := by simpa using h4
                          have HR := Lib.hid (show (16 : Int) = R from by rw [hd]; simp [h4, h3'])
                          clear hd hi hs h4
                          go_wp2_with (first | (go_at_call 23; refine (rStep_any _ _).mono ?_; rintro e w' ⟨rfl, rfl⟩; have hs' := HS.out) | (go_at_call 24; refine (in_any _ _ _ _).mono ?_; rintro e w' ⟨rfl, rfl⟩; have hi' := HI.out))
                          go_quiet (fail)
                          go_wp2_with (first | (go_at_call 23; refine (rStep_any _ _).mono ?_; rintro e w' ⟨rfl, rfl⟩; have hs' := HS.out) | (go_at_call 24; refine (in_any _ _ _ _).mono ?_; rintro e w' ⟨rfl, rfl⟩; have hi' := HI.out))
                          go_quiet (fail)
                          go_wp2_with (first | (go_at_call 23; refine (rStep_any _ _).mono ?_; rintro e w' ⟨rfl, rfl⟩; have hs' := HS.out) | (go_at_call 24; refine (in_any _ _ _ _).mono ?_; rintro e w' ⟨rfl, rfl⟩; have hi' := HI.out))
                          go_ret
                          exact ⟨ret_int (by rw [HD.out, HSER.out, HSTEP.out, if_neg (by rw [← HR.out]; decide), ← HR.out]), (by first | exact bdrewL (hwr.alloc hwr.size _) _ | exact bdrewL (bdrewL (hwr.alloc hwr.size _) _) _)⟩
        · obtain rfl : j = l.length := by omega
          go_wp2_with fail
          go_ret
          exact ⟨ret_int (by rw [HD.out, HSER.out, lvFrom_end]), hwr⟩
end Go.Proofs.Ytefbkdbjfgccpaa
