/- The contracts of the cost of levels, and of what is wrong with them (package retain and its reference). -/
import Derived.Test.YtefbkdbjfgccpaaLvk
import Derived.BigQuiet
import Derived.StillTailTactics
namespace Go.Proofs.Ytefbkdbjfgccpaa
open Go.RowKit
set_option linter.unusedVariables false
set_option linter.unusedSimpArgs false

theorem lvSum_take {rate : Int} {l : List (Int × Int)} {j : Nat} (h : j < l.length) : lvSum rate (l.take (j + 1)) = lvSum rate (l.take j) + lvCost rate l[j] := by
  rw [List.take_succ_eq_append_getElem h, lvSum_append]; simp [lvSum]
theorem lvSum_takeB {rate : Int} (hr : 1 ≤ rate ∧ rate ≤ 1000000) {l : List (Int × Int)} (hl : ∀ x ∈ l, LvOk x) (h6 : l.length ≤ 6) (j : Nat) : 0 ≤ lvSum rate (l.take j) ∧ lvSum rate (l.take j) ≤ 2400000000000000000 := by
  have h := lvSum_bounds hr (l.take j) (fun x hx => hl x (List.mem_of_mem_take hx))
  have h2 : (l.take j).length ≤ 6 := by rw [List.length_take]; omega
  omega

set_option maxRecDepth 100000 in
set_option maxHeartbeats 1000000 in
theorem rcostSum_any (rate : Int) (hr : 1 ≤ rate ∧ rate ≤ 1000000) (v : Value) (l : List (Int × Int)) (w : World) (hR : RdLvl w v l) (hl : ∀ x ∈ l, LvOk x) (h6 : l.length ≤ 6) :
    Calls Try.prog 12 #[v, .int .i64 rate] w fun e w' => e = .returned (.int .i64 (lvSum rate l)) ∧ Below w.heap.size w w' := by
  rcases Nat.eq_zero_or_pos l.length with h0 | h0
  · obtain rfl := List.eq_nil_of_length_eq_zero h0
    obtain ⟨_, a, c, rfl, _, _, _⟩ := hR
    clear h0
    go_enter Try.func12, Try.ntmps12
    go_wp2_with fail
    refine wp_loop_rounds 1 ?_
    rw [rounds_succ]
    go_wp2_with fail
    go_ret
    exact ⟨rfl, Below.refl _ _⟩
  · obtain ⟨b, off, c, rfl, hc1, hc2, hblt, hcell⟩ := RdLvl.cells hR h0
    unfold maxLen at hc2
    have HC := Lib.hid hcell
    have HL := Lib.hid hl
    clear hcell hR hl
    go_enter Try.func12, Try.ntmps12
    go_wp2_with fail
    go_loopw [5, 10] (fun s i wr => ∃ j : Nat, j ≤ l.length ∧ i = .int .i64 (j : Int) ∧ s = .int .i64 (lvSum rate (l.take j)) ∧ Below w.heap.size w wr) (fun _ i _ => l.length - (intOf i).toNat)
    case atStart => exact ⟨0, by omega, rfl, rfl, Below.refl _ _⟩
    case round =>
      obtain ⟨j, hj, rfl, rfl, hwr⟩ := hrel
      by_cases hlt : j < l.length
      · obtain ⟨c0, c1⟩ := HC.out j hlt
        rw [← hwr.cell (p := ⟨b, off + j * 2, none⟩) hblt] at c0
        rw [← hwr.cell (p := ⟨b, off + j * 2 + 1, none⟩) hblt] at c1
        have hx := HL.out _ (List.getElem_mem hlt)
        have hs1 := lvSum_takeB hr HL.out h6 (j + 1)
        have hs0 := lvSum_takeB hr HL.out h6 j
        have hst := lvSum_take (rate := rate) hlt
        generalize l[j] = x at *
        generalize lvSum rate (l.take j) = S at *
        obtain ⟨S1, hS1⟩ : ∃ S1, S1 = lvSum rate (l.take (j + 1)) := ⟨_, rfl⟩
        rw [← hS1] at hs1 hst
        have HS1 := Lib.hid hS1
        clear hS1
        have hcb := cost_bounds hr hx
        generalize hC : lvCost rate x = C at *
        have hws : IntKind.i64.wrap (S + C) = S1 := by rw [← hst]; exact IntWalk.i64_in _ (by omega)
        have HQ := Lib.hid (fun W => rcostOf_any x rate hr hx W)
        rw [hC] at HQ
        have HST := Lib.hid hst
        clear hst hx hC
        go_wp2_with fail
        refine (HQ.out _).mono ?_
        rintro e w1 ⟨rfl, hb1⟩
        have hw1 : Below w.heap.size w w1 := (hwr.alloc hwr.size _).trans (hb1.mono (by have := hwr.size; simp; omega))
        clear hb1 hwr
        go_wp2_with fail
        go_roundw
        case rel => exact ⟨j + 1, by omega, by go_num, by rw [HS1.out], hw1⟩
        case measure => simp [intOf]; omega
      · obtain rfl : j = l.length := by omega
        go_wp2_with fail
        go_ret
        exact ⟨ret_int (by rw [List.take_length]), hwr⟩

set_option maxRecDepth 100000 in
set_option maxHeartbeats 1000000 in
theorem checkFirst_any (x : Int × Int) (v : Option Addr) (c : Nat) (w : World) :
    Calls Try.prog 30 #[.agg #[.int .i64 x.1, .int .i64 x.2], .slice v 0 c] w fun e w' => e = .returned (.int .i64 (lvErr none x)) ∧ Below w.heap.size w w' := by
  obtain ⟨s, k⟩ := x
  have hd : lvErr none (s, k) = if (s ≠ 0 ∧ stepB s = false) ∨ inB k 1 345686400000 = false then 1 else if s = 0 then 0 else 3 := rfl
  by_cases h0 : s = 0
  · subst h0
    have HS : Hid True := Lib.hid trivial
    cases hi : inB k 1 345686400000 with
    | true =>
      have HD := Lib.hid (show (0 : Int) = lvErr none (0, k) from by rw [hd]; simp [hi])
      have HI := Lib.hid hi
      clear hd hi
      go_enter Try.func30, Try.ntmps30
      go_wp2_with (first | (go_at_call 34; refine (isStep_any _ _).mono ?_; rintro e w' ⟨rfl, rfl⟩; have hs' := HS.out) | (go_at_call 19; refine (within_any _ _ _ _).mono ?_; rintro e w' ⟨rfl, rfl⟩; have hi' := HI.out))
      go_ret
      exact ⟨ret_int HD.out, (Below.refl _ _).alloc (Nat.le_refl _) _⟩
    | false =>
      have HD := Lib.hid (show (1 : Int) = lvErr none (0, k) from by rw [hd]; simp [hi])
      have HI := Lib.hid hi
      clear hd hi
      go_enter Try.func30, Try.ntmps30
      go_wp2_with (first | (go_at_call 34; refine (isStep_any _ _).mono ?_; rintro e w' ⟨rfl, rfl⟩; have hs' := HS.out) | (go_at_call 19; refine (within_any _ _ _ _).mono ?_; rintro e w' ⟨rfl, rfl⟩; have hi' := HI.out))
      go_ret
      exact ⟨ret_int HD.out, (Below.refl _ _).alloc (Nat.le_refl _) _⟩
  · have hz : (s == 0) = false := by simpa using h0
    have hz' : (s != 0) = true := by simpa using h0
    cases hs : stepB s with
    | true =>
      have HS := Lib.hid hs
      cases hi : inB k 1 345686400000 with
      | true =>
        have HD := Lib.hid (show (3 : Int) = lvErr none (s, k) from by rw [hd]; simp [hi, hs, h0])
        have HI := Lib.hid hi
        clear hd hi hs
        go_enter Try.func30, Try.ntmps30
        go_wp2_with (first | (go_at_call 34; refine (isStep_any _ _).mono ?_; rintro e w' ⟨rfl, rfl⟩; have hs' := HS.out) | (go_at_call 19; refine (within_any _ _ _ _).mono ?_; rintro e w' ⟨rfl, rfl⟩; have hi' := HI.out))
        go_ret
        exact ⟨ret_int HD.out, (Below.refl _ _).alloc (Nat.le_refl _) _⟩
      | false =>
        have HD := Lib.hid (show (1 : Int) = lvErr none (s, k) from by rw [hd]; simp [hi])
        have HI := Lib.hid hi
        clear hd hi hs
        go_enter Try.func30, Try.ntmps30
        go_wp2_with (first | (go_at_call 34; refine (isStep_any _ _).mono ?_; rintro e w' ⟨rfl, rfl⟩; have hs' := HS.out) | (go_at_call 19; refine (within_any _ _ _ _).mono ?_; rintro e w' ⟨rfl, rfl⟩; have hi' := HI.out))
        go_ret
        exact ⟨ret_int HD.out, (Below.refl _ _).alloc (Nat.le_refl _) _⟩
    | false =>
      have HS := Lib.hid hs
      have HI : Hid True := Lib.hid trivial
      have HD := Lib.hid (show (1 : Int) = lvErr none (s, k) from by rw [hd]; simp [hs, h0])
      clear hd hs
      go_enter Try.func30, Try.ntmps30
      go_wp2_with (first | (go_at_call 34; refine (isStep_any _ _).mono ?_; rintro e w' ⟨rfl, rfl⟩; have hs' := HS.out) | (go_at_call 19; refine (within_any _ _ _ _).mono ?_; rintro e w' ⟨rfl, rfl⟩; have hi' := HI.out))
      go_ret
      exact ⟨ret_int HD.out, (Below.refl _ _).alloc (Nat.le_refl _) _⟩

set_option maxRecDepth 100000 in
set_option maxHeartbeats 2000000 in
theorem checkNext_any (x y : Int × Int) (hy : LvOk y) (b off n c : Nat) (w : World) (c0 : w.cell? ⟨b, off + n * 2, none⟩ = some (.int .i64 y.1)) (c1 : w.cell? ⟨b, off + n * 2 + 1, none⟩ = some (.int .i64 y.2)) (hn : n ≤ 100) (hc : n + 1 ≤ c) (hcm : c ≤ maxLen) (hb : b < w.heap.size) (hx : -9000000000000000000 ≤ x.1 ∧ x.1 ≤ 9000000000000000000) :
    Calls Try.prog 30 #[.agg #[.int .i64 x.1, .int .i64 x.2], .slice (some ⟨b, off, none⟩) (n + 1) c] w fun e w' => e = .returned (.int .i64 (lvErr (some y) x)) ∧ Below w.heap.size w w' := by
  unfold maxLen at hcm
  obtain ⟨s, k⟩ := x
  obtain ⟨sy, ky⟩ := y
  obtain ⟨hy1, hy2⟩ := hy
  simp only at hx hy1 hy2 c0 c1
  have hd : lvErr (some (sy, ky)) (s, k) = if (s ≠ 0 ∧ stepB s = false) ∨ inB k 1 345686400000 = false then 1 else if s = 0 then 3 else if s ≤ sy ∨ k ≤ ky then 7 else if sy ≠ 0 ∧ s.tmod sy ≠ 0 then 16 else 0 := rfl
  have i1 : IntKind.i64.wrap (((n + 1 : Nat) : Int) - 1) = (n : Int) := by rw [show ((n + 1 : Nat) : Int) - 1 = (n : Int) from by omega]; exact IntWalk.i64_in _ (by omega)
  have i2 : IntKind.i64.wrap ((n : Int) + 1 - 1) = (n : Int) := by rw [show (n : Int) + 1 - 1 = (n : Int) from by omega]; exact IntWalk.i64_in _ (by omega)
  have i3 : (0 : Int) ≤ (n : Int) := by omega
  have i4 : (n : Int) < (n : Int) + 1 := by omega
  have i5 : ((n + 1 : Nat) : Int) ≠ 0 := by omega
  by_cases h0 : s = 0
  · subst h0
    have HS : Hid True := Lib.hid trivial
    cases hi : inB k 1 345686400000 with
    | true =>
      have HD := Lib.hid (show (3 : Int) = lvErr (some (sy, ky)) (0, k) from by rw [hd]; simp [hi])
      have HI := Lib.hid hi
      clear hd hi
      go_enter Try.func30, Try.ntmps30
      go_wp2_with (first | (go_at_call 34; refine (isStep_any _ _).mono ?_; rintro e w' ⟨rfl, rfl⟩; have hs' := HS.out) | (go_at_call 19; refine (within_any _ _ _ _).mono ?_; rintro e w' ⟨rfl, rfl⟩; have hi' := HI.out))
      go_ret
      exact ⟨ret_int HD.out, (Below.refl _ _).alloc (Nat.le_refl _) _⟩
    | false =>
      have HD := Lib.hid (show (1 : Int) = lvErr (some (sy, ky)) (0, k) from by rw [hd]; simp [hi])
      have HI := Lib.hid hi
      clear hd hi
      go_enter Try.func30, Try.ntmps30
      go_wp2_with (first | (go_at_call 34; refine (isStep_any _ _).mono ?_; rintro e w' ⟨rfl, rfl⟩; have hs' := HS.out) | (go_at_call 19; refine (within_any _ _ _ _).mono ?_; rintro e w' ⟨rfl, rfl⟩; have hi' := HI.out))
      go_ret
      exact ⟨ret_int HD.out, (Below.refl _ _).alloc (Nat.le_refl _) _⟩
  · have hz : (s == 0) = false := by simpa using h0
    have hz' : (s != 0) = true := by simpa using h0
    cases hs : stepB s with
    | false =>
      have HS := Lib.hid hs
      have HI : Hid True := Lib.hid trivial
      have HD := Lib.hid (show (1 : Int) = lvErr (some (sy, ky)) (s, k) from by rw [hd]; simp [hs, h0])
      clear hd hs
      go_enter Try.func30, Try.ntmps30
      go_wp2_with (first | (go_at_call 34; refine (isStep_any _ _).mono ?_; rintro e w' ⟨rfl, rfl⟩; have hs' := HS.out) | (go_at_call 19; refine (within_any _ _ _ _).mono ?_; rintro e w' ⟨rfl, rfl⟩; have hi' := HI.out))
      go_ret
      exact ⟨ret_int HD.out, (Below.refl _ _).alloc (Nat.le_refl _) _⟩
    | true =>
      have hsr := stepB_range hs
      have HS := Lib.hid hs
      cases hi : inB k 1 345686400000 with
      | false =>
        have HD := Lib.hid (show (1 : Int) = lvErr (some (sy, ky)) (s, k) from by rw [hd]; simp [hi])
        have HI := Lib.hid hi
        clear hd hi hs
        go_enter Try.func30, Try.ntmps30
        go_wp2_with (first | (go_at_call 34; refine (isStep_any _ _).mono ?_; rintro e w' ⟨rfl, rfl⟩; have hs' := HS.out) | (go_at_call 19; refine (within_any _ _ _ _).mono ?_; rintro e w' ⟨rfl, rfl⟩; have hi' := HI.out))
        go_ret
        exact ⟨ret_int HD.out, (Below.refl _ _).alloc (Nat.le_refl _) _⟩
      | true =>
        have HI := Lib.hid hi
        rw [if_neg (by simp [hs, hi]), if_neg h0] at hd
        by_cases h1 : s ≤ sy
        · have HD := Lib.hid (show (7 : Int) = lvErr (some (sy, ky)) (s, k) from by rw [hd]; simp [h1])
          clear hd hi hs
          go_enter Try.func30, Try.ntmps30
          go_wp2_with (first | (go_at_call 34; refine (isStep_any _ _).mono ?_; rintro e w' ⟨rfl, rfl⟩; have hs' := HS.out) | (go_at_call 19; refine (within_any _ _ _ _).mono ?_; rintro e w' ⟨rfl, rfl⟩; have hi' := HI.out))
          go_ret
          exact ⟨ret_int HD.out, ((Below.refl _ _).alloc (Nat.le_refl _) _).alloc (by simp) _⟩
        · by_cases h2 : k ≤ ky
          · have HD := Lib.hid (show (7 : Int) = lvErr (some (sy, ky)) (s, k) from by rw [hd]; simp [h2])
            clear hd hi hs
            go_enter Try.func30, Try.ntmps30
            go_wp2_with (first | (go_at_call 34; refine (isStep_any _ _).mono ?_; rintro e w' ⟨rfl, rfl⟩; have hs' := HS.out) | (go_at_call 19; refine (within_any _ _ _ _).mono ?_; rintro e w' ⟨rfl, rfl⟩; have hi' := HI.out))
            go_ret
            exact ⟨ret_int HD.out, ((Below.refl _ _).alloc (Nat.le_refl _) _).alloc (by simp) _⟩
          · rw [if_neg (by simp only [not_or]; exact ⟨h1, h2⟩)] at hd
            by_cases h3 : sy = 0
            · subst h3
              have HD := Lib.hid (show (0 : Int) = lvErr (some (0, ky)) (s, k) from by rw [hd]; simp)
              clear hd hi hs
              go_enter Try.func30, Try.ntmps30
              go_wp2_with (first | (go_at_call 34; refine (isStep_any _ _).mono ?_; rintro e w' ⟨rfl, rfl⟩; have hs' := HS.out) | (go_at_call 19; refine (within_any _ _ _ _).mono ?_; rintro e w' ⟨rfl, rfl⟩; have hi' := HI.out))
              go_ret
              exact ⟨ret_int HD.out, ((Below.refl _ _).alloc (Nat.le_refl _) _).alloc (by simp) _⟩
            · have hsy : 1 ≤ sy ∧ sy ≤ 86400000 := by omega
              have htb : 0 ≤ s.tmod sy ∧ s.tmod sy ≤ 86400000 := by
                rw [Int.tmod_eq_emod_of_nonneg (by omega)]
                have e1 := Int.emod_nonneg s (b := sy) (by omega)
                have e2 := Int.emod_lt_of_pos s (b := sy) (by omega)
                omega
              by_cases h4 : s.tmod sy = 0
              · have HD := Lib.hid (show (0 : Int) = lvErr (some (sy, ky)) (s, k) from by rw [hd]; simp [h4])
                clear hd hi hs
                go_enter Try.func30, Try.ntmps30
                go_wp2_with (first | (go_at_call 34; refine (isStep_any _ _).mono ?_; rintro e w' ⟨rfl, rfl⟩; have hs' := HS.out) | (go_at_call 19; refine (within_any _ _ _ _).mono ?_; rintro e w' ⟨rfl, rfl⟩; have hi' := HI.out))
                go_ret
                exact ⟨ret_int HD.out, ((Below.refl _ _).alloc (Nat.le_refl _) _).alloc (by simp) _⟩
              · have HD := Lib.hid (show (16 : Int) = lvErr (some (sy, ky)) (s, k) from by rw [hd]; simp [h4, h3])
                have hv1 : (sy != 0) = true := by simpa using h3
                have hv2 : (s % sy != 0) = true := by rw [← Int.tmod_eq_emod_of_nonneg (by omega)]; simpa using h4
                clear hd hi hs
                go_enter Try.func30, Try.ntmps30
                go_wp2_with (first | (go_at_call 34; refine (isStep_any _ _).mono ?_; rintro e w' ⟨rfl, rfl⟩; have hs' := HS.out) | (go_at_call 19; refine (within_any _ _ _ _).mono ?_; rintro e w' ⟨rfl, rfl⟩; have hi' := HI.out))
                go_ret
                exact ⟨ret_int HD.out, ((Below.refl _ _).alloc (Nat.le_refl _) _).alloc (by simp) _⟩

theorem lv_undrew {B : Nat} {w w' : World} (h : Below B w.drew w') : Below B w w' := ⟨h.os, h.tape, h.output, h.size, h.block⟩
/-- What stays while only new blocks come. -/
theorem LvOk.prev {l : List (Int × Int)} {j : Nat} (h : ∀ i (hi : i < l.length), i < j → LvOk l[i]) (hj : j < l.length) (he : LvOk l[j]) : ∀ i (hi : i < l.length), i < j + 1 → LvOk l[i] := fun i hi h2 => by
  by_cases hij : i = j
  · subst hij; exact he
  · exact h i hi (by omega)

set_option maxRecDepth 100000 in
set_option maxHeartbeats 2000000 in
theorem checkLevels_any (v : Value) (l : List (Int × Int)) (w : World) (hR : RdLvl w v l) (hsm : ∀ x ∈ l, -9000000000000000000 ≤ x.1 ∧ x.1 ≤ 9000000000000000000) :
    Calls Try.prog 18 #[v] w fun e w' => e = .returned (.int .i64 (lvsErr l)) ∧ Below w.heap.size w w' := by
  have hdef : lvsErr l = if l = [] then 8 else if 6 < l.length then 2 else lvFrom none l := rfl
  rcases Nat.eq_zero_or_pos l.length with h0 | h0
  · obtain rfl := List.eq_nil_of_length_eq_zero h0
    obtain ⟨_, a, c, rfl, _, _, _⟩ := hR
    clear h0
    go_enter Try.func18, Try.ntmps18
    go_wp2_with fail
    go_ret
    exact ⟨rfl, Below.refl _ _⟩
  · rw [if_neg (fun h => by rw [h] at h0; simp at h0)] at hdef
    obtain ⟨b, off, c, rfl, hc1, hc2, hblt, hcell⟩ := RdLvl.cells hR h0
    have hc3 := hc2
    unfold maxLen at hc2
    have HC := Lib.hid hcell
    have HSM := Lib.hid hsm
    clear hcell hR hsm
    have n0 : ((l.length : Int) == 0) = false := beq_eq_false_iff_ne.2 (by omega)
    by_cases hlong : 6 < l.length
    · rw [if_pos hlong] at hdef
      generalize lvsErr l = E at *
      have HD := Lib.hid hdef
      clear hdef
      have n1 : (6 : Int) < (l.length : Int) := by omega
      go_enter Try.func18, Try.ntmps18
      go_wp2_with fail
      go_ret
      exact ⟨ret_int HD.out.symm, Below.refl _ _⟩
    · rw [if_neg hlong] at hdef
      generalize lvsErr l = E at *
      have HD := Lib.hid hdef
      clear hdef
      have n1 : (l.length : Int) ≤ 6 := by omega
      go_enter Try.func18, Try.ntmps18
      go_wp2_with fail
      go_loopw [16] (fun i wr => ∃ j : Nat, j ≤ l.length ∧ i = .int .i64 (j : Int) ∧ lvFrom none l = lvFrom (lvPre l j) (l.drop j) ∧ (∀ i (hi : i < l.length), i < j → LvOk l[i]) ∧ Below w.heap.size w wr) (fun i _ => l.length - (intOf i).toNat)
      case atStart => exact ⟨0, by omega, rfl, by simp [lvPre], fun i hi h => by omega, Below.refl _ _⟩
      case round =>
        obtain ⟨j, hj, rfl, hser, hok, hwr⟩ := hrel
        have HSER := Lib.hid hser
        have HOK := Lib.hid hok
        clear hser hok
        by_cases hlt : j < l.length
        · obtain ⟨c0, c1⟩ := HC.out j hlt
          rw [← hwr.cell (p := ⟨b, off + j * 2, none⟩) hblt] at c0
          rw [← hwr.cell (p := ⟨b, off + j * 2 + 1, none⟩) hblt] at c1
          have hx := HSM.out _ (List.getElem_mem hlt)
          have hstep := lvFrom_step hlt
          have hcall : ∀ W : World, Below w.heap.size w W → Calls Try.prog 30 #[.agg #[.int .i64 l[j].1, .int .i64 l[j].2], .slice (some ⟨b, off, none⟩) j c] W fun e w' => e = .returned (.int .i64 (lvErr (lvPre l j) l[j])) ∧ Below W.heap.size W w' := fun W hW => by
            rcases Nat.eq_zero_or_pos j with hj0 | hj0
            · subst hj0; exact checkFirst_any _ _ _ W
            · obtain ⟨n, rfl⟩ : ∃ n, j = n + 1 := ⟨j - 1, by omega⟩
              obtain ⟨d0, d1⟩ := HC.out n (by omega)
              have hp : lvPre l (n + 1) = some (l[n]'(by omega)) := by simp [lvPre]
              rw [hp]
              exact checkNext_any l[n + 1] (l[n]'(by omega)) (HOK.out n (by omega) (by omega)) b off n c W ((hW.cell (p := ⟨b, off + n * 2, none⟩) hblt).trans d0) ((hW.cell (p := ⟨b, off + n * 2 + 1, none⟩) hblt).trans d1) (by omega) (by omega) hc3 (Nat.lt_of_lt_of_le hblt hW.size) hx
          have hnext : lvErr (lvPre l j) l[j] = 0 → ∀ i (hi : i < l.length), i < j + 1 → LvOk l[i] := fun he => LvOk.prev HOK.out hlt (lvErr_ok he)
          generalize lvErr (lvPre l j) l[j] = R at *
          generalize l[j] = x at *
          have HCALL := Lib.hid hcall
          have HSTEP := Lib.hid hstep
          have HNEXT := Lib.hid hnext
          clear hcall hstep hnext
          by_cases hE : R = 0
          · have hE' : (R != 0) = false := by simpa using hE
            have HE := Lib.hid hE
            clear hE
            go_wp2_with fail
            have hw1 := hwr.alloc hwr.size (.cells #[.int .i64 x.1, .int .i64 x.2] 31)
            have hB := Blk.new wr 31 #[.int .i64 x.1, .int .i64 x.2]
            have hz : wr.heap.size < (wr.alloc (.cells #[.int .i64 x.1, .int .i64 x.2] 31)).heap.size := by simp
            generalize wr.alloc (.cells #[.int .i64 x.1, .int .i64 x.2] 31) = W1 at *
            have k0 : W1.cell? ⟨wr.heap.size, 0, none⟩ = some (.int .i64 x.1) := hB.cell 0
            have k1 : W1.cell? ⟨wr.heap.size, 1, none⟩ = some (.int .i64 x.2) := hB.cell 1
            have g1 : (j : Int) ≤ (c : Int) := by omega
            have g2 : (0 : Int) ≤ (j : Int) := by omega
            have g3 : ¬ c = 0 := by omega
            have g4 : j ≤ c := by omega
            go_still_tail 4, (by kernel_rfl)
            change wpList _ _ _ _ _ W1.drew
            go_wp2_with fail
            refine (HCALL.out W1.drew ⟨hw1.os, hw1.tape, hw1.output, hw1.size, hw1.block⟩).mono ?_
            rintro e w2 ⟨rfl, hb2⟩
            have hw2 : Below w.heap.size w w2 := hw1.trans (Below.mono (B := W1.heap.size) (lv_undrew hb2) hw1.size)
            clear hb2 hw1
            go_wp2_with fail
            go_roundw
            case rel => exact ⟨j + 1, by omega, by go_num, by rw [HSER.out, HSTEP.out, if_pos HE.out], HNEXT.out HE.out, hw2⟩
            case measure => simp [intOf]; omega
          · have hE' : (R != 0) = true := by simpa using hE
            have HE := Lib.hid hE
            clear hE
            go_wp2_with fail
            have hw1 := hwr.alloc hwr.size (.cells #[.int .i64 x.1, .int .i64 x.2] 31)
            have hB := Blk.new wr 31 #[.int .i64 x.1, .int .i64 x.2]
            have hz : wr.heap.size < (wr.alloc (.cells #[.int .i64 x.1, .int .i64 x.2] 31)).heap.size := by simp
            generalize wr.alloc (.cells #[.int .i64 x.1, .int .i64 x.2] 31) = W1 at *
            have k0 : W1.cell? ⟨wr.heap.size, 0, none⟩ = some (.int .i64 x.1) := hB.cell 0
            have k1 : W1.cell? ⟨wr.heap.size, 1, none⟩ = some (.int .i64 x.2) := hB.cell 1
            have g1 : (j : Int) ≤ (c : Int) := by omega
            have g2 : (0 : Int) ≤ (j : Int) := by omega
            have g3 : ¬ c = 0 := by omega
            have g4 : j ≤ c := by omega
            go_still_tail 4, (by kernel_rfl)
            change wpList _ _ _ _ _ W1.drew
            go_wp2_with fail
            refine (HCALL.out W1.drew ⟨hw1.os, hw1.tape, hw1.output, hw1.size, hw1.block⟩).mono ?_
            rintro e w2 ⟨rfl, hb2⟩
            have hw2 : Below w.heap.size w w2 := hw1.trans (Below.mono (B := W1.heap.size) (lv_undrew hb2) hw1.size)
            clear hb2 hw1
            go_wp2_with fail
            go_ret
            exact ⟨ret_int (by rw [HD.out, HSER.out, HSTEP.out, if_neg HE.out]), hw2⟩
        · obtain rfl : j = l.length := by omega
          go_wp2_with fail
          go_ret
          exact ⟨ret_int (by rw [HD.out, HSER.out, lvFrom_end]), hwr⟩
end Go.Proofs.Ytefbkdbjfgccpaa
