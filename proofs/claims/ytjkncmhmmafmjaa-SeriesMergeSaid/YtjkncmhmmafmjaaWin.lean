/- The contracts on windows and rates: their checks in package basic, package sample and the reference, and what makes them. -/
import Derived.Test.YtjkncmhmmafmjaaFac
import Derived.Test.YtjkncmhmmafmjaaErrs
import Derived.Test.YtjkncmhmmafmjaaFactor
namespace Go.Proofs.Ytjkncmhmmafmjaa
open Go.RowKit
set_option linter.unusedVariables false
set_option linter.unusedSimpArgs false

def winB (f t : Int) : Bool := decide (0 ≤ f ∧ f ≤ t ∧ t ≤ 345686400000)
def winErr (f t : Int) : Int := if winB f t = true then 0 else 1
theorem winB_true {f t : Int} : winB f t = true ↔ (0 ≤ f ∧ f ≤ t ∧ t ≤ 345686400000) := by simp [winB]

set_option maxHeartbeats 1000000 in
theorem window_any (f t : Int) (w : World) : Calls Try.prog 80 #[.agg #[.int .i64 f, .int .i64 t]] w fun e w' => e = .returned (.bool (winB f t)) ∧ Below w.heap.size w w' := by
  by_cases h1 : 0 ≤ f
  · by_cases h2 : f ≤ t
    · by_cases h3 : t ≤ 345686400000
      · have hb : winB f t = true := winB_true.2 ⟨h1, h2, h3⟩
        have HB := Lib.hid hb
        clear hb
        go_enter Try.func80, Try.ntmps80
        go_wp2_with fail
        go_ret
        exact ⟨ret_bool HB.out.symm, (Below.refl _ _).alloc (Nat.le_refl _) _⟩
      · have hb : winB f t = false := by rw [← Bool.not_eq_true, winB_true]; omega
        have HB := Lib.hid hb
        clear hb
        go_enter Try.func80, Try.ntmps80
        go_wp2_with fail
        go_ret
        exact ⟨ret_bool HB.out.symm, (Below.refl _ _).alloc (Nat.le_refl _) _⟩
    · have hb : winB f t = false := by rw [← Bool.not_eq_true, winB_true]; omega
      have HB := Lib.hid hb
      clear hb
      go_enter Try.func80, Try.ntmps80
      go_wp2_with fail
      go_ret
      exact ⟨ret_bool HB.out.symm, (Below.refl _ _).alloc (Nat.le_refl _) _⟩
  · have hb : winB f t = false := by rw [← Bool.not_eq_true, winB_true]; omega
    have HB := Lib.hid hb
    clear hb
    go_enter Try.func80, Try.ntmps80
    go_wp2_with fail
    go_ret
    exact ⟨ret_bool HB.out.symm, (Below.refl _ _).alloc (Nat.le_refl _) _⟩

set_option maxHeartbeats 1000000 in
theorem windowFault_any (f t : Int) (w : World) : Calls Try.prog 13 #[.agg #[.int .i64 f, .int .i64 t]] w fun e w' => e = .returned (.int .i64 (winErr f t)) ∧ Below w.heap.size w w' := by
  have hfin : winErr f t = if inB f 0 t = false ∨ 345686400000 < t then 1 else 0 := by
    unfold winErr
    by_cases h : winB f t = true
    · rw [if_pos h, if_neg]
      have := winB_true.1 h
      rw [inB_false]; omega
    · rw [if_neg h, if_pos]
      rw [winB_true] at h
      rw [inB_false]; omega
  generalize winErr f t = F at *
  have HF := Lib.hid hfin
  clear hfin
  go_enter Try.func13, Try.ntmps13
  go_wp2_with (go_at_call 51; refine (in_any _ _ _ _).mono ?_; rintro e w' ⟨rfl, rfl⟩)
  all_goals go_ret
  all_goals exact ⟨ret_int (by rw [HF.out]; simp_all), (Below.refl _ _).alloc (Nat.le_refl _) _⟩

set_option maxHeartbeats 1000000 in
theorem inside_any (n f t : Int) (w : World) : Calls Try.prog 66 #[.int .i64 n, .agg #[.int .i64 f, .int .i64 t]] w fun e w' => e = .returned (.bool (decide (f ≤ n ∧ n < t))) ∧ Below w.heap.size w w' := by
  by_cases h1 : f ≤ n
  · by_cases h2 : n < t
    · go_enter Try.func66, Try.ntmps66
      go_wp2_with fail
      go_ret
      exact ⟨ret_bool (by simp; omega), (Below.refl _ _).alloc (Nat.le_refl _) _⟩
    · go_enter Try.func66, Try.ntmps66
      go_wp2_with fail
      go_ret
      exact ⟨ret_bool (by simp; omega), (Below.refl _ _).alloc (Nat.le_refl _) _⟩
  · go_enter Try.func66, Try.ntmps66
    go_wp2_with fail
    go_ret
    exact ⟨ret_bool (by simp; omega), (Below.refl _ _).alloc (Nat.le_refl _) _⟩

set_option maxHeartbeats 1000000 in
theorem when_any (c : Bool) (x : Int) (w : World) : Calls Try.prog 26 #[.bool c, .int .i64 x] w fun e w' => e = .returned (.int .i64 (if c = true then x else 0)) ∧ w = w' := by
  cases c
  · go_enter Try.func26, Try.ntmps26
    go_wp2_with fail
    go_ret
    exact ⟨rfl, rfl⟩
  · go_enter Try.func26, Try.ntmps26
    go_wp2_with fail
    go_ret
    exact ⟨rfl, rfl⟩

def orE (a b : Int) : Int := if a ≠ 0 then a else b

set_option maxRecDepth 100000 in
set_option maxHeartbeats 1000000 in
theorem checkWithin_any (v : Value) (l : List Smp) (f t : Int) (w : World) (hR : RdS w 27 v l) :
    Calls Try.prog 48 #[v, .agg #[.int .i64 f, .int .i64 t]] w fun e w' => e = .returned (.int .i64 (orE (serErr l) (winErr f t))) ∧ Below w.heap.size w w' := by
  have hB := Blk.new w 32 #[.int .i64 f, .int .i64 t]
  have HB := Lib.hid hB
  clear hB
  by_cases hS : serErr l = 0
  · have hS' : (serErr l != 0) = false := by simpa using hS
    have hE : orE (serErr l) (winErr f t) = winErr f t := by rw [orE, if_neg (by rw [hS]; simp)]
    have HE := Lib.hid hE
    clear hS hE
    go_enter Try.func48, Try.ntmps48
    go_wp2_with fail
    refine (checkSeries_any v l _ (Rd.alloc hR _)).mono ?_
    rintro e w1 ⟨rfl, hb1⟩
    have hbw : Blk w1 w.heap.size 32 #[.int .i64 f, .int .i64 t] := HB.out.below hb1 (by simp)
    have hb01 : Below w.heap.size w w1 := ((Below.refl _ w).alloc (Nat.le_refl _) _).trans (hb1.mono (by simp))
    have c0 : w1.cell? ⟨w.heap.size, 0, none⟩ = some (.int .i64 f) := hbw.cell 0
    have c1 : w1.cell? ⟨w.heap.size, 1, none⟩ = some (.int .i64 t) := hbw.cell 1
    clear hb1 hbw
    go_wp2_with fail
    refine (window_any f t _).mono ?_
    rintro e w2 ⟨rfl, hb2⟩
    by_cases hw : winB f t = true
    · have hE2 : winErr f t = 0 := by rw [winErr, if_pos hw]
      have HE2 := Lib.hid hE2
      clear hE2
      go_wp2_with fail
      go_ret
      exact ⟨ret_int (by rw [HE.out, HE2.out]), hb01.trans (hb2.mono hb01.size)⟩
    · have hE2 : winErr f t = 1 := by rw [winErr, if_neg hw]
      have hw' : winB f t = false := by simpa using hw
      have HE2 := Lib.hid hE2
      clear hE2 hw
      go_wp2_with fail
      go_ret
      exact ⟨ret_int (by rw [HE.out, HE2.out]), hb01.trans (hb2.mono hb01.size)⟩
  · have hS' : (serErr l != 0) = true := by simpa using hS
    have hE : orE (serErr l) (winErr f t) = serErr l := by rw [orE, if_pos hS]
    have HE := Lib.hid hE
    clear hS hE
    go_enter Try.func48, Try.ntmps48
    go_wp2_with fail
    refine (checkSeries_any v l _ (Rd.alloc hR _)).mono ?_
    rintro e w1 ⟨rfl, hb1⟩
    go_wp2_with fail
    go_ret
    exact ⟨ret_int HE.out.symm, ((Below.refl _ w).alloc (Nat.le_refl _) _).trans (hb1.mono (by simp))⟩

/-- The window that AWindow hands out. -/
def aWin (L : List Int) (k : Nat) : Int × Int := (pk [0, 0, 10, 20, 100, -1] L k, pk [50, 100, 150, 300, 10, 20, 345686400000, 345686400001] L (k + 1))

set_option maxRecDepth 100000 in
set_option maxHeartbeats 1000000 in
theorem aWindow_went (w : World) (g : Nat) (L : List Int) (A : Option Addr) (cap k : Nat) (hS : Strm w g L A cap k) (hk : k ≤ 900000000) :
    Calls Try.prog 8 #[.pointer (some ⟨g, 0, none⟩)] w fun e w' => e = .returned (.agg #[.int .i64 (aWin L k).1, .int .i64 (aWin L k).2]) ∧ Went w g L A cap (k + 2) w' := by
  have hlt := hS.lt
  have hB := Blk.new w 32 #[.int .i64 0, .int .i64 0]
  have HB := Lib.hid hB
  clear hB
  go_enter Try.func8, Try.ntmps8
  go_wp2_with fail
  refine (pick_new _ _ g L A cap k [0, 0, 10, 20, 100, -1] (hS.alloc _) (by simp) (by omega) (by simp)).mono ?_
  rintro e w1 ⟨rfl, hw1⟩
  go_wp2_with fail
  refine (pick_new _ _ g L A cap (k + 1) [50, 100, 150, 300, 10, 20, 345686400000, 345686400001] hw1.1 rfl (by omega) (by simp)).mono ?_
  rintro e w2 ⟨rfl, hw2⟩
  have hB3 : Blk w2 w.heap.size 32 #[.int .i64 0, .int .i64 0] := (HB.out.but hw1.2 (by omega)).but hw2.2 (by omega)
  have c0 : w2.cell? ⟨w.heap.size, 0, none⟩ = some (.int .i64 0) := hB3.cell 0
  have c1 : w2.cell? ⟨w.heap.size, 1, none⟩ = some (.int .i64 0) := hB3.cell 1
  have f0 : w2.frozen? ⟨w.heap.size, 0, none⟩ = false := hB3.frozen 0
  have f1 : w2.frozen? ⟨w.heap.size, 1, none⟩ = false := hB3.frozen 1
  clear hB3
  go_wp2_with fail
  refine bodyPost_ret (v := .agg #[.int .i64 (aWin L k).1, .int .i64 (aWin L k).2]) (by simp [results, Try.results8, go_sem, aWin, c0, c1]) rfl ⟨rfl, ?_, ?_⟩
  · exact ((hw2.1.setCell (by omega) _).setCell (by omega) _)
  · have h3 : But g w w2 := (((But.refl g w).alloc _).trans hw1.2).trans hw2.2
    exact (h3.setCell (.inr (Nat.le_refl _)) _).setCell (.inr (Nat.le_refl _)) _

/-- What is wrong with a rate. -/
def rateErr (n d : Int) : Int := if lowB n d = false ∨ n < 0 then 3 else if 1000000 < n ∨ 1000000 < d then 1 else 0

set_option maxRecDepth 100000 in
set_option maxHeartbeats 1000000 in
theorem rateFault_any (n d : Int) (w : World) (hn : -9223372036854775808 ≤ n ∧ n ≤ 9223372036854775807) (hd : -9223372036854775808 ≤ d ∧ d ≤ 9223372036854775807) :
    Calls Try.prog 27 #[.agg #[.int .i64 n, .int .i64 d]] w fun e w' => e = .returned (.int .i64 (rateErr n d)) ∧ Below w.heap.size w w' := by
  have hfin : rateErr n d = if lowB n d = false ∨ n < 0 then 3 else if 1000000 < n ∨ 1000000 < d then 1 else 0 := rfl
  have hlow : lowB n d = true ↔ (0 < d ∧ max (euc n d) (wrap64 (-(euc n d))) = 1) := by rw [div_one _ (euc_range n d hn hd)]; simp [lowB]
  have hdv := divisor_any n d
  generalize max (euc n d) (wrap64 (-(euc n d))) = E at *
  generalize rateErr n d = F at *
  have HF := Lib.hid hfin
  have HDV := Lib.hid hdv
  have HLOW := Lib.hid hlow
  clear hfin hdv hlow
  by_cases h0 : n < 0
  · go_enter Try.func27, Try.ntmps27
    go_wp2_with fail
    go_ret
    exact ⟨ret_int (by rw [HF.out, if_pos (.inr h0)]), (Below.refl _ _).alloc (Nat.le_refl _) _⟩
  · by_cases h1 : d < 1
    · go_enter Try.func27, Try.ntmps27
      go_wp2_with fail
      go_ret
      exact ⟨ret_int (by rw [HF.out, if_pos (.inl (by rw [← Bool.not_eq_true, HLOW.out]; omega))]), (Below.refl _ _).alloc (Nat.le_refl _) _⟩
    · by_cases hE : E = 1
      · have hlw : lowB n d = true := by rw [HLOW.out]; omega
        have HLW := Lib.hid hlw
        have hE' : (E != 1) = false := by simpa using hE
        clear hlw hE
        by_cases h2 : 1000000 < n ∨ 1000000 < d
        · have hF : F = 1 := by rw [HF.out, HLW.out, if_neg (by simp; omega), if_pos h2]
          have HFF := Lib.hid hF
          clear hF
          by_cases h3 : 1000000 < n
          · clear h2
            go_enter Try.func27, Try.ntmps27
            go_wp2_with (go_at_call 70; refine (HDV.out _ hn hd).mono ?_; rintro e w' ⟨rfl, m, rfl⟩)
            go_ret
            exact ⟨ret_int HFF.out.symm, bdrewN ((Below.refl _ _).alloc (Nat.le_refl _) _) _⟩
          · have h4 : 1000000 < d := by omega
            clear h2
            go_enter Try.func27, Try.ntmps27
            go_wp2_with (go_at_call 70; refine (HDV.out _ hn hd).mono ?_; rintro e w' ⟨rfl, m, rfl⟩)
            go_ret
            exact ⟨ret_int HFF.out.symm, bdrewN ((Below.refl _ _).alloc (Nat.le_refl _) _) _⟩
        · have hF : F = 0 := by rw [HF.out, HLW.out, if_neg (by simp; omega), if_neg h2]
          have HFF := Lib.hid hF
          have h5 : n ≤ 1000000 := by omega
          have h6 : d ≤ 1000000 := by omega
          clear hF h2
          go_enter Try.func27, Try.ntmps27
          go_wp2_with (go_at_call 70; refine (HDV.out _ hn hd).mono ?_; rintro e w' ⟨rfl, m, rfl⟩)
          go_ret
          exact ⟨ret_int HFF.out.symm, bdrewN ((Below.refl _ _).alloc (Nat.le_refl _) _) _⟩
      · have hlw : lowB n d = false := by rw [← Bool.not_eq_true, HLOW.out]; omega
        have hF : F = 3 := by rw [HF.out, if_pos (.inl hlw)]
        have HFF := Lib.hid hF
        have hE' : (E != 1) = true := by simpa using hE
        clear hF hE hlw
        go_enter Try.func27, Try.ntmps27
        go_wp2_with (go_at_call 70; refine (HDV.out _ hn hd).mono ?_; rintro e w' ⟨rfl, m, rfl⟩)
        go_ret
        exact ⟨ret_int HFF.out.symm, bdrewN ((Below.refl _ _).alloc (Nat.le_refl _) _) _⟩
end Go.Proofs.Ytjkncmhmmafmjaa
