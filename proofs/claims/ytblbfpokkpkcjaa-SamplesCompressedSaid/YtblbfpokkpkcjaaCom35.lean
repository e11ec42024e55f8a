import Derived.Test.YtblbfpokkpkcjaaCom30
import Derived.Test.YtblbfpokkpkcjaaCom29
/- The contracts of the reference's lessThan, MomentFault, NoneFault, and of Ratio (package compress). -/

namespace Go.Proofs.Ytblbfpokkpkcjaa
open Go.RowKit
set_option linter.unusedVariables false
set_option linter.unusedSimpArgs false

theorem split_less (a b c d : Nat) (hb : 0 < b) (hd : 0 < d) : (a * d < c * b) ↔ (a / b < c / d ∨ (a / b = c / d ∧ (a % b) * d < (c % d) * b)) := by
  have e1 : a * d = (a / b) * (b * d) + (a % b) * d := by
    conv => lhs; rw [← Nat.div_add_mod a b]
    rw [Nat.add_mul, Nat.mul_comm b (a / b), Nat.mul_assoc]
  have e2 : c * b = (c / d) * (b * d) + (c % d) * b := by
    conv => lhs; rw [← Nat.div_add_mod c d]
    rw [Nat.add_mul, Nat.mul_comm d (c / d), Nat.mul_assoc, Nat.mul_comm d b]
  have h1 : (a % b) * d < b * d := Nat.mul_lt_mul_of_pos_right (Nat.mod_lt _ hb) hd
  have h2 : (c % d) * b < b * d := by rw [Nat.mul_comm b d]; exact Nat.mul_lt_mul_of_pos_right (Nat.mod_lt _ hd) hb
  rw [e1, e2]
  generalize (a % b) * d = r at *
  generalize (c % d) * b = s at *
  rcases Nat.lt_trichotomy (a / b) (c / d) with h | h | h
  · have := Nat.mul_le_mul_right (b * d) (Nat.succ_le_of_lt h)
    rw [Nat.succ_mul] at this
    omega
  · rw [h]; omega
  · have := Nat.mul_le_mul_right (b * d) (Nat.succ_le_of_lt h)
    rw [Nat.succ_mul] at this
    omega

set_option maxRecDepth 100000 in
set_option maxHeartbeats 2000000 in
theorem lessThan_any (a b c d : Nat) (w : World) (ha : a ≤ 9223372036854775807) (hb : 0 < b ∧ b ≤ 9223372036854775807) (hc : c ≤ 9223372036854775807) (hd : 0 < d ∧ d ≤ 9223372036854775807) :
    Calls Try.prog 113 #[.agg #[.int .i64 (a : Int), .int .i64 (b : Int)], .agg #[.int .i64 (c : Int), .int .i64 (d : Int)]] w fun e w' => e = .returned (.bool (decide (a * d < c * b))) ∧ Below w.heap.size w w' := by
  have hsp := split_less a b c d hb.1 hd.1
  have hE : ∃ E, E = decide (a * d < c * b) := ⟨_, rfl⟩
  obtain ⟨E, hE⟩ := hE
  rw [← hE]
  have hml := fun w => mulLess_any (a % b) d (c % d) b w (by have := Nat.mod_lt a hb.1; omega) hd.2 (by have := Nat.mod_lt c hd.1; omega) hb.2
  have n1 : ¬ (b : Int) = 0 := by omega
  have n2 : ¬ (d : Int) = 0 := by omega
  have HE := Lib.hid hE
  have HSP := Lib.hid hsp
  have HML := Lib.hid hml
  have hbw : Below w.heap.size w ((w.alloc (.cells #[.int .i64 (a : Int), .int .i64 (b : Int)] 57)).alloc (.cells #[.int .i64 (c : Int), .int .i64 (d : Int)] 57)) := ((Below.refl _ w).alloc (Nat.le_refl _) _).alloc (by simp) _
  have HBW := Lib.hid hbw
  clear hE hsp hml hbw
  have t1 : (a : Int).tdiv (b : Int) = ((a / b : Nat) : Int) := Int.tdiv_eq_ediv_of_nonneg (by omega)
  have t2 : (c : Int).tdiv (d : Int) = ((c / d : Nat) : Int) := Int.tdiv_eq_ediv_of_nonneg (by omega)
  have t3 : (a : Int).tmod (b : Int) = ((a % b : Nat) : Int) := Int.tmod_eq_emod_of_nonneg (by omega)
  have t4 : (c : Int).tmod (d : Int) = ((c % d : Nat) : Int) := Int.tmod_eq_emod_of_nonneg (by omega)
  have t5 : (a : Int) % (b : Int) = ((a % b : Nat) : Int) := rfl
  have t6 : (c : Int) % (d : Int) = ((c % d : Nat) : Int) := rfl
  have v1 : a / b ≤ a := Nat.div_le_self _ _
  have v2 : c / d ≤ c := Nat.div_le_self _ _
  have v3 := Nat.mod_lt a hb.1
  have v4 := Nat.mod_lt c hd.1
  generalize a / b = x at *
  generalize c / d = y at *
  generalize a % b = r at *
  generalize c % d = s at *
  have w1 : IntKind.i64.wrap (x : Int) = (x : Int) := IntWalk.i64_in _ (by omega)
  have w2 : IntKind.i64.wrap (y : Int) = (y : Int) := IntWalk.i64_in _ (by omega)
  have w3 : IntKind.i64.wrap (r : Int) = (r : Int) := IntWalk.i64_in _ (by omega)
  have w4 : IntKind.i64.wrap (s : Int) = (s : Int) := IntWalk.i64_in _ (by omega)
  have q1 : (0 : Int) ≤ (a : Int) ∧ (a : Int) ≤ 9223372036854775807 := by omega
  have q2 : (1 : Int) ≤ (b : Int) ∧ (b : Int) ≤ 9223372036854775807 := by omega
  have q3 : (0 : Int) ≤ (c : Int) ∧ (c : Int) ≤ 9223372036854775807 := by omega
  have q4 : (1 : Int) ≤ (d : Int) ∧ (d : Int) ≤ 9223372036854775807 := by omega
  have t7 : (a : Int) / (b : Int) = (x : Int) := by rw [← t1]; exact (Int.tdiv_eq_ediv_of_nonneg (by omega)).symm
  have t8 : (c : Int) / (d : Int) = (y : Int) := by rw [← t2]; exact (Int.tdiv_eq_ediv_of_nonneg (by omega)).symm
  clear ha hb hc hd v1 v2 v3 v4
  generalize (a : Int) = A at *
  generalize (b : Int) = B at *
  generalize (c : Int) = C at *
  generalize (d : Int) = D at *
  by_cases hxy : x = y
  · have hxy' : ((x : Int) != (y : Int)) = false := by simp; omega
    have HR := Lib.hid (show E = decide (r * d < s * b) by rw [HE.out]; simp only [decide_eq_decide]; rw [HSP.out]; omega)
    clear hxy
    go_enter Try.func113, Try.ntmps113
    go_wp2_with fail
    go_quiet (fail)
    have k1 := ((Blk.new w 57 #[.int .i64 A, .int .i64 B]).alloc (.cells #[.int .i64 C, .int .i64 D] 57)).drewN nq
    have k2 := (Blk.new1 w (.cells #[.int .i64 A, .int .i64 B] 57) 57 #[.int .i64 C, .int .i64 D]).drewN nq
    have hbq := bdrewN HBW.out nq
    generalize ((w.alloc (.cells #[.int .i64 A, .int .i64 B] 57)).alloc (.cells #[.int .i64 C, .int .i64 D] 57)).drewN nq = wq at *
    have c0 := k1.cell 0
    have c1 := k1.cell 1
    have d0 := k2.cell 0
    have d1 := k2.cell 1
    clear k1 k2
    go_wp2_with fail
    go_quiet ((go_at_call 172; exact quiet_eq (HML.out _)))
    go_wp2_with fail
    go_ret
    exact ⟨ret_bool HR.out.symm, bdrewN hbq _⟩
  · have hxy' : ((x : Int) != (y : Int)) = true := by simp; omega
    have HR := Lib.hid (show E = decide ((x : Int) < (y : Int)) by rw [HE.out]; simp only [decide_eq_decide]; rw [HSP.out]; omega)
    clear hxy
    go_enter Try.func113, Try.ntmps113
    go_wp2_with fail
    go_quiet (fail)
    go_wp2_with fail
    go_ret
    exact ⟨ret_bool (by rw [HR.out]; simp only [decide_eq_decide]; omega), bdrewN HBW.out _⟩

theorem momentFault_any (t : Int) (w : World) : Calls Try.prog 40 #[.int .i64 t] w fun e w' => e = .returned (.int .i64 (spanErr t 0 345686399999)) ∧ w = w' := by
  go_enter Try.func40, Try.ntmps40
  go_wp2_with (go_at_call 83; refine (spanFault_any _ _ _ _).mono ?_; rintro e w' ⟨rfl, rfl⟩)
  go_ret
  exact ⟨rfl, rfl⟩
theorem noneFault_any (b : Bool) (w : World) : Calls Try.prog 46 #[.bool b] w fun e w' => e = .returned (.int .i64 (if b = true then 8 else 0)) ∧ w = w' := by
  cases b
  · go_enter Try.func46, Try.ntmps46
    go_wp2_with fail
    go_ret
    exact ⟨rfl, rfl⟩
  · go_enter Try.func46, Try.ntmps46
    go_wp2_with fail
    go_ret
    exact ⟨rfl, rfl⟩

/-- What Ratio returns. -/
def ratF (l : List Smp) (ks : List Int) : Int × Int := if keptErr l ks = 0 ∧ 0 < ks.length then fracOf l.length ks.length else (0, 0)
def ratB (l : List Smp) (ks : List Int) : Bool := decide (keptErr l ks = 0 ∧ 0 < ks.length)
set_option maxRecDepth 100000 in
set_option maxHeartbeats 4000000 in
theorem ratio_any (v vk : Value) (l : List Smp) (ks : List Int) (w : World) (hR : RdS w 71 v l) (hK : RdI w vk ks) (hks : ks.length ≤ 100000) (hlong : l.length ≤ 5000) :
    Calls Try.prog 39 #[v, vk] w fun e w' => e = .returned (.tuple #[.agg #[.int .i64 (ratF l ks).1, .int .i64 (ratF l ks).2], .bool (ratB l ks), .int .i64 (keptErr l ks)]) ∧ Below w.heap.size w w' := by
  obtain ⟨pa, ca, rfl⟩ := hR.lenv
  obtain ⟨pk, ck, rfl⟩ := hK.lenv
  have hF : ratF l ks = if keptErr l ks = 0 ∧ 0 < ks.length then fracOf l.length ks.length else (0, 0) := rfl
  have hB : ratB l ks = decide (keptErr l ks = 0 ∧ 0 < ks.length) := rfl
  have hck := checkKept_any _ _ l ks (w.alloc (.cells #[.int .i64 0, .int .i64 0] 57)) (Rd.alloc hR _) (Rd.alloc hK _) hks
  have hB0 := Blk.new w 57 #[.int .i64 0, .int .i64 0]
  generalize ratF l ks = F at *
  generalize ratB l ks = B at *
  generalize keptErr l ks = E at *
  have HF := Lib.hid hF
  have HB := Lib.hid hB
  have HCK := Lib.hid hck
  have HB0 := Lib.hid hB0
  clear hF hB hck hB0 hR hK
  go_enter Try.func39, Try.ntmps39
  go_wp2_with fail
  refine HCK.out.mono ?_
  rintro e w1 ⟨rfl, hb1⟩
  have hB1 := HB0.out.below hb1 (by simp)
  have hb01 : Below w.heap.size w w1 := ((Below.refl _ w).alloc (Nat.le_refl _) _).trans (hb1.mono (by simp))
  have r0 := hB1.cell 0
  have r1 := hB1.cell 1
  have g0 := hB1.frozen 0
  have g1 := hB1.frozen 1
  clear hb1
  by_cases hE : E = 0
  · have hE' : (E != 0) = false := by simpa using hE
    by_cases hk : ks.length = 0
    · have hk' : ((ks.length : Int) == 0) = true := by rw [hk]; rfl
      have H3 := Lib.hid (show F = (0, 0) ∧ B = false by rw [HF.out, HB.out, if_neg (show ¬ (E = 0 ∧ 0 < ks.length) by omega)]; exact ⟨rfl, decide_eq_false (by omega)⟩)
      have HE := Lib.hid hE
      clear hE hk hB1
      go_wp2_with fail
      refine bodyPost_ret (v := .tuple #[.agg #[.int .i64 0, .int .i64 0], .bool false, .int .i64 E]) (by simp [results, Try.results39, go_sem, r0, r1]) rfl ⟨by rw [H3.out.1, H3.out.2], ?_⟩
      exact hb01.trans (by (repeat (refine Below.setCell ?_ (by exact Nat.le_refl _) _)); exact Below.refl _ _)
    · have hk' : ((ks.length : Int) == 0) = false := by simp; intro h; exact hk (by rw [h]; rfl)
      have H3 := Lib.hid (show F = fracOf l.length ks.length ∧ B = true by rw [HF.out, HB.out, if_pos (show E = 0 ∧ 0 < ks.length by omega)]; exact ⟨rfl, decide_eq_true (by omega)⟩)
      have HE := Lib.hid hE
      have hrd := fun w => reduced_any l.length ks.length w (by omega) (by omega)
      have HRD := Lib.hid hrd
      have HB1 := Lib.hid hB1
      clear hE hk hrd hB1
      go_wp2_with fail
      refine (HRD.out _).mono ?_
      rintro e w2 ⟨rfl, hb2⟩
      have hB2 := HB1.out.below hb2 HB1.out.lt
      have hb02 := hb01.trans (hb2.mono hb01.size)
      have s0 := hB2.cell 0
      have s1 := hB2.cell 1
      have f0 := hB2.frozen 0
      have f1 := hB2.frozen 1
      generalize fracOf l.length ks.length = G at *
      clear hb2 hB2 r0 r1 g0 g1
      go_wp2_with fail
      refine bodyPost_ret (v := .tuple #[.agg #[.int .i64 G.1, .int .i64 G.2], .bool true, .int .i64 0]) (by simp [results, Try.results39, go_sem, s0, s1]) rfl ⟨by rw [H3.out.1, H3.out.2, HE.out], ?_⟩
      exact hb02.trans (by (repeat (refine Below.setCell ?_ (by exact Nat.le_refl _) _)); exact Below.refl _ _)
  · have hE' : (E != 0) = true := by simpa using hE
    have H3 := Lib.hid (show F = (0, 0) ∧ B = false by rw [HF.out, HB.out, if_neg (show ¬ (E = 0 ∧ 0 < ks.length) by omega)]; exact ⟨rfl, decide_eq_false (by omega)⟩)
    clear hE hB1
    go_wp2_with fail
    refine bodyPost_ret (v := .tuple #[.agg #[.int .i64 0, .int .i64 0], .bool false, .int .i64 E]) (by simp [results, Try.results39, go_sem, r0, r1]) rfl ⟨by rw [H3.out.1, H3.out.2], ?_⟩
    exact hb01.trans (by (repeat (refine Below.setCell ?_ (by exact Nat.le_refl _) _)); exact Below.refl _ _)
end Go.Proofs.Ytblbfpokkpkcjaa
