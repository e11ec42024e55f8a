/- The walk of the statement FaultsFound: the call returns true, and what was there stays. -/
import Derived.Test.YtjkncmhmmafmjaaScaledLaw
import Derived.Test.YtjkncmhmmafmjaaGap
import Derived.Test.YtjkncmhmmafmjaaStuckr
import Derived.Test.YtjkncmhmmafmjaaJumpr
import Derived.Deep.RegionWith
import Derived.Deep.DeepCutAuto
namespace Go.Proofs.Ytjkncmhmmafmjaa
open Go.RowKit
set_option linter.unusedVariables false

theorem jumps_all (v : Value) (l : List Smp) (n d : Int) (w : World) (hR : RdS w 27 v l) (hn : -9223372036854775808 ≤ n ∧ n ≤ 9223372036854775807) (hd : -9223372036854775808 ≤ d ∧ d ≤ 9223372036854775807) :
    Calls Try.prog 25 #[v, .agg #[.int .i64 n, .int .i64 d]] w fun e w' => ∃ v', e = .returned (.tuple #[v', .int .i64 (jumpsE l n d)]) ∧ RdI w' v' (jumpsR l n d) ∧ Below w.heap.size w w' := by
  by_cases hE : jumpsE l n d = 0
  · have h1 : serErr l = 0 := by unfold jumpsE orE at hE; split at hE <;> omega
    have h2 : rateErr n d = 0 := by unfold jumpsE orE at hE; split at hE <;> omega
    refine (jumps_ok v l n d w hR h1 h2).mono fun e w' h => ?_
    obtain ⟨v', rfl, hr, hb⟩ := h
    exact ⟨v', by rw [hE], by unfold jumpsR; rw [if_pos hE]; exact hr, hb⟩
  · refine (jumps_err v l n d w hR hn hd hE).mono fun e w' h => ?_
    obtain ⟨rfl, hb⟩ := h
    exact ⟨_, rfl, by unfold jumpsR; rw [if_neg hE]; exact Rd.nil _ _ _, hb⟩

theorem orE_zero {a b : Int} (h : orE a b = 0) : a = 0 ∧ b = 0 := by
  unfold orE at h
  by_cases ha : a = 0
  · rw [if_neg (by simpa using ha)] at h; exact ⟨ha, h⟩
  · rw [if_pos ha] at h; exact absurd h ha
theorem gap_ok {S : List Smp} {f t o : Int} (h : gapE S f t o = 0) : gapR S f t o = gapF f t o S ∧ serErr S = 0 ∧ winB f t = true := by
  obtain ⟨h1, _⟩ := orE_zero h
  obtain ⟨h2, h3⟩ := orE_zero h1
  refine ⟨by unfold gapR; rw [if_pos h], h2, ?_⟩
  unfold winErr at h3
  by_cases hw : winB f t = true
  · exact hw
  · rw [if_neg hw] at h3; omega
theorem gap_no {S : List Smp} {f t o : Int} (h : gapE S f t o ≠ 0) : gapR S f t o = [] := by unfold gapR; rw [if_neg h]
theorem stuck_ok {S : List Smp} {s : Int} (h : stuckE S s = 0) : stuckR S s = stuckF S s 0 ∧ serErr S = 0 ∧ (2 ≤ s ∧ s ≤ 5000) := by
  refine ⟨by unfold stuckR; rw [if_pos h], ?_, ?_⟩
  · unfold stuckE orE at h; split at h <;> omega
  · by_cases hl : inB s 2 5000 = true
    · exact inB_true.1 hl
    · unfold stuckE orE at h; rw [if_neg hl] at h; split at h <;> omega
theorem stuck_no {S : List Smp} {s : Int} (h : stuckE S s ≠ 0) : stuckR S s = [] := by unfold stuckR; rw [if_neg h]
theorem jump_ok {S : List Smp} {n d : Int} (h : jumpsE S n d = 0) : jumpsR S n d = jumpsF S n d none 0 ∧ serErr S = 0 ∧ (0 ≤ n ∧ n ≤ 1000000) ∧ (1 ≤ d ∧ d ≤ 1000000) := by
  have h1 : serErr S = 0 := by unfold jumpsE orE at h; split at h <;> omega
  have h2 : rateErr n d = 0 := by unfold jumpsE orE at h; split at h <;> omega
  obtain ⟨_, a, b⟩ := rateErr_good h2
  exact ⟨by unfold jumpsR; rw [if_pos h], h1, a, b⟩
theorem jump_no {S : List Smp} {n d : Int} (h : jumpsE S n d ≠ 0) : jumpsR S n d = [] := by unfold jumpsR; rw [if_neg h]

theorem vint {a b : Int} (h : a = b) : Value.int .i64 a = .int .i64 b := by rw [h]
/-- What stays readable while the statement goes on. -/
structure KF (w0 : World) (v1 gv sv jv : Value) (S : List Smp) (G K : List (Int × Int)) (J : List Int) (B5 B8 : Nat) (f t n d : Int) (w : World) : Prop where
  rs : RdS w 27 v1 S
  rg : RdW w gv G
  rk : RdW w sv K
  rj : RdI w jv J
  bw : Blk w B5 32 #[.int .i64 f, .int .i64 t]
  bf : Blk w B8 48 #[.int .i64 n, .int .i64 d]
  below : Below w0.heap.size w0 w

section
variable {w0 : World} {v1 gv sv jv : Value} {S : List Smp} {G K : List (Int × Int)} {J : List Int} {B5 B8 : Nat} {f t n d : Int} {w w' : World}
theorem KF.step (hb : Below w.heap.size w w') (h : KF w0 v1 gv sv jv S G K J B5 B8 f t n d w) : KF w0 v1 gv sv jv S G K J B5 B8 f t n d w' :=
  ⟨Rd.below h.rs hb, Rd.below h.rg hb, Rd.below h.rk hb, Rd.below h.rj hb, h.bw.below hb h.bw.lt, h.bf.below hb h.bf.lt, h.below.trans (hb.mono h.below.size)⟩
theorem KF.alloc (h : KF w0 v1 gv sv jv S G K J B5 B8 f t n d w) (o : Obj) : KF w0 v1 gv sv jv S G K J B5 B8 f t n d (w.alloc o) := h.step ((Below.refl _ w).alloc (Nat.le_refl _) o)
theorem KF.drew (h : KF w0 v1 gv sv jv S G K J B5 B8 f t n d w) : KF w0 v1 gv sv jv S G K J B5 B8 f t n d w.drew := ⟨h.rs, h.rg, h.rk, h.rj, h.bw, h.bf, h.below.drew⟩
theorem KF.drewN (h : KF w0 v1 gv sv jv S G K J B5 B8 f t n d w) (m : Nat) : KF w0 v1 gv sv jv S G K J B5 B8 f t n d (w.drewN m) := ⟨h.rs, h.rg, h.rk, h.rj, h.bw, h.bf, bdrewN h.below m⟩
end

set_option maxRecDepth 100000 in
set_option maxHeartbeats 4000000 in
theorem faultsFound_walk (w : World) (L : List Int) (A : Option Addr) (cap : Nat) (hc : ∀ i, i < L.length → ∃ ad : Addr, A = some ad ∧ ad.block < w.heap.size ∧ w.cell? (ad.add i) = some (.int .i64 (L.getD i 0)))
    (hl : L.length ≤ 9223372036854775807) (hwf : ∀ i, -9223372036854775808 ≤ L.getD i 0 ∧ L.getD i 0 ≤ 9223372036854775807) :
    Calls Try.prog 4 #[.slice A L.length cap] w fun e w' => e = .returned (.bool true) ∧ Below w.heap.size w w' := by
  have hS0 : Strm (w.alloc (.cells #[.slice A L.length cap, .int .i64 0] 25)) w.heap.size L A cap 0 :=
    ⟨heap_alloc_new w _, fun i hi => by
      obtain ⟨ad, e, hb, hcell⟩ := hc i hi
      exact ⟨ad, e, hb, by rw [World.cell?_alloc_lt _ _ _ (by rw [addr_add_block]; exact hb)]; exact hcell⟩, hl, hwf⟩
  have HS0 := Lib.hid hS0
  clear hS0 hc hwf
  go_enter Try.func4, Try.ntmps4
  go_wp2_with fail
  refine (samples_went _ w.heap.size L A cap 0 10 HS0.out (by omega) (by omega)).mono ?_
  rintro e w1 ⟨v1, rfl, hown1, hw1⟩
  have hk1 := samplesK_le L 0 10 (by omega)
  have hsl := samples_length L 0 10
  have hsn := rightN_le L 0 10 (by omega)
  generalize samples L 0 10 = S at *
  generalize samplesK L 0 10 = K1 at *
  have hlen : S.length ≤ 10 := by omega
  have hr1 : RdS w1 27 v1 S := Rd.of_own hown1
  clear hsl hsn hown1
  go_wp2_with fail
  refine (aWindow_went _ w.heap.size L A cap K1 hw1.1 (by omega)).mono ?_
  rintro e w2 ⟨rfl, hw2⟩
  generalize (aWin L K1).1 = f at *
  generalize (aWin L K1).2 = t at *
  have hr2 : RdS w2 27 v1 S := Rd.but hw1.1 (by decide) hr1 hw2.2
  go_wp2_with fail
  refine (pick_new _ _ w.heap.size L A cap (K1 + 2) [1, 5, 20, 60, 0, 345686400001] hw2.1 rfl (by omega) (by simp)).mono ?_
  rintro e w3 ⟨rfl, hw3⟩
  generalize pk [1, 5, 20, 60, 0, 345686400001] L (K1 + 2) = o at *
  have hr3 : RdS w3 27 v1 S := Rd.but hw2.1 (by decide) hr2 hw3.2
  go_wp2_with fail
  refine (pick_new _ _ w.heap.size L A cap (K1 + 2 + 1) [2, 2, 3, 1, 5001] hw3.1 rfl (by omega) (by simp)).mono ?_
  rintro e w4 ⟨rfl, hw4⟩
  generalize pk [2, 2, 3, 1, 5001] L (K1 + 2 + 1) = s at *
  have hr4 : RdS w4 27 v1 S := Rd.but hw3.1 (by decide) hr3 hw4.2
  go_wp2_with fail
  refine (factor_went _ w.heap.size L A cap (K1 + 2 + 1 + 1) hw4.1 (by omega)).mono ?_
  rintro e w5 ⟨rfl, hw5⟩
  have hfr := facOf_range L (K1 + 2 + 1 + 1)
  generalize (facOf L (K1 + 2 + 1 + 1)).1 = n at *
  generalize (facOf L (K1 + 2 + 1 + 1)).2 = d at *
  have hr5 : RdS w5 27 v1 S := Rd.but hw4.1 (by decide) hr4 hw5.2
  have hb5 : Below w.heap.size w w5 := ((Below.refl _ w).alloc (Nat.le_refl _) _).trans (but_below (hw1.2.trans (hw2.2.trans (hw3.2.trans (hw4.2.trans hw5.2)))) (Nat.le_refl _) (by simp))
  clear hr1 hr2 hr3 hr4 hw1 hw2 hw3 hw4 hw5
  have hB5 := Blk.new w5 32 #[.int .i64 f, .int .i64 t]
  have hB8 := Blk.new1 w5 (.cells #[.int .i64 f, .int .i64 t] 32) 48 #[.int .i64 n, .int .i64 d]
  have hr6 : RdS _ 27 v1 S := Rd.alloc (Rd.alloc hr5 (.cells #[.int .i64 f, .int .i64 t] 32)) (.cells #[.int .i64 n, .int .i64 d] 48)
  have hB5' := hB5.alloc (.cells #[.int .i64 n, .int .i64 d] 48)
  have hb6 : Below w.heap.size w ((w5.alloc (.cells #[.int .i64 f, .int .i64 t] 32)).alloc (.cells #[.int .i64 n, .int .i64 d] 48)) := (hb5.alloc hb5.size _).alloc (by have := hb5.size; simp; omega) _
  have HB5 := Lib.hid hB5'
  have HB8 := Lib.hid hB8
  have HR6 := Lib.hid hr6
  clear hB5 hB5' hB8 hr5 hr6 hb5
  go_wp2_with fail
  refine (gaps_any v1 S f t o _ HR6.out).mono ?_
  rintro e w6 ⟨vg, rfl, hg6, hbb6⟩
  have hR7 := Rd.below HR6.out hbb6
  have hA5 := HB5.out.below hbb6 HB5.out.lt
  have hA8 := HB8.out.below hbb6 HB8.out.lt
  have hb7 := hb6.trans (hbb6.mono hb6.size)
  have HR7 := Lib.hid hR7
  clear hbb6 hR7 hb6
  go_wp2_with fail
  refine (stuck_any v1 S s _ HR7.out).mono ?_
  rintro e w7 ⟨vs, rfl, hs7, hbb7⟩
  have hR8 := Rd.below HR7.out hbb7
  have hA5' := hA5.below hbb7 hA5.lt
  have hA8' := hA8.below hbb7 hA8.lt
  have hg7 := Rd.below hg6 hbb7
  have hb8 := hb7.trans (hbb7.mono hb7.size)
  have c0 : w7.cell? ⟨w5.heap.size + 1, 0, none⟩ = some (.int .i64 n) := hA8'.cell 0
  have c1 : w7.cell? ⟨w5.heap.size + 1, 1, none⟩ = some (.int .i64 d) := hA8'.cell 1
  have HR8 := Lib.hid hR8
  clear hbb7 hR8 hA5 hA8 hb7 hg6
  go_wp2_with fail
  refine (jumps_all v1 S n d _ HR8.out hfr.1 hfr.2).mono ?_
  rintro e w8 ⟨vj, rfl, hj8, hbb8⟩
  have hk8 : KF w v1 vg vs vj S (gapR S f t o) (stuckR S s) (jumpsR S n d) w5.heap.size (w5.heap.size + 1) f t n d w8 :=
    ⟨Rd.below HR8.out hbb8, Rd.below hg7 hbb8, Rd.below hs7 hbb8, hj8, hA5'.below hbb8 hA5'.lt, hA8'.below hbb8 hA8'.lt, hb8.trans (hbb8.mono hb8.size)⟩
  have HK8 := Lib.hid hk8
  clear c0 c1 hg7 hs7 hj8 hA5' hA8' hb8 hbb8 hk8 HR6 HR7 HR8 HB5 HB8
  go_wp2_with fail
  refine (seriesFault_any v1 S _ HK8.out.rs).mono ?_
  rintro e w9 ⟨rfl, hbb9⟩
  have hk9 := HK8.out.step hbb9
  have e0 : w9.cell? ⟨w5.heap.size, 0, none⟩ = some (.int .i64 f) := hk9.bw.cell 0
  have e1 : w9.cell? ⟨w5.heap.size, 1, none⟩ = some (.int .i64 t) := hk9.bw.cell 1
  have HK9 := Lib.hid hk9
  clear hbb9 HK8
  go_upto_region 7 with fail
  go_cut [16] (fun s16 wx => s16 = .int .i64 (gapE S f t o) ∧ KF w v1 vg vs vj S (gapR S f t o) (stuckR S s) (jumpsR S n d) w5.heap.size (w5.heap.size + 1) f t n d wx)
  case first =>
    have hE : gapE S f t o = if serErr S ≠ 0 then serErr S else if winErr f t ≠ 0 then winErr f t else if o < 1 ∨ 345686400000 < o then 1 else 0 := by
      unfold gapE orE
      by_cases h1 : serErr S = 0
      · by_cases h2 : winErr f t = 0
        · by_cases h3 : inB o 1 345686400000 = true
          · have := inB_true.1 h3
            simp [h1, h2, h3]; omega
          · have h4 : ¬ (1 ≤ o ∧ o ≤ 345686400000) := fun h => h3 (inB_true.2 h)
            simp [h1, h2, h3]; omega
        · simp [h1, h2]
      · simp [h1]
    have HE := Lib.hid hE
    clear hE
    have hcase : (o < 1) ∨ (¬ o < 1 ∧ 345686400000 < o) ∨ (¬ o < 1 ∧ ¬ 345686400000 < o) := by omega
    rcases hcase with ho | ⟨ho, ho'⟩ | ⟨ho, ho'⟩
    all_goals
      go_wp2_with (first
        | (go_at_call 13; refine (windowFault_any f t _).mono ?_; rintro e wk ⟨rfl, hbk⟩; have hkk := KF.step hbk (by first | assumption | exact KF.drew (by assumption) | exact KF.alloc (by assumption) _); clear hbk)
        | (go_at_call 26; refine (when_any _ 1 _).mono ?_; rintro e wk ⟨rfl, rfl⟩)
        | (go_at_call 12; refine (errs_any _ _ [_, _, _] (by exact Blk.new _ _ _) (by simp)).mono ?_; rintro e wk ⟨rfl, rfl⟩))
      go_meet
      refine ⟨vint ?_, by first | assumption | exact KF.alloc (by assumption) _⟩
      rw [HE.out]
      by_cases h1 : serErr S = 0 <;> by_cases h2 : winErr f t = 0 <;> by_cases h3 : (o < 1 ∨ 345686400000 < o) <;> simp [firstErr, h1, h2, h3] <;> omega
  case rest =>
    obtain ⟨rfl, hk⟩ := hcut
    have HKa := Lib.hid hk
    clear HK9 hk9 e0 e1
    go_upto_region 8 with fail
    go_cut [17] (fun s17 wx => s17 = .int .i64 (stuckE S s) ∧ KF w v1 vg vs vj S (gapR S f t o) (stuckR S s) (jumpsR S n d) w5.heap.size (w5.heap.size + 1) f t n d wx)
    case first =>
      have hE : stuckE S s = if serErr S ≠ 0 then serErr S else if s < 2 ∨ 5000 < s then 1 else 0 := by
        unfold stuckE orE
        by_cases h1 : serErr S = 0
        · by_cases h3 : inB s 2 5000 = true
          · have := inB_true.1 h3
            simp [h1, h3]; omega
          · have h4 : ¬ (2 ≤ s ∧ s ≤ 5000) := fun h => h3 (inB_true.2 h)
            simp [h1, h3]; omega
        · simp [h1]
      have HE := Lib.hid hE
      clear hE
      have hcase : (s < 2) ∨ (¬ s < 2 ∧ 5000 < s) ∨ (¬ s < 2 ∧ ¬ 5000 < s) := by omega
      rcases hcase with ho | ⟨ho, ho'⟩ | ⟨ho, ho'⟩
      all_goals
        go_wp2_with (first
          | (go_at_call 26; refine (when_any _ 1 _).mono ?_; rintro e wk ⟨rfl, rfl⟩)
          | (go_at_call 12; refine (errs_any _ _ [_, _] (by exact Blk.new _ _ _) (by simp)).mono ?_; rintro e wk ⟨rfl, rfl⟩))
        go_meet
        refine ⟨vint ?_, by first | assumption | exact KF.alloc (by assumption) _⟩
        rw [HE.out]
        by_cases h1 : serErr S = 0 <;> by_cases h3 : (s < 2 ∨ 5000 < s) <;> simp [firstErr, h1, h3] <;> omega
    case rest =>
      obtain ⟨rfl, hk⟩ := hcut
      have HKb := Lib.hid hk
      have c0 : wc.cell? ⟨w5.heap.size + 1, 0, none⟩ = some (.int .i64 n) := hk.bf.cell 0
      have c1 : wc.cell? ⟨w5.heap.size + 1, 1, none⟩ = some (.int .i64 d) := hk.bf.cell 1
      clear HKa
      go_upto_region 9 with fail
      go_cut [18] (fun s18 wx => s18 = .int .i64 (jumpsE S n d) ∧ KF w v1 vg vs vj S (gapR S f t o) (stuckR S s) (jumpsR S n d) w5.heap.size (w5.heap.size + 1) f t n d wx)
      case first =>
        have hE : jumpsE S n d = if serErr S ≠ 0 then serErr S else rateErr n d := by
          unfold jumpsE orE
          rfl
        have HE := Lib.hid hE
        clear hE
        go_wp2_with (first
          | (go_at_call 27; refine (rateFault_any n d _ hfr.1 hfr.2).mono ?_; rintro e wk ⟨rfl, hbk⟩; have hkk := KF.step hbk (by first | assumption | exact KF.drew (by assumption) | exact KF.alloc (by assumption) _); clear hbk)
          | (go_at_call 12; refine (errs_any _ _ [_, _] (by exact Blk.new _ _ _) (by simp)).mono ?_; rintro e wk ⟨rfl, rfl⟩))
        go_meet
        refine ⟨vint ?_, by first | assumption | exact KF.alloc (by assumption) _⟩
        rw [HE.out]
        by_cases h1 : serErr S = 0 <;> by_cases h3 : rateErr n d = 0 <;> simp [firstErr, h1, h3]
      case rest =>
        obtain ⟨rfl, hk⟩ := hcut
        have HKc := Lib.hid hk
        have e0 : wc.cell? ⟨w5.heap.size, 0, none⟩ = some (.int .i64 f) := hk.bw.cell 0
        have e1 : wc.cell? ⟨w5.heap.size, 1, none⟩ = some (.int .i64 t) := hk.bw.cell 1
        clear HKb c0 c1
        go_upto_if 86 with fail
        go_cut [19] (fun s19 wx => RdW wx s19 (gapR S f t o) ∧ KF w v1 vg vs vj S (gapR S f t o) (stuckR S s) (jumpsR S n d) w5.heap.size (w5.heap.size + 1) f t n d wx)
        case first =>
          by_cases hz : gapE S f t o = 0
          · have hz' : (gapE S f t o == 0) = true := by simpa using hz
            have HZ := Lib.hid (gap_ok hz)
            clear hz
            go_wp2_with fail
            refine (gapsOf_any v1 S f t o _ HKc.out.rs (serErr_at HZ.out.2.1) (serErr_good HZ.out.2.1).1 HZ.out.2.2).mono ?_
            rintro e wa ⟨vw, rfl, hrw, hba⟩
            have hka := HKc.out.step hba
            rw [← HZ.out.1] at hrw
            clear hba
            go_wp2_with fail
            go_meet
            exact ⟨hrw, hka⟩
          · have hz' : (gapE S f t o == 0) = false := by simpa using hz
            have HZ := Lib.hid (gap_no hz)
            clear hz
            go_wp2_with fail
            go_meet
            exact ⟨by rw [HZ.out]; exact Rd.nil _ _ _, HKc.out⟩
        case rest =>
          obtain ⟨hg, hk⟩ := hcut
          have HKd := Lib.hid hk
          have HG := Lib.hid hg
          clear HKc e0 e1 hg
          go_upto_if 92 with fail
          go_cut [20] (fun s20 wx => RdW wx s20 (stuckR S s) ∧ RdW wx u19 (gapR S f t o) ∧ KF w v1 vg vs vj S (gapR S f t o) (stuckR S s) (jumpsR S n d) w5.heap.size (w5.heap.size + 1) f t n d wx)
          case first =>
            by_cases hz : stuckE S s = 0
            · have hz' : (stuckE S s == 0) = true := by simpa using hz
              have HZ := Lib.hid (stuck_ok hz)
              clear hz
              go_wp2_with fail
              refine (stuckOf_any v1 S s _ HKd.out.rs (serErr_at HZ.out.2.1) (serErr_good HZ.out.2.1).1 HZ.out.2.2).mono ?_
              rintro e wa ⟨vw, rfl, hrw, hba⟩
              have hka := HKd.out.step hba
              have hga := Rd.below HG.out hba
              rw [← HZ.out.1] at hrw
              clear hba
              go_wp2_with fail
              go_meet
              exact ⟨hrw, hga, hka⟩
            · have hz' : (stuckE S s == 0) = false := by simpa using hz
              have HZ := Lib.hid (stuck_no hz)
              clear hz
              go_wp2_with fail
              go_meet
              exact ⟨by rw [HZ.out]; exact Rd.nil _ _ _, HG.out, HKd.out⟩
          case rest =>
            obtain ⟨hs, hg, hk⟩ := hcut
            have HKe := Lib.hid hk
            have HG' := Lib.hid hg
            have HS' := Lib.hid hs
            have c0 : wc.cell? ⟨w5.heap.size + 1, 0, none⟩ = some (.int .i64 n) := hk.bf.cell 0
            have c1 : wc.cell? ⟨w5.heap.size + 1, 1, none⟩ = some (.int .i64 d) := hk.bf.cell 1
            clear HKd HG hg hs
            go_upto_if 97 with fail
            go_cut [21] (fun s21 wx => RdI wx s21 (jumpsR S n d) ∧ RdW wx u20 (stuckR S s) ∧ RdW wx u19 (gapR S f t o) ∧ KF w v1 vg vs vj S (gapR S f t o) (stuckR S s) (jumpsR S n d) w5.heap.size (w5.heap.size + 1) f t n d wx)
            case first =>
              by_cases hz : jumpsE S n d = 0
              · have hz' : (jumpsE S n d == 0) = true := by simpa using hz
                have HZ := Lib.hid (jump_ok hz)
                clear hz
                go_wp2_with fail
                refine (jumpsOf_any v1 S n d _ HKe.out.rs HZ.out.2.1 HZ.out.2.2.1 HZ.out.2.2.2).mono ?_
                rintro e wa ⟨vw, rfl, hrw, hba⟩
                have hka := HKe.out.step hba
                have hga := Rd.below HG'.out hba
                have hsa := Rd.below HS'.out hba
                rw [← HZ.out.1] at hrw
                clear hba
                go_wp2_with fail
                go_meet
                exact ⟨hrw, hsa, hga, hka⟩
              · have hz' : (jumpsE S n d == 0) = false := by simpa using hz
                have HZ := Lib.hid (jump_no hz)
                clear hz
                go_wp2_with fail
                go_meet
                exact ⟨by rw [HZ.out]; exact Rd.nil _ _ _, HS'.out, HG'.out, HKe.out⟩
            case rest =>
              obtain ⟨hj, hs, hg, hk⟩ := hcut
              clear HKe HG' HS' c0 c1
              have HJ := Lib.hid hj
              have HS := Lib.hid hs
              have HG := Lib.hid hg
              have HK := Lib.hid hk
              clear hj hs hg hk
              go_wp2_with fail
              refine (equalW_same _ _ (gapR S f t o) _ HK.out.rg HG.out).mono ?_
              rintro e wd ⟨rfl, md, rfl⟩
              go_wp2_with fail
              refine (equalW_same _ _ (stuckR S s) _ (Rd.drewN HK.out.rk _) (Rd.drewN HS.out _)).mono ?_
              rintro e wf ⟨rfl, mf, rfl⟩
              go_wp2_with fail
              refine (equalI_same _ _ (jumpsR S n d) _ (Rd.drewN HK.out.rj _) (Rd.drewN HJ.out _)).mono ?_
              rintro e wh ⟨rfl, mh, rfl⟩
              go_wp2_with fail
              refine (sampled_any _).mono ?_
              rintro e wg ⟨rfl, hbg⟩
              have hend := HK.out.below
              go_wp2_with fail
              go_ret
              exact ⟨rfl, hend.trans (Below.mono (bundrewN hbg) hend.size)⟩
end Go.Proofs.Ytjkncmhmmafmjaa
