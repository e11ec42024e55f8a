/- The contracts of the reference's AddFault, lineOff and covers. -/
import Derived.Test.YtmigafjimnkcmaaCmpf
namespace Go.Proofs.Ytmigafjimnkcmaa
open Go.RowKit
set_option linter.unusedVariables false
set_option linter.unusedSimpArgs false

set_option maxRecDepth 100000 in
set_option maxHeartbeats 1000000 in
theorem addFault_any (v : Value) (l : List Smp) (x : Smp) (w : World) (hR : RdS w 51 v l) (hlong : l.length ≤ 100000) :
    Calls Try.prog 29 #[v, .agg #[.int .i64 x.t, .int .i64 x.v, .int .i64 x.q]] w fun e w' => e = .returned (.int .i64 (addErr l x)) ∧ Below w.heap.size w w' := by
  have hcs := fun w => sampleFault_any x w
  unfold Smp.agg at hcs
  obtain ⟨pa, ca, rfl⟩ := hR.lenv
  by_cases h0 : smpErr x = 0
  · rw [h0] at hcs
    have he : addErr l x = if 0 < l.length ∧ x.t ≤ (atS l (l.length - 1)).t then 7 else 0 := by unfold addErr; rw [if_neg (by simpa using h0)]
    have HE := Lib.hid he
    clear he h0
    have hbl : Below w.heap.size w ((w.alloc (.cells #[.int .i64 x.t, .int .i64 x.v, .int .i64 x.q] 51)).alloc (.cells #[.int .i64 x.t, .int .i64 x.v, .int .i64 x.q] 51)) := ((Below.refl _ w).alloc (Nat.le_refl _) _).alloc (by simp) _
    have hB1 : Blk ((w.alloc (.cells #[.int .i64 x.t, .int .i64 x.v, .int .i64 x.q] 51)).alloc (.cells #[.int .i64 x.t, .int .i64 x.v, .int .i64 x.q] 51)) w.heap.size 51 #[.int .i64 x.t, .int .i64 x.v, .int .i64 x.q] := (Blk.new _ _ _).alloc _
    have hR2 := (hR.below hbl (Nat.le_refl _))
    have HX := Lib.hid (And.intro hbl (And.intro hB1 hR2))
    clear hbl hB1 hR2 hR
    rcases Nat.eq_zero_or_pos l.length with hl | hl
    · have hl' : decide (0 < l.length) = false := decide_eq_false (by omega)
      have HE2 := Lib.hid (show addErr l x = 0 by rw [HE.out, if_neg (fun h => by omega)])
      have hll : (l.length : Int) = 0 := by omega
      clear hl hl'
      go_enter Try.func29, Try.ntmps29
      go_upto_region 5 with (go_at_call 82; refine (hcs _).mono ?_; rintro e w' ⟨rfl, rfl⟩)
      obtain ⟨hbl, hB1, hR2⟩ := HX.out
      generalize (w.alloc (.cells #[.int .i64 x.t, .int .i64 x.v, .int .i64 x.q] 51)).alloc (.cells #[.int .i64 x.t, .int .i64 x.v, .int .i64 x.q] 51) = wa at *
      go_quiet (fail)
      go_wp2_with fail
      go_ret
      exact ⟨ret_int HE2.out.symm, bdrewN hbl _⟩
    · have hl' : decide (0 < l.length) = true := by simpa using hl
      obtain ⟨k, hk⟩ : ∃ k, l.length = k + 1 := ⟨l.length - 1, by omega⟩
      obtain ⟨hbl, hB1, hR2⟩ := HX.out
      obtain ⟨b, off, c, hv, hc1, hc2, hblt, hcell⟩ := RdS.at_ hR2 (by omega)
      cases hv
      obtain ⟨z0, z1, z2⟩ := hcell k (by omega)
      have he2 : addErr l x = if x.t ≤ (atS l k).t then 7 else 0 := by
        rw [HE.out, hk, Nat.add_sub_cancel]
        by_cases h : x.t ≤ (atS l k).t
        · rw [if_pos ⟨by omega, h⟩, if_pos h]
        · rw [if_neg (fun hh => h hh.2), if_neg h]
      have HE2 := Lib.hid he2
      have a0 := hB1.cell 0
      have HB := Lib.hid hbl
      generalize atS l k = y at *
      have HZ := Lib.hid (And.intro z0 (show _ = some (Value.int .i64 x.t) from a0))
      clear hcell he2 hbl hB1 hR2 z0 z1 z2 a0 hl
      by_cases hle : x.t ≤ y.t
      · have hle' : decide (x.t ≤ y.t) = true := by simpa using hle
        have HE3 := Lib.hid (show addErr l x = 7 by rw [HE2.out, if_pos hle])
        clear hle
        go_enter Try.func29, Try.ntmps29
        go_upto_region 5 with (go_at_call 82; refine (hcs _).mono ?_; rintro e w' ⟨rfl, rfl⟩)
        obtain ⟨z0, a0⟩ := HZ.out
        generalize (w.alloc (.cells #[.int .i64 x.t, .int .i64 x.v, .int .i64 x.q] 51)).alloc (.cells #[.int .i64 x.t, .int .i64 x.v, .int .i64 x.q] 51) = wa at *
        go_quiet (fail)
        go_wp2_with fail
        go_ret
        exact ⟨ret_int HE3.out.symm, bdrewN HB.out _⟩
      · have hle' : decide (x.t ≤ y.t) = false := by simpa using hle
        have HE3 := Lib.hid (show addErr l x = 0 by rw [HE2.out, if_neg hle])
        clear hle
        go_enter Try.func29, Try.ntmps29
        go_upto_region 5 with (go_at_call 82; refine (hcs _).mono ?_; rintro e w' ⟨rfl, rfl⟩)
        obtain ⟨z0, a0⟩ := HZ.out
        generalize (w.alloc (.cells #[.int .i64 x.t, .int .i64 x.v, .int .i64 x.q] 51)).alloc (.cells #[.int .i64 x.t, .int .i64 x.v, .int .i64 x.q] 51) = wa at *
        go_quiet (fail)
        go_wp2_with fail
        go_ret
        exact ⟨ret_int HE3.out.symm, bdrewN HB.out _⟩
  · have he : addErr l x = smpErr x := by unfold addErr; rw [if_pos h0]
    rw [he]
    have hne : (smpErr x != 0) = true := by simpa using h0
    generalize smpErr x = E at *
    clear he h0 hR
    go_enter Try.func29, Try.ntmps29
    go_wp2_with (go_at_call 82; refine (hcs _).mono ?_; rintro e w' ⟨rfl, rfl⟩)
    go_ret
    exact ⟨rfl, ((Below.refl _ w).alloc (Nat.le_refl _) _).alloc (by simp) _⟩

theorem prod_near {u t : Int} (hu : -2000000 ≤ u ∧ u ≤ 2000000) (ht : -345686399999 ≤ t ∧ t ≤ 345686399999) : -691372799998000000 ≤ u * t ∧ u * t ≤ 691372799998000000 := by
  have e : (u * t).natAbs = u.natAbs * t.natAbs := Int.natAbs_mul _ _
  have h5 : u.natAbs * t.natAbs ≤ 2000000 * 345686399999 := Nat.mul_le_mul (by omega) (by omega)
  omega
set_option maxRecDepth 100000 in
set_option maxHeartbeats 1000000 in
theorem lineOff_any (a b s : Smp) (w : World) (ha : FitP a) (hb : FitP b) (hs : FitP s) :
    Calls Try.prog 153 #[.agg #[.int .i64 a.t, .int .i64 a.v, .int .i64 a.q], .agg #[.int .i64 b.t, .int .i64 b.v, .int .i64 b.q], .agg #[.int .i64 s.t, .int .i64 s.v, .int .i64 s.q]] w fun e w' => e = .returned (.int .i64 (dist (lineI a b s) 0)) ∧ Below w.heap.size w w' := by
  have q1 : -691372799998000000 ≤ (a.v - s.v) * (b.t - a.t) ∧ (a.v - s.v) * (b.t - a.t) ≤ 691372799998000000 := prod_near (by unfold FitP at *; omega) (by unfold FitP at *; omega)
  have q2 : -691372799998000000 ≤ (b.v - a.v) * (s.t - a.t) ∧ (b.v - a.v) * (s.t - a.t) ≤ 691372799998000000 := prod_near (by unfold FitP at *; omega) (by unfold FitP at *; omega)
  have r1 : (-2000000 ≤ a.v - s.v ∧ a.v - s.v ≤ 2000000) ∧ (-2000000 ≤ b.v - a.v ∧ b.v - a.v ≤ 2000000) := by unfold FitP at *; omega
  have r2 : (-345686399999 ≤ b.t - a.t ∧ b.t - a.t ≤ 345686399999) ∧ (-345686399999 ≤ s.t - a.t ∧ s.t - a.t ≤ 345686399999) := by unfold FitP at *; omega
  have hf := fun w => far_any ((a.v - s.v) * (b.t - a.t) + (b.v - a.v) * (s.t - a.t)) 0 w (by omega) (by omega)
  have hl : lineI a b s = (a.v - s.v) * (b.t - a.t) + (b.v - a.v) * (s.t - a.t) := rfl
  rw [hl]
  have HP := Lib.hid (And.intro ha (And.intro hb hs))
  clear ha hb hs hl
  go_enter Try.func153, Try.ntmps153
  go_wp2_with (go_at_call 116; refine (hf _).mono ?_; rintro e w' ⟨rfl, rfl⟩)
  go_ret
  exact ⟨rfl, (((Below.refl _ w).alloc (Nat.le_refl _) _).alloc (by simp) _).alloc (by simp; omega) _⟩
end Go.Proofs.Ytmigafjimnkcmaa
