/- The contracts of says, and of the function that asks whether a sample says something else (package alarm). -/
import Derived.Test.YtjoknaglhahbaaaActm
import Derived.Test.YtjoknaglhahbaaaDist
import Derived.StillTailTactics
import Derived.Deep.QuietTactic
import Derived.BigQuiet
import Derived.Deep.DeepCutAuto
namespace Go.Proofs.Ytjoknaglhahbaaa
open Go.RowKit
set_option linter.unusedVariables false
set_option linter.unusedSimpArgs false

/-- An alarm whose numbers are within bounds. -/
def AlmIn (x : Alm) : Prop := (-1000000 ≤ x.lim ∧ x.lim ≤ 1000000) ∧ (0 ≤ x.dead ∧ x.dead ≤ 2000000) ∧ (0 ≤ x.on ∧ x.on ≤ 86400000) ∧ (0 ≤ x.off ∧ x.off ≤ 86400000)

set_option maxRecDepth 100000 in
set_option maxHeartbeats 2000000 in
theorem says_eq (x : Alm) (s : Smp) (w : World) (hx : AlmIn x) (hs : -1000000 ≤ s.v ∧ s.v ≤ 1000000) :
    Calls Try.prog 56 #[.agg (almCells x), .agg #[.int .i64 s.t, .int .i64 s.v, .int .i64 s.q]] w fun e w' => e = .returned (.int .i64 (sayF x s)) ∧ w' = (w.alloc (.cells (almCells x) 37)).alloc (.cells #[.int .i64 s.t, .int .i64 s.v, .int .i64 s.q] 45) := by
  obtain ⟨key, tag, kind, lim, dead, on, off, prio, lat, par⟩ := x
  obtain ⟨h1, h2, h3, h4⟩ := hx
  simp only at h1 h2 h3 h4
  have hE : sayF ⟨key, tag, kind, lim, dead, on, off, prio, lat, par⟩ s = if kind = 3 then (if s.q = 2 then 1 else 2) else if s.q = 2 then 0 else if 0 < (if kind = 2 then -(s.v - lim) else s.v - lim) then 1 else if (if kind = 2 then -(s.v - lim) else s.v - lim) ≤ -dead then 2 else 0 := rfl
  generalize sayF ⟨key, tag, kind, lim, dead, on, off, prio, lat, par⟩ s = E at *
  have HE := Lib.hid hE
  clear hE
  simp only [almCells]
  show Calls _ _ #[.agg #[.string key, .string tag, .int .i64 kind, .int .i64 lim, .int .i64 dead, .int .i64 on, .int .i64 off, .int .i64 prio, .bool lat, .string par], _] _ _
  have ba := (Blk.new w 37 #[.string key, .string tag, .int .i64 kind, .int .i64 lim, .int .i64 dead, .int .i64 on, .int .i64 off, .int .i64 prio, .bool lat, .string par]).alloc (.cells #[.int .i64 s.t, .int .i64 s.v, .int .i64 s.q] 45)
  have bs := Blk.new1 w (.cells #[.string key, .string tag, .int .i64 kind, .int .i64 lim, .int .i64 dead, .int .i64 on, .int .i64 off, .int .i64 prio, .bool lat, .string par] 37) 45 #[.int .i64 s.t, .int .i64 s.v, .int .i64 s.q]
  by_cases hk3 : kind = 3
  · have k3 : (kind == 3) = true := by simpa using hk3
    by_cases hq : s.q = 2
    · have q2 : (s.q == 2) = true := by simpa using hq
      have HX := Lib.hid (show E = 1 by rw [HE.out, if_pos hk3, if_pos hq])
      clear hk3 hq HE
      go_enter Try.func56, Try.ntmps56
      go_upto_region 1 with fail
      generalize hw1 : (w.alloc (.cells #[.string key, .string tag, .int .i64 kind, .int .i64 lim, .int .i64 dead, .int .i64 on, .int .i64 off, .int .i64 prio, .bool lat, .string par] 37)).alloc (.cells #[.int .i64 s.t, .int .i64 s.v, .int .i64 s.q] 45) = w1 at *
      have HW1 := Lib.hid hw1
      clear hw1
      have c0 := ba.cell 2
      have c1 := bs.cell 2
      go_wp2_with fail
      go_ret
      exact ⟨ret_int (by rw [HX.out]), HW1.out.symm⟩
    · have q2 : (s.q == 2) = false := by simpa using hq
      have HX := Lib.hid (show E = 2 by rw [HE.out, if_pos hk3, if_neg hq])
      clear hk3 hq HE
      go_enter Try.func56, Try.ntmps56
      go_upto_region 1 with fail
      generalize hw1 : (w.alloc (.cells #[.string key, .string tag, .int .i64 kind, .int .i64 lim, .int .i64 dead, .int .i64 on, .int .i64 off, .int .i64 prio, .bool lat, .string par] 37)).alloc (.cells #[.int .i64 s.t, .int .i64 s.v, .int .i64 s.q] 45) = w1 at *
      have HW1 := Lib.hid hw1
      clear hw1
      have c0 := ba.cell 2
      have c1 := bs.cell 2
      go_wp2_with fail
      go_ret
      exact ⟨ret_int (by rw [HX.out]), HW1.out.symm⟩
  · have k3 : (kind == 3) = false := by simpa using hk3
    have HE2 := Lib.hid (show E = if s.q = 2 then 0 else if 0 < (if kind = 2 then -(s.v - lim) else s.v - lim) then 1 else if (if kind = 2 then -(s.v - lim) else s.v - lim) ≤ -dead then 2 else 0 by rw [HE.out, if_neg hk3])
    clear HE hk3
    by_cases hq : s.q = 2
    · have q2 : (s.q == 2) = true := by simpa using hq
      have HX := Lib.hid (show E = 0 by rw [HE2.out, if_pos hq])
      clear hq HE2
      go_enter Try.func56, Try.ntmps56
      go_upto_region 1 with fail
      generalize hw1 : (w.alloc (.cells #[.string key, .string tag, .int .i64 kind, .int .i64 lim, .int .i64 dead, .int .i64 on, .int .i64 off, .int .i64 prio, .bool lat, .string par] 37)).alloc (.cells #[.int .i64 s.t, .int .i64 s.v, .int .i64 s.q] 45) = w1 at *
      have HW1 := Lib.hid hw1
      clear hw1
      have c0 := ba.cell 2
      have c1 := bs.cell 2
      go_wp2_with fail
      go_ret
      exact ⟨ret_int (by rw [HX.out]), HW1.out.symm⟩
    · have q2 : (s.q == 2) = false := by simpa using hq
      have HE3 := Lib.hid (show E = if 0 < (if kind = 2 then -(s.v - lim) else s.v - lim) then 1 else if (if kind = 2 then -(s.v - lim) else s.v - lim) ≤ -dead then 2 else 0 by rw [HE2.out, if_neg hq])
      clear hq HE2
      have wr1 : IntKind.i64.wrap (s.v - lim) = s.v - lim := IntWalk.i64_in _ (by omega)
      by_cases hk2 : kind = 2
      · have k2 : (kind == 2) = true := by simpa using hk2
        rw [if_pos hk2] at HE3
        clear hk2
        go_enter Try.func56, Try.ntmps56
        go_upto_region 1 with fail
        generalize hw1 : (w.alloc (.cells #[.string key, .string tag, .int .i64 kind, .int .i64 lim, .int .i64 dead, .int .i64 on, .int .i64 off, .int .i64 prio, .bool lat, .string par] 37)).alloc (.cells #[.int .i64 s.t, .int .i64 s.v, .int .i64 s.q] 45) = w1 at *
        have HW1 := Lib.hid hw1
        clear hw1
        have c0 := ba.cell 2
        have c1 := bs.cell 2
        have c2 := bs.cell 1
        have c3 := ba.cell 3
        have c4 := ba.cell 4
        go_upto_region 11 with fail
        have hBb : -2000000 ≤ -(s.v - lim) ∧ -(s.v - lim) ≤ 2000000 := by omega
        generalize -(s.v - lim) = B at *
        clear wr1
        by_cases hp : 0 < B
        · have HX := Lib.hid (show E = 1 by rw [HE3.out, if_pos hp])
          clear HE3
          go_wp2_with fail
          go_ret
          exact ⟨ret_int (by rw [HX.out]), HW1.out.symm⟩
        · by_cases hn : B ≤ -dead
          · have HX := Lib.hid (show E = 2 by rw [HE3.out, if_neg hp, if_pos hn])
            clear HE3
            go_wp2_with fail
            go_ret
            exact ⟨ret_int (by rw [HX.out]), HW1.out.symm⟩
          · have HX := Lib.hid (show E = 0 by rw [HE3.out, if_neg hp, if_neg hn])
            clear HE3
            go_wp2_with fail
            go_ret
            exact ⟨ret_int (by rw [HX.out]), HW1.out.symm⟩
      · have k2 : (kind == 2) = false := by simpa using hk2
        rw [if_neg hk2] at HE3
        clear hk2
        go_enter Try.func56, Try.ntmps56
        go_upto_region 1 with fail
        generalize hw1 : (w.alloc (.cells #[.string key, .string tag, .int .i64 kind, .int .i64 lim, .int .i64 dead, .int .i64 on, .int .i64 off, .int .i64 prio, .bool lat, .string par] 37)).alloc (.cells #[.int .i64 s.t, .int .i64 s.v, .int .i64 s.q] 45) = w1 at *
        have HW1 := Lib.hid hw1
        clear hw1
        have c0 := ba.cell 2
        have c1 := bs.cell 2
        have c2 := bs.cell 1
        have c3 := ba.cell 3
        have c4 := ba.cell 4
        go_upto_region 11 with fail
        have hBb : -2000000 ≤ (s.v - lim) ∧ (s.v - lim) ≤ 2000000 := by omega
        generalize (s.v - lim) = B at *
        clear wr1
        by_cases hp : 0 < B
        · have HX := Lib.hid (show E = 1 by rw [HE3.out, if_pos hp])
          clear HE3
          go_wp2_with fail
          go_ret
          exact ⟨ret_int (by rw [HX.out]), HW1.out.symm⟩
        · by_cases hn : B ≤ -dead
          · have HX := Lib.hid (show E = 2 by rw [HE3.out, if_neg hp, if_pos hn])
            clear HE3
            go_wp2_with fail
            go_ret
            exact ⟨ret_int (by rw [HX.out]), HW1.out.symm⟩
          · have HX := Lib.hid (show E = 0 by rw [HE3.out, if_neg hp, if_neg hn])
            clear HE3
            go_wp2_with fail
            go_ret
            exact ⟨ret_int (by rw [HX.out]), HW1.out.symm⟩

theorem says_any (x : Alm) (s : Smp) (w : World) (hx : AlmIn x) (hs : -1000000 ≤ s.v ∧ s.v ≤ 1000000) :
    Calls Try.prog 56 #[.agg (almCells x), .agg #[.int .i64 s.t, .int .i64 s.v, .int .i64 s.q]] w fun e w' => e = .returned (.int .i64 (sayF x s)) ∧ Below w.heap.size w w' := by
  refine (says_eq x s w hx hs).mono ?_
  rintro e w' ⟨rfl, rfl⟩
  exact ⟨rfl, ((Below.refl _ w).alloc (Nat.le_refl _) _).alloc (by simp) _⟩
theorem enter_runs11 (args : Array Value) (w : World) : (callFunc 57 args).run Try.prog w = .ok (.enter 57 args) w := by kernel_rfl
set_option maxRecDepth 100000 in
set_option maxHeartbeats 2000000 in
theorem runs11_any (x : Alm) (s : Smp) (bx bw : Nat) (c : Int) (w : World) (hx : AlmIn x) (hs : -1000000 ≤ s.v ∧ s.v ≤ 1000000) (hX : Blk w bx 37 (almCells x)) (hW : Blk w bw 3 #[.int .i64 c]) :
    Calls Try.prog 57 #[.agg #[.int .i64 s.t, .int .i64 s.v, .int .i64 s.q], .pointer (some ⟨bx, 0, none⟩), .pointer (some ⟨bw, 0, none⟩)] w fun e w' => e = .returned (.bool (decide (sayF x s ≠ c))) ∧ Below w.heap.size w w' := by
  have hSY := fun W => says_any x s W hx hs
  obtain ⟨key, tag, kind, lim, dead, on, off, prio, lat, par⟩ := x
  have hbe : Below w.heap.size w (w.alloc (.cells #[.int .i64 s.t, .int .i64 s.v, .int .i64 s.q] 45)) := (Below.refl _ w).alloc (Nat.le_refl _) _
  have bs := Blk.new w 45 #[.int .i64 s.t, .int .i64 s.v, .int .i64 s.q]
  have bX := hX.alloc (.cells #[.int .i64 s.t, .int .i64 s.v, .int .i64 s.q] 45)
  have bW := hW.alloc (.cells #[.int .i64 s.t, .int .i64 s.v, .int .i64 s.q] 45)
  have hE : decide (sayF ⟨key, tag, kind, lim, dead, on, off, prio, lat, par⟩ s ≠ c) = (sayF ⟨key, tag, kind, lim, dead, on, off, prio, lat, par⟩ s != c) := by rw [Bool.eq_iff_iff]; simp
  rw [hE]
  simp only [almCells] at hSY bX
  generalize sayF ⟨key, tag, kind, lim, dead, on, off, prio, lat, par⟩ s = Y at *
  clear hE hX hW
  go_enter Try.func57, Try.ntmps57
  go_upto_region 1 with fail
  generalize w.alloc (.cells #[.int .i64 s.t, .int .i64 s.v, .int .i64 s.q] 45) = w1 at *
  have a0 := bX.cell 0
  have a1 := bX.cell 1
  have a2 := bX.cell 2
  have a3 := bX.cell 3
  have a4 := bX.cell 4
  have a5 := bX.cell 5
  have a6 := bX.cell 6
  have a7 := bX.cell 7
  have a8 := bX.cell 8
  have a9 := bX.cell 9
  have s0 := bs.cell 0
  have s1 := bs.cell 1
  have s2 := bs.cell 2
  have d0 := bW.cell 0
  go_region_with (go_at_call 56; (with_reducible refine (hSY _).mono ?_); rintro e w2 ⟨rfl, hb2⟩; have d1 : w2.cell? ⟨bw, 0, none⟩ = some (.int .i64 c) := (by first | exact (bW.below hb2 bW.lt).cell 0 | exact (Blk.below (Blk.drew bW) hb2 bW.lt).cell 0); have hbz : Below w.heap.size w w2 := (by first | exact hbe.trans (hb2.mono hbe.size) | exact hbe.drew.trans (hb2.mono hbe.drew.size)))
  all_goals go_wp2_with fail
  all_goals go_ret
  all_goals first | exact ⟨rfl, hbz⟩ | exact ⟨rfl, hbz.drew⟩
end Go.Proofs.Ytjoknaglhahbaaa
