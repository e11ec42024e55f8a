/- Active (package alarm), for an alarm that checkAlarm finds right; checkAlarm of an alarm that watches for high values. -/
import Derived.Test.YtjoknaglhahbaaaAwin
import Derived.Test.YtjoknaglhahbaaaSer
namespace Go.Proofs.Ytjoknaglhahbaaa
open Go.RowKit
set_option linter.unusedVariables false
set_option linter.unusedSimpArgs false

/-- What Active returns. -/
def actE (l : List Smp) (u : Int) : Int := if serErr l ≠ 0 then serErr l else if inB u 0 345686400000 = false then 1 else 0
def actR (x : Alm) (l : List Smp) (u : Int) : List (Int × Int) := if actE l u = 0 then actL x l u else []

set_option maxRecDepth 100000 in
set_option maxHeartbeats 2000000 in
theorem checkAlone_of (x : Alm) (v : Value) (l : List Smp) (w : World) (hR : RdS w 45 v l)
    (HC : ∀ W, Calls Try.prog 41 #[.agg (almCells x)] W fun e w' => e = .returned (.int .i64 0) ∧ Below W.heap.size W w') :
    Calls Try.prog 25 #[.agg (almCells x), v] w fun e w' => e = .returned (.int .i64 (serErr l)) ∧ Below w.heap.size w w' := by
  obtain ⟨key, tag, kind, lim, dead, on, of, prio, lat, par⟩ := x
  simp only [almCells] at HC ⊢
  obtain ⟨pa, ca, rfl⟩ := hR.lenv
  have hbe := (Below.refl w.heap.size w).alloc (Nat.le_refl _) (.cells #[.string key, .string tag, .int .i64 kind, .int .i64 lim, .int .i64 dead, .int .i64 on, .int .i64 of, .int .i64 prio, .bool lat, .string par] 37)
  have ba := Blk.new w 37 #[.string key, .string tag, .int .i64 kind, .int .i64 lim, .int .i64 dead, .int .i64 on, .int .i64 of, .int .i64 prio, .bool lat, .string par]
  have HH := Lib.hid HC
  have HR := Lib.hid hR
  clear HC hR
  go_enter Try.func25, Try.ntmps25
  go_upto_region 1 with fail
  generalize w.alloc (.cells #[.string key, .string tag, .int .i64 kind, .int .i64 lim, .int .i64 dead, .int .i64 on, .int .i64 of, .int .i64 prio, .bool lat, .string par] 37) = w1 at *
  have a0 := ba.cell 0
  have a1 := ba.cell 1
  have a2 := ba.cell 2
  have a3 := ba.cell 3
  have a4 := ba.cell 4
  have a5 := ba.cell 5
  have a6 := ba.cell 6
  have a7 := ba.cell 7
  have a8 := ba.cell 8
  have a9 := ba.cell 9
  go_wp2_with fail
  refine (HH.out _).mono ?_
  rintro e w2 ⟨rfl, hb2⟩
  have hb := hbe.trans (hb2.mono hbe.size)
  clear a0 a1 a2 a3 a4 a5 a6 a7 a8 a9 ba hbe hb2
  go_wp2_with fail
  refine (checkSeries_any (.slice pa l.length ca) l _ (Rd.below HR.out hb)).mono ?_
  rintro e w3 ⟨rfl, hb3⟩
  go_wp2_with fail
  go_ret
  exact ⟨rfl, hb.trans (hb3.mono hb.size)⟩

set_option maxRecDepth 100000 in
set_option maxHeartbeats 2000000 in
theorem active_of (x : Alm) (v : Value) (l : List Smp) (u : Int) (w : World) (hR : RdS w 45 v l) (hx : AlmIn x)
    (HC : ∀ W, Calls Try.prog 41 #[.agg (almCells x)] W fun e w' => e = .returned (.int .i64 0) ∧ Below W.heap.size W w') :
    Calls Try.prog 8 #[.agg (almCells x), v, .int .i64 u] w fun e w' => ∃ vr, e = .returned (.tuple #[vr, .int .i64 (actE l u)]) ∧ RdWdw w' vr (actR x l u) ∧ Below w.heap.size w w' := by
  have HCA := Lib.hid (fun W (h : RdS W 45 v l) => checkAlone_of x v l W h HC)
  have HWN := Lib.hid (fun W (h : RdS W 45 v l) (hS : serErr l = 0) (hu : 0 ≤ u ∧ u ≤ 345686400000) => windows_any v l u x W h hS hx hu)
  have hE : actE l u = if serErr l ≠ 0 then serErr l else if inB u 0 345686400000 = false then 1 else 0 := rfl
  have hRR : actR x l u = if actE l u = 0 then actL x l u else [] := rfl
  generalize actR x l u = RR at *
  generalize actE l u = E at *
  generalize actL x l u = AL at *
  obtain ⟨key, tag, kind, lim, dead, on, of, prio, lat, par⟩ := x
  simp only [almCells] at HCA HWN ⊢
  obtain ⟨pa, ca, rfl⟩ := hR.lenv
  have hbe := (Below.refl w.heap.size w).alloc (Nat.le_refl _) (.cells #[.string key, .string tag, .int .i64 kind, .int .i64 lim, .int .i64 dead, .int .i64 on, .int .i64 of, .int .i64 prio, .bool lat, .string par] 37)
  have ba := Blk.new w 37 #[.string key, .string tag, .int .i64 kind, .int .i64 lim, .int .i64 dead, .int .i64 on, .int .i64 of, .int .i64 prio, .bool lat, .string par]
  have HE := Lib.hid hE
  have HRR := Lib.hid hRR
  have HR := Lib.hid hR
  clear HC hR hE hRR
  go_enter Try.func8, Try.ntmps8
  go_upto_region 1 with fail
  generalize w.alloc (.cells #[.string key, .string tag, .int .i64 kind, .int .i64 lim, .int .i64 dead, .int .i64 on, .int .i64 of, .int .i64 prio, .bool lat, .string par] 37) = w1 at *
  have a0 := ba.cell 0
  have a1 := ba.cell 1
  have a2 := ba.cell 2
  have a3 := ba.cell 3
  have a4 := ba.cell 4
  have a5 := ba.cell 5
  have a6 := ba.cell 6
  have a7 := ba.cell 7
  have a8 := ba.cell 8
  have a9 := ba.cell 9
  go_wp2_with fail
  refine (HCA.out _ (Rd.below HR.out hbe)).mono ?_
  rintro e w2 ⟨rfl, hb2⟩
  have hb := hbe.trans (hb2.mono hbe.size)
  have ba2 := ba.below hb2 ba.lt
  clear a0 a1 a2 a3 a4 a5 a6 a7 a8 a9 ba hbe hb2
  by_cases hS : serErr l = 0
  · have hS' : (serErr l != 0) = false := by simpa using hS
    have HE2 := Lib.hid (show E = if inB u 0 345686400000 = false then 1 else 0 by rw [HE.out, if_neg (by simp [hS])])
    have HS := Lib.hid hS
    clear hS HE
    go_wp2_with fail
    refine (within_any u 0 345686400000 _).mono ?_
    rintro e w3 ⟨rfl, rfl⟩
    cases hu : inB u 0 345686400000
    · have HX := Lib.hid (show E = 1 by rw [HE2.out, hu]; rfl)
      have HX2 := Lib.hid (show RR = [] by rw [HRR.out, HX.out]; rfl)
      go_wp2_with fail
      go_ret2
      exact ⟨_, by rw [HX.out]; rfl, by rw [HX2.out]; exact Rd.nil _ _ _, hb⟩
    · have HX := Lib.hid (show E = 0 by rw [HE2.out, hu]; rfl)
      have HX2 := Lib.hid (show RR = AL by rw [HRR.out, HX.out]; rfl)
      have hub := inB_true.1 hu
      have a0 := ba2.cell 0
      have a1 := ba2.cell 1
      have a2 := ba2.cell 2
      have a3 := ba2.cell 3
      have a4 := ba2.cell 4
      have a5 := ba2.cell 5
      have a6 := ba2.cell 6
      have a7 := ba2.cell 7
      have a8 := ba2.cell 8
      have a9 := ba2.cell 9
      go_wp2_with fail
      refine (HWN.out _ (Rd.below HR.out hb) HS.out hub).mono ?_
      rintro e w4 ⟨vr, rfl, hrr, hb4⟩
      go_wp2_with fail
      go_ret2
      exact ⟨vr, by rw [HX.out]; rfl, by rw [HX2.out]; exact hrr, hb.trans (hb4.mono hb.size)⟩
  · have hS' : (serErr l != 0) = true := by simpa using hS
    have HX := Lib.hid (show E = serErr l by rw [HE.out, if_pos hS])
    have HX2 := Lib.hid (show RR = [] by rw [HRR.out, HX.out, if_neg hS])
    clear hS
    go_wp2_with fail
    go_ret2
    exact ⟨_, by rw [HX.out]; rfl, by rw [HX2.out]; exact Rd.nil _ _ _, hb⟩
end Go.Proofs.Ytjoknaglhahbaaa
