import Derived.Test.YtblbfpokkpkcjaaCom10
/- The contract of add of a span (package compress). -/

namespace Go.Proofs.Ytblbfpokkpkcjaa
open Go.RowKit
set_option linter.unusedVariables false
set_option linter.unusedSimpArgs false

set_option maxRecDepth 100000 in
set_option maxHeartbeats 2000000 in
theorem spanAdd_any (s : Nat) (d m : Int) (P x : Smp) (b : Bool) (lo hi : Int × Int) (w : World) (hs : Blk w s 206 (spanCells d m P b false lo hi)) (hP : FitP P) (hx : FitP x) (hq : x.q = P.q) (hd : 0 ≤ d ∧ d ≤ 2000000) (hlo : FitS lo) (hhi : FitS hi) :
    Calls Try.prog 168 #[.pointer (some ⟨s, 0, none⟩), .agg #[.int .i64 x.t, .int .i64 x.v, .int .i64 x.q]] w fun e w' => e = .returned (.bool (!b || accI m P x lo hi)) ∧
      Blk w' s 206 (spanCells d m P true false (lowN b lo (x.v + -d - P.v, x.t - P.t)) (highN b hi (x.v + d - P.v, x.t - P.t))) ∧ But s w w' := by
  have hk : KN w s w.heap.size (spanCells d m P b false lo hi) x (w.alloc (.cells #[.int .i64 x.t, .int .i64 x.v, .int .i64 x.q] 71)) :=
    ⟨hs.alloc _, Blk.new _ _ _, (Below.refl _ w).alloc (Nat.le_refl _) _⟩
  have hsw : s < w.heap.size := hs.lt
  have hqq : (x.q != P.q) = false := by rw [hq]; simp
  clear hs hq
  go_enter Try.func168, Try.ntmps168
  go_wp2_with fail
  generalize w.alloc (.cells #[.int .i64 x.t, .int .i64 x.v, .int .i64 x.q] 71) = wa at *
  have c4 : wa.cell? ⟨s, 4, none⟩ = some (.int .i64 P.q) := hk.sp.cell 4
  have c6 : wa.cell? ⟨s, 6, none⟩ = some (.bool false) := hk.sp.cell 6
  have f6 : wa.frozen? ⟨s, 6, none⟩ = false := hk.sp.frozen 6
  have a2 : wa.cell? ⟨w.heap.size, 2, none⟩ = some (.int .i64 x.q) := hk.bx.cell 2
  have hne : w.heap.size ≠ s := by omega
  go_region
  go_upto_region 2 with fail
  have hsp2 : Blk ((wa.setCell ⟨s, 6, none⟩ (.bool false)).drew) s 206 (spanCells d m P b false lo hi) := (hk.sp.set_ 6 (.bool false)).drew
  have hbx2 : Blk ((wa.setCell ⟨s, 6, none⟩ (.bool false)).drew) w.heap.size 71 #[.int .i64 x.t, .int .i64 x.v, .int .i64 x.q] := (hk.bx.setOther hne _).drew
  have hbt2 : But s w ((wa.setCell ⟨s, 6, none⟩ (.bool false)).drew) := (((But.refl s w).below hk.bl).setCell (.inl rfl) _).drew
  generalize (wa.setCell ⟨s, 6, none⟩ (.bool false)).drew = wb at *
  clear hk c4 c6 f6 a2
  have c5 : wb.cell? ⟨s, 5, none⟩ = some (.bool b) := hsp2.cell 5
  have a0 : wb.cell? ⟨w.heap.size, 0, none⟩ = some (.int .i64 x.t) := hbx2.cell 0
  have a1 : wb.cell? ⟨w.heap.size, 1, none⟩ = some (.int .i64 x.v) := hbx2.cell 1
  have a2 : wb.cell? ⟨w.heap.size, 2, none⟩ = some (.int .i64 x.q) := hbx2.cell 2
  cases b
  · have hnr := fun (w : World) (h : Blk w s 206 (spanCells d m P false false lo hi)) => narrow_any s d m P x false false lo hi w h hP hx hd hlo hhi
    have HP := Lib.hid (And.intro hP (And.intro hx (And.intro hlo hhi)))
    clear hP hx hlo hhi
    go_wp2_with fail
    refine (hnr _ hsp2).mono ?_
    rintro e wc ⟨rfl, hsp3, hbt3⟩
    clear hnr
    go_wp2_with fail
    go_ret
    exact ⟨rfl, hsp3, hbt2.trans hbt3⟩
  · have hac := fun (w : World) (h : Blk w s 206 (spanCells d m P true false lo hi)) => accepts_any s d m P x true lo hi w h hP hx hlo hhi
    have hnr := fun (w : World) (h : Blk w s 206 (spanCells d m P true false lo hi)) => narrow_any s d m P x true false lo hi w h hP hx hd hlo hhi
    have HP := Lib.hid (And.intro hP (And.intro hx (And.intro hlo hhi)))
    clear hP hx hlo hhi
    go_wp2_with fail
    refine (hac _ hsp2).mono ?_
    rintro e wc ⟨rfl, hbc⟩
    have hsp3 := hsp2.below hbc hsp2.lt
    have hbx3 := hbx2.below hbc hbx2.lt
    have b0 : wc.cell? ⟨w.heap.size, 0, none⟩ = some (.int .i64 x.t) := hbx3.cell 0
    have b1 : wc.cell? ⟨w.heap.size, 1, none⟩ = some (.int .i64 x.v) := hbx3.cell 1
    have b2 : wc.cell? ⟨w.heap.size, 2, none⟩ = some (.int .i64 x.q) := hbx3.cell 2
    have hbt3 := hbt2.below hbc
    clear hac hbc a0 a1 a2 c5 hsp2 hbx2 hbt2
    go_wp2_with fail
    refine (hnr _ hsp3).mono ?_
    rintro e wd ⟨rfl, hsp4, hbt4⟩
    clear hnr
    go_wp2_with fail
    go_ret
    exact ⟨rfl, hsp4, hbt3.trans hbt4⟩
end Go.Proofs.Ytblbfpokkpkcjaa
