import Derived.Test.YtblbfpokkpkcjaaCom12
/- The contract of a compressor's process at a sample of the same quality (package compress). -/

namespace Go.Proofs.Ytblbfpokkpkcjaa
open Go.RowKit
set_option linter.unusedVariables false
set_option linter.unusedSimpArgs false

theorem But2.set_ {c s : Nat} {w w' : World} (h : But2 c s w w') (i : Nat) (u : Value) : But2 c s w (w'.setCell ⟨c, i, none⟩ u) :=
  h.trans (But2.of_but ((But.refl c w').setCell (.inl rfl) u) (.inl rfl))

set_option maxRecDepth 100000 in
set_option maxHeartbeats 2000000 in
/-- It is accepted. -/
theorem process_open (c s : Nat) (d m : Int) (H P x : Smp) (b : Bool) (lo hi : Int × Int) (w : World) (hc : Blk w c 152 (compCells d m (some ⟨s, 0, none⟩) H)) (hs : Blk w s 206 (spanCells d m P b false lo hi)) (hq : x.q = P.q)
    (hP : FitP P) (hx : FitP x) (hd : 0 ≤ d ∧ d ≤ 2000000) (hlo : FitS lo) (hhi : FitS hi) (hB : (!b || accI m P x lo hi) = true) :
    Calls Try.prog 106 #[.pointer (some ⟨c, 0, none⟩), .agg #[.int .i64 x.t, .int .i64 x.v, .int .i64 x.q]] w fun e w' => e = .returned (.tuple #[.bool false, .bool false]) ∧
      Blk w' c 152 (compCells d m (some ⟨s, 0, none⟩) x) ∧ Blk w' s 206 (spanCells d m P true false (lowN b lo (x.v + -d - P.v, x.t - P.t)) (highN b hi (x.v + d - P.v, x.t - P.t))) ∧ But2 c s w w' := by
  have hk : KP w c w.heap.size (compCells d m (some ⟨s, 0, none⟩) H) x (w.alloc (.cells #[.int .i64 x.t, .int .i64 x.v, .int .i64 x.q] 71)) :=
    ⟨hc.alloc _, Blk.new _ _ _, (Below.refl _ w).alloc (Nat.le_refl _) _⟩
  have hs2 := hs.alloc (.cells #[.int .i64 x.t, .int .i64 x.v, .int .i64 x.q] 71)
  have hcw : c < w.heap.size := hc.lt
  have hsw : s < w.heap.size := hs.lt
  have hcs : c ≠ s := by
    rintro rfl
    exact hc.no (e := 206) (by decide) _ _ hs
  have hne : w.heap.size ≠ c := by omega
  have hns : w.heap.size ≠ s := by omega
  have hqq : (P.q != x.q) = false := by rw [hq]; simp
  have hadd := fun (w : World) (h : Blk w s 206 (spanCells d m P b false lo hi)) => spanAdd_any s d m P x b lo hi w h hP hx hq hd hlo hhi
  rw [hB] at hadd
  have HADD := Lib.hid hadd
  clear hc hs hq hadd hB
  go_enter Try.func106, Try.ntmps106
  go_wp2_with fail
  generalize w.alloc (.cells #[.int .i64 x.t, .int .i64 x.v, .int .i64 x.q] 71) = wa at *
  have c2 : wa.cell? ⟨c, 2, none⟩ = some (.pointer (some ⟨s, 0, none⟩)) := hk.cp.cell 2
  have s4 : wa.cell? ⟨s, 4, none⟩ = some (.int .i64 P.q) := hs2.cell 4
  have a2 : wa.cell? ⟨w.heap.size, 2, none⟩ = some (.int .i64 x.q) := hk.bx.cell 2
  go_quiet (fail)
  go_upto_region 4 with fail
  have hkb := hk.drewN nq
  have hsb := hs2.drewN nq
  generalize wa.drewN nq = wb at *
  clear c2 s4 a2 hk hs2
  have hS0 : (wb.drew).cell? ⟨c, 2, none⟩ = some (.pointer (some ⟨s, 0, none⟩)) ∧ (wb.drew).cell? ⟨w.heap.size, 0, none⟩ = some (.int .i64 x.t) ∧ (wb.drew).cell? ⟨w.heap.size, 1, none⟩ = some (.int .i64 x.v) ∧ (wb.drew).cell? ⟨w.heap.size, 2, none⟩ = some (.int .i64 x.q) := ⟨(hkb.drew).cp.cell 2, (hkb.drew).bx.cell 0, (hkb.drew).bx.cell 1, (hkb.drew).bx.cell 2⟩
  go_region_held3 (fun w' => (w').cell? ⟨c, 2, none⟩ = some (.pointer (some ⟨s, 0, none⟩)) ∧ (w').cell? ⟨w.heap.size, 0, none⟩ = some (.int .i64 x.t) ∧ (w').cell? ⟨w.heap.size, 1, none⟩ = some (.int .i64 x.v) ∧ (w').cell? ⟨w.heap.size, 2, none⟩ = some (.int .i64 x.q))
    (first | with_reducible exact hSk | with_reducible exact hS0)
    (first
    | (go_at_call 168; (with_reducible refine (HADD.out _ hsb.drew).mono ?_); rintro e wk ⟨rfl, hzk, hbk⟩; have hck := hkb.cp.drew.but hbk hcs; have hxk := hkb.bx.drew.but hbk hns; have hSk : (wk).cell? ⟨c, 2, none⟩ = some (.pointer (some ⟨s, 0, none⟩)) ∧ (wk).cell? ⟨w.heap.size, 0, none⟩ = some (.int .i64 x.t) ∧ (wk).cell? ⟨w.heap.size, 1, none⟩ = some (.int .i64 x.v) ∧ (wk).cell? ⟨w.heap.size, 2, none⟩ = some (.int .i64 x.q) := ⟨hck.cell 2, hxk.cell 0, hxk.cell 1, hxk.cell 2⟩; have hbt : But2 c s w wk := (But2.of_below (hkb.drew.bl)).trans (But2.of_but hbk (.inr rfl)); clear hbk))
  go_upto_region 8 with fail
  have e3 : wk.cell? ⟨c, 3, none⟩ = some (.int .i64 H.t) := hck.cell 3
  have e4 : wk.cell? ⟨c, 4, none⟩ = some (.int .i64 H.v) := hck.cell 4
  have e5 : wk.cell? ⟨c, 5, none⟩ = some (.int .i64 H.q) := hck.cell 5
  have g3 : wk.frozen? ⟨c, 3, none⟩ = false := hck.frozen 3
  have g4 : wk.frozen? ⟨c, 4, none⟩ = false := hck.frozen 4
  have g5 : wk.frozen? ⟨c, 5, none⟩ = false := hck.frozen 5
  have y0 : wk.cell? ⟨w.heap.size, 0, none⟩ = some (.int .i64 x.t) := hxk.cell 0
  have y1 : wk.cell? ⟨w.heap.size, 1, none⟩ = some (.int .i64 x.v) := hxk.cell 1
  have y2 : wk.cell? ⟨w.heap.size, 2, none⟩ = some (.int .i64 x.q) := hxk.cell 2
  clear hSk hS0 hkb
  go_wp2_with fail
  go_ret2
  refine ⟨rfl, ((hck.set_ 3 (.int .i64 x.t)).set_ 4 (.int .i64 x.v)).set_ 5 (.int .i64 x.q), ?_, ?_⟩
  · exact ((hzk.setOther hcs.symm _).setOther hcs.symm _).setOther hcs.symm _
  · exact ((hbt.set_ 3 _).set_ 4 _).set_ 5 _

set_option maxRecDepth 100000 in
set_option maxHeartbeats 4000000 in
/-- It is not accepted: the held sample is the new pivot. -/
theorem process_shut (c s : Nat) (d m : Int) (H P x : Smp) (b : Bool) (lo hi : Int × Int) (w : World) (hc : Blk w c 152 (compCells d m (some ⟨s, 0, none⟩) H)) (hs : Blk w s 206 (spanCells d m P b false lo hi)) (hq : x.q = P.q)
    (hP : FitP P) (hx : FitP x) (hd : 0 ≤ d ∧ d ≤ 2000000) (hlo : FitS lo) (hhi : FitS hi) (hB : (!b || accI m P x lo hi) = false) (hH : FitP H) (hHq : x.q = H.q) :
    Calls Try.prog 106 #[.pointer (some ⟨c, 0, none⟩), .agg #[.int .i64 x.t, .int .i64 x.v, .int .i64 x.q]] w fun e w' => ∃ g, e = .returned (.tuple #[.bool true, .bool false]) ∧ w.heap.size ≤ g ∧
      Blk w' c 152 (compCells d m (some ⟨g, 0, none⟩) x) ∧ Blk w' g 206 (spanCells d m H true false (x.v + -d - H.v, x.t - H.t) (x.v + d - H.v, x.t - H.t)) ∧ But2 c s w w' := by
  have hf0 : FitS (0, 0) := by unfold FitS; simp
  have hadd2 := fun (g : Nat) (w : World) (h : Blk w g 206 (spanCells d m H false false (0, 0) (0, 0))) => spanAdd_any g d m H x false (0, 0) (0, 0) w h hH hx hHq hd hf0 hf0
  have HADD2 := Lib.hid hadd2
  clear hadd2 hHq
  have hk : KP w c w.heap.size (compCells d m (some ⟨s, 0, none⟩) H) x (w.alloc (.cells #[.int .i64 x.t, .int .i64 x.v, .int .i64 x.q] 71)) :=
    ⟨hc.alloc _, Blk.new _ _ _, (Below.refl _ w).alloc (Nat.le_refl _) _⟩
  have hs2 := hs.alloc (.cells #[.int .i64 x.t, .int .i64 x.v, .int .i64 x.q] 71)
  have hcw : c < w.heap.size := hc.lt
  have hsw : s < w.heap.size := hs.lt
  have hcs : c ≠ s := by
    rintro rfl
    exact hc.no (e := 206) (by decide) _ _ hs
  have hne : w.heap.size ≠ c := by omega
  have hns : w.heap.size ≠ s := by omega
  have hqq : (P.q != x.q) = false := by rw [hq]; simp
  have hadd := fun (w : World) (h : Blk w s 206 (spanCells d m P b false lo hi)) => spanAdd_any s d m P x b lo hi w h hP hx hq hd hlo hhi
  rw [hB] at hadd
  have HADD := Lib.hid hadd
  clear hc hs hq hadd hB
  go_enter Try.func106, Try.ntmps106
  go_wp2_with fail
  generalize w.alloc (.cells #[.int .i64 x.t, .int .i64 x.v, .int .i64 x.q] 71) = wa at *
  have c2 : wa.cell? ⟨c, 2, none⟩ = some (.pointer (some ⟨s, 0, none⟩)) := hk.cp.cell 2
  have s4 : wa.cell? ⟨s, 4, none⟩ = some (.int .i64 P.q) := hs2.cell 4
  have a2 : wa.cell? ⟨w.heap.size, 2, none⟩ = some (.int .i64 x.q) := hk.bx.cell 2
  go_quiet (fail)
  go_upto_region 4 with fail
  have hkb := hk.drewN nq
  have hsb := hs2.drewN nq
  generalize wa.drewN nq = wb at *
  clear c2 s4 a2 hk hs2
  have hS0 : (wb.drew).cell? ⟨c, 2, none⟩ = some (.pointer (some ⟨s, 0, none⟩)) ∧ (wb.drew).cell? ⟨w.heap.size, 0, none⟩ = some (.int .i64 x.t) ∧ (wb.drew).cell? ⟨w.heap.size, 1, none⟩ = some (.int .i64 x.v) ∧ (wb.drew).cell? ⟨w.heap.size, 2, none⟩ = some (.int .i64 x.q) := ⟨(hkb.drew).cp.cell 2, (hkb.drew).bx.cell 0, (hkb.drew).bx.cell 1, (hkb.drew).bx.cell 2⟩
  go_region_held3 (fun w' => (w').cell? ⟨c, 2, none⟩ = some (.pointer (some ⟨s, 0, none⟩)) ∧ (w').cell? ⟨w.heap.size, 0, none⟩ = some (.int .i64 x.t) ∧ (w').cell? ⟨w.heap.size, 1, none⟩ = some (.int .i64 x.v) ∧ (w').cell? ⟨w.heap.size, 2, none⟩ = some (.int .i64 x.q))
    (first | with_reducible exact hSk | with_reducible exact hS0)
    (first
    | (go_at_call 168; (with_reducible refine (HADD.out _ hsb.drew).mono ?_); rintro e wk ⟨rfl, hzk, hbk⟩; have hck := hkb.cp.drew.but hbk hcs; have hxk := hkb.bx.drew.but hbk hns; have hSk : (wk).cell? ⟨c, 2, none⟩ = some (.pointer (some ⟨s, 0, none⟩)) ∧ (wk).cell? ⟨w.heap.size, 0, none⟩ = some (.int .i64 x.t) ∧ (wk).cell? ⟨w.heap.size, 1, none⟩ = some (.int .i64 x.v) ∧ (wk).cell? ⟨w.heap.size, 2, none⟩ = some (.int .i64 x.q) := ⟨hck.cell 2, hxk.cell 0, hxk.cell 1, hxk.cell 2⟩; have hbt : But2 c s w wk := (But2.of_below (hkb.drew.bl)).trans (But2.of_but hbk (.inr rfl)); clear hbk))
  go_upto_region 6 with fail
  have hSz0 : (wk.drew).cell? ⟨c, 0, none⟩ = some (.int .i64 d) ∧ (wk.drew).cell? ⟨c, 1, none⟩ = some (.int .i64 m) ∧ (wk.drew).cell? ⟨c, 3, none⟩ = some (.int .i64 H.t) ∧ (wk.drew).cell? ⟨c, 4, none⟩ = some (.int .i64 H.v) ∧ (wk.drew).cell? ⟨c, 5, none⟩ = some (.int .i64 H.q) := ⟨(hck.drew).cell 0, (hck.drew).cell 1, (hck.drew).cell 3, (hck.drew).cell 4, (hck.drew).cell 5⟩
  clear hSk hS0 hkb hsb HADD
  go_region_held3 (fun w' => (w').cell? ⟨c, 0, none⟩ = some (.int .i64 d) ∧ (w').cell? ⟨c, 1, none⟩ = some (.int .i64 m) ∧ (w').cell? ⟨c, 3, none⟩ = some (.int .i64 H.t) ∧ (w').cell? ⟨c, 4, none⟩ = some (.int .i64 H.v) ∧ (w').cell? ⟨c, 5, none⟩ = some (.int .i64 H.q))
    (first | with_reducible exact hSp _ | with_reducible exact hSm | with_reducible exact hSz0)
    (first
    | (go_at_call 167; (with_reducible refine (newSpan_any d m H _).mono ?_); rintro e wm ⟨g, rfl, hg, hzg, hbm⟩; have hcm := hck.drew.below hbm hck.drew.lt; have hxm := hxk.drew.below hbm hxk.drew.lt; have hSm : (wm).cell? ⟨c, 0, none⟩ = some (.int .i64 d) ∧ (wm).cell? ⟨c, 1, none⟩ = some (.int .i64 m) ∧ (wm).cell? ⟨c, 3, none⟩ = some (.int .i64 H.t) ∧ (wm).cell? ⟨c, 4, none⟩ = some (.int .i64 H.v) ∧ (wm).cell? ⟨c, 5, none⟩ = some (.int .i64 H.q) := ⟨(hcm).cell 0, (hcm).cell 1, (hcm).cell 3, (hcm).cell 4, (hcm).cell 5⟩; have k2 : wm.cell? ⟨c, 2, none⟩ = some (.pointer (some ⟨s, 0, none⟩)) := hcm.cell 2; have f2 : wm.frozen? ⟨c, 2, none⟩ = false := hcm.frozen 2; have hSp : ∀ u, (wm.setCell ⟨c, 2, none⟩ u).cell? ⟨c, 0, none⟩ = some (.int .i64 d) ∧ (wm.setCell ⟨c, 2, none⟩ u).cell? ⟨c, 1, none⟩ = some (.int .i64 m) ∧ (wm.setCell ⟨c, 2, none⟩ u).cell? ⟨c, 3, none⟩ = some (.int .i64 H.t) ∧ (wm.setCell ⟨c, 2, none⟩ u).cell? ⟨c, 4, none⟩ = some (.int .i64 H.v) ∧ (wm.setCell ⟨c, 2, none⟩ u).cell? ⟨c, 5, none⟩ = some (.int .i64 H.q) := fun u => ⟨(hcm.set_ 2 u).cell 0, (hcm.set_ 2 u).cell 1, (hcm.set_ 2 u).cell 3, (hcm.set_ 2 u).cell 4, (hcm.set_ 2 u).cell 5⟩; have hbtm : But2 c s w wm := hbt.trans (But2.of_below ⟨hbm.os, hbm.tape, hbm.output, hbm.size, hbm.block⟩); clear hbm))
  have hgw : w.heap.size ≤ g := Nat.le_trans hbt.size hg
  have hgc : g ≠ c := by omega
  have hgx : w.heap.size ≠ g := by
    rintro rfl
    exact hxm.no (e := 206) (by decide) _ _ hzg
  have hcn := hcm.set_ 2 (.pointer (some ⟨g, 0, none⟩))
  have hzn := hzg.setOther (p := ⟨c, 2, none⟩) hgc (.pointer (some ⟨g, 0, none⟩))
  have hxn := hxm.setOther (p := ⟨c, 2, none⟩) hne (.pointer (some ⟨g, 0, none⟩))
  have hbtn := hbtm.set_ 2 (.pointer (some ⟨g, 0, none⟩))
  clear k2 f2 hSm hSp hSz0 hcm hzg hxm hbtm hck hxk hzk hbt
  go_upto_region 7 with fail
  generalize wm.setCell ⟨c, 2, none⟩ (.pointer (some ⟨g, 0, none⟩)) = wn at *
  have hcn' : Blk wn c 152 (compCells d m (some ⟨g, 0, none⟩) H) := hcn
  clear hcn
  have hSn0 : (wn.drew).cell? ⟨c, 2, none⟩ = some (.pointer (some ⟨g, 0, none⟩)) ∧ (wn.drew).cell? ⟨w.heap.size, 0, none⟩ = some (.int .i64 x.t) ∧ (wn.drew).cell? ⟨w.heap.size, 1, none⟩ = some (.int .i64 x.v) ∧ (wn.drew).cell? ⟨w.heap.size, 2, none⟩ = some (.int .i64 x.q) := ⟨hcn'.drew.cell 2, hxn.drew.cell 0, hxn.drew.cell 1, hxn.drew.cell 2⟩
  go_region_held3 (fun w' => (w').cell? ⟨c, 2, none⟩ = some (.pointer (some ⟨g, 0, none⟩)) ∧ (w').cell? ⟨w.heap.size, 0, none⟩ = some (.int .i64 x.t) ∧ (w').cell? ⟨w.heap.size, 1, none⟩ = some (.int .i64 x.v) ∧ (w').cell? ⟨w.heap.size, 2, none⟩ = some (.int .i64 x.q))
    (first | with_reducible exact hSo | with_reducible exact hSn0)
    (first
    | (go_at_call 168; (with_reducible refine (HADD2.out g _ hzn.drew).mono ?_); rintro e wo ⟨rfl, hzo, hbo⟩; have hco := hcn'.drew.but hbo hgc.symm; have hxo := hxn.drew.but hbo hgx; have hSo : (wo).cell? ⟨c, 2, none⟩ = some (.pointer (some ⟨g, 0, none⟩)) ∧ (wo).cell? ⟨w.heap.size, 0, none⟩ = some (.int .i64 x.t) ∧ (wo).cell? ⟨w.heap.size, 1, none⟩ = some (.int .i64 x.v) ∧ (wo).cell? ⟨w.heap.size, 2, none⟩ = some (.int .i64 x.q) := ⟨hco.cell 2, hxo.cell 0, hxo.cell 1, hxo.cell 2⟩; have hbto : But2 c s w wo := hbtn.fresh (But2.of_but (show But g wn wo from ⟨hbo.os, hbo.tape, hbo.output, hbo.size, hbo.block⟩) (.inr rfl)) hgw; clear hbo))
  go_upto_region 8 with fail
  have e3 : wo.cell? ⟨c, 3, none⟩ = some (.int .i64 H.t) := hco.cell 3
  have e4 : wo.cell? ⟨c, 4, none⟩ = some (.int .i64 H.v) := hco.cell 4
  have e5 : wo.cell? ⟨c, 5, none⟩ = some (.int .i64 H.q) := hco.cell 5
  have g3 : wo.frozen? ⟨c, 3, none⟩ = false := hco.frozen 3
  have g4 : wo.frozen? ⟨c, 4, none⟩ = false := hco.frozen 4
  have g5 : wo.frozen? ⟨c, 5, none⟩ = false := hco.frozen 5
  have y0 : wo.cell? ⟨w.heap.size, 0, none⟩ = some (.int .i64 x.t) := hxo.cell 0
  have y1 : wo.cell? ⟨w.heap.size, 1, none⟩ = some (.int .i64 x.v) := hxo.cell 1
  have y2 : wo.cell? ⟨w.heap.size, 2, none⟩ = some (.int .i64 x.q) := hxo.cell 2
  clear hSo hSn0
  go_wp2_with fail
  go_ret2
  refine ⟨g, rfl, hgw, ((hco.set_ 3 (.int .i64 x.t)).set_ 4 (.int .i64 x.v)).set_ 5 (.int .i64 x.q), ?_, ?_⟩
  · exact ((hzo.setOther hgc _).setOther hgc _).setOther hgc _
  · exact ((hbto.set_ 3 _).set_ 4 _).set_ 5 _
end Go.Proofs.Ytblbfpokkpkcjaa
