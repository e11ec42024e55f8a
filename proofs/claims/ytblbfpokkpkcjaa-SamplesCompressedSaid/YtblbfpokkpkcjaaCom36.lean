import Derived.Test.YtblbfpokkpkcjaaCom32
/- The contract of the reference's around: the last sample up to a moment, the first one from it on. -/

namespace Go.Proofs.Ytblbfpokkpkcjaa
open Go.RowKit
set_option linter.unusedVariables false
set_option linter.unusedSimpArgs false

def zeroS : Smp := ⟨0, 0, 0⟩
/-- The last of the first j samples that is not after the moment; the first that is not before it. -/
def pTo (l : List Smp) (t : Int) (j : Nat) : Smp := if 0 < min j (posF l (t + 1)) then atS l (min j (posF l (t + 1)) - 1) else zeroS
def nTo (l : List Smp) (t : Int) (j : Nat) : Smp := if posF l t < j then atS l (posF l t) else zeroS
def arP (l : List Smp) (t : Int) : Smp := if 0 < posF l (t + 1) then atS l (posF l (t + 1) - 1) else zeroS
def arN (l : List Smp) (t : Int) : Smp := if posF l t < l.length then atS l (posF l t) else zeroS
def arB (l : List Smp) (t : Int) : Bool := decide (0 < posF l (t + 1) ∧ posF l t < l.length ∧ (arP l t).q ≠ 2 ∧ (arN l t).q ≠ 2)
theorem pTo_end (l : List Smp) (t : Int) : pTo l t l.length = arP l t := by
  have := posF_le l (t + 1)
  unfold pTo arP
  rw [show min l.length (posF l (t + 1)) = posF l (t + 1) by omega]
theorem pTo_in (l : List Smp) (t : Int) (j : Nat) (h : j < posF l (t + 1)) : pTo l t (j + 1) = atS l j := by
  unfold pTo
  rw [show min (j + 1) (posF l (t + 1)) = j + 1 by omega, if_pos (by omega)]
  rfl
theorem pTo_out (l : List Smp) (t : Int) (j : Nat) (h : posF l (t + 1) ≤ j) : pTo l t (j + 1) = pTo l t j := by
  unfold pTo
  rw [show min (j + 1) (posF l (t + 1)) = posF l (t + 1) by omega, show min j (posF l (t + 1)) = posF l (t + 1) by omega]
theorem nTo_is (l : List Smp) (t : Int) : nTo l t (posF l t + 1) = atS l (posF l t) := by unfold nTo; rw [if_pos (by omega)]
theorem nTo_other (l : List Smp) (t : Int) (j : Nat) (h : j ≠ posF l t) : nTo l t (j + 1) = nTo l t j := by
  unfold nTo
  by_cases h1 : posF l t < j
  · rw [if_pos h1, if_pos (by omega)]
  · rw [if_neg h1, if_neg (by omega)]

theorem Blk.set3 {w : World} {b : Nat} {t : TypeId} {x y z : Value} (h : Blk w b t #[x, y, z]) (x' y' z' : Value) : Blk (((w.setCell ⟨b, 0, none⟩ x').setCell ⟨b, 1, none⟩ y').setCell ⟨b, 2, none⟩ z') b t #[x', y', z'] := by
  unfold Blk at h ⊢
  simp [World.setCell, Array.getElem?_modify, h]
/-- The two result boxes. -/
structure ArK (w0 : World) (p n : Smp) (w : World) : Prop where
  bp : Blk w w0.heap.size 71 #[.int .i64 p.t, .int .i64 p.v, .int .i64 p.q]
  bn : Blk w (w0.heap.size + 1) 71 #[.int .i64 n.t, .int .i64 n.v, .int .i64 n.q]
  bl : Below w0.heap.size w0 w
theorem ArK.step {w0 w w' : World} {p n : Smp} (h : ArK w0 p n w) (hb : Below w.heap.size w w') : ArK w0 p n w' := ⟨h.bp.below hb h.bp.lt, h.bn.below hb h.bn.lt, h.bl.trans (hb.mono h.bl.size)⟩
theorem ArK.alloc {w0 w : World} {p n : Smp} (h : ArK w0 p n w) (o : Obj) : ArK w0 p n (w.alloc o) := h.step ((Below.refl _ w).alloc (Nat.le_refl _) o)
theorem ArK.setP {w0 w : World} {p n : Smp} (h : ArK w0 p n w) (x : Smp) : ArK w0 x n (((w.setCell ⟨w0.heap.size, 0, none⟩ (.int .i64 x.t)).setCell ⟨w0.heap.size, 1, none⟩ (.int .i64 x.v)).setCell ⟨w0.heap.size, 2, none⟩ (.int .i64 x.q)) :=
  ⟨h.bp.set3 _ _ _, ((h.bn.setOther (by simp) _).setOther (by simp) _).setOther (by simp) _, ((h.bl.setCell (Nat.le_refl _) _).setCell (Nat.le_refl _) _).setCell (Nat.le_refl _) _⟩
theorem ArK.setN {w0 w : World} {p n : Smp} (h : ArK w0 p n w) (x : Smp) : ArK w0 p x (((w.setCell ⟨w0.heap.size + 1, 0, none⟩ (.int .i64 x.t)).setCell ⟨w0.heap.size + 1, 1, none⟩ (.int .i64 x.v)).setCell ⟨w0.heap.size + 1, 2, none⟩ (.int .i64 x.q)) :=
  ⟨((h.bp.setOther (by simp) _).setOther (by simp) _).setOther (by simp) _, h.bn.set3 _ _ _, ((h.bl.setCell (Nat.le_succ _) _).setCell (Nat.le_succ _) _).setCell (Nat.le_succ _) _⟩

theorem ArK.drew {w0 w : World} {p n : Smp} (h : ArK w0 p n w) : ArK w0 p n w.drew := h.step (w' := w.drew) (show Below w.heap.size w w.drew from ⟨rfl, rfl, rfl, Nat.le_refl _, fun _ _ => rfl⟩)
theorem ArK.six {w0 w : World} {p n : Smp} (h : ArK w0 p n w) : w.cell? ⟨w0.heap.size, 0, none⟩ = some (.int .i64 p.t) ∧ w.cell? ⟨w0.heap.size, 1, none⟩ = some (.int .i64 p.v) ∧ w.cell? ⟨w0.heap.size, 2, none⟩ = some (.int .i64 p.q) ∧ w.cell? ⟨w0.heap.size + 1, 0, none⟩ = some (.int .i64 n.t) ∧ w.cell? ⟨w0.heap.size + 1, 1, none⟩ = some (.int .i64 n.v) ∧ w.cell? ⟨w0.heap.size + 1, 2, none⟩ = some (.int .i64 n.q) :=
  ⟨h.bp.cell 0, h.bp.cell 1, h.bp.cell 2, h.bn.cell 0, h.bn.cell 1, h.bn.cell 2⟩
theorem ArK.cells {w0 w : World} {p n : Smp} (h : ArK w0 p n w) : w.cell? ⟨w0.heap.size, 0, none⟩ = some (.int .i64 p.t) ∧ w.cell? ⟨w0.heap.size, 1, none⟩ = some (.int .i64 p.v) ∧ w.cell? ⟨w0.heap.size, 2, none⟩ = some (.int .i64 p.q) ∧ w.cell? ⟨w0.heap.size + 1, 0, none⟩ = some (.int .i64 n.t) ∧ w.cell? ⟨w0.heap.size + 1, 1, none⟩ = some (.int .i64 n.v) ∧ w.cell? ⟨w0.heap.size + 1, 2, none⟩ = some (.int .i64 n.q) ∧
    w.frozen? ⟨w0.heap.size, 0, none⟩ = false ∧ w.frozen? ⟨w0.heap.size, 1, none⟩ = false ∧ w.frozen? ⟨w0.heap.size, 2, none⟩ = false ∧ w.frozen? ⟨w0.heap.size + 1, 0, none⟩ = false ∧ w.frozen? ⟨w0.heap.size + 1, 1, none⟩ = false ∧ w.frozen? ⟨w0.heap.size + 1, 2, none⟩ = false :=
  ⟨h.bp.cell 0, h.bp.cell 1, h.bp.cell 2, h.bn.cell 0, h.bn.cell 1, h.bn.cell 2, h.bp.frozen 0, h.bp.frozen 1, h.bp.frozen 2, h.bn.frozen 0, h.bn.frozen 1, h.bn.frozen 2⟩

set_option maxRecDepth 100000 in
set_option maxHeartbeats 4000000 in
theorem around_any (v : Value) (l : List Smp) (t : Int) (w : World) (hR : RdS w 71 v l) (hS : Rise none l) (hlong : l.length ≤ 5000) :
    Calls Try.prog 125 #[v, .int .i64 t] w fun e w' => e = .returned (.tuple #[(arP l t).agg, (arN l t).agg, .bool (arB l t)]) ∧ Below w.heap.size w w' := by
  obtain ⟨pa, ca, rfl⟩ := hR.lenv
  have hq := posF_iff l t none hS
  have hc := posF_iff l (t + 1) none hS
  have hcl := posF_le l (t + 1)
  have hpe := pTo_end l t
  have hpi := pTo_in l t
  have hpo := pTo_out l t
  have hni := nTo_is l t
  have hno := nTo_other l t
  have hp0 : pTo l t 0 = zeroS := by unfold pTo; rw [if_neg (by omega)]
  have hn0 : nTo l t 0 = zeroS := by unfold nTo; rw [if_neg (by omega)]
  have hne : nTo l t l.length = arN l t := rfl
  have hB : arB l t = decide (0 < posF l (t + 1) ∧ posF l t < l.length ∧ (arP l t).q ≠ 2 ∧ (arN l t).q ≠ 2) := rfl
  generalize posF l (t + 1) = c at *
  generalize posF l t = q at *
  generalize arB l t = B at *
  generalize arP l t = P at *
  generalize arN l t = N at *
  generalize hpf : pTo l t = pf at *
  generalize hnf : nTo l t = nf at *
  have HQ := Lib.hid hq
  have HC := Lib.hid hc
  have HPE := Lib.hid hpe
  have HPI := Lib.hid hpi
  have HPO := Lib.hid hpo
  have HNI := Lib.hid hni
  have HNO := Lib.hid hno
  have HP0 := Lib.hid hp0
  have HN0 := Lib.hid hn0
  have HNE := Lib.hid hne
  have HB := Lib.hid hB
  have HR := Lib.hid hR
  clear hq hc hpe hpi hpo hni hno hp0 hn0 hne hB hR hpf hnf hS
  go_enter Try.func125, Try.ntmps125
  go_wp2_with fail
  go_loopw [7, 8, 13] (fun sb sa i wr => ∃ j : Nat, j ≤ l.length ∧ i = .int .i64 (j : Int) ∧ sb = .bool (decide (0 < min j c)) ∧ sa = .bool (decide (q < j)) ∧ ArK w (pf j) (nf j) wr) (fun _ _ i _ => l.length - (intOf i).toNat)
  case atStart =>
    refine ⟨0, by omega, rfl, rfl, rfl, ?_, ?_, ?_⟩
    · rw [HP0.out]; exact (Blk.new _ _ _).alloc _
    · rw [HN0.out]; exact Blk.new1 _ _ _ _
    · exact ((Below.refl _ w).alloc (Nat.le_refl _) _).alloc (by simp) _
  case round =>
    obtain ⟨j, hj, rfl, rfl, rfl, hk⟩ := hrel
    have hz := hk.bn.lt
    by_cases hlt : j < l.length
    · have hRr : RdS wr 71 _ l := HR.out.below hk.bl (Nat.le_refl _)
      obtain ⟨b, off, c', hv, hc3, hc4, hblt, hcell⟩ := RdS.at_ hRr (by omega)
      cases hv
      unfold maxLen at hc4
      obtain ⟨z0, z1, z2⟩ := hcell j hlt
      have h1 := HC.out j hlt
      have h2 := HQ.out j hlt
      have hpin := HPI.out j
      have hpon := HPO.out j
      have hnin : j = q → nf (j + 1) = atS l j := fun h => by subst h; exact HNI.out
      have hnon := HNO.out j
      generalize atS l j = x at *
      have hka := hk.alloc (.cells #[.int .i64 x.t, .int .i64 x.v, .int .i64 x.q] 71)
      have HK := Lib.hid hka
      have p0 := hka.bp.cell 0
      have p1 := hka.bp.cell 1
      have p2 := hka.bp.cell 2
      have n0 := hka.bn.cell 0
      have n1 := hka.bn.cell 1
      have n2 := hka.bn.cell 2
      have g0 := hka.bp.frozen 0
      have g1 := hka.bp.frozen 1
      have g2 := hka.bp.frozen 2
      have f0 := hka.bn.frozen 0
      have f1 := hka.bn.frozen 1
      have f2 := hka.bn.frozen 2
      have hmeas : l.length - (j + 1) < l.length - j := by omega
      have e1 : ¬ wr.heap.size = w.heap.size := by omega
      have e2 : ¬ wr.heap.size = w.heap.size + 1 := by omega
      have HNI1 := Lib.hid hnin
      have HNO1 := Lib.hid hnon
      have HPI1 := Lib.hid hpin
      have HPO1 := Lib.hid hpon
      have H1 := Lib.hid h1
      have H2 := Lib.hid h2
      clear hcell hRr hk hka hpin hpon hnin hnon h1 h2 hz
      by_cases hjc : j < c
      · have d1 : decide (x.t ≤ t) = true := by have := H1.out; simp; omega
        rcases Nat.lt_trichotomy j q with hjq | hjq | hjq
        · have d2 : decide (t ≤ x.t) = false := by have := H2.out; simp; omega
          go_wp2_with fail
          go_roundw
          case rel => exact ⟨j + 1, by omega, by go_num, by congr 1; simp; omega, by congr 1; simp; omega, by rw [(HPI1.out hjc), (HNO1.out (by omega))]; exact (HK.out).setP x⟩
          case measure => simp [intOf]; omega
        · have d2 : decide (t ≤ x.t) = true := by have := H2.out; simp; omega
          have d3 : decide (q < j) = false := by simp; omega
          obtain ⟨_, _, _, n0', n1', n2', _, _, _, f0', f1', f2'⟩ := (HK.out.setP x).cells
          have hbx : Blk ((((wr.alloc (.cells #[.int .i64 x.t, .int .i64 x.v, .int .i64 x.q] 71)).setCell ⟨w.heap.size, 0, none⟩ (.int .i64 x.t)).setCell ⟨w.heap.size, 1, none⟩ (.int .i64 x.v)).setCell ⟨w.heap.size, 2, none⟩ (.int .i64 x.q)) wr.heap.size 71 #[.int .i64 x.t, .int .i64 x.v, .int .i64 x.q] :=
            (((Blk.new wr _ _).setOther (by simpa using e1) _).setOther (by simpa using e1) _).setOther (by simpa using e1) _
          have x0' := hbx.cell 0
          have x1' := hbx.cell 1
          have x2' := hbx.cell 2
          clear hbx
          have HJQ := Lib.hid hjq
          clear hjq
          go_wp2_with fail
          go_roundw
          case rel => exact ⟨j + 1, by omega, by go_num, by congr 1; simp; omega, by have hjq := HJQ.out; congr 1; simp; omega, by rw [(HPI1.out hjc), (HNI1.out HJQ.out)]; exact ((HK.out).setP x).setN x⟩
          case measure => simp [intOf]; omega
        · have d2 : decide (t ≤ x.t) = true := by have := H2.out; simp; omega
          have d3 : decide (q < j) = true := by simp; omega
          go_wp2_with fail
          go_roundw
          case rel => exact ⟨j + 1, by omega, by go_num, by congr 1; simp; omega, by congr 1; simp; omega, by rw [(HPI1.out hjc), (HNO1.out (by omega))]; exact (HK.out).setP x⟩
          case measure => simp [intOf]; omega
      · have hjc : c ≤ j := by omega
        have d1 : decide (x.t ≤ t) = false := by have := H1.out; simp; omega
        rcases Nat.lt_trichotomy j q with hjq | hjq | hjq
        · have d2 : decide (t ≤ x.t) = false := by have := H2.out; simp; omega
          go_wp2_with fail
          go_roundw
          case rel => exact ⟨j + 1, by omega, by go_num, by congr 1; simp; omega, by congr 1; simp; omega, by rw [(HPO1.out hjc), (HNO1.out (by omega))]; exact HK.out⟩
          case measure => simp [intOf]; omega
        · have d2 : decide (t ≤ x.t) = true := by have := H2.out; simp; omega
          have d3 : decide (q < j) = false := by simp; omega
          have HJQ := Lib.hid hjq
          clear hjq
          go_wp2_with fail
          go_roundw
          case rel => exact ⟨j + 1, by omega, by go_num, by congr 1; simp; omega, by have hjq := HJQ.out; congr 1; simp; omega, by rw [(HPO1.out hjc), (HNI1.out HJQ.out)]; exact (HK.out).setN x⟩
          case measure => simp [intOf]; omega
        · have d2 : decide (t ≤ x.t) = true := by have := H2.out; simp; omega
          have d3 : decide (q < j) = true := by simp; omega
          go_wp2_with fail
          go_roundw
          case rel => exact ⟨j + 1, by omega, by go_num, by congr 1; simp; omega, by congr 1; simp; omega, by rw [(HPO1.out hjc), (HNO1.out (by omega))]; exact HK.out⟩
          case measure => simp [intOf]; omega
    · obtain rfl : j = l.length := by omega
      rw [HPE.out, HNE.out] at hk
      have hcl' : min l.length c = c := by omega
      rw [hcl']
      have hzz := hk.bn.lt
      obtain ⟨p0, p1, p2, n0, n1, n2, g0, g1, g2, f0, f1, f2⟩ := hk.cells
      have p6 := hk.six
      by_cases hb : 0 < c
      · have hb' : decide (0 < c) = true := by simpa using hb
        by_cases ha : q < l.length
        · have ha' : decide (q < l.length) = true := by simpa using ha
          by_cases hpq : P.q = 2
          · have hpq' : (P.q != 2) = false := by simpa using hpq
            rw [hb', ha']
            have HBB := Lib.hid (show B = false by rw [HB.out]; simp; intro _ _ h; exact absurd hpq h)
            clear hb ha hpq hb' ha'
            go_wp2_with fail
            go_region
            have hke := ((hk.setP P).setN N).drew
            obtain ⟨r0, r1, r2, m0, m1, m2⟩ := hke.six
            have hbe := hke.bl
            clear hke
            go_wp2_with fail
            refine bodyPost_ret (v := .tuple #[.agg #[.int .i64 P.t, .int .i64 P.v, .int .i64 P.q], .agg #[.int .i64 N.t, .int .i64 N.v, .int .i64 N.q], .bool false]) (by simp [results, Try.results125, go_sem, r0, r1, r2, m0, m1, m2, p0, p1, p2, n0, n1, n2]) rfl ⟨by rw [HBB.out]; rfl, hbe⟩
          · have hpq' : (P.q != 2) = true := by simpa using hpq
            by_cases hnq : N.q = 2
            · have hnq' : (N.q != 2) = false := by simpa using hnq
              rw [hb', ha']
              have HBB := Lib.hid (show B = false by rw [HB.out]; simp; intro _ _ _; exact hnq)
              clear hb ha hpq hnq hb' ha'
              go_wp2_with fail
              go_region
              have hke := ((hk.setP P).setN N).drew
              obtain ⟨r0, r1, r2, m0, m1, m2⟩ := hke.six
              have hbe := hke.bl
              clear hke
              go_wp2_with fail
              refine bodyPost_ret (v := .tuple #[.agg #[.int .i64 P.t, .int .i64 P.v, .int .i64 P.q], .agg #[.int .i64 N.t, .int .i64 N.v, .int .i64 N.q], .bool false]) (by simp [results, Try.results125, go_sem, r0, r1, r2, m0, m1, m2, p0, p1, p2, n0, n1, n2]) rfl ⟨by rw [HBB.out]; rfl, hbe⟩
            · have hnq' : (N.q != 2) = true := by simpa using hnq
              rw [hb', ha']
              have HBB := Lib.hid (show B = true by rw [HB.out]; simp; exact ⟨hb, ha, hpq, hnq⟩)
              clear hb ha hpq hnq hb' ha'
              go_wp2_with fail
              go_region
              have hke := ((hk.setP P).setN N).drew
              obtain ⟨r0, r1, r2, m0, m1, m2⟩ := hke.six
              have hbe := hke.bl
              clear hke
              go_wp2_with fail
              refine bodyPost_ret (v := .tuple #[.agg #[.int .i64 P.t, .int .i64 P.v, .int .i64 P.q], .agg #[.int .i64 N.t, .int .i64 N.v, .int .i64 N.q], .bool true]) (by simp [results, Try.results125, go_sem, r0, r1, r2, m0, m1, m2, p0, p1, p2, n0, n1, n2]) rfl ⟨by rw [HBB.out]; rfl, hbe⟩
        · have ha' : decide (q < l.length) = false := by simpa using ha
          rw [hb', ha']
          have HBB := Lib.hid (show B = false by rw [HB.out]; simp; intro _ h; omega)
          clear hb ha hb' ha'
          go_wp2_with fail
          go_region
          have hke := ((hk.setP P).setN N).drew
          obtain ⟨r0, r1, r2, m0, m1, m2⟩ := hke.six
          have hbe := hke.bl
          clear hke
          go_wp2_with fail
          refine bodyPost_ret (v := .tuple #[.agg #[.int .i64 P.t, .int .i64 P.v, .int .i64 P.q], .agg #[.int .i64 N.t, .int .i64 N.v, .int .i64 N.q], .bool false]) (by simp [results, Try.results125, go_sem, r0, r1, r2, m0, m1, m2, p0, p1, p2, n0, n1, n2]) rfl ⟨by rw [HBB.out]; rfl, hbe⟩
      · have hb' : decide (0 < c) = false := by simpa using hb
        rw [hb']
        have HBB := Lib.hid (show B = false by rw [HB.out]; simp; intro h; omega)
        clear hb hb'
        go_wp2_with fail
        go_region
        have hke := ((hk.setP P).setN N).drew
        obtain ⟨r0, r1, r2, m0, m1, m2⟩ := hke.six
        have hbe := hke.bl
        clear hke
        go_wp2_with fail
        refine bodyPost_ret (v := .tuple #[.agg #[.int .i64 P.t, .int .i64 P.v, .int .i64 P.q], .agg #[.int .i64 N.t, .int .i64 N.v, .int .i64 N.q], .bool false]) (by simp [results, Try.results125, go_sem, r0, r1, r2, m0, m1, m2, p0, p1, p2, n0, n1, n2]) rfl ⟨by rw [HBB.out]; rfl, hbe⟩
end Go.Proofs.Ytblbfpokkpkcjaa
