import Derived.Test.YtblbfpokkpkcjaaCom49
import Derived.Test.YtblbfpokkpkcjaaCom50
import Derived.Deep.DeepCutAuto
/- The contract of the reference's CompressedOf. -/

namespace Go.Proofs.Ytblbfpokkpkcjaa
open Go.RowKit
set_option linter.unusedVariables false
set_option linter.unusedSimpArgs false
set_option maxRecDepth 100000 in
set_option maxHeartbeats 4000000 in
theorem compressedOf_any (d gp : Int) (v : Value) (l : List Smp) (w : World) (hR : RdS w 71 v l) (hlong : l.length ≤ 5000) (hfit : FitL l) (hd : 0 ≤ d ∧ d ≤ 2000000) :
    Calls Try.prog 33 #[.agg #[.int .i64 d, .int .i64 gp], v] w fun e w' => ∃ vr, e = .returned vr ∧ RdI w' vr (compressed d gp l) ∧ Below w.heap.size w w' := by
  obtain ⟨pa, ca, rfl⟩ := hR.lenv
  have hB0 := Blk.new w 30 #[.int .i64 d, .int .i64 gp]
  have hR1 : RdS _ 71 (.slice pa l.length ca) l := Rd.alloc hR (.cells #[.int .i64 d, .int .i64 gp] 30)
  have hbw : Below w.heap.size w (w.alloc (.cells #[.int .i64 d, .int .i64 gp] 30)) := (Below.refl _ w).alloc (Nat.le_refl _) _
  have hsz : (w.alloc (.cells #[.int .i64 d, .int .i64 gp] 30)).heap.size = w.heap.size + 1 := by simp
  have hmf : ∀ (fn : Fn) (first cap : Array Value) (w : World), (Instr.makeFunc fn first cap).run Try.prog w = .ok (.func fn first cap) w := fun _ _ _ _ => rfl
  have hcf := enter_keep1
  go_enter Try.func33, Try.ntmps33
  go_upto_region 1 with fail
  generalize w.alloc (.cells #[.int .i64 d, .int .i64 gp] 30) = w1 at *
  have HFIT := Lib.hid hfit
  have HB0 := Lib.hid hB0
  have HR1 := Lib.hid hR1
  have HBW := Lib.hid hbw
  have hlt0 : w.heap.size < w1.heap.size := by omega
  clear hfit hB0 hR hR1 hbw hsz
  go_wp2_with fail
  go_loopw [7, 16] (fun sh i wr => ∃ j h : Nat, j ≤ l.length ∧ h = j - 1 ∧ sh = .int .i64 (h : Int) ∧ i = .int .i64 (j : Int) ∧ KeK w1 w1.heap.size (compTo d gp l j) wr) (fun _ i _ => l.length - (intOf i).toNat)
  case atStart =>
    refine ⟨0, 0, by omega, rfl, rfl, rfl, ⟨⟨_, (Blk.new w1 _ _).alloc _, World.ownsRow_nil _ _ _ _⟩, Blk.new1 _ _ _ _⟩, ((Below.refl _ w1).alloc (Nat.le_refl _) _).alloc (by simp) _⟩
  case round =>
    obtain ⟨j, h, hj, hh, rfl, rfl, hk⟩ := hrel
    have HH := Lib.hid hh
    clear hh
    by_cases hlt : j < l.length
    · have hRr : RdS wr _ _ l := HR1.out.below hk.bl (Nat.le_refl _)
      obtain ⟨b, off, c, hv, hc1, hc2, hblt, hcell⟩ := RdS.at_ hRr (by omega)
      cases hv
      unfold maxLen at hc2
      obtain ⟨c0, c1, c2⟩ := hcell j hlt
      have hfj := HFIT.out.fit j hlt
      have hpl := hk.st.piv
      have hlt2 := hk.lt
      have p0 : wr.cell? ⟨w1.heap.size + 1, 0, none⟩ = some (.int .i64 ((compTo d gp l j).2 : Int)) := hpl.cell 0
      have hd0 := HB0.out.below hk.bl hlt0
      have q0 : wr.cell? ⟨w.heap.size, 0, none⟩ = some (.int .i64 d) := hd0.cell 0
      have q1 : wr.cell? ⟨w.heap.size, 1, none⟩ = some (.int .i64 gp) := hd0.cell 1
      have hb0r : w.heap.size < wr.heap.size := by omega
      have hb1r : w.heap.size < wr.heap.size + 1 := by omega
      have hb2r : w1.heap.size < wr.heap.size := by omega
      have hstep : compTo d gp l (j + 1) = compStep d gp l j (compTo d gp l j) := rfl
      rcases Nat.eq_zero_or_pos j with hj0 | hj0
      · subst hj0
        have hs : compTo d gp l 0 = ([], 0) := rfl
        rw [hs] at hstep hk p0
        replace p0 : wr.cell? ⟨w1.heap.size + 1, 0, none⟩ = some (.int .i64 0) := p0
        have hh0 : h = 0 := HH.out
        subst hh0
        have hk1 := (hk.alloc (.cells #[.int .i64 (atS l 0).t, .int .i64 (atS l 0).v, .int .i64 (atS l 0).q] 71)).alloc (.cells #[.int .i64 (atS l 0).t, .int .i64 (atS l 0).v, .int .i64 (atS l 0).q] 71)
        simp only [Nat.zero_mul, Nat.add_zero] at c0 c1 c2
        have HST := Lib.hid (show compTo d gp l (0 + 1) = keepI 0 ([], 0) by rw [hstep]; rfl)
        have hlp : (0 : Int) < (l.length : Int) := by omega
        generalize atS l 0 = x at *
        clear hstep hs hcell hRr hpl hd0 hk hfj
        go_wp2_with fail
        refine (keep1_any 0 w1.heap.size ([], 0) _ hk1.st (by simp)).mono ?_
        rintro e w3 ⟨rfl, hs3, hb3⟩
        have hk3 : KeK w1 w1.heap.size _ w3 := ⟨hs3, hk1.bl.trans hb3⟩
        go_wp2_with fail
        go_roundw
        case rel => exact ⟨1, 0, by omega, rfl, rfl, rfl, by rw [HST.out]; exact hk3⟩
        case measure => simp [intOf]; omega
      · obtain ⟨g1, g2, g3, g4⟩ := compTo_inv d gp l j hj0
        obtain ⟨z0, z1, z2⟩ := hcell (compTo d gp l j).2 (by omega)
        have hfz := HFIT.out.fit (compTo d gp l j).2 (by omega)
        unfold FitP at hfj hfz
        have hj0' : ((j : Int) == 0) = false := by simp; omega
        have hwr : IntKind.i64.wrap ((atS l j).t - (atS l (compTo d gp l j).2).t) = (atS l j).t - (atS l (compTo d gp l j).2).t := IntWalk.i64_in _ (by omega)
        have hhj : h = j - 1 := HH.out
        have hunf : compStep d gp l j (compTo d gp l j) = if (atS l j).q ≠ (atS l (compTo d gp l j).2).q then keepI j (keepI h (compTo d gp l j)) else if shut d gp l (compTo d gp l j).2 j = true then keepI h (compTo d gp l j) else compTo d gp l j := by unfold compStep; rw [if_neg (by omega), hhj]
        have i3 : (h : Int) + 1 = (j : Int) := by omega
        have HH3 := Lib.hid i3
        clear i3 hhj
        rw [hunf] at hstep
        have hk1 := (hk.alloc (.cells #[.int .i64 (atS l j).t, .int .i64 (atS l j).v, .int .i64 (atS l j).q] 71)).alloc (.cells #[.int .i64 (atS l (compTo d gp l j).2).t, .int .i64 (atS l (compTo d gp l j).2).v, .int .i64 (atS l (compTo d gp l j).2).q] 71)
        generalize hx : atS l (compTo d gp l j).2 = x at *
        generalize compTo d gp l j = s at *
        obtain ⟨out, p⟩ := s
        simp only at g1 g4 z0 z1 z2 p0 hx hstep
        generalize hy : atS l j = y at *
        have i1 : (0 : Int) ≤ (p : Int) := by omega
        have i2 : (p : Int) < (l.length : Int) := by omega
        have HST := Lib.hid hstep
        have HX := Lib.hid hx
        have HY := Lib.hid hy
        clear hstep hx hy hcell hRr hpl hd0 hk hunf g2 g3
        by_cases hq : y.q = x.q
        · have hq' : (y.q != x.q) = false := by simpa using hq
          have hST2 : compTo d gp l (j + 1) = if shut d gp l p j = true then keepI h (out, p) else (out, p) := by rw [HST.out, if_neg (by simpa using hq)]
          have hsh : shut d gp l p j = (decide (gp < y.t - x.t) || (decide (y.q ≠ 2) && !(cov d l p j))) := by unfold shut; rw [HX.out, HY.out]
          have HS2 := Lib.hid hST2
          have HSH := Lib.hid hsh
          have G4 := Lib.hid g4
          have G1 := Lib.hid g1
          clear hq hST2 hsh g4 hfj hfz
          by_cases hl : gp < y.t - x.t
          · have hl' : decide (gp < y.t - x.t) = true := by simpa using hl
            have HS3 := Lib.hid (show compTo d gp l (j + 1) = keepI h (out, p) by rw [HS2.out, HSH.out, hl']; simp)
            by_cases hb : y.q = 2
            all_goals
              first
              | have hb' : (y.q == 2) = true := by simpa using hb
                have hb2 : (y.q != 2) = false := by simpa using hb
              | have hb' : (y.q == 2) = false := by simpa using hb
                have hb2 : (y.q != 2) = true := by simpa using hb
              clear hb
              go_wp2_with fail
              refine (keep1_any h w1.heap.size (out, p) _ hk1.st (by have := G4.out; simp; omega)).mono ?_
              rintro e w3 ⟨rfl, hs3, hb3⟩
              have hk3 : KeK w1 w1.heap.size _ w3 := ⟨hs3, hk1.bl.trans hb3⟩
              go_wp2_with fail
              go_roundw
              case rel => exact ⟨j + 1, j, by omega, by omega, rfl, by go_num, by rw [HS3.out]; exact hk3⟩
              case measure => simp [intOf]; omega
          · have hl' : decide (gp < y.t - x.t) = false := by simpa using hl
            have hl2 : y.t - x.t ≤ gp := by omega
            by_cases hb : y.q = 2
            · have hb' : (y.q == 2) = true := by simpa using hb
              have hb2 : (y.q != 2) = false := by simpa using hb
              have HS3 := Lib.hid (show compTo d gp l (j + 1) = (out, p) by rw [HS2.out, HSH.out, hl', hb]; simp)
              clear hb
              go_wp2_with fail
              go_roundw
              case rel => exact ⟨j + 1, j, by omega, by omega, rfl, by go_num, by rw [HS3.out]; exact hk1⟩
              case measure => simp [intOf]; omega
            · have hb' : (y.q == 2) = false := by simpa using hb
              have hb2 : (y.q != 2) = true := by simpa using hb
              have hc0 := fun (W : World) (vv : Value) (hR : RdS W 71 vv l) => covers_any d gp vv l p j W hR HFIT.out (by omega) G1.out hlt hd
              have HC0 := Lib.hid hc0
              have HS3 := Lib.hid (show compTo d gp l (j + 1) = if cov d l p j = true then (out, p) else keepI h (out, p) by
                rw [HS2.out, HSH.out, hl']
                simp only [Bool.false_or, ne_eq, hb, not_false_eq_true, decide_true, Bool.true_and]
                cases cov d l p j <;> simp)
              have hRn := HR1.out.below hk1.bl (Nat.le_refl _)
              have HRN := Lib.hid hRn
              clear hb hc0 hRn
              generalize cov d l p j = C at *
              go_wp2_with fail
              refine (HC0.out _ _ HRN.out).mono ?_
              rintro e w3 ⟨rfl, hb3⟩
              have hk3 := hk1.step hb3 (Nat.le_refl _)
              cases C
              · go_wp2_with fail
                refine (keep1_any h w1.heap.size (out, p) _ hk3.st (by have := G4.out; simp; omega)).mono ?_
                rintro e w4 ⟨rfl, hs4, hb4⟩
                have hk4 : KeK w1 w1.heap.size _ w4 := ⟨hs4, hk3.bl.trans hb4⟩
                go_wp2_with fail
                go_roundw
                case rel => exact ⟨j + 1, j, by omega, by omega, rfl, by go_num, by rw [HS3.out]; exact hk4⟩
                case measure => simp [intOf]; omega
              · go_wp2_with fail
                go_roundw
                case rel => exact ⟨j + 1, j, by omega, by omega, rfl, by go_num, by rw [HS3.out]; exact hk3⟩
                case measure => simp [intOf]; omega
        · have hq' : (y.q != x.q) = true := by simpa using hq
          have hST2 : compTo d gp l (j + 1) = keepI j (keepI h (out, p)) := by rw [HST.out, if_pos hq]
          have HS2 := Lib.hid hST2
          have hl3 := keepI_long h (out, p)
          simp only at hl3
          have HL3 := Lib.hid hl3
          have G4 := Lib.hid g4
          clear hq hST2 hl3 g4 hfj hfz
          go_wp2_with fail
          refine (keep1_any h w1.heap.size (out, p) _ hk1.st (by have := G4.out; simp; omega)).mono ?_
          rintro e w3 ⟨rfl, hs3, hb3⟩
          have hk3 : KeK w1 w1.heap.size _ w3 := ⟨hs3, hk1.bl.trans hb3⟩
          go_wp2_with fail
          refine (keep1_any j w1.heap.size _ _ hs3 (by have := G4.out; have := HL3.out; omega)).mono ?_
          rintro e w4 ⟨rfl, hs4, hb4⟩
          have hk4 : KeK w1 w1.heap.size _ w4 := ⟨hs4, hk3.bl.trans hb4⟩
          go_wp2_with fail
          go_roundw
          case rel => exact ⟨j + 1, j, by omega, by omega, rfl, by go_num, by rw [HS2.out]; exact hk4⟩
          case measure => simp [intOf]; omega
    · obtain rfl : j = l.length := by omega
      have hcl : (compTo d gp l l.length).1.length ≤ 2 * l.length := by
        rcases Nat.eq_zero_or_pos l.length with h | h
        · rw [h]; simp [compTo]
        · exact (compTo_inv d gp l _ h).2.2.2
      by_cases h0 : l.length = 0
      · have hpos : decide ((0 : Int) < (l.length : Int)) = false := decide_eq_false (by omega)
        have hpos2 : (l.length : Int) ≤ 0 := by omega
        have HC := Lib.hid (show compressed d gp l = (compTo d gp l l.length).1 by unfold compressed; rw [if_pos h0, h0]; rfl)
        obtain ⟨⟨⟨vr, hb, hown⟩, _⟩, hbl⟩ := hk
        have c0 : _ = some vr := hb.cell 0
        have hb25 : Below w.heap.size w wr := HBW.out.trans (hbl.mono (Nat.le_of_lt hlt0))
        have hread : RdI wr vr (compressed d gp l) := by rw [HC.out]; exact Rd.of_own hown
        clear hb hown hbl h0
        go_wp2_with fail
        refine bodyPost_ret (v := vr) (by simp [results, Try.results33, go_sem]) rfl ⟨_, rfl, hread, hb25⟩
      · have hpos : decide ((0 : Int) < (l.length : Int)) = true := decide_eq_true (by omega)
        have hpos2 : (0 : Int) < (l.length : Int) := by omega
        have HC := Lib.hid (show compressed d gp l = (keepI (l.length - 1) (compTo d gp l l.length)).1 by unfold compressed; rw [if_neg h0])
        obtain rfl : h = l.length - 1 := HH.out
        clear h0
        go_wp2_with fail
        refine (keep1_any (l.length - 1) w1.heap.size _ _ hk.st (by omega)).mono ?_
        rintro e w5 ⟨rfl, ⟨⟨vr, hb, hown⟩, _⟩, hbl⟩
        have c0 : _ = some vr := hb.cell 0
        have hb25 : Below w.heap.size w w5 := HBW.out.trans ((hk.bl.trans hbl).mono (Nat.le_of_lt hlt0))
        have hread : RdI w5 vr (compressed d gp l) := by rw [HC.out]; exact Rd.of_own hown
        clear hb hown hbl
        go_wp2_with fail
        refine bodyPost_ret (v := vr) (by simp [results, Try.results33, go_sem]) rfl ⟨_, rfl, hread, hb25⟩
end Go.Proofs.Ytblbfpokkpkcjaa
