import Derived.Test.YtblbfpokkpkcjaaCom18
import Derived.Test.YtblbfpokkpkcjaaCom19
import Derived.Test.YtblbfpokkpkcjaaCom25
import Derived.Test.YtblbfpokkpkcjaaCom21
import Derived.StillTailTactics
/- The contract of Fits (package compress). -/

namespace Go.Proofs.Ytblbfpokkpkcjaa
open Go.RowKit
set_option linter.unusedVariables false
set_option linter.unusedSimpArgs false

def fitE (d m : Int) (l : List Smp) (ks : List Int) : Int := erE (doorErr d m) (keptErr l ks)
def fitR (d m : Int) (l : List Smp) (ks : List Int) : Bool := if fitE d m l ks = 0 then fitsB d m l ks else false
theorem keptErr_zero {l : List Smp} {ks : List Int} (h : keptErr l ks = 0) : serErr l = 0 ∧ idxErr l.length ks = 0 := by
  unfold keptErr at h; split at h <;> rename_i h1
  · omega
  · exact ⟨by simpa using h1, h⟩

def kAt (ks : List Int) (i : Nat) : Int := ks.getD i 0
theorem kAt_eq (ks : List Int) (i : Nat) (h : i < ks.length) : ks[i] = kAt ks i := by unfold kAt; rw [List.getD_eq_getElem?_getD, List.getElem?_eq_getElem h]; rfl
theorem RdI.kAt_ {w : World} {v : Value} {l : List Int} (h : RdI w v l) (hn : 0 < l.length) :
    ∃ b off c, v = .slice (some ⟨b, off, none⟩) l.length c ∧ l.length ≤ c ∧ c ≤ maxLen ∧ b < w.heap.size ∧ ∀ i, i < l.length → w.cell? ⟨b, off + i, none⟩ = some (.int .i64 (kAt l i)) := by
  obtain ⟨b, off, c, hv, h2, h3, hlt, hc⟩ := RdI.cells h hn
  exact ⟨b, off, c, hv, h2, h3, hlt, fun i hi => by rw [hc i hi, kAt_eq l i hi]⟩
theorem below_cells' {w w' : World} {b : Nat} (h : Below w.heap.size w w') (hb : b < w.heap.size) (o : Nat) : w'.cell? ⟨b, o, none⟩ = w.cell? ⟨b, o, none⟩ := (below_cells h).1 b o hb
theorem kAt_head {ks : List Int} (h : 0 < ks.length) : ks.head? = some (kAt ks 0) := by
  cases ks with
  | nil => simp at h
  | cons x r => rfl
theorem kAt_last {ks : List Int} {q : Nat} (h : ks.length = q + 1) : ks.getLast? = some (kAt ks q) := by
  rw [List.getLast?_eq_getElem?, show ks.length - 1 = q by omega, List.getElem?_eq_getElem (by omega), kAt_eq ks q (by omega)]
theorem IdxOk.at_ {n : Nat} {ks : List Int} (h : IdxOk n ks) (i : Nat) (hi : i < ks.length) : 0 ≤ kAt ks i ∧ kAt ks i < (n : Int) := by
  rw [← kAt_eq ks i hi]; exact h.rng _ (List.getElem_mem hi)
theorem IdxOk.lt_ {n : Nat} {ks : List Int} (h : IdxOk n ks) (i j : Nat) (hij : i < j) (hj : j < ks.length) : kAt ks i < kAt ks j := by
  rw [← kAt_eq ks i (by omega), ← kAt_eq ks j hj]; exact List.pairwise_iff_getElem.1 h.rise i j (by omega) hj hij
theorem pairsB_at (d m : Int) (l : List Smp) (ks : List Int) (j : Nat) (h : j + 1 < ks.length) : pairsB d m l (ks.drop j) = (nextB d m l (kAt ks j).toNat (kAt ks (j + 1)).toNat && pairsB d m l (ks.drop (j + 1))) := by
  rw [pairsB_drop d m l ks j h, kAt_eq ks j (by omega), kAt_eq ks (j + 1) h]

set_option maxRecDepth 100000 in
set_option maxHeartbeats 4000000 in
theorem fits_any (d m : Int) (v vk : Value) (l : List Smp) (ks : List Int) (w : World) (hR : RdS w 71 v l) (hK : RdI w vk ks) (hks : ks.length ≤ 100000) :
    Calls Try.prog 27 #[.agg #[.int .i64 d, .int .i64 m], v, vk] w fun e w' => e = .returned (.tuple #[.bool (fitR d m l ks), .int .i64 (fitE d m l ks)]) ∧ Below w.heap.size w w' := by
  obtain ⟨pa, ca, rfl⟩ := hR.lenv
  obtain ⟨pk, ck, rfl⟩ := hK.lenv
  have hmx : Try.prog.follows .mixedOrders = true := by kernel_rfl
  have hbw : Below w.heap.size w (w.alloc (.cells #[.int .i64 d, .int .i64 m] 30)) := (Below.refl _ w).alloc (Nat.le_refl _) _
  have bd0 : Blk (w.alloc (.cells #[.int .i64 d, .int .i64 m] 30)) w.heap.size 30 #[.int .i64 d, .int .i64 m] := Blk.new w _ _
  have HCD := Lib.hid (fun w => checkDoor_any d m w)
  have HCK := Lib.hid (fun (W : World) (hb : Below w.heap.size w W) => checkKept_any (.slice pa l.length ca) (.slice pk ks.length ck) l ks W (Rd.below hR hb) (RdI.below hK hb (Nat.le_refl _)) hks)
  have HR := Lib.hid hR
  have HK := Lib.hid hK
  have HFE := Lib.hid (show fitE d m l ks = if doorErr d m ≠ 0 then doorErr d m else keptErr l ks from rfl)
  have HFR := Lib.hid (show fitR d m l ks = if fitE d m l ks = 0 then fitsB d m l ks else false from rfl)
  have HDO := Lib.hid (fun h : doorErr d m = 0 => doorErr_ok h)
  have HKZ := Lib.hid (fun h : keptErr l ks = 0 => keptErr_zero h)
  generalize fitR d m l ks = RR at *
  generalize fitE d m l ks = E at *
  generalize doorErr d m = D at *
  generalize keptErr l ks = KE at *
  clear hR hK
  go_enter Try.func27, Try.ntmps27
  go_upto_region 1 with fail
  generalize w.alloc (.cells #[.int .i64 d, .int .i64 m] 30) = w1 at *
  have e0 := bd0.cell 0
  have e1 := bd0.cell 1
  go_wp2_with fail
  refine (HCD.out _).mono ?_
  rintro e w2 ⟨rfl, hb2⟩
  have hb := hbw.trans (hb2.mono hbw.size)
  have bd2 := bd0.below hb2 bd0.lt
  clear hbw hb2 e0 e1 bd0
  by_cases hD : D = 0
  · have hD' : (D != 0) = false := by simpa using hD
    have HD := Lib.hid hD
    clear hD
    go_wp2_with fail
    refine (HCK.out _ hb).mono ?_
    rintro e w3 ⟨rfl, hb3⟩
    have hbe := hb.trans (hb3.mono hb.size)
    have bd3 := bd2.below hb3 bd2.lt
    clear hb hb3 bd2
    by_cases hK0 : KE = 0
    · have hK' : (KE != 0) = false := by simpa using hK0
      have HE0 := Lib.hid (show E = 0 by rw [HFE.out, if_neg (by simpa using HD.out), hK0])
      obtain ⟨hS, hI⟩ := HKZ.out hK0
      have hix := idxErr_ok hI
      have hfit := serErr_fit hS
      have hlong := (serErr_good hS).1
      obtain ⟨hd, hm⟩ := HDO.out HD.out
      have hX := HFR.out
      rw [if_pos HE0.out] at hX
      clear hK0 HKZ HFE HFR HDO HCK HCD hI
      by_cases hn : l.length = 0
      · have hn' : ((l.length : Int) == 0) = true := by simp [hn]
        have HX := Lib.hid (show RR = true by rw [hX]; unfold fitsB; rw [if_pos hn])
        clear hX hn
        go_wp2_with fail
        go_ret2
        exact ⟨by rw [HX.out, HE0.out]; rfl, hbe⟩
      · have hn' : ((l.length : Int) == 0) = false := by simpa using hn
        unfold fitsB at hX
        rw [if_neg hn] at hX
        by_cases hk0 : ks.length = 0
        · have hk' : ((ks.length : Int) == 0) = true := by simp [hk0]
          have HX := Lib.hid (show RR = false by rw [hX, List.eq_nil_of_length_eq_zero hk0]; simp)
          clear hX hn hk0
          go_wp2_with fail
          go_ret2
          exact ⟨by rw [HX.out, HE0.out]; rfl, hbe⟩
        · have hk' : ((ks.length : Int) == 0) = false := by simpa using hk0
          have hKr : RdI w3 _ ks := RdI.below HK.out hbe (Nat.le_refl _)
          obtain ⟨b, off, cc, hv, hc1, hc2, hblt, hcell⟩ := RdI.kAt_ hKr (Nat.pos_of_ne_zero hk0)
          cases hv
          unfold maxLen at hc2
          obtain ⟨q, hq⟩ : ∃ q, ks.length = q + 1 := ⟨ks.length - 1, by omega⟩
          rw [kAt_head (by omega), kAt_last hq] at hX
          have HIX := Lib.hid (And.intro (fun i hi => hix.at_ i hi) (fun i j hij hj => hix.lt_ i j hij hj))
          have HPB := Lib.hid (pairsB_at d m l ks)
          have HPE := Lib.hid (pairsB_end d m l ks)
          have hql := hix.long
          have HW3 := Lib.hid hbe
          have hcell' : ∀ i, i < q + 1 → w3.cell? ⟨b, off + i, none⟩ = some (.int .i64 (kAt ks i)) := fun i hi => hcell i (by omega)
          have hcq : q + 1 ≤ ck := by omega
          have hql' : q + 1 ≤ l.length := by omega
          clear hcell hc1 hql
          rw [hq] at *
          have hcell := hcell'
          have hk2 : (((q : Int) + 1) == 0) = false := by rw [beq_eq_false_iff_ne]; omega
          have c0 := hcell 0 (by omega)
          have c1 := hcell q (by omega)
          rw [Nat.add_zero] at c0
          have HCE := Lib.hid hcell
          have HFIT := Lib.hid hfit
          have HIS := Lib.hid hS
          clear hcell hcell' hix hKr hfit hS hk0 hn hbe
          have hwl : IntKind.i64.wrap ((l.length : Int) - 1) = (l.length : Int) - 1 := IntWalk.i64_in _ (by omega)
          generalize hA0 : kAt ks 0 = A0 at *
          generalize hAL : kAt ks q = AL at *
          have HA0 := Lib.hid hA0
          have HAL := Lib.hid hAL
          clear hA0 hAL
          by_cases hq0 : q = 0
          · subst hq0
            obtain rfl : AL = A0 := HAL.out.symm.trans HA0.out
            clear c1
            by_cases h1 : AL = 0
            · have h1' : (AL != 0) = false := by simpa using h1
              by_cases h2 : AL = (l.length : Int) - 1
              · have h2' : (AL != (l.length : Int) - 1) = false := by simpa using h2
                have HX := Lib.hid (show RR = pairsB d m l ks by rw [hX, decide_eq_true (congrArg some h1), decide_eq_true (congrArg some h2)]; simp)
                clear hX h1 h2
                have HT := Lib.hid (show RR = true by rw [HX.out, ← List.drop_zero (l := ks)]; exact HPE.out 0 (by omega))
                by_cases hck : ck = 1
                · subst hck
                  go_wp2_with fail
                  refine wp_loop_rounds 1 ?_
                  rw [rounds_succ]
                  go_wp2_with fail
                  go_ret2
                  exact ⟨by rw [HT.out, HE0.out]; rfl, HW3.out⟩
                · go_wp2_with fail
                  refine wp_loop_rounds 1 ?_
                  rw [rounds_succ]
                  go_wp2_with fail
                  go_ret2
                  exact ⟨by rw [HT.out, HE0.out]; rfl, HW3.out⟩
              · have h2' : (AL != (l.length : Int) - 1) = true := by simpa using h2
                have HX := Lib.hid (show RR = false by rw [hX]; simp [h2])
                clear hX h1 h2
                go_wp2_with fail
                go_ret2
                exact ⟨by rw [HX.out, HE0.out]; rfl, HW3.out⟩
            · have h1' : (AL != 0) = true := by simpa using h1
              have HX := Lib.hid (show RR = false by rw [hX]; simp [h1])
              clear hX h1
              go_wp2_with fail
              go_ret2
              exact ⟨by rw [HX.out, HE0.out]; rfl, HW3.out⟩
          · have hck : ¬ ck = 1 := by omega
            have hq1 : 1 ≤ q := by omega
            clear hq0
            by_cases h1 : A0 = 0
            · have h1' : (A0 != 0) = false := by simpa using h1
              by_cases h2 : AL = (l.length : Int) - 1
              · have h2' : (AL != (l.length : Int) - 1) = false := by simpa using h2
                have HX := Lib.hid (show RR = pairsB d m l ks by rw [hX, decide_eq_true (congrArg some h1), decide_eq_true (congrArg some h2)]; simp)
                clear hX h1 h2
                go_wp2_with fail
                go_loopw [50] (fun ii wr => ∃ j : Nat, j ≤ q ∧ ii = .int .i64 (j : Int) ∧ RR = pairsB d m l (ks.drop j) ∧ Below w3.heap.size w3 wr) (fun ii _ => q - (intOf ii).toNat)
                case atStart => exact ⟨0, by omega, rfl, by rw [HX.out]; simp, Below.refl _ _⟩
                case round =>
                  obtain ⟨j, hj, rfl, hP, hbr⟩ := hrel
                  have HP := Lib.hid hP
                  clear hP
                  by_cases hlt : j < q
                  · have hcj := HCE.out j (by omega)
                    have hcj1 := HCE.out (j + 1) (by omega)
                    obtain ⟨ra1, ra2⟩ := HIX.out.1 j (by omega)
                    obtain ⟨rb1, rb2⟩ := HIX.out.1 (j + 1) (by omega)
                    have rab := HIX.out.2 j (j + 1) (by omega) (by omega)
                    have HPJ := Lib.hid (HPB.out j (by omega))
                    generalize kAt ks j = a at *
                    generalize kAt ks (j + 1) = bb at *
                    obtain ⟨aN, rfl⟩ : ∃ aN : Nat, a = (aN : Int) := ⟨a.toNat, by omega⟩
                    obtain ⟨bN, rfl⟩ : ∃ bN : Nat, bb = (bN : Int) := ⟨bb.toNat, by omega⟩
                    rw [Int.toNat_natCast, Int.toNat_natCast] at HPJ
                    have hab : aN < bN := by omega
                    have hbn : bN < l.length := by omega
                    have hR2 : RdS wr _ (.slice pa l.length ca) l := Rd.below HR.out (HW3.out.trans (hbr.mono HW3.out.size))
                    obtain ⟨bL, oL, cL, hvL, hcL1, hcL2, hbL, _⟩ := RdS.cells hR2 (by omega)
                    cases hvL
                    unfold maxLen at hcL2
                    have hprt := RdS.part hR2 aN (bN + 1) (by omega) (by omega) (some ⟨bL, oL + aN * 3, none⟩) (fun _ b off h => by cases h; rfl)
                    have hlp := part_long l aN bN hbn (by omega)
                    have hsp := spans_any d m (.slice (some ⟨bL, oL + aN * 3, none⟩) (bN + 1 - aN) (ca - aN)) _ wr.drew hprt (by omega) (by omega) (HFIT.out.part hbn (by omega)) hd
                    rw [hlp, show bN + 1 - aN - 1 = bN - aN by omega, nextB_part d m l aN bN hbn (by omega)] at hsp
                    have hcaa : ¬ ca = aN := by omega
                    have hbdr := bd3.below hbr bd3.lt
                    have d0 := hbdr.cell 0
                    have d1 := hbdr.cell 1
                    have q0 : wr.cell? ⟨b, off + j, none⟩ = some (.int .i64 (aN : Int)) := (below_cells' hbr hblt _).trans hcj
                    have q1 : wr.cell? ⟨b, off + 1 + j, none⟩ = some (.int .i64 (bN : Int)) := by
                      rw [show off + 1 + j = off + (j + 1) by omega]
                      exact (below_cells' hbr hblt _).trans hcj1
                    generalize nextB d m l aN bN = NB at *
                    have HSP := Lib.hid hsp
                    clear hsp hprt hR2 hcj hcj1 hlp hbdr
                    have hwb : IntKind.i64.wrap ((bN : Int) + 1) = (bN : Int) + 1 := IntWalk.i64_in _ (by omega)
                    have hi1 : (aN : Int) ≤ (bN : Int) + 1 := by omega
                    have hi2 : (bN : Int) + 1 ≤ (ca : Int) := by omega
                    have hi3 : (0 : Int) ≤ (aN : Int) := by omega
                    have hi4 : (j : Int) < (q : Int) + 1 := by omega
                    have hi5 : ((bN : Int) + 1).toNat = bN + 1 := by omega
                    go_upto_region 14 with fail
                    go_still_tail 9, (by kernel_rfl)
                    change wpList _ _ _ _ _ wr.drew
                    have hbrd := hbr.drew
                    cases NB
                    · have HF := Lib.hid (show RR = false by rw [HP.out, HPJ.out]; rfl)
                      go_wp2_with (go_at_call 109; refine HSP.out.mono ?_; rintro e wk ⟨rfl, hbk⟩)
                      go_ret2
                      exact ⟨by rw [HF.out, HE0.out]; rfl, (HW3.out.trans (hbrd.mono HW3.out.size)).trans (hbk.mono (by have := HW3.out.size; have := hbrd.size; omega))⟩
                    · have HF := Lib.hid (show RR = pairsB d m l (ks.drop (j + 1)) by rw [HP.out, HPJ.out]; simp)
                      go_wp2_with (go_at_call 109; refine HSP.out.mono ?_; rintro e wk ⟨rfl, hbk⟩)
                      go_roundw
                      case rel => exact ⟨j + 1, by omega, by go_num, HF.out, hbrd.trans (hbk.mono (by have := hbrd.size; omega))⟩
                      case measure => simp [intOf]; omega
                  · obtain rfl : j = q := by omega
                    have HT := Lib.hid (show RR = true by rw [HP.out]; exact HPE.out j (by omega))
                    go_wp2_with fail
                    go_ret2
                    exact ⟨by rw [HT.out, HE0.out]; rfl, HW3.out.trans (hbr.mono HW3.out.size)⟩
              · have h2' : (AL != (l.length : Int) - 1) = true := by simpa using h2
                have HX := Lib.hid (show RR = false by rw [hX]; simp [h2])
                clear hX h1 h2
                go_wp2_with fail
                go_ret2
                exact ⟨by rw [HX.out, HE0.out]; rfl, HW3.out⟩
            · have h1' : (A0 != 0) = true := by simpa using h1
              have HX := Lib.hid (show RR = false by rw [hX]; simp [h1])
              clear hX h1
              go_wp2_with fail
              go_ret2
              exact ⟨by rw [HX.out, HE0.out]; rfl, HW3.out⟩
    · have hK' : (KE != 0) = true := by simpa using hK0
      have HE0 := Lib.hid (show E = KE by rw [HFE.out, if_neg (by simpa using HD.out)])
      have HX := Lib.hid (show RR = false by rw [HFR.out, if_neg (by rw [HE0.out]; exact hK0)])
      clear hK0
      go_wp2_with fail
      go_ret2
      exact ⟨by rw [HX.out, HE0.out]; rfl, hbe⟩
  · have hD' : (D != 0) = true := by simpa using hD
    have HE0 := Lib.hid (show E = D by rw [HFE.out, if_pos hD])
    have HX := Lib.hid (show RR = false by rw [HFR.out, if_neg (by rw [HE0.out]; exact hD)])
    clear hD
    go_wp2_with fail
    go_ret2
    exact ⟨by rw [HX.out, HE0.out]; rfl, hb⟩
end Go.Proofs.Ytblbfpokkpkcjaa
