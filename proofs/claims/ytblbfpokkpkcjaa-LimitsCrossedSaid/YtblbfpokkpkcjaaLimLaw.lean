/- LimitsCrossed: the walk of the law, over a contract of CrossingsOf. No condition. -/
import Derived.Test.YtblbfpokkpkcjaaCrn
import Derived.Test.YtblbfpokkpkcjaaChr
import Derived.Test.YtblbfpokkpkcjaaCountLaw
import Derived.Test.YtblbfpokkpkcjaaAlim
namespace Go.Proofs.Ytblbfpokkpkcjaa
open Go.RowKit
set_option linter.unusedVariables false
set_option linter.unusedSimpArgs false

set_option maxRecDepth 100000 in
set_option maxHeartbeats 4000000 in
theorem limits_walk_of (HCF : ∀ (v : Value) (l : List Smp) (f t L : Int) (w : World), RdS w 71 v l → l.length ≤ 5000 → Rise none l → (∀ i, i < l.length → Right (atS l i)) → (-1000000 ≤ L ∧ L ≤ 1000000) → (0 ≤ f ∧ f ≤ t ∧ t ≤ 345686400000) →
      Calls Try.prog 67 #[v, .agg #[.int .i64 f, .int .i64 t], .int .i64 L] w fun e w' => ∃ vr, e = .returned vr ∧ RdF w' vr (outF L f t l l.length) ∧ Below w.heap.size w w')
    (w : World) (L : List Int) (A : Option Addr) (cap : Nat) (hc : ∀ i, i < L.length → ∃ ad : Addr, A = some ad ∧ ad.block < w.heap.size ∧ w.cell? (ad.add i) = some (.int .i64 (L.getD i 0)))
    (hl : L.length ≤ 9223372036854775807) (hwf : ∀ i, -9223372036854775808 ≤ L.getD i 0 ∧ L.getD i 0 ≤ 9223372036854775807) :
    Calls Try.prog 8 #[.slice A L.length cap] w fun e w' => e = .returned (.bool true) ∧ Below w.heap.size w w' := by
  have hS0 : Strm (w.alloc (.cells #[.slice A L.length cap, .int .i64 0] 25)) w.heap.size L A cap 0 :=
    ⟨heap_alloc_new w _, fun i hi => by
      obtain ⟨ad, e, hb, hcell⟩ := hc i hi
      exact ⟨ad, e, hb, by rw [World.cell?_alloc_lt _ _ _ (by rw [addr_add_block]; exact hb)]; exact hcell⟩, hl, hwf⟩
  have HS0 := Lib.hid hS0
  have HCF' := Lib.hid HCF
  have hsz0 : w.heap.size < (w.alloc (.cells #[.slice A L.length cap, .int .i64 0] 25)).heap.size := by simp
  have HB0 := Lib.hid ((Below.refl w.heap.size w).alloc (Nat.le_refl _) (.cells #[.slice A L.length cap, .int .i64 0] 25))
  clear hS0 hc hwf HCF
  go_enter Try.func8, Try.ntmps8
  go_upto_region 2 with fail
  generalize w.alloc (.cells #[.slice A L.length cap, .int .i64 0] 25) = W at *
  go_wp2_with fail
  refine (curve_went _ w.heap.size L A cap 0 10 HS0.out (by omega) (by omega)).mono ?_
  rintro e w1 ⟨v, rfl, l, k1, hown, hlen, hnear, hk1, hw1⟩
  go_wp2_with fail
  refine (flip_went _ w.heap.size L A cap k1 2 hw1.1 (by omega) (by omega)).mono ?_
  rintro e w2 ⟨rfl, hw2, _⟩
  have hown2 := own_but hw1.1 (by decide) hown hw2.2
  have hb2 := hw1.2.trans hw2.2
  generalize (nxt L k1 2 == 0) = st at *
  clear hown hw1
  go_wp2_with fail
  refine (aSpan_went _ w.heap.size L A cap (k1 + 1) hw2.1 (by omega)).mono ?_
  rintro e w3 ⟨f, t, k3, rfl, hf, ht, hk3, hw3⟩
  have hown3 := own_but hw2.1 (by decide) hown2 hw3.2
  have hb3 := hb2.trans hw3.2
  clear hown2 hw2 hb2
  go_wp2_with fail
  refine (aLimit_went _ w.heap.size L A cap k3 hw3.1 (by omega)).mono ?_
  rintro e w4 ⟨M, rfl, hM, hw4⟩
  have hown4 := own_but hw3.1 (by decide) hown3 hw4.2
  have hb4 := hb3.trans hw4.2
  clear hown3 hw3 hw4 hb3
  have hsz4 := hb4.size
  have hk0 : KM w w4.heap.size f t v l (w4.alloc (.cells #[.int .i64 f, .int .i64 t] 82)) :=
    ⟨Rd.alloc (Rd.of_own hown4) _, Blk.new _ _ _, HB0.out.trans ((butBelow2 hb4 (Nat.le_refl _) (Nat.le_of_lt hsz0)).alloc (by omega) _)⟩
  clear hown4 hb4 hnear
  go_upto_region 3 with fail
  generalize w4.alloc (.cells #[.int .i64 f, .int .i64 t] 82) = w5 at *
  generalize w4.heap.size = n at *
  have e0 := hk0.bw.cell 0
  have e1 := hk0.bw.cell 1
  go_region_held3 (fun w' => w'.cell? ⟨n, 0, none⟩ = some (.int .i64 f) ∧ w'.cell? ⟨n, 1, none⟩ = some (.int .i64 t))
    (first | exact ⟨hk2.bw.cell 0, hk2.bw.cell 1⟩ | exact ⟨hkk.bw.cell 0, hkk.bw.cell 1⟩ | exact ⟨e0, e1⟩ | go_keep)
    (first
    | (go_at_call 21; (with_reducible refine (seriesFault_any v l _ ?_).mono ?_); (focus (exact KM.rs (by first | assumption | exact KM.drew (by assumption)))); rintro e wk ⟨rfl, hbk⟩; have hkk := KM.step hbk (by first | assumption | exact KM.drew (by assumption)); clear hbk)
    | (go_at_call 56; (with_reducible refine (windowFault_any f t _).mono ?_); rintro e wk ⟨rfl, hbk⟩; have hkk := KM.step hbk (by first | assumption | exact KM.drew (by assumption)); clear hbk)
    | (go_at_call 20; refine (or2_any _ _ (serErr l) (winErr f t) (by exact Blk.new _ _ _)).mono ?_; rintro e wj ⟨rfl, rfl⟩; have hk2 := hkk.alloc (.cells #[.int .i64 (serErr l), .int .i64 (winErr f t)] 34)))
  rw [orOf2]
  clear e0 e1 hkk hk0
  generalize wk.alloc (.cells #[.int .i64 (serErr l), .int .i64 (winErr f t)] 34) = wz at *
  have e0 := hk2.bw.cell 0
  have e1 := hk2.bw.cell 1
  go_wp2_with fail
  refine (crossings_any v l f t M _ hk2.rs (by omega)).mono ?_
  rintro e wa ⟨vr, rfl, hrf, hba⟩
  have hka := KM.step hba hk2
  clear e0 e1 hba hk2
  have e0 := hka.bw.cell 0
  have e1 := hka.bw.cell 1
  go_wp2_with fail
  refine (change_any v l st f t _ hka.rs).mono ?_
  rintro e wb ⟨rfl, hbb⟩
  have hkb := KM.step hbb hka
  have hrf2 := Rd.below hrf hbb
  clear e0 e1 hbb hka hrf
  have e0 := hkb.bw.cell 0
  have e1 := hkb.bw.cell 1
  go_upto_region 6 with fail
  go_cut [14, 15] (fun s14 s15 wx => s14 = .int .i64 (crE l f t M) ∧ s15 = .int .i64 (chgE l f t) ∧ KM w n f t v l wx ∧ RdF wx vr (crR l f t M))
  case first =>
    have HC1 := Lib.hid (show crE l f t M = orE (orE (serErr l) (winErr f t)) (if inB M (-1000000) 1000000 = false then 1 else 0) from rfl)
    have HC2 := Lib.hid (show chgE l f t = orE (orE (serErr l) (winErr f t)) (if t = 345686400000 then 1 else 0) from rfl)
    generalize orE (serErr l) (winErr f t) = F at *
    have hlf := fun w => limitFault_any M w
    have HLF := Lib.hid hlf
    clear hlf
    generalize hX1 : (if inB M (-1000000) 1000000 = false then (1 : Int) else 0) = X1 at *
    have HX1 := Lib.hid hX1
    clear hX1 e0
    have e1 := hkb.bw.cell 1
    cases hT : (t == 345686400000)
    · have HT := Lib.hid (show ¬ t = 345686400000 by simpa using hT)
      go_region_held3 (fun w' => w'.cell? ⟨n, 1, none⟩ = some (.int .i64 t))
        (first | exact e1 | go_keep)
        (first
        | (go_at_call 65; (with_reducible refine (HLF.out _).mono ?_); rintro e wk ⟨rfl, rfl⟩)
        | (go_at_call 66; (with_reducible refine (when1_any _ _ _).mono ?_); rintro e wk ⟨rfl, rfl⟩)
        | (go_at_call 20; (refine (or2_any _ _ F X1 ?_).mono ?_); (focus ((repeat (first | (with_reducible refine blkNewE _ _ _ _ ?_; (focus (simp; done))) | with_reducible apply Blk.drew | with_reducible apply Blk.alloc)); done)); rintro e wj ⟨rfl, rfl⟩)
        | (go_at_call 20; (refine (or2_any _ _ F 0 ?_).mono ?_); (focus ((repeat (first | (with_reducible refine blkNewE _ _ _ _ ?_; (focus (simp; done))) | with_reducible apply Blk.drew | with_reducible apply Blk.alloc)); done)); rintro e wj ⟨rfl, rfl⟩))
      all_goals
        go_wp2_with fail
        go_meet
        exact ⟨vi (by rw [HC1.out, orOf2]), vi (by rw [HC2.out, if_neg HT.out, orOf2]), by repeat (first | exact hkb | apply KM.alloc | apply KM.drew), by repeat (first | exact hrf2 | apply Rd.alloc | apply Rd.drew)⟩
    · have HT := Lib.hid (show t = 345686400000 by simpa using hT)
      go_region_held3 (fun w' => w'.cell? ⟨n, 1, none⟩ = some (.int .i64 t))
        (first | exact e1 | go_keep)
        (first
        | (go_at_call 65; (with_reducible refine (HLF.out _).mono ?_); rintro e wk ⟨rfl, rfl⟩)
        | (go_at_call 66; (with_reducible refine (when1_any _ _ _).mono ?_); rintro e wk ⟨rfl, rfl⟩)
        | (go_at_call 20; (refine (or2_any _ _ F X1 ?_).mono ?_); (focus ((repeat (first | (with_reducible refine blkNewE _ _ _ _ ?_; (focus (simp; done))) | with_reducible apply Blk.drew | with_reducible apply Blk.alloc)); done)); rintro e wj ⟨rfl, rfl⟩)
        | (go_at_call 20; (refine (or2_any _ _ F 1 ?_).mono ?_); (focus ((repeat (first | (with_reducible refine blkNewE _ _ _ _ ?_; (focus (simp; done))) | with_reducible apply Blk.drew | with_reducible apply Blk.alloc)); done)); rintro e wj ⟨rfl, rfl⟩))
      all_goals
        go_wp2_with fail
        go_meet
        exact ⟨vi (by rw [HC1.out, orOf2]), vi (by rw [HC2.out, if_pos HT.out, orOf2]), by repeat (first | exact hkb | apply KM.alloc | apply KM.drew), by repeat (first | exact hrf2 | apply Rd.alloc | apply Rd.drew)⟩
  case rest =>
    obtain ⟨rfl, rfl, hkc, hrf3⟩ := hcut
    clear hkb e0 hrf2
    have e0 := hkc.bw.cell 0
    have e1 := hkc.bw.cell 1
    go_upto_if 64 with fail
    go_cut [16] (fun s16 wx => ∃ vc, vc = s16 ∧ KM w n f t v l wx ∧ RdF wx vr (crR l f t M) ∧ RdF wx vc (crR l f t M))
    case first =>
      have HCE := Lib.hid (show crE l f t M = orE (orE (serErr l) (winErr f t)) (if inB M (-1000000) 1000000 = false then 1 else 0) from rfl)
      have HCV := Lib.hid (show crR l f t M = if crE l f t M = 0 then outF M f t l l.length else [] from rfl)
      generalize crR l f t M = CV at *
      generalize crE l f t M = CE at *
      by_cases hC : CE = 0
      · have hC' : (CE == 0) = true := by simpa using hC
        have hz := orE_zero (HCE.out.symm.trans hC)
        have hz1 := orE_zero hz.1
        have hM2 : -1000000 ≤ M ∧ M ≤ 1000000 := by
          cases h : inB M (-1000000) 1000000
          · have := hz.2; rw [h] at this; simp at this
          · exact inB_true.1 h
        have hcv : CV = outF M f t l l.length := by rw [HCV.out, if_pos hC]
        have HX := Lib.hid (And.intro hz1 (And.intro hM2 hcv))
        clear hC hz hz1 hM2 hcv
        go_wp2_with fail
        refine (HCF'.out v l f t M _ hkc.rs (serErr_good HX.out.1.1).1 (serErr_rise HX.out.1.1) (fun i hi => ⟨(serErr_vt HX.out.1.1 i).2, (serErr_vt HX.out.1.1 i).1⟩) HX.out.2.1 (winErr_ok HX.out.1.2)).mono ?_
        rintro e we ⟨vq, rfl, hrq, hbe⟩
        have hke := KM.step hbe hkc
        have hrf4 := Rd.below hrf3 hbe
        rw [← HX.out.2.2] at hrq
        go_wp2_with fail
        go_meet
        exact ⟨_, rfl, hke, hrf4, hrq⟩
      · have hC' : (CE == 0) = false := by simpa using hC
        have hcv : CV = [] := by rw [HCV.out, if_neg hC]
        have HX := Lib.hid hcv
        clear hC hcv
        go_wp2_with fail
        go_meet
        refine ⟨_, rfl, hkc, hrf3, ?_⟩
        rw [HX.out]
        exact Rd.nil _ _ _
    case rest =>
      obtain ⟨vc, rfl, hkd, hrf4, hrq⟩ := hcut
      clear hkc hrf3 e0 e1
      have e0 := hkd.bw.cell 0
      have e1 := hkd.bw.cell 1
      go_upto_if 70 with fail
      go_cut [17, 18] (fun s17 s18 wx => s17 = .int .i64 ((chgR l st f t).getD 0) ∧ s18 = .bool (chgR l st f t).isSome ∧ KM w n f t v l wx ∧ RdF wx vr (crR l f t M) ∧ RdF wx vc (crR l f t M))
      case first =>
        have HCE := Lib.hid (show chgE l f t = orE (orE (serErr l) (winErr f t)) (if t = 345686400000 then 1 else 0) from rfl)
        have HCV := Lib.hid (show chgR l st f t = if chgE l f t = 0 then chgO (valO l st f) (valO l st t) else none from rfl)
        generalize chgR l st f t = CV at *
        generalize chgE l f t = CE at *
        by_cases hC : CE = 0
        · have hC' : (CE == 0) = true := by simpa using hC
          have hz1 := orE_zero (orE_zero (HCE.out.symm.trans hC)).1
          have hcv : CV = chgO (valO l st f) (valO l st t) := by rw [HCV.out, if_pos hC]
          have HX := Lib.hid (And.intro hz1 hcv)
          clear hC hz1 hcv
          go_wp2_with fail
          refine (changeOf_any v l st f t _ hkd.rs HX.out.1.1 (winErr_ok HX.out.1.2)).mono ?_
          rintro e we ⟨rfl, hbe⟩
          have hke := KM.step hbe hkd
          have hrf5 := Rd.below hrf4 hbe
          have hrq5 := Rd.below hrq hbe
          rw [← HX.out.2]
          go_wp2_with fail
          go_meet
          exact ⟨rfl, rfl, hke, hrf5, hrq5⟩
        · have hC' : (CE == 0) = false := by simpa using hC
          have hcv : CV = none := by rw [HCV.out, if_neg hC]
          subst hcv
          clear hC
          go_wp2_with fail
          go_meet
          exact ⟨rfl, rfl, hkd, hrf4, hrq⟩
      case rest =>
        obtain ⟨rfl, rfl, hke, hrf5, hrq5⟩ := hcut
        clear hkd hrf4 hrq e0 e1 HCF' HS0 HB0
        generalize crR l f t M = RR at *
        generalize crE l f t M = CE at *
        generalize chgE l f t = CH at *
        generalize (chgR l st f t).getD 0 = GD at *
        generalize (chgR l st f t).isSome = IS at *
        have h1 : (CE == CE) = true := by simp
        have h3 : (CH == CH) = true := by simp
        have h2 : (GD == GD) = true := by simp
        have h4 : (IS == IS) = true := by simp
        go_wp2_with fail
        refine (equalF_same _ _ RR _ hrf5 hrq5).mono ?_
        rintro e wf ⟨rfl, m, rfl⟩
        have hkm := KM.drews m hke
        clear hke hrf5 hrq5
        go_wp2_with fail
        refine (queried_any _).mono ?_
        rintro e wf ⟨rfl, hbf⟩
        have hkf := KM.step hbf hkm
        go_wp2_with fail
        go_ret
        exact ⟨rfl, hkf.be⟩
end Go.Proofs.Ytblbfpokkpkcjaa
