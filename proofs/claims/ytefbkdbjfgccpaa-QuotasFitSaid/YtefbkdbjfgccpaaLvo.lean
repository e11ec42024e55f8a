/- The contract of FitOf (the reference): Keep of each level is halved down. -/
import Derived.Test.YtefbkdbjfgccpaaLvr
namespace Go.Proofs.Ytefbkdbjfgccpaa
open Go.RowKit
set_option linter.unusedVariables false
set_option linter.unusedSimpArgs false

/-- What FitOf keeps. -/
structure FoK (w0 : World) (bo g1 cap1 n : Nat) (rate quota : Int) (F : List (Int × Int)) (W : World) : Prop where
  b4 : Blk W w0.heap.size 3 #[.int .i64 rate]
  b5 : Blk W (w0.heap.size + 1) 3 #[.int .i64 quota]
  b8 : Blk W bo 26 #[.slice (some ⟨g1, 0, none⟩) n cap1]
  row : W.ownsRow w0.heap.size 31 2 (.slice (some ⟨g1, 0, none⟩) n cap1) n (lvlCells F)
  lo : Below w0.heap.size w0 W
section
variable {w0 W W' : World} {bo g1 cap1 n : Nat} {rate quota : Int} {F : List (Int × Int)}
theorem FoK.step (h : FoK w0 bo g1 cap1 n rate quota F W) (hb : Below W.heap.size W W') : FoK w0 bo g1 cap1 n rate quota F W' :=
  ⟨h.b4.below hb h.b4.lt, h.b5.below hb h.b5.lt, h.b8.below hb h.b8.lt, own_upL h.row hb, h.lo.trans (hb.mono h.lo.size)⟩
theorem FoK.alloc (h : FoK w0 bo g1 cap1 n rate quota F W) (o : Obj) : FoK w0 bo g1 cap1 n rate quota F (W.alloc o) := h.step ((Below.refl _ _).alloc (Nat.le_refl _) _)
theorem FoK.undrew (h : FoK w0 bo g1 cap1 n rate quota F W) (hb : Below W.drew.heap.size W.drew W') : FoK w0 bo g1 cap1 n rate quota F W' := h.step (lv_undrew hb)
theorem FoK.rd (h : FoK w0 bo g1 cap1 n rate quota F W) (hF : F.length = n) : RdLvl W (.slice (some ⟨g1, 0, none⟩) n cap1) F := by unfold RdLvl; rw [hF]; exact Rd.of_own h.row
theorem FoK.put (h : FoK w0 bo g1 cap1 n rate quota F W) (hF : F.length = n) (j : Nat) (hj : j < n) (k : Int) (h1 : g1 ≠ w0.heap.size) (h2 : g1 ≠ w0.heap.size + 1) (h3 : g1 ≠ bo) (h4 : w0.heap.size ≤ g1) :
    FoK w0 bo g1 cap1 n rate quota (F.set j ((F.getD j (0, 0)).1, k)) (W.setCell ⟨g1, j * 2 + 1, none⟩ (.int .i64 k)) := by
  subst hF
  exact ⟨lvBlk_set h.b4 (Ne.symm h1) _, lvBlk_set h.b5 (Ne.symm h2) _, lvBlk_set h.b8 (Ne.symm h3) _, own_keepL h.row j hj k, h.lo.setCell h4 _⟩
end

/-- How FitOf ends. -/
def FoEnd (rate quota : Int) (l : List (Int × Int)) (w : World) (e : Ending) (w' : World) : Prop :=
  ∃ v', e = .returned (.tuple #[v', .bool (decide (lvSum rate (fitTo rate quota l l.length) ≤ quota))]) ∧ RdLvl w' v' (if lvSum rate (fitTo rate quota l l.length) ≤ quota then fitTo rate quota l l.length else []) ∧ Below w.heap.size w w'

set_option maxRecDepth 100000 in
set_option maxHeartbeats 8000000 in
theorem fitOf_any (rate quota : Int) (hr : 1 ≤ rate ∧ rate ≤ 1000000) (hq : 1 ≤ quota ∧ quota ≤ 1000000) (v : Value) (l : List (Int × Int)) (hG : GoodL l) (h0 : 0 < l.length) (w : World) (hR : RdLvl w v l) :
    Calls Try.prog 13 #[v, .int .i64 rate, .int .i64 quota] w (FoEnd rate quota l w) := by
  have h6 := hG.few
  have hb0 : Below w.heap.size w ((w.alloc (.cells #[.int .i64 rate] 3)).alloc (.cells #[.int .i64 quota] 3)) := ((Below.refl _ w).alloc (Nat.le_refl _) _).alloc (by simp) _
  have hB4 : Blk ((w.alloc (.cells #[.int .i64 rate] 3)).alloc (.cells #[.int .i64 quota] 3)) w.heap.size 3 #[.int .i64 rate] := (Blk.new w _ _).alloc _
  have hB5 : Blk ((w.alloc (.cells #[.int .i64 rate] 3)).alloc (.cells #[.int .i64 quota] 3)) (w.heap.size + 1) 3 #[.int .i64 quota] := by have := Blk.new (w.alloc (.cells #[.int .i64 rate] 3)) 3 #[.int .i64 quota]; simpa using this
  have hsz0 : ((w.alloc (.cells #[.int .i64 rate] 3)).alloc (.cells #[.int .i64 quota] 3)).heap.size = w.heap.size + 2 := by simp
  have hcl := cloneL_any v l _ (Rd.below hR hb0) (by omega)
  obtain ⟨pa, ca, rfl⟩ := hR.lenv
  have HCL := Lib.hid hcl
  have HB4 := Lib.hid hB4
  have HB5 := Lib.hid hB5
  have HB0 := Lib.hid hb0
  have HG := Lib.hid hG
  have HSZ0 := Lib.hid hsz0
  have hcf := enter_fitOf1
  clear hcl hB4 hB5 hb0 hG hR hsz0
  go_enter Try.func13, Try.ntmps13
  go_wp2_with fail
  refine HCL.out.mono ?_
  rintro e w1 ⟨v1, rfl, hof, hb1⟩
  obtain ⟨g1, cap1, rfl, hg1, hd1, hd2⟩ := own_form hof (by omega)
  unfold maxLen at hd2
  have hg1' : w.heap.size + 2 ≤ g1 := by rw [← HSZ0.out]; exact hg1
  have hglt : g1 < w1.heap.size := (hof.lt g1 rfl).2
  have hk1 : FoK w w1.heap.size g1 cap1 l.length rate quota l (w1.alloc (.cells #[.slice (some ⟨g1, 0, none⟩) l.length cap1] 26)) := by
    have hb := (Below.refl w1.heap.size w1).alloc (Nat.le_refl _) (.cells #[.slice (some ⟨g1, 0, none⟩) l.length cap1] 26)
    have hb01 := HB0.out.trans (hb1.mono HB0.out.size)
    exact ⟨(HB4.out.below hb1 HB4.out.lt).alloc _, (HB5.out.below hb1 HB5.out.lt).alloc _, Blk.new _ _ _, own_baseL (own_upL hof hb) HB0.out.size, hb01.trans (hb.mono hb01.size)⟩
  have n1 : g1 ≠ w.heap.size := by omega
  have n2 : g1 ≠ w.heap.size + 1 := by omega
  have n3 : g1 ≠ w1.heap.size := by omega
  have n4 : w.heap.size ≤ g1 := by omega
  have c8 : (w1.alloc (.cells #[.slice (some ⟨g1, 0, none⟩) l.length cap1] 26)).cell? ⟨w1.heap.size, 0, none⟩ = some (.slice (some ⟨g1, 0, none⟩) l.length cap1) := hk1.b8.cell 0
  clear hof hb1 hg1
  go_wp2_with fail
  generalize w1.alloc (.cells #[.slice (some ⟨g1, 0, none⟩) l.length cap1] 26) = w2 at *
  generalize w1.heap.size = bo at *
  have HK1 := Lib.hid hk1
  clear hk1
  go_loopw [20] (fun i wr => ∃ j : Nat, j ≤ l.length ∧ i = .int .i64 (j : Int) ∧ FoK w bo g1 cap1 l.length rate quota (fitTo rate quota l j) wr) (fun i _ => l.length - (intOf i).toNat)
  case atStart => exact ⟨0, by omega, rfl, HK1.out⟩
  case round =>
    clear HK1 c8
    obtain ⟨j, hj, rfl, hkr⟩ := hrel
    have hF := fitI_to (quota := quota) hr HG.out j hj
    have hFl := hF.len
    have c8 : wr.cell? ⟨bo, 0, none⟩ = some (.slice (some ⟨g1, 0, none⟩) l.length cap1) := hkr.b8.cell 0
    by_cases hlt : j < l.length
    · have hB9 := Blk.new wr 3 #[.int .i64 (j : Int)]
      have hk2 := hkr.alloc (.cells #[.int .i64 (j : Int)] 3)
      have HSB := Lib.hid hkr.lo.size
      clear hkr c8
      go_wp2_with fail
      generalize wr.alloc (.cells #[.int .i64 (j : Int)] 3) = w3 at *
      generalize wr.heap.size = bi at *
      have c8 : w3.cell? ⟨bo, 0, none⟩ = some (.slice (some ⟨g1, 0, none⟩) l.length cap1) := hk2.b8.cell 0
      have c4 : w3.cell? ⟨w.heap.size, 0, none⟩ = some (.int .i64 rate) := hk2.b4.cell 0
      have c5 : w3.cell? ⟨w.heap.size + 1, 0, none⟩ = some (.int .i64 quota) := hk2.b5.cell 0
      obtain ⟨T, hT⟩ : ∃ T, T = lvSum rate (fitTo rate quota l j) := ⟨_, rfl⟩
      have hcs := fun (W : World) (h : RdLvl W (.slice (some ⟨g1, 0, none⟩) l.length cap1) (fitTo rate quota l j)) => rcostSum_any rate hr _ _ W h hF.ok (by rw [hFl]; exact h6)
      rw [← hT] at hcs
      have HCS := Lib.hid hcs
      have HT := Lib.hid hT
      have HF := Lib.hid hF
      have HB9 := Lib.hid hB9
      clear hcs hT hF hB9
      go_region_held3 (fun w' => w'.cell? ⟨bo, 0, none⟩ = some (.slice (some ⟨g1, 0, none⟩) l.length cap1) ∧ w'.cell? ⟨w.heap.size, 0, none⟩ = some (.int .i64 rate) ∧ w'.cell? ⟨w.heap.size + 1, 0, none⟩ = some (.int .i64 quota))
        (first | exact ⟨c8, c4, c5⟩ | exact ⟨hkk.b8.cell 0, hkk.b4.cell 0, hkk.b5.cell 0⟩ | go_keep)
        (first
        | (go_at_call 12; (with_reducible refine (HCS.out _ ?_).mono ?_); (focus (exact hk2.rd hFl; done)); rintro e wk ⟨rfl, hbk⟩; have hkk := hk2.undrew hbk))
      have HKK := Lib.hid hkk
      have hB9k := HB9.out.below (lv_undrew hbk) HB9.out.lt
      clear hkk hbk hk2
      by_cases hle : T ≤ quota
      · have hfin : fitTo rate quota l l.length = fitTo rate quota l j := by
          have := fit_stop (show lvSum rate (fitTo rate quota l j) ≤ quota from by rw [← HT.out]; exact hle) (l.length - j)
          rwa [show j + (l.length - j) = l.length from by omega] at this
        have hkl := HKK.out
        rw [← hfin] at hkl
        clear hfin HKK hB9k
        have HFN := Lib.hid (fitI_to (quota := quota) hr HG.out l.length (Nat.le_refl _))
        obtain ⟨TN, hTN⟩ : ∃ TN, TN = lvSum rate (fitTo rate quota l l.length) := ⟨_, rfl⟩
        have hcn := fun (W : World) (h : RdLvl W (.slice (some ⟨g1, 0, none⟩) l.length cap1) (fitTo rate quota l l.length)) => rcostSum_any rate hr _ _ W h HFN.out.ok (by rw [HFN.out.len]; exact h6)
        rw [← hTN] at hcn
        have HCN := Lib.hid hcn
        have HTN := Lib.hid hTN
        clear hcn hTN
        have hFNl := HFN.out.len
        have m8 : wk.cell? ⟨bo, 0, none⟩ = some (.slice (some ⟨g1, 0, none⟩) l.length cap1) := hkl.b8.cell 0
        have m4 : wk.cell? ⟨w.heap.size, 0, none⟩ = some (.int .i64 rate) := hkl.b4.cell 0
        have m5 : wk.cell? ⟨w.heap.size + 1, 0, none⟩ = some (.int .i64 quota) := hkl.b5.cell 0
        go_wp2_with fail
        go_region_held3 (fun w' => w'.cell? ⟨bo, 0, none⟩ = some (.slice (some ⟨g1, 0, none⟩) l.length cap1) ∧ w'.cell? ⟨w.heap.size, 0, none⟩ = some (.int .i64 rate) ∧ w'.cell? ⟨w.heap.size + 1, 0, none⟩ = some (.int .i64 quota))
          (first | exact ⟨m8, m4, m5⟩ | exact ⟨hkn.b8.cell 0, hkn.b4.cell 0, hkn.b5.cell 0⟩ | go_keep)
          (first
          | (go_at_call 12; (with_reducible refine (HCN.out _ ?_).mono ?_); (focus (exact hkl.rd hFNl; done)); rintro e wn ⟨rfl, hbn⟩; have hkn := hkl.undrew hbn))
        have m9 : wn.cell? ⟨bo, 0, none⟩ = some (.slice (some ⟨g1, 0, none⟩) l.length cap1) := hkn.b8.cell 0
        have HKN := Lib.hid hkn
        clear hkn hbn
        by_cases hle : TN ≤ quota
        · go_wp2_with fail
          go_ret2
          exact ⟨_, by rw [← HTN.out]; simp [hle] <;> rfl, by rw [← HTN.out, if_pos hle]; exact HKN.out.rd hFNl, HKN.out.lo⟩
        · have hle' : quota < TN := by omega
          go_wp2_with fail
          go_ret2
          exact ⟨_, by rw [← HTN.out]; simp [hle] <;> rfl, by rw [← HTN.out, if_neg (by omega)]; exact Rd.nil _ _ _, HKN.out.lo⟩
      · have hle' : ¬ lvSum rate (fitTo rate quota l j) ≤ quota := by rw [← HT.out]; exact hle
        have hTq : quota < T := by omega
        have hst := lst_le HG.out HF.out hlt
        have hok := HF.out.ok _ (mem_getD (l := fitTo rate quota l j) (j := j) (by rw [hFl]; exact hlt))
        have hstep : fitTo rate quota l (j + 1) = (fitTo rate quota l j).set j (((fitTo rate quota l j).getD j (0, 0)).1, fitK rate quota (fitTo rate quota l j) j) := by
          show fitS rate quota (fitTo rate quota l j) j = _
          unfold fitS; rw [if_neg hle']
        obtain ⟨A, hA⟩ : ∃ A, A = lst (fitTo rate quota l j) j := ⟨_, rfl⟩
        obtain ⟨M, hM⟩ : ∃ M, M = ((fitTo rate quota l j).getD j (0, 0)).2 := ⟨_, rfl⟩
        obtain ⟨FT, hFT⟩ : ∃ FT : Int → Int, FT = fun k => lvSum rate ((fitTo rate quota l j).set j (((fitTo rate quota l j).getD j (0, 0)).1, k)) := ⟨_, rfl⟩
        have hMb := hok.2
        rw [← hA, ← hM] at hst
        rw [← hM] at hMb
        have HNONE := Lib.hid (show M ≤ A → fitTo rate quota l (j + 1) = fitTo rate quota l j from fun h => fit_none hr HG.out HF.out hlt hle' (by rw [← hA, ← hM]; exact h))
        have HHALF := Lib.hid (show ∀ a b : Int, A ≤ a → a < b → b - 1 ≤ a → b ≤ M → quota < FT b → (a = A ∨ FT a ≤ quota) → (fitTo rate quota l j).set j (((fitTo rate quota l j).getD j (0, 0)).1, a) = fitTo rate quota l (j + 1) from fun a b h1 h2 h3 h4 h5 h6' => by
          rw [hstep, ← halved hr HG.out HF.out hlt (by rw [← hA]; exact h1) h2 (by omega) (by rw [← hM]; exact h4) (by rw [hFT] at h5; simp only at h5; omega) (by rw [hFT, hA] at h6'; exact h6')])
        have HFM := Lib.hid (show quota < FT M from by
          rw [hFT, hM]
          simp only
          rw [show (((fitTo rate quota l j).getD j (0, 0)).1, ((fitTo rate quota l j).getD j (0, 0)).2) = (fitTo rate quota l j).getD j (0, 0) from rfl, getD_at (by rw [hFl]; exact hlt), List.set_getElem_self]
          omega)
        have HFIT := Lib.hid (show ∀ k : Int, 1 ≤ k → k ≤ 345686400000 → ∀ W : World, FoK w bo g1 cap1 l.length rate quota (fitTo rate quota l j) W → Blk W bi 3 #[.int .i64 (j : Int)] →
            Calls Try.prog 26 #[.int .i64 k, .pointer (some ⟨bo, 0, none⟩), .pointer (some ⟨bi, 0, none⟩), .pointer (some ⟨w.heap.size, 0, none⟩), .pointer (some ⟨w.heap.size + 1, 0, none⟩)] W fun e w' => e = .returned (.bool (decide (FT k ≤ quota))) ∧ Below W.heap.size W w' from fun k hk1 hk2 W hW hB => by
          rw [hFT]
          exact fits_any rate quota hr _ j (by rw [hFl]; exact hlt) (by rw [hFl]; exact h6) HF.out.ok k ⟨hk1, hk2⟩ _ _ _ _ _ W hW.b4 hW.b5 hW.b8 hB (hW.rd hFl))
        have c8 : wk.cell? ⟨bo, 0, none⟩ = some (.slice (some ⟨g1, 0, none⟩) l.length cap1) := HKK.out.b8.cell 0
        have c9 : wk.cell? ⟨bi, 0, none⟩ = some (.int .i64 (j : Int)) := hB9k.cell 0
        have d1 := (own_lvl HKK.out.row hFl j hlt).2
        rw [show ((fitTo rate quota l j)[j]'(by rw [hFl]; exact hlt)).2 = M from by rw [hM, getD_at (by rw [hFl]; exact hlt)]] at d1
        have i1 : (0 : Int) ≤ (j : Int) := by omega
        have i2 : (j : Int) < (l.length : Int) := by omega
        clear hFT hM hstep hle' hok hle
        rcases Nat.eq_zero_or_pos j with hj0 | hj0
        · have hA1 : A = 1 := by rw [hA]; simp [lst, hj0]
          have i3 : ¬ (0 : Int) < (j : Int) := by omega
          have i4 : decide ((0 : Int) < (j : Int)) = false := by simpa using i3
          subst hA1
          clear hA hj0
          by_cases hAM : M ≤ 1
          · have hAM' : decide (M ≤ 1) = true := by simpa using hAM
            have hsm := HNONE.out hAM
            go_wp2_with fail
            go_roundw
            case rel => exact ⟨j + 1, by omega, by go_num, by rw [hsm]; exact HKK.out⟩
            case measure => simp [intOf]; omega
          · have hAM' : decide (M ≤ 1) = false := by simpa using hAM
            have hAMl : 1 < M := by omega
            go_wp2_with fail
            go_loopw [13, 14] (fun lo hi W => ∃ a b : Int, lo = .int .i64 a ∧ hi = .int .i64 b ∧ 1 ≤ a ∧ a < b ∧ b ≤ M ∧ quota < FT b ∧ (a = 1 ∨ FT a ≤ quota) ∧ FoK w bo g1 cap1 l.length rate quota (fitTo rate quota l j) W ∧ Blk W bi 3 #[.int .i64 (j : Int)]) (fun lo hi _ => (intOf hi - intOf lo).toNat)
            case atStart => exact ⟨1, M, rfl, rfl, Int.le_refl _, hAMl, Int.le_refl _, HFM.out, .inl rfl, HKK.out, hB9k⟩
            case round =>
              clear hB9k c8 c9 d1
              obtain ⟨a, b, rfl, rfl, ha1, ha2, ha3, ha4, ha5, hki, hbi⟩ := hrel
              have HA4 := Lib.hid ha4
              have HA5 := Lib.hid ha5
              have c8 : wr.cell? ⟨bo, 0, none⟩ = some (.slice (some ⟨g1, 0, none⟩) l.length cap1) := hki.b8.cell 0
              have c9 : wr.cell? ⟨bi, 0, none⟩ = some (.int .i64 (j : Int)) := hbi.cell 0
              have hwb : IntKind.i64.wrap (b - 1) = b - 1 := IntWalk.i64_in _ (by omega)
              clear ha4 ha5
              by_cases hab : a < b - 1
              · obtain ⟨m, hm⟩ : ∃ m, m = (a + b) / 2 := ⟨_, rfl⟩
                have hmb : a < m ∧ m < b := by omega
                have hws : IntKind.i64.wrap (a + b) = a + b := IntWalk.i64_in _ (by omega)
                have hmt : (a + b).tdiv 2 = m := by rw [Int.tdiv_eq_ediv_of_nonneg (by omega)]; exact hm.symm
                have hmd : (a + b) / 2 = m := hm.symm
                have hwm : IntKind.i64.wrap m = m := IntWalk.i64_in _ (by omega)
                have HCM := Lib.hid (HFIT.out m (by omega) (by omega) wr hki hbi)
                have HKI := Lib.hid hki
                have HBI := Lib.hid hbi
                clear hm hki hbi
                go_wp2_with fail
                refine HCM.out.mono ?_
                rintro e w5 ⟨rfl, hb5⟩
                have hk5 := HKI.out.step hb5
                have hi5 := HBI.out.below hb5 HBI.out.lt
                clear HKI HBI hb5 c8 c9 hws hmt hmd
                by_cases hfm : FT m ≤ quota
                · have hfm' : decide (FT m ≤ quota) = true := by simpa using hfm
                  go_wp2_with fail
                  go_roundw
                  case rel => exact ⟨m, b, rfl, rfl, by omega, by omega, by omega, HA4.out, .inr hfm, hk5, hi5⟩
                  case measure => simp [intOf]; omega
                · have hfm' : decide (FT m ≤ quota) = false := by simpa using hfm
                  go_wp2_with fail
                  go_roundw
                  case rel => exact ⟨a, m, rfl, rfl, by omega, by omega, by omega, by omega, HA5.out, hk5, hi5⟩
                  case measure => simp [intOf]; omega
              · obtain ⟨d0, d1⟩ := own_lvl hki.row hFl j hlt
                have f1 := hki.row.frozenAt (j * 2 + 1)
                have hput := hki.put hFl j hlt a n1 n2 n3 n4
                have hfin := HHALF.out a b ha1 ha2 (by omega) ha3 HA4.out HA5.out
                rw [hfin] at hput
                have HPUT := Lib.hid hput
                clear hput hki hbi hfin
                go_wp2_with fail
                go_roundw
                case rel => exact ⟨j + 1, by omega, by go_num, HPUT.out⟩
                case measure => simp [intOf]; omega
        · have hp := own_lvl HKK.out.row hFl (j - 1) (by omega)
          have e1 := hp.2
          have hA2 : A = ((fitTo rate quota l j)[j - 1]'(by rw [hFl]; omega)).2 + 1 := by
            rw [hA]; unfold lst; rw [if_neg (by omega), getD_at (by rw [hFl]; omega)]
          generalize ((fitTo rate quota l j)[j - 1]'(by rw [hFl]; omega)).2 = p at *
          have hwA : IntKind.i64.wrap (p + 1) = A := by rw [hA2]; exact IntWalk.i64_in _ (by omega)
          have i3 : (0 : Int) < (j : Int) := by omega
          have i4 : decide ((0 : Int) < (j : Int)) = true := by simpa using i3
          have wj : IntKind.i64.wrap ((j : Int) - 1) = (j : Int) - 1 := IntWalk.i64_in _ (by omega)
          have i5 : (0 : Int) ≤ (j : Int) - 1 := by omega
          have i6 : (j : Int) - 1 < (l.length : Int) := by omega
          have i7 : ((j : Int) - 1).toNat = j - 1 := by omega
          have i8 : j - 1 < l.length := by omega
          clear hA hA2 hp
          by_cases hAM : M ≤ A
          · have hAM' : decide (M ≤ A) = true := by simpa using hAM
            have hsm := HNONE.out hAM
            go_wp2_with fail
            go_roundw
            case rel => exact ⟨j + 1, by omega, by go_num, by rw [hsm]; exact HKK.out⟩
            case measure => simp [intOf]; omega
          · have hAM' : decide (M ≤ A) = false := by simpa using hAM
            have hAMl : A < M := by omega
            go_wp2_with fail
            go_loopw [13, 14] (fun lo hi W => ∃ a b : Int, lo = .int .i64 a ∧ hi = .int .i64 b ∧ A ≤ a ∧ a < b ∧ b ≤ M ∧ quota < FT b ∧ (a = A ∨ FT a ≤ quota) ∧ FoK w bo g1 cap1 l.length rate quota (fitTo rate quota l j) W ∧ Blk W bi 3 #[.int .i64 (j : Int)]) (fun lo hi _ => (intOf hi - intOf lo).toNat)
            case atStart => exact ⟨A, M, rfl, rfl, Int.le_refl _, hAMl, Int.le_refl _, HFM.out, .inl rfl, HKK.out, hB9k⟩
            case round =>
              clear hB9k c8 c9 d1
              obtain ⟨a, b, rfl, rfl, ha1, ha2, ha3, ha4, ha5, hki, hbi⟩ := hrel
              have HA4 := Lib.hid ha4
              have HA5 := Lib.hid ha5
              have c8 : wr.cell? ⟨bo, 0, none⟩ = some (.slice (some ⟨g1, 0, none⟩) l.length cap1) := hki.b8.cell 0
              have c9 : wr.cell? ⟨bi, 0, none⟩ = some (.int .i64 (j : Int)) := hbi.cell 0
              have hwb : IntKind.i64.wrap (b - 1) = b - 1 := IntWalk.i64_in _ (by omega)
              clear ha4 ha5
              by_cases hab : a < b - 1
              · obtain ⟨m, hm⟩ : ∃ m, m = (a + b) / 2 := ⟨_, rfl⟩
                have hmb : a < m ∧ m < b := by omega
                have hws : IntKind.i64.wrap (a + b) = a + b := IntWalk.i64_in _ (by omega)
                have hmt : (a + b).tdiv 2 = m := by rw [Int.tdiv_eq_ediv_of_nonneg (by omega)]; exact hm.symm
                have hmd : (a + b) / 2 = m := hm.symm
                have hwm : IntKind.i64.wrap m = m := IntWalk.i64_in _ (by omega)
                have HCM := Lib.hid (HFIT.out m (by omega) (by omega) wr hki hbi)
                have HKI := Lib.hid hki
                have HBI := Lib.hid hbi
                clear hm hki hbi
                go_wp2_with fail
                refine HCM.out.mono ?_
                rintro e w5 ⟨rfl, hb5⟩
                have hk5 := HKI.out.step hb5
                have hi5 := HBI.out.below hb5 HBI.out.lt
                clear HKI HBI hb5 c8 c9 hws hmt hmd
                by_cases hfm : FT m ≤ quota
                · have hfm' : decide (FT m ≤ quota) = true := by simpa using hfm
                  go_wp2_with fail
                  go_roundw
                  case rel => exact ⟨m, b, rfl, rfl, by omega, by omega, by omega, HA4.out, .inr hfm, hk5, hi5⟩
                  case measure => simp [intOf]; omega
                · have hfm' : decide (FT m ≤ quota) = false := by simpa using hfm
                  go_wp2_with fail
                  go_roundw
                  case rel => exact ⟨a, m, rfl, rfl, by omega, by omega, by omega, by omega, HA5.out, hk5, hi5⟩
                  case measure => simp [intOf]; omega
              · obtain ⟨d0, d1⟩ := own_lvl hki.row hFl j hlt
                have f1 := hki.row.frozenAt (j * 2 + 1)
                have hput := hki.put hFl j hlt a n1 n2 n3 n4
                have hfin := HHALF.out a b ha1 ha2 (by omega) ha3 HA4.out HA5.out
                rw [hfin] at hput
                have HPUT := Lib.hid hput
                clear hput hki hbi hfin
                go_wp2_with fail
                go_roundw
                case rel => exact ⟨j + 1, by omega, by go_num, HPUT.out⟩
                case measure => simp [intOf]; omega
    · obtain rfl : j = l.length := by omega
      have HFN := Lib.hid hF
      clear c8 hF
      obtain ⟨TN, hTN⟩ : ∃ TN, TN = lvSum rate (fitTo rate quota l l.length) := ⟨_, rfl⟩
      have hcn := fun (W : World) (h : RdLvl W (.slice (some ⟨g1, 0, none⟩) l.length cap1) (fitTo rate quota l l.length)) => rcostSum_any rate hr _ _ W h HFN.out.ok (by rw [HFN.out.len]; exact h6)
      rw [← hTN] at hcn
      have HCN := Lib.hid hcn
      have HTN := Lib.hid hTN
      clear hcn hTN
      have hFNl := HFN.out.len
      have m8 : wr.cell? ⟨bo, 0, none⟩ = some (.slice (some ⟨g1, 0, none⟩) l.length cap1) := hkr.b8.cell 0
      have m4 : wr.cell? ⟨w.heap.size, 0, none⟩ = some (.int .i64 rate) := hkr.b4.cell 0
      have m5 : wr.cell? ⟨w.heap.size + 1, 0, none⟩ = some (.int .i64 quota) := hkr.b5.cell 0
      go_wp2_with fail
      go_region_held3 (fun w' => w'.cell? ⟨bo, 0, none⟩ = some (.slice (some ⟨g1, 0, none⟩) l.length cap1) ∧ w'.cell? ⟨w.heap.size, 0, none⟩ = some (.int .i64 rate) ∧ w'.cell? ⟨w.heap.size + 1, 0, none⟩ = some (.int .i64 quota))
        (first | exact ⟨m8, m4, m5⟩ | exact ⟨hkn.b8.cell 0, hkn.b4.cell 0, hkn.b5.cell 0⟩ | go_keep)
        (first
        | (go_at_call 12; (with_reducible refine (HCN.out _ ?_).mono ?_); (focus (exact hkr.rd hFNl; done)); rintro e wn ⟨rfl, hbn⟩; have hkn := hkr.undrew hbn))
      have m9 : wn.cell? ⟨bo, 0, none⟩ = some (.slice (some ⟨g1, 0, none⟩) l.length cap1) := hkn.b8.cell 0
      have HKN := Lib.hid hkn
      clear hkn hbn
      by_cases hle : TN ≤ quota
      · go_wp2_with fail
        go_ret2
        exact ⟨_, by rw [← HTN.out]; simp [hle] <;> rfl, by rw [← HTN.out, if_pos hle]; exact HKN.out.rd hFNl, HKN.out.lo⟩
      · have hle' : quota < TN := by omega
        go_wp2_with fail
        go_ret2
        exact ⟨_, by rw [← HTN.out]; simp [hle] <;> rfl, by rw [← HTN.out, if_neg (by omega)]; exact Rd.nil _ _ _, HKN.out.lo⟩
end Go.Proofs.Ytefbkdbjfgccpaa
