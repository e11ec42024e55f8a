import Derived.Test.YtdacdiigeainmaaDist
import Derived.Test.YtdacdiigeainmaaTrg
import Derived.Test.YtdacdiigeainmaaPos
import Derived.Test.YtdacdiigeainmaaAt
import Derived.Deep.DeepCutAuto
import Derived.BigQuiet
import Derived.Deep.RegionHeld3
import Derived.Laws.EntriesVeiled
import Derived.Test.YtdacdiigeainmaaOvm
/- LimitFault (the reference): a limit is within bounds. -/

namespace Go.Proofs.Ytdacdiigeainmaa
open Go.RowKit
set_option linter.unusedVariables false
set_option linter.unusedSimpArgs false

theorem limitFault_any (n : Int) (w : World) : Calls Try.prog 25 #[.int .i64 n] w fun e w' => e = .returned (.int .i64 (if inB n (-1000000) 1000000 = false then 1 else 0)) ∧ w = w' := by
  have hsp : spanErr n (-1000000) 1000000 = if inB n (-1000000) 1000000 = false then 1 else 0 := by unfold spanErr; cases inB n (-1000000) 1000000 <;> rfl
  have hs := fun w => spanFault_any n (-1000000) 1000000 w
  rw [hsp] at hs
  clear hsp
  generalize (if inB n (-1000000) 1000000 = false then (1 : Int) else 0) = X at *
  go_enter Try.func25, Try.ntmps25
  go_wp2_with (go_at_call 16; refine (hs _).mono ?_; rintro e w' ⟨rfl, rfl⟩)
  go_ret
  exact ⟨rfl, rfl⟩
end Go.Proofs.Ytdacdiigeainmaa

/- TriggerFault (the reference) is CheckTrigger. -/

namespace Go.Proofs.Ytdacdiigeainmaa
open Go.RowKit
set_option linter.unusedVariables false
set_option linter.unusedSimpArgs false

set_option maxRecDepth 100000 in
set_option maxHeartbeats 4000000 in
theorem triggerFault_any (t : Trg) (w : World) : Calls Try.prog 8 #[.agg (trgCells t)] w fun e w' => e = .returned (.int .i64 (trgErr t)) ∧ Below w.heap.size w w' := by
  have hE : trgErr t = if inB t.st (-1000000) 1000000 = true ∧ inB t.sp (-1000000) 1000000 = true ∧ t.sp ≤ t.st ∧ inB t.jn 0 86400000 = true ∧ inB t.ls 0 86400000 = true then 0 else 1 := rfl
  obtain ⟨st, sp, jn, ls⟩ := t
  generalize trgErr ⟨st, sp, jn, ls⟩ = E at *
  simp only [trgCells] at hE ⊢
  have h1 := rin_any jn 0 86400000
  have h2 := rin_any ls 0 86400000
  have h3 := limitFault_any st
  have h4 := limitFault_any sp
  have hbw : Below w.heap.size w (w.alloc (.cells #[.int .i64 st, .int .i64 sp, .int .i64 jn, .int .i64 ls] 27)) := (Below.refl _ w).alloc (Nat.le_refl _) _
  have hi : ∀ b : Bool, (if b = false then (1 : Int) else 0) = 0 ↔ b = true := by intro b; cases b <;> simp
  cases ha : inB jn 0 86400000
  all_goals cases hb : inB ls 0 86400000
  all_goals cases hc : inB st (-1000000) 1000000
  all_goals cases hd : inB sp (-1000000) 1000000
  all_goals
    rw [ha] at h1
    rw [hb] at h2
    rw [hc] at h3
    rw [hd] at h4
    rw [ha, hb, hc, hd] at hE
    simp only [if_true, if_false, reduceCtorEq] at h3 h4
    have H1 := Lib.hid h1
    have H2 := Lib.hid h2
    have H3 := Lib.hid h3
    have H4 := Lib.hid h4
    have HE := Lib.hid hE
    clear h1 h2 h3 h4 hE ha hb hc hd hi
  all_goals by_cases hlt : st < sp
  all_goals
    go_enter Try.func8, Try.ntmps8
    go_wp2_with (first | (go_at_call 26; (with_reducible refine (H1.out _).mono ?_); rintro e w2 ⟨rfl, rfl⟩) | (go_at_call 26; (with_reducible refine (H2.out _).mono ?_); rintro e w2 ⟨rfl, rfl⟩) | (go_at_call 25; (with_reducible refine (H3.out _).mono ?_); rintro e w2 ⟨rfl, rfl⟩) | (go_at_call 25; (with_reducible refine (H4.out _).mono ?_); rintro e w2 ⟨rfl, rfl⟩))
    go_ret
    exact ⟨ret_int (by rw [HE.out]; simp; try omega), hbw⟩
end Go.Proofs.Ytdacdiigeainmaa

/- triggered (package batch), for a right series and a moment within all moments. -/

namespace Go.Proofs.Ytdacdiigeainmaa
open Go.RowKit
set_option linter.unusedVariables false
set_option linter.unusedSimpArgs false

set_option maxRecDepth 100000 in
set_option maxHeartbeats 4000000 in
theorem triggered_any (t : Trg) (v : Value) (l : List Smp) (u : Int) (w : World) (hR : RdS w 55 v l) (hS : serErr l = 0) :
    Calls Try.prog 35 #[.agg (trgCells t), v, .int .i64 u] w fun e w' => ∃ vr, e = .returned vr ∧ RdWdw w' vr (trTo t u l (posF l u)).2 ∧ Below w.heap.size w w' := by
  obtain ⟨st, sp, jn, ls⟩ := t
  simp only [trgCells]
  have hlong := (serErr_good hS).1
  obtain ⟨pa, ca, rfl⟩ := hR.lenv
  have HT := Lib.hid (fun n => trTo_len ⟨st, sp, jn, ls⟩ u l n)
  have HS := Lib.hid (fun j => (show trTo ⟨st, sp, jn, ls⟩ u l (j + 1) = trs ⟨st, sp, jn, ls⟩ u (trTo ⟨st, sp, jn, ls⟩ u l j) (atS l j) from rfl))
  have hB := Blk.new w 27 #[.int .i64 st, .int .i64 sp, .int .i64 jn, .int .i64 ls]
  have hbw : Below w.heap.size w (w.alloc (.cells #[.int .i64 st, .int .i64 sp, .int .i64 jn, .int .i64 ls] 27)) := (Below.refl _ w).alloc (Nat.le_refl _) _
  have hRa := Rd.below hR hbw
  have HP := Lib.hid (position_any (.slice pa l.length ca) l u _ hRa (serErr_rise hS) hlong)
  have hple := posF_le l u
  have HR := Lib.hid hR
  clear hR hRa hS
  go_enter Try.func35, Try.ntmps35
  go_upto_region 3 with fail
  generalize w.alloc (.cells #[.int .i64 st, .int .i64 sp, .int .i64 jn, .int .i64 ls] 27) = w1 at *
  have HBW := Lib.hid hbw
  clear hbw
  go_cut [15, 16, 17] (fun s15 s16 s17 wx => s16 = .int .i64 (posF l u : Int) ∧ s17 = .int .i64 0 ∧ (∃ P, s15 = .slice P (posF l u) ca ∧ (0 < posF l u → P = pa)) ∧ Below w1.heap.size w1 wx)
  case first =>
    obtain ⟨hcl, hcm, hpa⟩ : l.length ≤ ca ∧ ca ≤ maxLen ∧ (0 < posF l u → ∃ b off, pa = some ⟨b, off, none⟩) := by
      obtain ⟨_, pa', ca', hv, h1, h2, h3⟩ := HR.out
      cases hv
      exact ⟨h1, h2, fun h => by obtain ⟨b, off, _, _, hh, _⟩ := h3 (by omega); exact ⟨b, off, hh⟩⟩
    unfold maxLen at hcm
    have hpc : posF l u ≤ ca := by omega
    go_wp2_with fail
    refine HP.out.mono ?_
    rintro e w2 ⟨rfl, hb2⟩
    generalize posF l u = n at *
    by_cases hc0 : ca = 0
    · obtain rfl : n = 0 := by omega
      subst hc0
      go_wp2_with fail
      go_meet
      exact ⟨rfl, rfl, ⟨pa, rfl, fun _ => rfl⟩, hb2⟩
    · go_wp2_with fail
      go_meet
      refine ⟨rfl, rfl, ⟨_, rfl, fun h => ?_⟩, hb2⟩
      obtain ⟨b, off, rfl⟩ := hpa h
      simp
  case rest =>
    obtain ⟨rfl, rfl, ⟨P, rfl, hP⟩, hb2⟩ := hcut
    have hB2 := hB.below hb2 hB.lt
    have hbx := HBW.out.trans (hb2.mono HBW.out.size)
    have hR2 := Rd.below HR.out hbx
    have HRX := Lib.hid hR2
    have HBX := Lib.hid hbx
    have HB2 := Lib.hid hB2
    clear hB hb2 HBW HR HP hR2 hbx hB2
    go_wp2_with fail
    go_loopw [7, 8, 17] (fun o cu i wr => ∃ j : Nat, j ≤ posF l u ∧ i = .int .i64 (j : Int) ∧ cu = .bool (trTo ⟨st, sp, jn, ls⟩ u l j).1 ∧ StW wc o (trTo ⟨st, sp, jn, ls⟩ u l j).2 wr) (fun _ _ i _ => posF l u - (intOf i).toNat)
    case atStart => exact ⟨0, by omega, rfl, rfl, World.ownsRow_nil _ _ _ _, Below.refl _ _⟩
    case round =>
      obtain ⟨j, hj, rfl, rfl, hk⟩ := hrel
      by_cases hlt : j < posF l u
      · obtain rfl := hP (by omega)
        have hRr : RdS wr _ _ l := Rd.below HRX.out hk.bl
        obtain ⟨b, off, c, hv, hc1, hc2, hblt, hcell⟩ := RdS.at_ hRr (by omega)
        cases hv
        unfold maxLen at hc2
        obtain ⟨c0, c1, c2⟩ := hcell j (by omega)
        have hl2 := HT.out j
        have hs2 := HS.out j
        have hBr := HB2.out.below hk.bl HB2.out.lt
        generalize trTo ⟨st, sp, jn, ls⟩ u l j = S2 at *
        obtain ⟨cur, out⟩ := S2
        generalize atS l j = x at *
        obtain ⟨xt, xv, xq⟩ := x
        simp only at c0 c1 c2 hk hl2
        obtain ⟨po, co, rfl⟩ := RdWdw.lenv (Rd.of_own hk.own)
        have HS2 := Lib.hid hs2
        have hbo := Blk.new wr 55 #[.int .i64 xt, .int .i64 xv, .int .i64 xq]
        have hk2 := hk.alloc (.cells #[.int .i64 xt, .int .i64 xv, .int .i64 xq] 55)
        have hB3 := hBr.alloc (.cells #[.int .i64 xt, .int .i64 xv, .int .i64 xq] 55)
        have hol : out.length ≤ 5000 := by omega
        clear hs2 hRr hcell hBr hk
        go_upto_region 6 with fail
        generalize wr.alloc (.cells #[.int .i64 xt, .int .i64 xv, .int .i64 xq] 55) = wm at *
        generalize wr.heap.size = Z at *
        clear c0 c1 c2
        have e0 := hbo.cell 0
        have e1 := hbo.cell 1
        have e2 := hbo.cell 2
        have t0 := hB3.cell 0
        have t1 := hB3.cell 1
        by_cases hq : xq = 2
        · have hq' : (xq == 2) = true := by simpa using hq
          have HE := Lib.hid (show trTo ⟨st, sp, jn, ls⟩ u l (j + 1) = (cur, out) by rw [HS2.out]; unfold trs; rw [if_pos hq])
          have HKD := Lib.hid hk2
          clear hk2 hq
          go_wp2_with fail
          go_roundw
          case rel => exact ⟨j + 1, by omega, by go_num, by rw [HE.out], by rw [HE.out]; exact HKD.out⟩
          case measure => simp [intOf]; omega
        · have hq' : (xq == 2) = false := by simpa using hq
          cases cur
          · by_cases hst : st ≤ xv
            · have HE := Lib.hid (show trTo ⟨st, sp, jn, ls⟩ u l (j + 1) = (true, out ++ [(xt, u)]) by rw [HS2.out]; unfold trs; rw [if_neg hq, if_pos ⟨rfl, hst⟩])
              have ho := hk2.alloc (.cells #[.int .i64 xt, .int .i64 u] 49)
              have HO := Lib.hid ho
              have hso := ho.bl.size
              clear hk2 hq ho
              go_wp2_with (at_builtin; go_loud (refine wpList_append_wdw rfl (.tmp 35) (.tmp 40) rfl wc.heap.size _ _ out rfl (by exact HO.out.own) wm.heap.size rfl (xt, u) (by exact Blk.new _ _ _) (by omega) (by exact hso) ?_); intro v1 wd hown1 hgrow1)
              have hkd := HO.out.grown _ hgrow1 hown1
              clear hown1 hgrow1
              go_roundw
              case rel => exact ⟨j + 1, by omega, by go_num, by rw [HE.out], by rw [HE.out]; exact hkd⟩
              case measure => simp [intOf]; omega
            · have HE := Lib.hid (show trTo ⟨st, sp, jn, ls⟩ u l (j + 1) = (false, out) by rw [HS2.out]; unfold trs; rw [if_neg hq, if_neg (fun h => hst h.2), if_neg (fun h => by simp at h)])
              have hst' : xv < st := by omega
              have HKD := Lib.hid hk2
              clear hk2 hq hst
              go_wp2_with fail
              go_roundw
              case rel => exact ⟨j + 1, by omega, by go_num, by rw [HE.out], by rw [HE.out]; exact HKD.out⟩
              case measure => simp [intOf]; omega
          · by_cases hsp : xv < sp
            · have HE := Lib.hid (show trTo ⟨st, sp, jn, ls⟩ u l (j + 1) = (false, setE out xt) by rw [HS2.out]; unfold trs; rw [if_neg hq, if_neg (fun h => by simp at h), if_pos ⟨rfl, hsp⟩])
              have hop := hl2.2 rfl
              obtain ⟨m, hm⟩ : ∃ m, m + 1 = out.length := ⟨out.length - 1, by omega⟩
              obtain ⟨g, cap, hv, hbg, hnc, hcm⟩ := own_form hk2.own (by omega)
              cases hv
              unfold maxLen at hcm
              have hmo : m < out.length := by omega
              obtain ⟨k0, k1⟩ := own_wdw hk2.own rfl m hmo
              have f1 := hk2.own.frozenAt (m * 2 + 1)
              have hwm : IntKind.i64.wrap ((out.length : Int) - 1) = (m : Int) := by rw [← hm]; exact (IntWalk.i64_in _ (by omega)).trans (by omega)
              have i1 : (0 : Int) ≤ (m : Int) := by omega
              have i2 : (m : Int) < (out.length : Int) := by omega
              have hkd := hk2.setLast m hm xt
              have HKD := Lib.hid hkd
              clear hkd hk2 hq hm
              go_wp2_with fail
              go_roundw
              case rel => exact ⟨j + 1, by omega, by go_num, by rw [HE.out], by rw [HE.out]; exact HKD.out⟩
              case measure => simp [intOf]; omega
            · have HE := Lib.hid (show trTo ⟨st, sp, jn, ls⟩ u l (j + 1) = (true, out) by rw [HS2.out]; unfold trs; rw [if_neg hq, if_neg (fun h => by simp at h), if_neg (fun h => hsp h.2)])
              have hsp' : sp ≤ xv := by omega
              have HKD := Lib.hid hk2
              clear hk2 hq hsp
              go_wp2_with fail
              go_roundw
              case rel => exact ⟨j + 1, by omega, by go_num, by rw [HE.out], by rw [HE.out]; exact HKD.out⟩
              case measure => simp [intOf]; omega
      · obtain rfl : j = posF l u := by omega
        go_wp2_with fail
        go_ret
        exact ⟨_, rfl, Rd.of_own hk.own, HBX.out.trans (hk.bl.mono HBX.out.size)⟩
end Go.Proofs.Ytdacdiigeainmaa

/- joined (package batch), for windows within all moments. -/

namespace Go.Proofs.Ytdacdiigeainmaa
open Go.RowKit
set_option linter.unusedVariables false
set_option linter.unusedSimpArgs false

set_option maxRecDepth 100000 in
set_option maxHeartbeats 4000000 in
theorem jnf_any (v : Value) (l : List (Int × Int)) (ap : Int) (w : World) (hR : RdWdw w v l) (hlong : l.length ≤ 5000) (hin : InF 345686400000 l) :
    Calls Try.prog 34 #[v, .int .i64 ap] w fun e w' => ∃ vr, e = .returned vr ∧ w'.ownsRow w.heap.size 49 2 vr (jnTo ap l l.length).length (wdwCells (jnTo ap l l.length)) ∧ Below w.heap.size w w' := by
  obtain ⟨pa, ca, rfl⟩ := hR.lenv
  have HR := Lib.hid hR
  have HL := Lib.hid (fun n => jnTo_len ap l n)
  have HI := Lib.hid (fun n (hn : n ≤ l.length) => jnTo_in ap _ l hin n hn)
  have HIN := Lib.hid hin
  clear hR hin
  go_enter Try.func34, Try.ntmps34
  go_wp2_with fail
  go_loopw [5, 11] (fun o i wr => ∃ j : Nat, j ≤ l.length ∧ i = .int .i64 (j : Int) ∧ StW w o (jnTo ap l j) wr) (fun _ i _ => l.length - (intOf i).toNat)
  case atStart => exact ⟨0, by omega, rfl, World.ownsRow_nil _ _ _ _, Below.refl _ _⟩
  case round =>
    obtain ⟨j, hj, rfl, hk⟩ := hrel
    by_cases hlt : j < l.length
    · have hl2 := HL.out j
      have hin2 := HI.out j hj
      have hRr : RdWdw wr _ l := Rd.below HR.out hk.bl
      obtain ⟨b, off, c, hv, hc1, hc2, hblt, hcell⟩ := RdWdw.at_ hRr (by omega)
      cases hv
      unfold maxLen at hc2
      obtain ⟨c0, c1⟩ := hcell j hlt
      have hyb : (0 ≤ (atW l j).1 ∧ (atW l j).1 ≤ 345686400000) ∧ 0 ≤ (atW l j).2 ∧ (atW l j).2 ≤ 345686400000 := by
        rw [← atW_eq l j hlt]; exact HIN.out _ (List.getElem_mem _)
      have hst : jnTo ap l (j + 1) = jnS ap (jnTo ap l j) (atW l j) := rfl
      generalize jnTo ap l j = out at *
      generalize atW l j = y at *
      obtain ⟨ya, yb⟩ := y
      simp only at hyb c0 c1
      have HST := Lib.hid hst
      have HK := Lib.hid hk
      have hb0r := hk.bl.size
      clear hst hk hcell hRr
      go_upto_region 5 with fail
      have hB := Blk.new wr 49 #[.int .i64 ya, .int .i64 yb]
      have hk2 := HK.out.alloc (.cells #[.int .i64 ya, .int .i64 yb] 49)
      generalize hwm : wr.alloc (.cells #[.int .i64 ya, .int .i64 yb] 49) = wm at *
      generalize wr.heap.size = Z at *
      clear hwm HK c0 c1
      have c0 := hB.cell 0
      have c1 := hB.cell 1
      obtain ⟨po, co, rfl⟩ := RdWdw.lenv (Rd.of_own hk2.own)
      have hol : out.length ≤ 5000 := by omega
      by_cases ho : out = []
      · subst ho
        have HE := Lib.hid (show jnTo ap l (j + 1) = [] ++ [(ya, yb)] by rw [HST.out]; simp [jnS])
        have HK2 := Lib.hid hk2
        have HBB := Lib.hid hB
        clear hk2 hB HST
        go_upto_region 6 with fail
        go_quiet (fail)
        go_upto_region 8 with fail
        have hk3 := HK2.out.drewN nq
        have hB3 : Blk (wm.drewN nq) Z 49 #[.int .i64 ya, .int .i64 yb] := HBB.out.drewN nq
        generalize wm.drewN nq = wz at *
        have e0 := hB3.cell 0
        have e1 := hB3.cell 1
        have ho := hk3.alloc (.cells #[.int .i64 ya, .int .i64 yb] 49)
        have HO := Lib.hid ho
        have hso := ho.bl.size
        clear ho hk3 hB3 c0 c1
        go_wp2_with (at_builtin; go_loud (refine wpList_append_wdw rfl (.tmp 38) (.tmp 40) rfl w.heap.size _ _ [] rfl (by exact HO.out.own) wz.heap.size rfl (ya, yb) (by exact Blk.new _ _ _) (by omega) (by exact hso) ?_); intro v1 wd hown1 hgrow1)
        have hkd := HO.out.grown _ hgrow1 hown1
        clear hown1 hgrow1
        go_roundw
        case rel => exact ⟨j + 1, by omega, by go_num, by rw [HE.out]; exact hkd⟩
        case measure => simp [intOf]; omega
      · obtain ⟨m, hm⟩ : ∃ m, m + 1 = out.length := ⟨out.length - 1, by have := List.length_pos_iff.2 ho; omega⟩
        obtain ⟨g, cap, hv, hbg, hnc, hcm⟩ := own_form hk2.own (by omega)
        cases hv
        unfold maxLen at hcm
        obtain ⟨k0, k1⟩ := own_wdw hk2.own rfl m (by omega)
        have f1 := hk2.own.frozenAt (m * 2 + 1)
        have hgt : out.getD (out.length - 1) (0, 0) = out[m]'(by omega) := by
          rw [show out.length - 1 = m by omega, List.getD_eq_getElem?_getD, List.getElem?_eq_getElem (by omega)]; rfl
        have hzb := hin2 (out[m]'(by omega)) (List.getElem_mem _)
        have hwm : IntKind.i64.wrap ((out.length : Int) - 1) = (m : Int) := by rw [← hm]; exact (IntWalk.i64_in _ (by omega)).trans (by omega)
        have hst2 : jnTo ap l (j + 1) = if ya - (out[m]'(by omega)).2 < ap then setE out yb else out ++ [(ya, yb)] := by
          rw [HST.out]; unfold jnS; rw [hgt]; simp [ho]
        generalize out[m]'(by omega) = z at *
        obtain ⟨za, zb⟩ := z
        simp only at k0 k1 hzb hst2
        have HST2 := Lib.hid hst2
        have hmo : m < out.length := by omega
        have i1 : (0 : Int) ≤ (m : Int) := by omega
        have i2 : (m : Int) < (out.length : Int) := by omega
        have d1 : decide ((0 : Int) ≤ (m : Int)) = true := by simp
        have hws : IntKind.i64.wrap (ya - zb) = ya - zb := IntWalk.i64_in _ (by omega)
        have HM := Lib.hid hm
        have HK2 := Lib.hid hk2
        have HBB := Lib.hid hB
        clear hk2 hB HST hst2 hgt hin2 hm ho
        go_upto_region 6 with fail
        by_cases hap : ya - zb < ap
        · have hd : decide (ya - zb < ap) = true := by simpa using hap
          go_quiet (fail)
          have HE := Lib.hid (show jnTo ap l (j + 1) = setE out yb by rw [HST2.out, if_pos hap])
          have hk3 := HK2.out.drewN nq
          have hB3 : Blk (wm.drewN nq) Z 49 #[.int .i64 ya, .int .i64 yb] := HBB.out.drewN nq
          generalize wm.drewN nq = wz at *
          have e1 := hB3.cell 1
          have f2 := hk3.own.frozenAt (m * 2 + 1)
          obtain ⟨_, k2⟩ := own_wdw hk3.own rfl m hmo
          have hkd := hk3.setLast m HM.out yb
          have HKD := Lib.hid hkd
          clear hkd hk3 hB3 c0 c1 k0 k1 f1
          go_wp2_with fail
          go_roundw
          case rel => exact ⟨j + 1, by omega, by go_num, by rw [HE.out]; exact HKD.out⟩
          case measure => simp [intOf]; omega
        · have hd : decide (ya - zb < ap) = false := by simpa using hap
          go_quiet (fail)
          go_upto_region 8 with fail
          have HE := Lib.hid (show jnTo ap l (j + 1) = out ++ [(ya, yb)] by rw [HST2.out, if_neg hap])
          have hk3 := HK2.out.drewN nq
          have hB3 : Blk (wm.drewN nq) Z 49 #[.int .i64 ya, .int .i64 yb] := HBB.out.drewN nq
          generalize wm.drewN nq = wz at *
          have e0 := hB3.cell 0
          have e1 := hB3.cell 1
          have ho := hk3.alloc (.cells #[.int .i64 ya, .int .i64 yb] 49)
          have HO := Lib.hid ho
          have hso := ho.bl.size
          clear ho hk3 hB3 c0 c1
          go_wp2_with (at_builtin; go_loud (refine wpList_append_wdw rfl (.tmp 38) (.tmp 40) rfl w.heap.size _ _ out rfl (by exact HO.out.own) wz.heap.size rfl (ya, yb) (by exact Blk.new _ _ _) (by omega) (by exact hso) ?_); intro v1 wd hown1 hgrow1)
          have hkd := HO.out.grown _ hgrow1 hown1
          clear hown1 hgrow1
          go_roundw
          case rel => exact ⟨j + 1, by omega, by go_num, by rw [HE.out]; exact hkd⟩
          case measure => simp [intOf]; omega
    · obtain rfl : j = l.length := by omega
      go_wp2_with fail
      go_ret
      exact ⟨_, rfl, hk.own, hk.bl⟩
end Go.Proofs.Ytdacdiigeainmaa

/- Frames (package batch). No condition. -/

namespace Go.Proofs.Ytdacdiigeainmaa
open Go.RowKit
set_option linter.unusedVariables false
set_option linter.unusedSimpArgs false

theorem longw_any (f t : Int) (w : World) :
    Calls Try.prog 32 #[.agg #[.int .i64 f, .int .i64 t]] w fun e w' => e = .returned (.int .i64 (IntKind.i64.wrap (t - f))) ∧ Below w.heap.size w w' := by
  have hbw : Below w.heap.size w (w.alloc (.cells #[.int .i64 f, .int .i64 t] 49)) := (Below.refl _ w).alloc (Nat.le_refl _) _
  have hw : ∃ z, IntKind.i64.wrap (t - f) = z := ⟨_, rfl⟩
  obtain ⟨z, hz⟩ := hw
  rw [hz]
  go_enter Try.func32, Try.ntmps32
  go_wp2_with fail
  go_ret
  exact ⟨ret_int (by first | rfl | exact hz), hbw⟩

/-- Whether a frame is too short. -/
def shortB (t : Trg) (y : Int × Int) : Bool := decide (IntKind.i64.wrap (y.2 - y.1) < t.ls)

set_option maxRecDepth 100000 in
set_option maxHeartbeats 1000000 in
theorem frames1_any (y : Int × Int) (B : Nat) (t : Trg) (w : World) (hB : Blk w B 27 (trgCells t)) :
    Calls Try.prog 31 #[wdwAgg y, .pointer (some ⟨B, 0, none⟩)] w fun e w' => e = .returned (.bool (shortB t y)) ∧ Below w.heap.size w w' := by
  have hP : shortB t y = decide (IntKind.i64.wrap (y.2 - y.1) < t.ls) := rfl
  generalize shortB t y = P at *
  obtain ⟨st, sp, jn, ls⟩ := t
  obtain ⟨a, b⟩ := y
  simp only [trgCells, wdwAgg] at hB hP ⊢
  have HL := Lib.hid (fun W => longw_any a b W)
  generalize IntKind.i64.wrap (b - a) = z at *
  have HP := Lib.hid hP
  clear hP
  have hb1 : Below w.heap.size w (w.alloc (.cells #[.int .i64 a, .int .i64 b] 49)) := (Below.refl _ w).alloc (Nat.le_refl _) _
  have hB1 := hB.alloc (.cells #[.int .i64 a, .int .i64 b] 49)
  have hw1 := Blk.new w 49 #[.int .i64 a, .int .i64 b]
  go_enter Try.func31, Try.ntmps31
  go_upto_region 1 with fail
  generalize w.alloc (.cells #[.int .i64 a, .int .i64 b] 49) = w1 at *
  have c0 := hw1.cell 0
  have c1 := hw1.cell 1
  have c3 := hB1.cell 3
  clear hB
  have hbd : Below w.heap.size w w1.drew := hb1.trans ⟨rfl, rfl, rfl, Nat.le_refl _, fun _ _ => rfl⟩
  have hd : ∃ q, decide (z < ls) = q := ⟨_, rfl⟩
  obtain ⟨q, hq⟩ := hd
  go_region_with (go_at_call 32; (with_reducible refine (HL.out _).mono ?_); rintro e w2 ⟨rfl, hb2⟩; have hB2 : Blk w2 B 27 #[.int .i64 st, .int .i64 sp, .int .i64 jn, .int .i64 ls] := (by first | exact hB1.below hb2 hB1.lt | exact (Blk.drew hB1).below hb2 hB1.lt); have c3' := hB2.cell 3)
  all_goals
    go_wp2_with fail
    go_ret
    exact ⟨ret_bool (by rw [HP.out, hq]), (by first | exact hb1.trans (hb2.mono hb1.size) | exact hbd.trans (hb2.mono hb1.size))⟩
theorem enter_frames1 (args : Array Value) (w : World) : (callFunc 31 args).run Try.prog w = .ok (.enter 31 args) w := by kernel_rfl

/-- What Frames keeps: the box of its trigger, the series. -/
structure FrK (w0 : World) (B : Nat) (t : Trg) (v : Value) (l : List Smp) (W : World) : Prop where
  tb : Blk W B 27 (trgCells t)
  rs : RdS W 55 v l
  bl : Below w0.heap.size w0 W
theorem FrK.step {w0 W W' : World} {B : Nat} {t : Trg} {v : Value} {l : List Smp} (hb : Below W.heap.size W W') (h : FrK w0 B t v l W) : FrK w0 B t v l W' :=
  ⟨h.tb.below hb h.tb.lt, Rd.below h.rs hb, h.bl.trans (hb.mono h.bl.size)⟩
theorem FrK.drew {w0 W : World} {B : Nat} {t : Trg} {v : Value} {l : List Smp} (h : FrK w0 B t v l W) : FrK w0 B t v l W.drew :=
  FrK.step (show Below W.heap.size W W.drew from ⟨rfl, rfl, rfl, Nat.le_refl _, fun _ _ => rfl⟩) h

theorem short_eq (t : Trg) (l : List (Int × Int)) (h : InF 345686400000 l) : (l.filter fun y => !shortB t y) = l.filter fun y => !decide (y.2 - y.1 < t.ls) := by
  refine List.filter_congr fun y hy => ?_
  have := h y hy
  unfold shortB
  rw [IntWalk.i64_in (y.2 - y.1) (by omega)]

set_option maxRecDepth 100000 in
set_option maxHeartbeats 4000000 in
theorem frames_any (t : Trg) (v : Value) (l : List Smp) (u : Int) (w : World) (hR : RdS w 55 v l) :
    Calls Try.prog 12 #[.agg (trgCells t), v, .int .i64 u] w fun e w' => ∃ vr, e = .returned (.tuple #[vr, .int .i64 (frmE t l u)]) ∧ RdWdw w' vr (frmR t l u) ∧ Below w.heap.size w w' := by
  have hRR : frmR t l u = if frmE t l u = 0 then frmL t l u else [] := rfl
  have hE : frmE t l u = if trgErr t ≠ 0 then trgErr t else if serErr l ≠ 0 then serErr l else if inB u 0 345686400000 = false then 1 else if 2000 < (frmL t l u).length then 2 else 0 := rfl
  have HLL := Lib.hid (show frmL t l u = (jnTo t.jn (trTo t u l (posF l u)).2 (trTo t u l (posF l u)).2.length).filter fun y => !decide (y.2 - y.1 < t.ls) from rfl)
  have HIN := Lib.hid (trTo_in t u l)
  have HLN := Lib.hid (trTo_len t u l (posF l u)).1
  have HTG := Lib.hid (fun (W : World) (h : RdS W 55 v l) (hS : serErr l = 0) => triggered_any t v l u W h hS)
  have HCT := Lib.hid (fun W => checkTrigger_any t W)
  generalize trgErr t = TE at *
  generalize frmR t l u = RR at *
  generalize frmE t l u = E at *
  generalize frmL t l u = FL at *
  obtain ⟨pa, ca, rfl⟩ := hR.lenv
  have hk0 : FrK w w.heap.size t (.slice pa l.length ca) l (w.alloc (.cells (trgCells t) 27)) := ⟨Blk.new _ _ _, Rd.alloc hR _, (Below.refl _ w).alloc (Nat.le_refl _) _⟩
  obtain ⟨st, sp, jn, ls⟩ := t
  have htc : trgCells ⟨st, sp, jn, ls⟩ = #[.int .i64 st, .int .i64 sp, .int .i64 jn, .int .i64 ls] := rfl
  rw [htc] at hk0 HCT HTG ⊢
  have HE := Lib.hid hE
  have HRR := Lib.hid hRR
  clear hR hE hRR
  go_enter Try.func12, Try.ntmps12
  go_upto_region 1 with fail
  generalize w.alloc (.cells #[.int .i64 st, .int .i64 sp, .int .i64 jn, .int .i64 ls] 27) = w1 at *
  have t0 := hk0.tb.cell 0
  have t1 := hk0.tb.cell 1
  have t2 := hk0.tb.cell 2
  have t3 := hk0.tb.cell 3
  go_wp2_with fail
  refine (HCT.out _).mono ?_
  rintro e w2 ⟨rfl, hb2⟩
  have hk2 := FrK.step hb2 hk0
  clear t0 t1 t2 t3 hk0 hb2
  by_cases hT : TE = 0
  · have hT' : (TE != 0) = false := by simpa using hT
    have HE2 := Lib.hid (show E = if serErr l ≠ 0 then serErr l else if inB u 0 345686400000 = false then 1 else if 2000 < FL.length then 2 else 0 by rw [HE.out, if_neg (by simp [hT])])
    clear hT HE
    go_wp2_with fail
    refine (checkSeries_any _ l _ hk2.rs).mono ?_
    rintro e w3 ⟨rfl, hb3⟩
    have hk3 := FrK.step hb3 hk2
    clear hk2 hb3
    by_cases hS : serErr l = 0
    · have hS' : (serErr l != 0) = false := by simpa using hS
      have HE3 := Lib.hid (show E = if inB u 0 345686400000 = false then 1 else if 2000 < FL.length then 2 else 0 by rw [HE2.out, if_neg (by simp [hS])])
      have HS := Lib.hid hS
      clear hS HE2
      go_wp2_with fail
      refine (within_any u 0 345686400000 _).mono ?_
      rintro e w4 ⟨rfl, rfl⟩
      cases hu : inB u 0 345686400000
      · have HX := Lib.hid (show E = 1 by rw [HE3.out, hu]; rfl)
        have HX2 := Lib.hid (show RR = [] by rw [HRR.out, HX.out]; rfl)
        go_wp2_with fail
        go_ret2
        exact ⟨_, by rw [HX.out]; rfl, by rw [HX2.out]; exact Rd.nil _ _ _, hk3.bl⟩
      · have HE4 := Lib.hid (show E = if 2000 < FL.length then 2 else 0 by rw [HE3.out, hu]; rfl)
        have hub := inB_true.1 hu
        have hser := fun j => (serErr_vt HS.out j).2
        have hple := posF_le l u
        have hpos := fun j (hj : j < l.length) => posF_iff l u none (serErr_rise HS.out) j hj
        have hin0 : InF 345686400000 (trTo ⟨st, sp, jn, ls⟩ u l (posF l u)).2 := fun y hy => by
          have := HIN.out hub.1 (posF l u) (fun j hj => ⟨(hser j).1, by have := hpos j (by omega); omega⟩) y hy; omega
        have hln0 : (trTo ⟨st, sp, jn, ls⟩ u l (posF l u)).2.length ≤ 5000 := by have := HLN.out; have := (serErr_good HS.out).1; omega
        generalize (trTo ⟨st, sp, jn, ls⟩ u l (posF l u)).2 = TR at *
        have hin1 := fun n hn => jnTo_in jn 345686400000 TR hin0 n hn
        have hin2 := hin1 TR.length (Nat.le_refl _)
        have hln2 := jnTo_len jn TR TR.length
        have hsq := short_eq ⟨st, sp, jn, ls⟩ _ hin2
        have HJN := Lib.hid (fun (vv : Value) (W : World) (h : RdWdw W vv TR) => jnf_any vv TR jn W h hln0 hin0)
        generalize jnTo jn TR TR.length = JN at *
        have hF : FL = JN.filter fun y => !shortB ⟨st, sp, jn, ls⟩ y := by rw [hsq]; exact HLL.out
        have HDL := Lib.hid (fun (vv : Value) (W : World) (base : Nat) (ho : W.ownsRow base 49 2 vv JN.length (wdwCells JN)) (hb : base ≤ W.heap.size) (hB : w.heap.size < base) (hk : Blk W w.heap.size 27 #[.int .i64 st, .int .i64 sp, .int .i64 jn, .int .i64 ls]) =>
          deleteW_any vv JN W base 31 (.pointer (some ⟨w.heap.size, 0, none⟩)) (shortB ⟨st, sp, jn, ls⟩) ho hb (by omega) enter_frames1 (fun x w' hb' => frames1_any x w.heap.size ⟨st, sp, jn, ls⟩ w' (Blk.below hk hb' hB)))
        have HLF := Lib.hid hF
        rw [← hF] at HDL
        clear hin0 hin1 hin2 hsq hF HLL HIN HLN hser hpos
        have t0 := hk3.tb.cell 0
        have t1 := hk3.tb.cell 1
        have t2 := hk3.tb.cell 2
        have t3 := hk3.tb.cell 3
        go_upto_region 10 with fail
        go_region_held3 (fun W => W.cell? ⟨w.heap.size, 0, none⟩ = some (.int .i64 st) ∧ W.cell? ⟨w.heap.size, 1, none⟩ = some (.int .i64 sp) ∧ W.cell? ⟨w.heap.size, 2, none⟩ = some (.int .i64 jn) ∧ W.cell? ⟨w.heap.size, 3, none⟩ = some (.int .i64 ls))
          (first | exact ⟨hk7.tb.cell 0, hk7.tb.cell 1, hk7.tb.cell 2, hk7.tb.cell 3⟩ | exact ⟨hk6.tb.cell 0, hk6.tb.cell 1, hk6.tb.cell 2, hk6.tb.cell 3⟩ | exact ⟨hk5.tb.cell 0, hk5.tb.cell 1, hk5.tb.cell 2, hk5.tb.cell 3⟩ | exact ⟨t0, t1, t2, t3⟩ | go_keep)
          (first
          | (go_at_call 35; (with_reducible refine (HTG.out _ ?_ HS.out).mono ?_); (focus (first | exact hk3.rs | exact (FrK.drew hk3).rs; done)); rintro e w5 ⟨vt, rfl, hrt, hb5⟩; have hk5 := FrK.step hb5 (by first | exact hk3 | exact FrK.drew hk3); clear hb5)
          | (go_at_call 34; (with_reducible refine (HJN.out _ _ ?_).mono ?_); (focus (exact hrt; done)); rintro e w6 ⟨vj, rfl, hoj, hb6⟩; have hk6 := FrK.step hb6 hk5; have hs5 := hk5.tb.lt; have hs6 := hb6.size)
          | (go_at_call 33; (with_reducible refine (HDL.out _ _ w5.heap.size ?_ ?_ ?_ ?_).mono ?_); (focus (exact hoj; done)); (focus (exact hs6; done)); (focus (exact hs5; done)); (focus (exact hk6.tb; done)); rintro e w7 ⟨vd, rfl, hod, hb7⟩; have hk7 : FrK w w.heap.size ⟨st, sp, jn, ls⟩ (.slice pa l.length ca) l w7 := ⟨Blk.below hk6.tb hb7 hs5, Rd.below hk5.rs (hb6.trans hb7), hk5.bl.trans ((hb6.trans hb7).mono hk5.bl.size)⟩))
        obtain ⟨pd, cd, rfl⟩ := RdWdw.lenv (Rd.of_own hod)
        have hrd : RdWdw w7 _ FL := Rd.of_own hod
        have hfl : FL.length ≤ 100000 := by rw [HLF.out]; exact Nat.le_trans (List.length_filter_le _ _) (by omega)
        have hbl := hk7.bl
        have HRD := Lib.hid hrd
        clear hod hrd hk7 hk6 hk5 hb6 hb7 hs5 hs6 hoj hrt t0 t1 t2 t3
        by_cases hfx : 2000 < FL.length
        · have HX := Lib.hid (show E = 2 by rw [HE4.out, if_pos hfx])
          have HX2 := Lib.hid (show RR = [] by rw [HRR.out, HX.out]; rfl)
          have hfx' : (2000 : Int) < (FL.length : Int) := by omega
          clear hfx
          go_wp2_with fail
          go_ret2
          exact ⟨_, by rw [HX.out]; rfl, by rw [HX2.out]; exact Rd.nil _ _ _, hbl⟩
        · have HX := Lib.hid (show E = 0 by rw [HE4.out, if_neg hfx])
          have HX2 := Lib.hid (show RR = FL by rw [HRR.out, HX.out]; rfl)
          have hfx' : (FL.length : Int) ≤ (2000 : Int) := by omega
          clear hfx
          go_wp2_with fail
          go_ret2
          exact ⟨_, by rw [HX.out]; rfl, by rw [HX2.out]; exact HRD.out, hbl⟩
    · have hS' : (serErr l != 0) = true := by simpa using hS
      have HX := Lib.hid (show E = serErr l by rw [HE2.out, if_pos hS])
      have HX2 := Lib.hid (show RR = [] by rw [HRR.out, HX.out, if_neg hS])
      clear hS
      go_wp2_with fail
      go_ret2
      exact ⟨_, by rw [HX.out]; rfl, by rw [HX2.out]; exact Rd.nil _ _ _, hk3.bl⟩
  · have hT' : (TE != 0) = true := by simpa using hT
    have HX := Lib.hid (show E = TE by rw [HE.out, if_pos hT])
    have HX2 := Lib.hid (show RR = [] by rw [HRR.out, HX.out, if_neg hT])
    clear hT
    go_wp2_with fail
    go_ret2
    exact ⟨_, by rw [HX.out]; rfl, by rw [HX2.out]; exact Rd.nil _ _ _, hk2.bl⟩
end Go.Proofs.Ytdacdiigeainmaa

/- FrameFault (the reference), whatever it is given. -/

namespace Go.Proofs.Ytdacdiigeainmaa
open Go.RowKit
set_option linter.unusedVariables false
set_option linter.unusedSimpArgs false

set_option maxRecDepth 100000 in
set_option maxHeartbeats 4000000 in
theorem frameFault_any (v : Value) (l : List (Int × Int)) (w : World) (hR : RdWdw w v l) (hlen : l.length ≤ 100000) :
    Calls Try.prog 9 #[v] w fun e w' => e = .returned (.int .i64 (frsErr l)) ∧ Below w.heap.size w w' := by
  have hD : frsErr l = if 2000 < l.length then 2 else frsFrom 0 l := rfl
  obtain ⟨pa, ca, rfl⟩ := hR.lenv
  have HR := Lib.hid hR
  by_cases hlg : 2000 < l.length
  · rw [if_pos hlg] at hD
    rw [hD]
    have h1 : (2000 : Int) < (l.length : Int) := by omega
    clear hR hD hlg
    go_enter Try.func9, Try.ntmps9
    go_wp2_with fail
    go_ret
    exact ⟨rfl, Below.refl _ _⟩
  · rw [if_neg hlg] at hD
    rw [hD]
    have h1 : (l.length : Int) ≤ 2000 := by omega
    have HS := Lib.hid (fun j (hj : j < l.length) => frs_step hj)
    have HEN := Lib.hid (frs_end l)
    obtain ⟨E, hE⟩ : ∃ E, E = frsFrom 0 l := ⟨_, rfl⟩
    rw [← hE]
    have HE := Lib.hid (show frsFrom (endG l 0) (l.drop 0) = E by rw [hE]; rfl)
    clear hR hD hlg hE
    go_enter Try.func9, Try.ntmps9
    go_wp2_with fail
    go_loopw [10] (fun i wr => ∃ j : Nat, j ≤ l.length ∧ i = .int .i64 (j : Int) ∧ frsFrom (endG l j) (l.drop j) = E ∧ Below w.heap.size w wr) (fun i _ => l.length - (intOf i).toNat)
    case atStart => exact ⟨0, by omega, rfl, HE.out, Below.refl _ _⟩
    case round =>
      obtain ⟨j, hj, rfl, hfr, hbr⟩ := hrel
      by_cases hlt : j < l.length
      · have hRr : RdWdw wr _ l := Rd.below HR.out hbr
        obtain ⟨b, off, c, hv, hc1, hc2, hblt, hcell⟩ := RdWdw.at_ hRr (by omega)
        cases hv
        unfold maxLen at hc2
        obtain ⟨c0, c1⟩ := hcell j hlt
        have hp1 := (hcell (j - 1) (by omega)).2
        have hpe : 0 < j → (atW l (j - 1)).2 = endG l j := fun h0 => by
          obtain ⟨q, rfl⟩ : ∃ q, j = q + 1 := ⟨j - 1, by omega⟩
          rfl
        have h0e : j = 0 → endG l j = 0 := fun h => by rw [h]; rfl
        have h2 := HS.out j hlt
        rw [hfr] at h2
        generalize hN : frsFrom (endG l (j + 1)) (l.drop (j + 1)) = N at *
        generalize (atW l (j - 1)).2 = z at *
        generalize endG l j = f at *
        generalize atW l j = y at *
        obtain ⟨ya, yb⟩ := y
        simp only at h2 c0 c1
        have HEQ := Lib.hid h2
        have HN := Lib.hid hN
        have HPE := Lib.hid hpe
        have H0E := Lib.hid h0e
        have hB := Blk.new wr 49 #[.int .i64 ya, .int .i64 yb]
        have hb1 := hbr.alloc hbr.size (.cells #[.int .i64 ya, .int .i64 yb] 49)
        have hp2 : (wr.alloc (.cells #[.int .i64 ya, .int .i64 yb] 49)).cell? ⟨b, off + (j - 1) * 2 + 1, none⟩ = some (.int .i64 z) := by rw [World.cell?_alloc_lt _ _ _ hblt]; exact hp1
        clear hcell hRr hbr h2 hN hfr hp1 hpe h0e
        go_upto_region 6 with fail
        generalize wr.alloc (.cells #[.int .i64 ya, .int .i64 yb] 49) = wm at *
        generalize wr.heap.size = Z at *
        clear c0 c1
        have c0 := hB.cell 0
        have c1 := hB.cell 1
        have hd0 : ∀ m, Below w.heap.size w (wm.drewN m) := fun m => hb1.trans ⟨rfl, rfl, rfl, Nat.le_refl _, fun _ _ => rfl⟩
        have HD0 := Lib.hid hd0
        clear hd0
        by_cases k1 : ¬ (0 ≤ ya ∧ ya < yb ∧ yb ≤ 345686400000)
        · have HX := Lib.hid (show E = 1 by rw [HEQ.out, if_pos k1])
          by_cases a1 : ya < 0
          · clear k1 hp2
            go_wp2_with fail
            go_ret
            exact ⟨ret_int (by rw [HX.out]), hb1⟩
          · have a1' : 0 ≤ ya := by omega
            by_cases a2 : yb ≤ ya
            · clear k1 hp2 a1
              go_wp2_with fail
              go_ret
              exact ⟨ret_int (by rw [HX.out]), hb1⟩
            · have a2' : ya < yb := by omega
              have a3 : 345686400000 < yb := by omega
              clear k1 hp2 a1 a2
              go_wp2_with fail
              go_ret
              exact ⟨ret_int (by rw [HX.out]), hb1⟩
        · have HX := Lib.hid (show E = if ya < f then 7 else N by rw [HEQ.out, if_neg k1])
          obtain ⟨a1, a2, a3⟩ : 0 ≤ ya ∧ ya < yb ∧ yb ≤ 345686400000 := Classical.not_not.1 k1
          clear k1
          by_cases h0 : j = 0
          · have hf0 := H0E.out h0
            have HY := Lib.hid (show N = E by rw [HX.out, if_neg (by omega)])
            have i0 : (j : Int) ≤ 0 := by omega
            have hdj : decide ((0 : Int) < (j : Int)) = false := decide_eq_false (by omega)
            have hdn : decide (0 < j) = false := decide_eq_false (by omega)
            clear h0 hp2 hf0
            go_upto_region 8 with fail
            go_quiet (fail)
            go_wp2_with fail
            go_roundw
            case rel => exact ⟨j + 1, by omega, by go_num, HN.out.trans HY.out, HD0.out _⟩
            case measure => simp [intOf]; omega
          · have hzf := HPE.out (by omega)
            have i1 : (1 : Int) ≤ (j : Int) := by omega
            have i0 : (0 : Int) < (j : Int) := by omega
            have hdj : decide ((0 : Int) < (j : Int)) = true := decide_eq_true i0
            have hdn : decide (0 < j) = true := decide_eq_true (by omega)
            have i2 : (j : Int) - 1 < (l.length : Int) := by omega
            have i3 : ((j : Int) - 1).toNat = j - 1 := by omega
            have hwj : IntKind.i64.wrap ((j : Int) - 1) = (j : Int) - 1 := IntWalk.i64_in _ (by omega)
            subst hzf
            clear h0
            by_cases hf : ya < z
            · have hdf : decide (ya < z) = true := decide_eq_true hf
              have HY := Lib.hid (show E = 7 by rw [HX.out, if_pos hf])
              go_upto_region 8 with fail
              go_quiet (fail)
              go_wp2_with fail
              go_ret
              exact ⟨ret_int (by rw [HY.out]), HD0.out _⟩
            · have hdf : decide (ya < z) = false := decide_eq_false hf
              have HY := Lib.hid (show N = E by rw [HX.out, if_neg hf])
              go_upto_region 8 with fail
              go_quiet (fail)
              go_wp2_with fail
              go_roundw
              case rel => exact ⟨j + 1, by omega, by go_num, HN.out.trans HY.out, HD0.out _⟩
              case measure => simp [intOf]; omega
      · obtain rfl : j = l.length := by omega
        have HX := Lib.hid (show E = 0 by rw [← hfr, HEN.out])
        clear hfr
        go_wp2_with fail
        go_ret
        exact ⟨ret_int (by rw [HX.out]), hbr⟩
end Go.Proofs.Ytdacdiigeainmaa
