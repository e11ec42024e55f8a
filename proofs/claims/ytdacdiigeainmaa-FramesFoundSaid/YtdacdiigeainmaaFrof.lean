/- FramesOf (the reference), for a right series and a moment within all moments. -/
import Derived.Test.YtdacdiigeainmaaTrg
import Derived.Test.YtdacdiigeainmaaPos
import Derived.Test.YtdacdiigeainmaaAt
import Derived.BigQuiet
import Derived.Deep.DeepCutAuto
namespace Go.Proofs.Ytdacdiigeainmaa
open Go.RowKit
set_option linter.unusedVariables false
set_option linter.unusedSimpArgs false

theorem rlongw_any (f t : Int) (w : World) :
    Calls Try.prog 38 #[.agg #[.int .i64 f, .int .i64 t]] w fun e w' => e = .returned (.int .i64 (IntKind.i64.wrap (t - f))) ∧ Below w.heap.size w w' := by
  have hbw : Below w.heap.size w (w.alloc (.cells #[.int .i64 f, .int .i64 t] 49)) := (Below.refl _ w).alloc (Nat.le_refl _) _
  have hw : ∃ z, IntKind.i64.wrap (t - f) = z := ⟨_, rfl⟩
  obtain ⟨z, hz⟩ := hw
  rw [hz]
  go_enter Try.func38, Try.ntmps38
  go_wp2_with fail
  go_ret
  exact ⟨ret_int (by first | rfl | exact hz), hbw⟩

/-- Whether a frame is too short. -/
def rshortB (t : Trg) (y : Int × Int) : Bool := decide (IntKind.i64.wrap (y.2 - y.1) < t.ls)

set_option maxRecDepth 100000 in
set_option maxHeartbeats 1000000 in
theorem framesOf1_any (y : Int × Int) (B : Nat) (t : Trg) (w : World) (hB : Blk w B 27 (trgCells t)) :
    Calls Try.prog 37 #[wdwAgg y, .pointer (some ⟨B, 0, none⟩)] w fun e w' => e = .returned (.bool (rshortB t y)) ∧ Below w.heap.size w w' := by
  have hP : rshortB t y = decide (IntKind.i64.wrap (y.2 - y.1) < t.ls) := rfl
  generalize rshortB t y = P at *
  obtain ⟨st, sp, jn, ls⟩ := t
  obtain ⟨a, b⟩ := y
  simp only [trgCells, wdwAgg] at hB hP ⊢
  have HL := Lib.hid (fun W => rlongw_any a b W)
  generalize IntKind.i64.wrap (b - a) = z at *
  have HP := Lib.hid hP
  clear hP
  have hb1 : Below w.heap.size w (w.alloc (.cells #[.int .i64 a, .int .i64 b] 49)) := (Below.refl _ w).alloc (Nat.le_refl _) _
  have hB1 := hB.alloc (.cells #[.int .i64 a, .int .i64 b] 49)
  have hw1 := Blk.new w 49 #[.int .i64 a, .int .i64 b]
  go_enter Try.func37, Try.ntmps37
  go_upto_region 1 with fail
  generalize w.alloc (.cells #[.int .i64 a, .int .i64 b] 49) = w1 at *
  have c0 := hw1.cell 0
  have c1 := hw1.cell 1
  have c3 := hB1.cell 3
  clear hB
  have hbd : Below w.heap.size w w1.drew := hb1.trans ⟨rfl, rfl, rfl, Nat.le_refl _, fun _ _ => rfl⟩
  have hd : ∃ q, decide (z < ls) = q := ⟨_, rfl⟩
  obtain ⟨q, hq⟩ := hd
  go_region_with (go_at_call 38; (with_reducible refine (HL.out _).mono ?_); rintro e w2 ⟨rfl, hb2⟩; have hB2 : Blk w2 B 27 #[.int .i64 st, .int .i64 sp, .int .i64 jn, .int .i64 ls] := (by first | exact hB1.below hb2 hB1.lt | exact (Blk.drew hB1).below hb2 hB1.lt); have c3' := hB2.cell 3)
  all_goals
    go_wp2_with fail
    go_ret
    exact ⟨ret_bool (by rw [HP.out, hq]), (by first | exact hb1.trans (hb2.mono hb1.size) | exact hbd.trans (hb2.mono hb1.size))⟩
theorem enter_framesOf1 (args : Array Value) (w : World) : (callFunc 37 args).run Try.prog w = .ok (.enter 37 args) w := by kernel_rfl
theorem rshort_eq (t : Trg) (l : List (Int × Int)) (h : InF 345686400000 l) : (l.filter fun y => !rshortB t y) = l.filter fun y => !decide (y.2 - y.1 < t.ls) := by
  refine List.filter_congr fun y hy => ?_
  have := h y hy
  unfold rshortB
  rw [IntWalk.i64_in (y.2 - y.1) (by omega)]

/-- What the first loop has found after j samples: those at u or later change nothing. -/
def rfTo (t : Trg) (u : Int) (l : List Smp) (j : Nat) : Bool × List (Int × Int) := trTo t u l (if j ≤ posF l u then j else posF l u)
theorem rf_step (t : Trg) {u : Int} {l : List Smp} (hr : Rise none l) (j : Nat) (hj : j < l.length) : rfTo t u l (j + 1) = if u ≤ (atS l j).t then rfTo t u l j else trs t u (rfTo t u l j) (atS l j) := by
  have h := posF_iff l u none hr j hj
  unfold rfTo
  by_cases hu : u ≤ (atS l j).t
  · have h1 := h.1 hu
    rw [if_pos hu, if_neg (by omega)]
    by_cases h2 : j ≤ posF l u
    · rw [if_pos h2, show posF l u = j by omega]
    · rw [if_neg h2]
  · have h1 : j < posF l u := Nat.lt_of_not_le fun h2 => hu (h.2 h2)
    rw [if_neg hu, if_pos (by omega), if_pos (by omega)]
    rfl
theorem rf_end (t : Trg) (u : Int) (l : List Smp) : rfTo t u l l.length = trTo t u l (posF l u) := by
  have := posF_le l u
  unfold rfTo
  by_cases h : l.length ≤ posF l u
  · rw [if_pos h, show posF l u = l.length by omega]
  · rw [if_neg h]

set_option maxRecDepth 100000 in
set_option maxHeartbeats 8000000 in
theorem framesOf_any (t : Trg) (v : Value) (l : List Smp) (u : Int) (w : World) (hR : RdS w 55 v l) (hS : serErr l = 0) (hu : 0 ≤ u ∧ u ≤ 345686400000) :
    Calls Try.prog 17 #[.agg (trgCells t), v, .int .i64 u] w fun e w' => ∃ vr, e = .returned (.tuple #[vr, .int .i64 (if 2000 < (frmL t l u).length then 2 else 0)]) ∧ RdWdw w' vr (if 2000 < (frmL t l u).length then [] else frmL t l u) ∧ Below w.heap.size w w' := by
  have HLL := Lib.hid (show frmL t l u = (jnTo t.jn (trTo t u l (posF l u)).2 (trTo t u l (posF l u)).2.length).filter fun y => !decide (y.2 - y.1 < t.ls) from rfl)
  generalize frmL t l u = FL at *
  generalize hE2 : (if 2000 < FL.length then (2 : Int) else 0) = E2
  generalize hR2 : (if 2000 < FL.length then [] else FL) = R2
  have HE2 := Lib.hid hE2
  have HR2 := Lib.hid hR2
  clear hE2 hR2
  have hlong := (serErr_good hS).1
  have hr := serErr_rise hS
  have hser := fun j => (serErr_vt hS j).2
  have hple := posF_le l u
  have hpos := fun j (hj : j < l.length) => posF_iff l u none hr j hj
  have hin0 : InF 345686400000 (trTo t u l (posF l u)).2 := fun y hy => by
    have := trTo_in t u l hu.1 (posF l u) (fun j hj => ⟨(hser j).1, by have := hpos j (by omega); omega⟩) y hy; omega
  have hln0 := (trTo_len t u l (posF l u)).1
  have HTL := Lib.hid (fun j (hj : j ≤ l.length) => (show (rfTo t u l j).2.length ≤ 5000 ∧ ((rfTo t u l j).1 = true → 0 < (rfTo t u l j).2.length) by
    have := trTo_len t u l (if j ≤ posF l u then j else posF l u)
    exact ⟨Nat.le_trans this.1 (by split <;> omega), this.2⟩))
  have HSTEP := Lib.hid (fun j (hj : j < l.length) => rf_step (u := u) t hr j hj)
  have HRE := Lib.hid (rf_end t u l)
  have HR0 := Lib.hid (show rfTo t u l 0 = (false, []) by unfold rfTo; rw [if_pos (Nat.zero_le _)]; rfl)
  obtain ⟨pa, ca, rfl⟩ := hR.lenv
  have HFN := Lib.hid (fun (W : World) (x : Int × Int) (hk : Blk W w.heap.size 27 (trgCells t)) => framesOf1_any x w.heap.size t W hk)
  have hB := Blk.new w 27 (trgCells t)
  have hbw : Below w.heap.size w (w.alloc (.cells (trgCells t) 27)) := (Below.refl _ w).alloc (Nat.le_refl _) _
  have hR1 := Rd.below hR hbw
  obtain ⟨st, sp, jn, ls⟩ := t
  have htc : trgCells ⟨st, sp, jn, ls⟩ = #[.int .i64 st, .int .i64 sp, .int .i64 jn, .int .i64 ls] := rfl
  rw [htc] at hB hbw hR1 HFN ⊢
  have hl2 : (trTo ⟨st, sp, jn, ls⟩ u l (posF l u)).2.length ≤ 5000 := by omega
  clear hR hS hser hple hpos hr hln0
  go_enter Try.func17, Try.ntmps17
  go_upto_region 1 with fail
  generalize hw1 : w.alloc (.cells #[.int .i64 st, .int .i64 sp, .int .i64 jn, .int .i64 ls] 27) = w1 at *
  clear hw1
  have HR1 := Lib.hid hR1
  have HB := Lib.hid hB
  have HBW := Lib.hid hbw
  have hw0 := hB.lt
  clear hR1 hB hbw
  go_wp2_with fail
  go_loopw [8, 9, 18] (fun o cu i wr => ∃ j : Nat, j ≤ l.length ∧ i = .int .i64 (j : Int) ∧ cu = .bool (rfTo ⟨st, sp, jn, ls⟩ u l j).1 ∧ StW w1 o (rfTo ⟨st, sp, jn, ls⟩ u l j).2 wr) (fun _ _ i _ => l.length - (intOf i).toNat)
  case atStart => exact ⟨0, by omega, rfl, by rw [HR0.out], by rw [HR0.out]; exact ⟨World.ownsRow_nil _ _ _ _, Below.refl _ _⟩⟩
  case round =>
    obtain ⟨j, hj, rfl, rfl, hk⟩ := hrel
    by_cases hlt : j < l.length
    · have hRr : RdS wr _ _ l := Rd.below HR1.out hk.bl
      obtain ⟨b, off, c, hv, hc1, hc2, hblt, hcell⟩ := RdS.at_ hRr (by omega)
      cases hv
      unfold maxLen at hc2
      obtain ⟨c0, c1, c2⟩ := hcell j hlt
      have hl3 := HTL.out j hj
      have hs2 := HSTEP.out j hlt
      have hBr := HB.out.below hk.bl HB.out.lt
      generalize rfTo ⟨st, sp, jn, ls⟩ u l j = S2 at *
      obtain ⟨cur, out⟩ := S2
      generalize atS l j = x at *
      obtain ⟨xt, xv, xq⟩ := x
      simp only at c0 c1 c2 hk hl3 hs2
      obtain ⟨po, co, rfl⟩ := RdWdw.lenv (Rd.of_own hk.own)
      have HS2 := Lib.hid hs2
      have hbo := Blk.new wr 55 #[.int .i64 xt, .int .i64 xv, .int .i64 xq]
      have hk2 := hk.alloc (.cells #[.int .i64 xt, .int .i64 xv, .int .i64 xq] 55)
      have hB3 := hBr.alloc (.cells #[.int .i64 xt, .int .i64 xv, .int .i64 xq] 55)
      have hol : out.length ≤ 5000 := hl3.1
      clear hs2 hRr hcell hBr hk
      go_upto_region 6 with fail
      generalize wr.alloc (.cells #[.int .i64 xt, .int .i64 xv, .int .i64 xq] 55) = wm at *
      generalize wr.heap.size = Z at *
      clear c0 c1 c2
      have e0 := hbo.cell 0
      have e1 := hbo.cell 1
      have e2 := hbo.cell 2
      have t0 := hB3.cell 0
      have t1 := hB3.cell 1
      by_cases hut : u ≤ xt
      · have HE := Lib.hid (show rfTo ⟨st, sp, jn, ls⟩ u l (j + 1) = (cur, out) by rw [HS2.out, if_pos hut])
        have HKD := Lib.hid hk2
        clear hk2
        go_wp2_with fail
        go_roundw
        case rel => exact ⟨j + 1, by omega, by go_num, by rw [HE.out], by rw [HE.out]; exact HKD.out⟩
        case measure => simp [intOf]; omega
      · have hut' : xt < u := by omega
        have HS3 := Lib.hid (show rfTo ⟨st, sp, jn, ls⟩ u l (j + 1) = trs ⟨st, sp, jn, ls⟩ u (cur, out) ⟨xt, xv, xq⟩ by rw [HS2.out, if_neg hut])
        clear hut HS2
        by_cases hq : xq = 2
        · have hq' : (xq == 2) = true := by simpa using hq
          have HE := Lib.hid (show rfTo ⟨st, sp, jn, ls⟩ u l (j + 1) = (cur, out) by rw [HS3.out]; unfold trs; rw [if_pos hq])
          have HKD := Lib.hid hk2
          clear hk2 hq
          go_wp2_with fail
          go_roundw
          case rel => exact ⟨j + 1, by omega, by go_num, by rw [HE.out], by rw [HE.out]; exact HKD.out⟩
          case measure => simp [intOf]; omega
        · have hq' : (xq == 2) = false := by simpa using hq
          cases cur
          · by_cases hst : st ≤ xv
            · have HE := Lib.hid (show rfTo ⟨st, sp, jn, ls⟩ u l (j + 1) = (true, out ++ [(xt, u)]) by rw [HS3.out]; unfold trs; rw [if_neg hq, if_pos ⟨rfl, hst⟩])
              have ho := hk2.alloc (.cells #[.int .i64 xt, .int .i64 u] 49)
              have HO := Lib.hid ho
              have hso := ho.bl.size
              clear hk2 hq ho
              go_wp2_with (at_builtin; go_loud (refine wpList_append_wdw rfl (.tmp 42) (.tmp 47) rfl w1.heap.size _ _ out rfl (by exact HO.out.own) wm.heap.size rfl (xt, u) (by exact Blk.new _ _ _) (by omega) (by exact hso) ?_); intro v1 wd hown1 hgrow1)
              have hkd := HO.out.grown _ hgrow1 hown1
              clear hown1 hgrow1
              go_roundw
              case rel => exact ⟨j + 1, by omega, by go_num, by rw [HE.out], by rw [HE.out]; exact hkd⟩
              case measure => simp [intOf]; omega
            · have HE := Lib.hid (show rfTo ⟨st, sp, jn, ls⟩ u l (j + 1) = (false, out) by rw [HS3.out]; unfold trs; rw [if_neg hq, if_neg (fun h => hst h.2), if_neg (fun h => by simp at h)])
              have hst' : xv < st := by omega
              have HKD := Lib.hid hk2
              clear hk2 hq hst
              go_wp2_with fail
              go_roundw
              case rel => exact ⟨j + 1, by omega, by go_num, by rw [HE.out], by rw [HE.out]; exact HKD.out⟩
              case measure => simp [intOf]; omega
          · by_cases hsp : xv < sp
            · have HE := Lib.hid (show rfTo ⟨st, sp, jn, ls⟩ u l (j + 1) = (false, setE out xt) by rw [HS3.out]; unfold trs; rw [if_neg hq, if_neg (fun h => by simp at h), if_pos ⟨rfl, hsp⟩])
              have hop := hl3.2 rfl
              obtain ⟨m, hm⟩ : ∃ m, m + 1 = out.length := ⟨out.length - 1, by omega⟩
              obtain ⟨g, cap, hv, hbg, hnc, hcm⟩ := own_form hk2.own (by omega)
              cases hv
              unfold maxLen at hcm
              have hmo : m < out.length := by omega
              obtain ⟨k0, k1⟩ := own_wdw hk2.own rfl m hmo
              have f1 := hk2.own.frozenAt (m * 2 + 1)
              have hwm : IntKind.i64.wrap ((out.length : Int) - 1) = (m : Int) := by rw [← hm]; exact (IntWalk.i64_in _ (by omega)).trans (by omega)
              have i1 : (0 : Int) ≤ (m : Int) := by omega
              have i2 : (m : Int) < (out.length : Int) := by omega
              have hkd := hk2.setLast m hm xt
              have HKD := Lib.hid hkd
              clear hkd hk2 hq hm
              go_wp2_with fail
              go_roundw
              case rel => exact ⟨j + 1, by omega, by go_num, by rw [HE.out], by rw [HE.out]; exact HKD.out⟩
              case measure => simp [intOf]; omega
            · have HE := Lib.hid (show rfTo ⟨st, sp, jn, ls⟩ u l (j + 1) = (true, out) by rw [HS3.out]; unfold trs; rw [if_neg hq, if_neg (fun h => by simp at h), if_neg (fun h => hsp h.2)])
              have hsp' : sp ≤ xv := by omega
              have HKD := Lib.hid hk2
              clear hk2 hq hsp
              go_wp2_with fail
              go_roundw
              case rel => exact ⟨j + 1, by omega, by go_num, by rw [HE.out], by rw [HE.out]; exact HKD.out⟩
              case measure => simp [intOf]; omega
    · obtain rfl : j = l.length := by omega
      rw [HRE.out] at hk
      rw [HRE.out]
      have hBr := HB.out.below hk.bl HB.out.lt
      have hbx := HBW.out.trans (hk.bl.mono HBW.out.size)
      have hrr : RdWdw wr _ (trTo ⟨st, sp, jn, ls⟩ u l (posF l u)).2 := Rd.of_own hk.own
      have hwr := hBr.lt
      generalize (trTo ⟨st, sp, jn, ls⟩ u l (posF l u)) = TS at *
      obtain ⟨TB, TR⟩ := TS
      simp only at hin0 hl2 hrr hk HLL
      have HIJ := Lib.hid (fun n hn => jnTo_in jn 345686400000 TR hin0 n hn)
      have HLJ := Lib.hid (fun n => jnTo_len jn TR n)
      have HIN := Lib.hid hin0
      have HRR := Lib.hid hrr
      have HBR := Lib.hid hBr
      have HBX := Lib.hid hbx
      obtain ⟨pr, cr, rfl⟩ := hrr.lenv
      clear hk hBr hbx hrr hin0 HTL HSTEP HRE HR0 HR1 HB HBW
      generalize wr = W5 at *
      go_wp2_with fail
      go_loopw [12, 69] (fun o i wr => ∃ j : Nat, j ≤ TR.length ∧ i = .int .i64 (j : Int) ∧ StW W5 o (jnTo jn TR j) wr) (fun _ i _ => TR.length - (intOf i).toNat)
      case atStart => exact ⟨0, by omega, rfl, World.ownsRow_nil _ _ _ _, Below.refl _ _⟩
      case round =>
        obtain ⟨j, hj, rfl, hk⟩ := hrel
        by_cases hlt : j < TR.length
        · have hl4 := HLJ.out j
          have hin2 := HIJ.out j hj
          have hRq : RdWdw wr _ TR := Rd.below HRR.out hk.bl
          obtain ⟨b, off, c, hv, hc1, hc2, hblt, hcell⟩ := RdWdw.at_ hRq (by omega)
          cases hv
          unfold maxLen at hc2
          obtain ⟨c0, c1⟩ := hcell j hlt
          have hyb : (0 ≤ (atW TR j).1 ∧ (atW TR j).1 ≤ 345686400000) ∧ 0 ≤ (atW TR j).2 ∧ (atW TR j).2 ≤ 345686400000 := by
            rw [← atW_eq TR j hlt]; exact HIN.out _ (List.getElem_mem _)
          have hst : jnTo jn TR (j + 1) = jnS jn (jnTo jn TR j) (atW TR j) := rfl
          have hBq := HBR.out.below hk.bl HBR.out.lt
          generalize jnTo jn TR j = out at *
          generalize atW TR j = y at *
          obtain ⟨ya, yb⟩ := y
          simp only at hyb c0 c1
          have HST := Lib.hid hst
          have HK := Lib.hid hk
          clear hst hk hcell hRq
          go_upto_region 16 with fail
          have hBo := Blk.new wr 49 #[.int .i64 ya, .int .i64 yb]
          have hk2 := HK.out.alloc (.cells #[.int .i64 ya, .int .i64 yb] 49)
          have hBt := hBq.alloc (.cells #[.int .i64 ya, .int .i64 yb] 49)
          generalize hwm : wr.alloc (.cells #[.int .i64 ya, .int .i64 yb] 49) = wm at *
          generalize wr.heap.size = Z at *
          clear hwm HK c0 c1 hBq
          have c0 := hBo.cell 0
          have c1 := hBo.cell 1
          have t2 := hBt.cell 2
          obtain ⟨po, co, rfl⟩ := RdWdw.lenv (Rd.of_own hk2.own)
          have hol : out.length ≤ 5000 := by omega
          by_cases ho : out = []
          · subst ho
            have HE := Lib.hid (show jnTo jn TR (j + 1) = [] ++ [(ya, yb)] by rw [HST.out]; simp [jnS])
            have HK2 := Lib.hid hk2
            have HBB := Lib.hid hBo
            clear hk2 hBo HST hBt
            go_upto_region 17 with fail
            go_quiet (fail)
            go_upto_region 19 with fail
            have hk3 := HK2.out.drewN nq
            have hB3 : Blk (wm.drewN nq) Z 49 #[.int .i64 ya, .int .i64 yb] := HBB.out.drewN nq
            generalize wm.drewN nq = wz at *
            have e0 := hB3.cell 0
            have e1 := hB3.cell 1
            have ho := hk3.alloc (.cells #[.int .i64 ya, .int .i64 yb] 49)
            have HO := Lib.hid ho
            have hso := ho.bl.size
            clear ho hk3 hB3 c0 c1 t2
            go_wp2_with (at_builtin; go_loud (refine wpList_append_wdw rfl (.tmp 98) (.tmp 100) rfl W5.heap.size _ _ [] rfl (by exact HO.out.own) wz.heap.size rfl (ya, yb) (by exact Blk.new _ _ _) (by omega) (by exact hso) ?_); intro v1 wd hown1 hgrow1)
            have hkd := HO.out.grown _ hgrow1 hown1
            clear hown1 hgrow1
            go_roundw
            case rel => exact ⟨j + 1, by omega, by go_num, by rw [HE.out]; exact hkd⟩
            case measure => simp [intOf]; omega
          · obtain ⟨m, hm⟩ : ∃ m, m + 1 = out.length := ⟨out.length - 1, by have := List.length_pos_iff.2 ho; omega⟩
            obtain ⟨g, cap, hv, hbg, hnc, hcm⟩ := own_form hk2.own (by omega)
            cases hv
            unfold maxLen at hcm
            have hmo : m < out.length := by omega
            obtain ⟨k0, k1⟩ := own_wdw hk2.own rfl m hmo
            have f1 := hk2.own.frozenAt (m * 2 + 1)
            have hgt : out.getD (out.length - 1) (0, 0) = out[m] := by
              rw [show out.length - 1 = m by omega, List.getD_eq_getElem?_getD, List.getElem?_eq_getElem hmo]; rfl
            have hzb := hin2 out[m] (List.getElem_mem _)
            have hwm : IntKind.i64.wrap ((out.length : Int) - 1) = (m : Int) := by rw [← hm]; exact (IntWalk.i64_in _ (by omega)).trans (by omega)
            have hst2 : jnTo jn TR (j + 1) = if ya - out[m].2 < jn then setE out yb else out ++ [(ya, yb)] := by
              rw [HST.out]; unfold jnS; rw [hgt]; simp [ho]
            generalize out[m] = z at *
            obtain ⟨za, zb⟩ := z
            simp only at k0 k1 hzb hst2
            have HST2 := Lib.hid hst2
            have i1 : (0 : Int) ≤ (m : Int) := by omega
            have i2 : (m : Int) < (out.length : Int) := by omega
            have d1 : decide ((0 : Int) < (out.length : Int)) = true := by simp; omega
            have d2 : decide (0 < out.length) = true := by simp; omega
            have hws : IntKind.i64.wrap (ya - zb) = ya - zb := IntWalk.i64_in _ (by omega)
            have HM := Lib.hid hm
            have HK2 := Lib.hid hk2
            have HBB := Lib.hid hBo
            clear hk2 hBo HST hst2 hgt hin2 hm ho hBt
            go_upto_region 17 with fail
            by_cases hap : ya - zb < jn
            · have hd : decide (ya - zb < jn) = true := by simpa using hap
              go_quiet (fail)
              go_upto_region 18 with fail
              have HE := Lib.hid (show jnTo jn TR (j + 1) = setE out yb by rw [HST2.out, if_pos hap])
              have hk3 := HK2.out.drewN nq
              have hB3 : Blk (wm.drewN nq) Z 49 #[.int .i64 ya, .int .i64 yb] := HBB.out.drewN nq
              generalize wm.drewN nq = wz at *
              have e1 := hB3.cell 1
              have f2 := hk3.own.frozenAt (m * 2 + 1)
              obtain ⟨_, k2⟩ := own_wdw hk3.own rfl m hmo
              have hkd := hk3.setLast m HM.out yb
              have HKD := Lib.hid hkd
              clear hkd hk3 hB3 c0 c1 k0 k1 f1 t2
              go_wp2_with fail
              go_roundw
              case rel => exact ⟨j + 1, by omega, by go_num, by rw [HE.out]; exact HKD.out⟩
              case measure => simp [intOf]; omega
            · have hd : decide (ya - zb < jn) = false := by simpa using hap
              go_quiet (fail)
              go_upto_region 19 with fail
              have HE := Lib.hid (show jnTo jn TR (j + 1) = out ++ [(ya, yb)] by rw [HST2.out, if_neg hap])
              have hk3 := HK2.out.drewN nq
              have hB3 : Blk (wm.drewN nq) Z 49 #[.int .i64 ya, .int .i64 yb] := HBB.out.drewN nq
              generalize wm.drewN nq = wz at *
              have e0 := hB3.cell 0
              have e1 := hB3.cell 1
              have ho := hk3.alloc (.cells #[.int .i64 ya, .int .i64 yb] 49)
              have HO := Lib.hid ho
              have hso := ho.bl.size
              clear ho hk3 hB3 c0 c1 t2
              go_wp2_with (at_builtin; go_loud (refine wpList_append_wdw rfl (.tmp 98) (.tmp 100) rfl W5.heap.size _ _ out rfl (by exact HO.out.own) wz.heap.size rfl (ya, yb) (by exact Blk.new _ _ _) (by omega) (by exact hso) ?_); intro v1 wd hown1 hgrow1)
              have hkd := HO.out.grown _ hgrow1 hown1
              clear hown1 hgrow1
              go_roundw
              case rel => exact ⟨j + 1, by omega, by go_num, by rw [HE.out]; exact hkd⟩
              case measure => simp [intOf]; omega
        · obtain rfl : j = TR.length := by omega
          have hin2 := HIJ.out TR.length (Nat.le_refl _)
          have hln2 := HLJ.out TR.length
          have hsq := rshort_eq ⟨st, sp, jn, ls⟩ _ hin2
          have hBq := HBR.out.below hk.bl HBR.out.lt
          have hblq := HBX.out.trans (hk.bl.mono HBX.out.size)
          generalize jnTo jn TR TR.length = JN at *
          have hF : FL = JN.filter fun y => !rshortB ⟨st, sp, jn, ls⟩ y := by rw [hsq]; exact HLL.out
          have hfl : FL.length ≤ 100000 := by rw [hF]; exact Nat.le_trans (List.length_filter_le _ _) (by omega)
          have hdl := deleteW_any _ JN wr W5.heap.size 37 (.pointer (some ⟨w.heap.size, 0, none⟩)) (rshortB ⟨st, sp, jn, ls⟩) hk.own hk.bl.size (by omega) enter_framesOf1 (fun x w' hb' => HFN.out w' x (Blk.below hBq hb' HBR.out.lt))
          rw [← hF] at hdl
          have HDL := Lib.hid hdl
          have hsz := hk.bl.size
          clear hdl hk hBq hin2 hsq hF HLL HIJ HLJ HIN HRR HFN
          go_wp2_with fail
          refine HDL.out.mono ?_
          rintro e w7 ⟨vd, rfl, hod, hb7⟩
          obtain ⟨pd, cd, rfl⟩ := RdWdw.lenv (Rd.of_own hod)
          have hrd : RdWdw w7 _ FL := Rd.of_own hod
          have hbl : Below w.heap.size w w7 := hblq.trans (hb7.mono HBX.out.size)
          have HRD := Lib.hid hrd
          clear hod hrd hb7 HDL
          by_cases hfx : 2000 < FL.length
          · have hfx' : (2000 : Int) < (FL.length : Int) := by omega
            have HX := Lib.hid (show E2 = 2 by rw [← HE2.out, if_pos hfx])
            have HY := Lib.hid (show R2 = [] by rw [← HR2.out, if_pos hfx])
            clear hfx
            go_wp2_with fail
            go_ret2
            exact ⟨_, by rw [HX.out]; rfl, by rw [HY.out]; exact Rd.nil _ _ _, hbl⟩
          · have hfx' : (FL.length : Int) ≤ (2000 : Int) := by omega
            have HX := Lib.hid (show E2 = 0 by rw [← HE2.out, if_neg hfx])
            have HY := Lib.hid (show R2 = FL by rw [← HR2.out, if_neg hfx])
            clear hfx
            go_wp2_with fail
            go_ret2
            exact ⟨_, by rw [HX.out]; rfl, by rw [HY.out]; exact HRD.out, hbl⟩
end Go.Proofs.Ytdacdiigeainmaa
