import Derived.Test.YtdacdiigeainmaaOvm
import Derived.Test.YtdacdiigeainmaaWinb
import Derived.Deep.DeepCutAuto
import Derived.Test.YtdacdiigeainmaaOva
import Derived.Test.YtdacdiigeainmaaKmm
import Derived.BigQuiet
import Derived.Test.YtdacdiigeainmaaRecon
import Derived.Laws.StructEq
import Derived.Test.YtdacdiigeainmaaWdv
import Derived.Deep.QuietTactic
/- CheckFrames (package batch), whatever it is given. -/

namespace Go.Proofs.Ytdacdiigeainmaa
open Go.RowKit
set_option linter.unusedVariables false
set_option linter.unusedSimpArgs false

def lasB (a b : Int) : Bool := decide (0 ≤ a ∧ a < b ∧ b ≤ 345686400000)
set_option maxHeartbeats 1000000 in
theorem lasting_any (a b : Int) (w : World) :
    Calls Try.prog 40 #[.agg #[.int .i64 a, .int .i64 b]] w fun e w' => e = .returned (.bool (lasB a b)) ∧ Below w.heap.size w w' := by
  have hP : lasB a b = decide (0 ≤ a ∧ a < b ∧ b ≤ 345686400000) := rfl
  generalize lasB a b = P at *
  have hb := (Below.refl w.heap.size w).alloc (Nat.le_refl _) (.cells #[.int .i64 a, .int .i64 b] 49)
  have hB := Blk.new w 49 #[.int .i64 a, .int .i64 b]
  have hW : winB a b = decide (0 ≤ a ∧ a ≤ b ∧ b ≤ 345686400000) := by
    rw [Bool.eq_iff_iff, winB_true]; simp
  have HW := Lib.hid hW
  have HP := Lib.hid hP
  clear hW hP
  go_enter Try.func40, Try.ntmps40
  go_upto_region 1 with fail
  generalize w.alloc (.cells #[.int .i64 a, .int .i64 b] 49) = w1 at *
  have c0 := hB.cell 0
  have c1 := hB.cell 1
  go_wp2_with fail
  refine (window_any a b _).mono ?_
  rintro e w2 ⟨rfl, hb2⟩
  have hB2 := hB.below hb2 hB.lt
  clear c0 c1
  have c0 := hB2.cell 0
  have c1 := hB2.cell 1
  have hbz := hb.trans (hb2.mono hb.size)
  clear hb hb2 hB hB2
  cases hw : winB a b
  · have HX := Lib.hid (show P = false by rw [HP.out]; rw [HW.out] at hw; simp only [decide_eq_false_iff_not] at hw ⊢; omega)
    go_wp2_with fail
    go_ret
    exact ⟨ret_bool (by rw [HX.out]), hbz⟩
  · by_cases hlt : a < b
    · have hd : decide (a < b) = true := decide_eq_true hlt
      have HX := Lib.hid (show P = true by rw [HP.out]; rw [HW.out] at hw; simp only [decide_eq_true_eq] at hw ⊢; omega)
      go_wp2_with fail
      go_ret
      exact ⟨ret_bool (by rw [HX.out]), hbz⟩
    · have hd : decide (a < b) = false := decide_eq_false hlt
      have HX := Lib.hid (show P = false by rw [HP.out]; simp only [decide_eq_false_iff_not]; omega)
      go_wp2_with fail
      go_ret
      exact ⟨ret_bool (by rw [HX.out]), hbz⟩

def cfE (a b f : Int) : Int := if ¬ (0 ≤ a ∧ a < b ∧ b ≤ 345686400000) then 1 else if a < f then 7 else 0
set_option maxHeartbeats 1000000 in
theorem checkFrame_any (a b f : Int) (w : World) :
    Calls Try.prog 29 #[.agg #[.int .i64 a, .int .i64 b], .int .i64 f] w fun e w' => e = .returned (.int .i64 (cfE a b f)) ∧ Below w.heap.size w w' := by
  have hE : cfE a b f = if ¬ (0 ≤ a ∧ a < b ∧ b ≤ 345686400000) then 1 else if a < f then 7 else 0 := rfl
  generalize cfE a b f = E at *
  have hb := (Below.refl w.heap.size w).alloc (Nat.le_refl _) (.cells #[.int .i64 a, .int .i64 b] 49)
  have hB := Blk.new w 49 #[.int .i64 a, .int .i64 b]
  have HL := Lib.hid (fun W => lasting_any a b W)
  have HE := Lib.hid hE
  have hlb : lasB a b = decide (0 ≤ a ∧ a < b ∧ b ≤ 345686400000) := rfl
  have HLB := Lib.hid hlb
  clear hE hlb
  go_enter Try.func29, Try.ntmps29
  go_upto_region 1 with fail
  generalize w.alloc (.cells #[.int .i64 a, .int .i64 b] 49) = w1 at *
  have c0 := hB.cell 0
  have c1 := hB.cell 1
  go_wp2_with fail
  refine (HL.out _).mono ?_
  rintro e w2 ⟨rfl, hb2⟩
  have hB2 := hB.below hb2 hB.lt
  clear c0 c1
  have c0 := hB2.cell 0
  have c1 := hB2.cell 1
  have hbz := hb.trans (hb2.mono hb.size)
  clear hb hb2 hB hB2
  cases hw : lasB a b
  · have HX := Lib.hid (show E = 1 by rw [HE.out, if_pos (by rw [HLB.out] at hw; simpa using hw)])
    go_wp2_with fail
    go_ret
    exact ⟨ret_int (by rw [HX.out]), hbz⟩
  · have HX := Lib.hid (show E = if a < f then 7 else 0 by rw [HE.out, if_neg (by rw [HLB.out] at hw; simpa using hw)])
    by_cases hf : a < f
    · have HY := Lib.hid (show E = 7 by rw [HX.out, if_pos hf])
      go_wp2_with fail
      go_ret
      exact ⟨ret_int (by rw [HY.out]), hbz⟩
    · have HY := Lib.hid (show E = 0 by rw [HX.out, if_neg hf])
      have hf' : f ≤ a := by omega
      clear hf
      go_wp2_with fail
      go_ret
      exact ⟨ret_int (by rw [HY.out]), hbz⟩

set_option maxRecDepth 100000 in
set_option maxHeartbeats 2000000 in
theorem checkFramesG_any (v : Value) (l : List (Int × Int)) (w : World) (hR : RdWdw w v l) (hlen : l.length ≤ 100000) :
    Calls Try.prog 11 #[v] w fun e w' => e = .returned (.int .i64 (frsErr l)) ∧ Below w.heap.size w w' := by
  have hD : frsErr l = if 2000 < l.length then 2 else frsFrom 0 l := rfl
  obtain ⟨pa, ca, rfl⟩ := hR.lenv
  have HR := Lib.hid hR
  by_cases hlg : 2000 < l.length
  · rw [if_pos hlg] at hD
    rw [hD]
    have h1 : (2000 : Int) < (l.length : Int) := by omega
    clear hR hD hlg
    go_enter Try.func11, Try.ntmps11
    go_wp2_with fail
    go_ret
    exact ⟨rfl, Below.refl _ _⟩
  · rw [if_neg hlg] at hD
    rw [hD]
    have h1 : (l.length : Int) ≤ 2000 := by omega
    have HS := Lib.hid (fun j (hj : j < l.length) => frs_step hj)
    have HEN := Lib.hid (frs_end l)
    obtain ⟨E, hE⟩ : ∃ E, E = frsFrom 0 l := ⟨_, rfl⟩
    rw [← hE]
    have HE := Lib.hid (show frsFrom (endG l 0) (l.drop 0) = E by rw [hE]; rfl)
    clear hR hD hlg hE
    go_enter Try.func11, Try.ntmps11
    go_wp2_with fail
    go_loopw [3, 12] (fun s3 i wr => ∃ j : Nat, j ≤ l.length ∧ i = .int .i64 (j : Int) ∧ s3 = .int .i64 (endG l j) ∧ frsFrom (endG l j) (l.drop j) = E ∧ Below w.heap.size w wr) (fun _ i _ => l.length - (intOf i).toNat)
    case atStart => exact ⟨0, by omega, rfl, rfl, HE.out, Below.refl _ _⟩
    case round =>
      obtain ⟨j, hj, rfl, rfl, hfr, hbr⟩ := hrel
      by_cases hlt : j < l.length
      · have hRr : RdWdw wr _ l := Rd.below HR.out hbr
        obtain ⟨b, off, c, hv, hc1, hc2, hblt, hcell⟩ := RdWdw.at_ hRr (by omega)
        cases hv
        unfold maxLen at hc2
        obtain ⟨c0, c1⟩ := hcell j hlt
        have h2 := HS.out j hlt
        have h3 : endG l (j + 1) = (atW l j).2 := rfl
        rw [hfr] at h2
        generalize hN : frsFrom (endG l (j + 1)) (l.drop (j + 1)) = N at *
        generalize endG l j = f at *
        generalize atW l j = y at *
        obtain ⟨ya, yb⟩ := y
        simp only at h2 h3 c0 c1
        have hcf : cfE ya yb f = if ¬ (0 ≤ ya ∧ ya < yb ∧ yb ≤ 345686400000) then 1 else if ya < f then 7 else 0 := rfl
        have hEN : E = if cfE ya yb f = 0 then N else cfE ya yb f := by
          rw [h2, hcf]
          by_cases k1 : ¬ (0 ≤ ya ∧ ya < yb ∧ yb ≤ 345686400000)
          · rw [if_pos k1, if_pos k1]; rfl
          · rw [if_neg k1, if_neg k1]
            by_cases k2 : ya < f
            · rw [if_pos k2, if_pos k2]; rfl
            · rw [if_neg k2, if_neg k2]; rfl
        have HC := Lib.hid (fun W => checkFrame_any ya yb f W)
        generalize cfE ya yb f = C at *
        have HEQ := Lib.hid hEN
        have H3 := Lib.hid h3
        have HN := Lib.hid hN
        have hB := Blk.new wr 49 #[.int .i64 ya, .int .i64 yb]
        have hb1 := hbr.alloc hbr.size (.cells #[.int .i64 ya, .int .i64 yb] 49)
        clear hcell hRr h3 hbr h2 hcf hEN hN hfr
        go_upto_region 7 with fail
        generalize wr.alloc (.cells #[.int .i64 ya, .int .i64 yb] 49) = wm at *
        generalize wr.heap.size = Z at *
        clear c0 c1
        have c0 := hB.cell 0
        have c1 := hB.cell 1
        go_wp2_with fail
        refine (HC.out _).mono ?_
        rintro e w2 ⟨rfl, hb2⟩
        have hB2 := hB.below hb2 hB.lt
        have hbz := hb1.trans (hb2.mono hb1.size)
        clear c0 c1 hB hb1 hb2
        have c0 := hB2.cell 0
        have c1 := hB2.cell 1
        by_cases hC : C = 0
        · have HX := Lib.hid (show N = E by rw [HEQ.out, if_pos hC])
          have hC' : (C != 0) = false := by simpa using hC
          clear hC
          go_wp2_with fail
          go_roundw
          case rel => exact ⟨j + 1, by omega, by go_num, by rw [H3.out], HN.out.trans HX.out, hbz⟩
          case measure => simp [intOf]; omega
        · have HX := Lib.hid (show E = C by rw [HEQ.out, if_neg hC])
          have hC' : (C != 0) = true := by simpa using hC
          clear hC
          go_wp2_with fail
          go_ret
          exact ⟨ret_int (by rw [HX.out]), hbz⟩
      · obtain rfl : j = l.length := by omega
        have HX := Lib.hid (show E = 0 by rw [← hfr, HEN.out])
        clear hfr
        go_wp2_with fail
        go_ret
        exact ⟨ret_int (by rw [HX.out]), hbr⟩
end Go.Proofs.Ytdacdiigeainmaa

/- Overlaps (package batch). -/

namespace Go.Proofs.Ytdacdiigeainmaa
open Go.RowKit
set_option linter.unusedVariables false
set_option linter.unusedSimpArgs false

def lenV : Value → Nat
  | .slice _ n _ => n
  | _ => 0
def ovE (a b : List (Int × Int)) : Int := orE (frsErr a) (frsErr b)
def ovR (a b : List (Int × Int)) : List (Int × Int) := if ovE a b = 0 then ovP a b else []
theorem longE_any (f t : Int) (w : World) :
    Calls Try.prog 32 #[.agg #[.int .i64 f, .int .i64 t]] w fun e w' => e = .returned (.int .i64 (IntKind.i64.wrap (t - f))) ∧ Below w.heap.size w w' := by
  have hbw : Below w.heap.size w (w.alloc (.cells #[.int .i64 f, .int .i64 t] 49)) := (Below.refl _ w).alloc (Nat.le_refl _) _
  have hw : ∃ z, IntKind.i64.wrap (t - f) = z := ⟨_, rfl⟩
  obtain ⟨z, hz⟩ := hw
  rw [hz]
  go_enter Try.func32, Try.ntmps32
  go_wp2_with fail
  go_ret
  exact ⟨ret_int (by first | rfl | exact hz), hbw⟩
theorem frs_zero {l : List (Int × Int)} (h : frsErr l = 0) : FrR 0 l := by
  unfold frsErr at h
  split at h
  · omega
  · exact frR_of h

theorem RdWdw.rest {W : World} {b off na ga : Nat} {x : Int × Int} {l : List (Int × Int)} (h : RdWdw W (.slice (some ⟨b, off, none⟩) na ga) (x :: l)) (hna : na = l.length + 1) (q : Option Addr) (hq : ga ≠ 1 → q = some ⟨b, off + 2, none⟩) : RdWdw W (.slice q (na - 1) (ga - 1)) l := by
  have hg : l.length + 1 ≤ ga := by
    obtain ⟨_, pa, ca, hv, h2, _⟩ := h
    cases hv
    simpa using h2
  have h1 := RdWdw.tail h q (fun hl => hq (by omega))
  rw [show na - 1 = l.length by omega]
  exact h1

set_option maxRecDepth 100000 in
set_option maxHeartbeats 8000000 in
theorem overlaps_any (va vb : Value) (a b : List (Int × Int)) (w : World) (hA : RdWdw w va a) (hB : RdWdw w vb b) (hla : a.length ≤ 50) (hlb : b.length ≤ 50) :
    Calls Try.prog 13 #[va, vb] w fun e w' => ∃ vr, e = .returned (.tuple #[vr, .int .i64 (sumW2 (ovR a b)), .int .i64 (ovE a b)]) ∧ RdWdw w' vr (ovR a b) ∧ Below w.heap.size w w' := by
  obtain ⟨pa, ca, rfl⟩ := hA.lenv
  obtain ⟨pb, cb, rfl⟩ := hB.lenv
  have hE : ovE a b = orE (frsErr a) (frsErr b) := rfl
  have hRR : ovR a b = if ovE a b = 0 then ovP a b else [] := rfl
  have HZA := Lib.hid (fun h : frsErr a = 0 => frs_zero h)
  have HZB := Lib.hid (fun h : frsErr b = 0 => frs_zero h)
  have HCA := Lib.hid (fun W (h : RdWdw W (.slice pa a.length ca) a) => checkFramesG_any _ a W h (by omega))
  have HCB := Lib.hid (fun W (h : RdWdw W (.slice pb b.length cb) b) => checkFramesG_any _ b W h (by omega))
  generalize frsErr a = EA at *
  generalize frsErr b = EB at *
  generalize ovR a b = R at *
  generalize ovE a b = E at *
  have HE := Lib.hid hE
  have HRR := Lib.hid hRR
  have HA := Lib.hid hA
  have HB := Lib.hid hB
  clear hE hRR hA hB
  go_enter Try.func13, Try.ntmps13
  go_wp2_with fail
  refine (HCA.out _ HA.out).mono ?_
  rintro e w1 ⟨rfl, hb1⟩
  by_cases hEA : EA = 0
  · have hEA' : (EA != 0) = false := by simpa using hEA
    have HE2 := Lib.hid (show E = EB by rw [HE.out]; exact orE_left hEA)
    have HFA := Lib.hid (HZA.out hEA)
    clear hEA HE HZA
    go_wp2_with fail
    refine (HCB.out _ (Rd.below HB.out hb1)).mono ?_
    rintro e w2 ⟨rfl, hb2⟩
    have hbw := hb1.trans (hb2.mono hb1.size)
    clear hb1 hb2
    by_cases hEB : EB = 0
    · have hEB' : (EB != 0) = false := by simpa using hEB
      have HX := Lib.hid (show E = 0 by rw [HE2.out, hEB])
      have HY := Lib.hid (show R = ovP a b by rw [HRR.out, HX.out]; rfl)
      have HFB := Lib.hid (HZB.out hEB)
      have HBW := Lib.hid hbw
      clear hEB HE2 HZB hbw
      go_wp2_with fail
      go_loopw [0, 1, 9, 10] (fun sa sb o s wr => ∃ (la lb out : List (Int × Int)) (e f : Int), RdWdw w sa la ∧ RdWdw w sb lb ∧ s = .int .i64 (sumW2 out) ∧ StW w2 o out wr ∧ out ++ ovP la lb = ovP a b ∧ FrR e la ∧ FrR f lb ∧ (∀ z ∈ out, 0 ≤ z.1 ∧ z.1 < z.2 ∧ z.2 ≤ 345686400000) ∧ out.length + la.length + lb.length ≤ 100) (fun sa sb _ _ _ => lenV sa + lenV sb)
      case atStart => exact ⟨a, b, [], 0, 0, HA.out, HB.out, rfl, ⟨World.ownsRow_nil _ _ _ _, Below.refl _ _⟩, by simp, HFA.out, HFB.out, fun z hz => by simp at hz, by simp; omega⟩
      case round =>
        obtain ⟨la, lb, out, e, f, hra, hrb, rfl, hst, hov, hfa, hfb, hob, hln⟩ := hrel
        obtain ⟨qa, da, rfl⟩ := hra.lenv
        obtain ⟨qb, db, rfl⟩ := hrb.lenv
        have hfin : ovP la lb = [] → StW w2 u9 R wr ∧ sumW2 out = sumW2 R := fun h => by
          have e1 : out = R := by rw [HY.out, ← hov, h, List.append_nil]
          rw [← e1]
          exact ⟨hst, rfl⟩
        have HFIN := Lib.hid hfin
        clear hfin
        cases la with
        | nil =>
          obtain ⟨hst2, hsm⟩ := HFIN.out (ovP_nil _)
          clear hst
          go_wp2_with fail
          refine bodyPost_ret (v := .tuple #[u9, .int .i64 (sumW2 out), .int .i64 0]) (by simp [results, Try.results13, go_sem]) rfl ⟨_, by rw [HX.out, hsm], Rd.of_own hst2.own, HBW.out.trans (hst2.bl.mono HBW.out.size)⟩
        | cons x la =>
          cases lb with
          | nil =>
            obtain ⟨hst2, hsm⟩ := HFIN.out (ovP_nil2 _)
            clear hst
            go_wp2_with fail
            refine bodyPost_ret (v := .tuple #[u9, .int .i64 (sumW2 out), .int .i64 0]) (by simp [results, Try.results13, go_sem]) rfl ⟨_, by rw [HX.out, hsm], Rd.of_own hst2.own, HBW.out.trans (hst2.bl.mono HBW.out.size)⟩
          | cons y lb =>
            have hbwr := HBW.out.trans (hst.bl.mono HBW.out.size)
            obtain ⟨ba, fa, ga, hv, hd1, hd2, hblt, hcell⟩ := RdWdw.at_ hra (by simp)
            cases hv
            obtain ⟨bb, fb, gb, hv, hd3, hd4, hblt2, hcell2⟩ := RdWdw.at_ hrb (by simp)
            cases hv
            unfold maxLen at hd2 hd4
            obtain ⟨a0, a1⟩ := hcell 0 (by simp)
            obtain ⟨b0, b1⟩ := hcell2 0 (by simp)
            have hta := fun (q : Option Addr) (hq : 0 < la.length → q = some ⟨ba, fa + 2, none⟩) => RdWdw.tail hra q hq
            have htb := fun (q : Option Addr) (hq : 0 < lb.length → q = some ⟨bb, fb + 2, none⟩) => RdWdw.tail hrb q hq
            have hcons := ovP_cons x y la lb
            simp only [Nat.zero_mul, Nat.add_zero, atW, List.getD_cons_zero] at a0 a1 b0 b1
            simp only [List.length_cons] at hd1 hd3 hln ⊢
            obtain ⟨na, hna⟩ : ∃ n, n = la.length + 1 := ⟨_, rfl⟩
            obtain ⟨nb, hnb⟩ : ∃ n, n = lb.length + 1 := ⟨_, rfl⟩
            rw [← hna] at hd1 ⊢
            rw [← hnb] at hd3 ⊢
            have ia : (0 : Int) < (na : Int) := by omega
            have ib : (0 : Int) < (nb : Int) := by omega
            have ia1 : (1 : Int) ≤ (na : Int) := by omega
            have ib1 : (1 : Int) ≤ (nb : Int) := by omega
            obtain ⟨xa, xb⟩ := x
            obtain ⟨ya, yb⟩ := y
            simp only at a0 a1 b0 b1
            have HCL := Lib.hid (fun (W : World) (h : Below w.heap.size w W) => (show W.cell? ⟨ba, fa + 1, none⟩ = some (.int .i64 xb) ∧ W.cell? ⟨bb, fb + 1, none⟩ = some (.int .i64 yb) from ⟨(Below.cell h hblt).trans a1, (Below.cell h hblt2).trans b1⟩))
            have hba : ba < wr.heap.size := Nat.lt_of_lt_of_le hblt hbwr.size
            have hbb : bb < wr.heap.size := Nat.lt_of_lt_of_le hblt2 hbwr.size
            replace a0 := (Below.cell hbwr hblt).trans a0
            replace a1 := (Below.cell hbwr hblt).trans a1
            replace b0 := (Below.cell hbwr hblt2).trans b0
            replace b1 := (Below.cell hbwr hblt2).trans b1
            have hxb := hfa.1
            have hyb := hfb.1
            simp only at hxb hyb
            have HTA := Lib.hid hta
            have HTB := Lib.hid htb
            have HRA := Lib.hid (show RdWdw w (.slice (some ⟨ba, fa, none⟩) na da) ((xa, xb) :: la) by rw [hna]; exact hra)
            have HRB := Lib.hid (show RdWdw w (.slice (some ⟨bb, fb, none⟩) nb db) ((ya, yb) :: lb) by rw [hnb]; exact hrb)
            have HCO := Lib.hid hcons
            have HNA := Lib.hid hna
            have HNB := Lib.hid hnb
            clear hta htb hcons hna hnb hra hrb hcell hcell2 HFIN hbwr
            obtain ⟨MX, hMX⟩ : ∃ m, m = if xa ≤ ya then ya else xa := ⟨_, rfl⟩
            obtain ⟨MN, hMN⟩ : ∃ m, m = if xb ≤ yb then xb else yb := ⟨_, rfl⟩
            have hovl : ovl (xa, xb) (ya, yb) = if MX < MN then [(MX, MN)] else [] := by unfold ovl; simp only; rw [← hMX, ← hMN]
            have hMb : (0 ≤ MX ∧ MX ≤ 345686400000) ∧ 0 ≤ MN ∧ MN ≤ 345686400000 := by
              rw [hMX, hMN]
              split <;> split <;> omega
            have HMX := Lib.hid hMX
            have HMN := Lib.hid hMN
            have HOL := Lib.hid hovl
            have HST := Lib.hid hst
            clear hMX hMN hovl hst
            go_upto_region 10 with fail
            go_cut [11] (fun s11 wx => s11 = .pointer (some ⟨wr.heap.size, 0, none⟩) ∧ ∃ m, wx = (wr.alloc (.cells #[.int .i64 MX, .int .i64 MN] 49)).drewN m)
            case first =>
              by_cases h1 : xa ≤ ya
              · have k1 := HMX.out
                rw [if_pos h1] at k1
                by_cases h2 : xb ≤ yb
                · have k2 := HMN.out
                  rw [if_pos h2] at k2
                  go_region
                  all_goals go_wp2_with fail
                  all_goals go_meet
                  all_goals exact ⟨rfl, 1, congrArg World.drew (win_eq _ (by omega) (by omega))⟩
                · have k2 := HMN.out
                  rw [if_neg h2] at k2
                  go_region
                  all_goals go_wp2_with fail
                  all_goals go_meet
                  all_goals exact ⟨rfl, 1, congrArg World.drew (win_eq _ (by omega) (by omega))⟩
              · have k1 := HMX.out
                rw [if_neg h1] at k1
                by_cases h2 : xb ≤ yb
                · have k2 := HMN.out
                  rw [if_pos h2] at k2
                  go_region
                  all_goals go_wp2_with fail
                  all_goals go_meet
                  all_goals exact ⟨rfl, 1, congrArg World.drew (win_eq _ (by omega) (by omega))⟩
                · have k2 := HMN.out
                  rw [if_neg h2] at k2
                  go_region
                  all_goals go_wp2_with fail
                  all_goals go_meet
                  all_goals exact ⟨rfl, 1, congrArg World.drew (win_eq _ (by omega) (by omega))⟩
            case rest =>
              obtain ⟨rfl, m, rfl⟩ := hcut
              have hq1 : Blk ((wr.alloc (.cells #[.int .i64 MX, .int .i64 MN] 49)).drewN m) wr.heap.size 49 #[.int .i64 MX, .int .i64 MN] := (Blk.new wr _ _).drewN m
              have hst3 := (HST.out.alloc (.cells #[.int .i64 MX, .int .i64 MN] 49)).drewN m
              have hoQ := own_lt HST.out.own
              clear HST a0 a1 b0 b1
              generalize (wr.alloc (.cells #[.int .i64 MX, .int .i64 MN] 49)).drewN m = w5 at *
              generalize wr.heap.size = Q at *
              have m0 := hq1.cell 0
              have m1 := hq1.cell 1
              have hsb := sumW2_bound hob
              have hol : out.length ≤ 100 := by omega
              by_cases hmm : MX < MN
              · have HE := Lib.hid (show out ++ ovl (xa, xb) (ya, yb) = out ++ [(MX, MN)] by rw [HOL.out, if_pos hmm])
                have ho := hst3.alloc (.cells #[.int .i64 MX, .int .i64 MN] 49)
                have hq4 := hq1.alloc (.cells #[.int .i64 MX, .int .i64 MN] 49)
                have HO := Lib.hid ho
                have HQ4 := Lib.hid hq4
                have hso := ho.bl.size
                have hlw : IntKind.i64.wrap (MN - MX) = MN - MX := IntWalk.i64_in _ (by omega)
                have hsw : IntKind.i64.wrap (sumW2 out + (MN - MX)) = sumW2 out + (MN - MX) := IntWalk.i64_in _ (by omega)
                have HLG := Lib.hid (fun W => longE_any MX MN W)
                rw [hlw] at HLG
                have HSN := Lib.hid (sumW2_snoc out (MX, MN))
                clear ho hq4 hst3 hq1
                go_wp2_with (at_builtin; go_loud (refine wpList_append_wdw2 rfl (.tmp 54) (.tmp 56) rfl w2.heap.size _ _ out rfl (by exact HO.out.own) w5.heap.size rfl (MX, MN) (by exact Blk.new _ _ _) (by omega) (by exact hso) ?_); intro v1 wd hown1 hgrow1 hwh1; have hQ6 := blk_grown hgrow1 HQ4.out (fun e => hoQ e.symm); have n0 := hQ6.cell 0; have n1 := hQ6.cell 1)
                have hS6 := HO.out.grown _ hgrow1 hown1
                refine (HLG.out _).mono ?_
                rintro e w6 ⟨rfl, hb6⟩
                have hS7 := hS6.step hb6
                clear hown1 hgrow1 hwh1 hQ6 hS6 hb6 n0 n1
                have hob2 : ∀ z ∈ out ++ [(MX, MN)], 0 ≤ z.1 ∧ z.1 < z.2 ∧ z.2 ≤ 345686400000 := by
                  intro z hz
                  rcases List.mem_append.1 hz with hz | hz
                  · exact hob z hz
                  · rw [List.mem_singleton.1 hz]; exact ⟨hMb.1.1, hmm, hMb.2.2⟩
                have hbc := HBW.out.trans (hS7.bl.mono HBW.out.size)
                obtain ⟨a1, b1⟩ := HCL.out _ hbc
                have HS8 := Lib.hid (fun m => hS7.drewN m)
                have HOB := Lib.hid hob2
                by_cases hxy : xb < yb
                · have hd : decide (xb < yb) = true := decide_eq_true hxy
                  have HOV2 := Lib.hid (show (out ++ [(MX, MN)]) ++ ovP la ((ya, yb) :: lb) = ovP a b by rw [← hov, HCO.out, if_pos hxy, ← List.append_assoc, HE.out])
                  have HFA2 := Lib.hid hfa.2.2
                  have HFB2 := Lib.hid hfb
                  clear hbc hS7 hxy
                  go_upto_region 14 with fail
                  go_quiet (fail)
                  by_cases hg : da = 1
                  · go_wp2_with fail
                    go_roundw
                    case rel => exact ⟨la, (ya, yb) :: lb, (out ++ [(MX, MN)]), _, _, (by have h := RdWdw.rest HRA.out HNA.out (some ⟨ba, fa, none⟩) (fun h => absurd hg h); rw [hg] at h; exact h), HRB.out, by rw [HSN.out], HS8.out _, HOV2.out, HFA2.out, HFB2.out, HOB.out, by have := HNA.out; have := HNB.out; simp; omega⟩
                    case measure => have := HNA.out; have := HNB.out; simp [lenV]; omega
                  · have hg' : ¬ da = 1 := hg
                    go_wp2_with fail
                    go_roundw
                    case rel => exact ⟨la, (ya, yb) :: lb, (out ++ [(MX, MN)]), _, _, RdWdw.rest HRA.out HNA.out _ (fun _ => rfl), HRB.out, by rw [HSN.out], HS8.out _, HOV2.out, HFA2.out, HFB2.out, HOB.out, by have := HNA.out; have := HNB.out; simp; omega⟩
                    case measure => have := HNA.out; have := HNB.out; simp [lenV]; omega
                · have hd : decide (xb < yb) = false := decide_eq_false hxy
                  have HOV2 := Lib.hid (show (out ++ [(MX, MN)]) ++ ovP ((xa, xb) :: la) lb = ovP a b by rw [← hov, HCO.out, if_neg hxy, ← List.append_assoc, HE.out])
                  have HFA2 := Lib.hid hfa
                  have HFB2 := Lib.hid hfb.2.2
                  clear hbc hS7 hxy
                  go_upto_region 14 with fail
                  go_quiet (fail)
                  by_cases hg : db = 1
                  · go_wp2_with fail
                    go_roundw
                    case rel => exact ⟨(xa, xb) :: la, lb, (out ++ [(MX, MN)]), _, _, HRA.out, (by have h := RdWdw.rest HRB.out HNB.out (some ⟨bb, fb, none⟩) (fun h => absurd hg h); rw [hg] at h; exact h), by rw [HSN.out], HS8.out _, HOV2.out, HFA2.out, HFB2.out, HOB.out, by have := HNA.out; have := HNB.out; simp; omega⟩
                    case measure => have := HNA.out; have := HNB.out; simp [lenV]; omega
                  · have hg' : ¬ db = 1 := hg
                    go_wp2_with fail
                    go_roundw
                    case rel => exact ⟨(xa, xb) :: la, lb, (out ++ [(MX, MN)]), _, _, HRA.out, RdWdw.rest HRB.out HNB.out _ (fun _ => rfl), by rw [HSN.out], HS8.out _, HOV2.out, HFA2.out, HFB2.out, HOB.out, by have := HNA.out; have := HNB.out; simp; omega⟩
                    case measure => have := HNA.out; have := HNB.out; simp [lenV]; omega
              · have HE := Lib.hid (show out ++ ovl (xa, xb) (ya, yb) = out by rw [HOL.out, if_neg hmm, List.append_nil])
                have hmm' : MN ≤ MX := by omega
                clear hq1
                have hbc := HBW.out.trans (hst3.bl.mono HBW.out.size)
                obtain ⟨a1, b1⟩ := HCL.out _ hbc
                have HS8 := Lib.hid (fun m => hst3.drewN m)
                have HOB := Lib.hid (show ∀ z ∈ out, 0 ≤ z.1 ∧ z.1 < z.2 ∧ z.2 ≤ 345686400000 from hob)
                by_cases hxy : xb < yb
                · have hd : decide (xb < yb) = true := decide_eq_true hxy
                  have HOV2 := Lib.hid (show out ++ ovP la ((ya, yb) :: lb) = ovP a b by rw [← hov, HCO.out, if_pos hxy, ← List.append_assoc, HE.out])
                  have HFA2 := Lib.hid hfa.2.2
                  have HFB2 := Lib.hid hfb
                  clear hbc hst3 hxy
                  go_upto_region 14 with fail
                  go_quiet (fail)
                  by_cases hg : da = 1
                  · go_wp2_with fail
                    go_roundw
                    case rel => exact ⟨la, (ya, yb) :: lb, out, _, _, (by have h := RdWdw.rest HRA.out HNA.out (some ⟨ba, fa, none⟩) (fun h => absurd hg h); rw [hg] at h; exact h), HRB.out, rfl, HS8.out _, HOV2.out, HFA2.out, HFB2.out, HOB.out, by have := HNA.out; have := HNB.out; simp; omega⟩
                    case measure => have := HNA.out; have := HNB.out; simp [lenV]; omega
                  · have hg' : ¬ da = 1 := hg
                    go_wp2_with fail
                    go_roundw
                    case rel => exact ⟨la, (ya, yb) :: lb, out, _, _, RdWdw.rest HRA.out HNA.out _ (fun _ => rfl), HRB.out, rfl, HS8.out _, HOV2.out, HFA2.out, HFB2.out, HOB.out, by have := HNA.out; have := HNB.out; simp; omega⟩
                    case measure => have := HNA.out; have := HNB.out; simp [lenV]; omega
                · have hd : decide (xb < yb) = false := decide_eq_false hxy
                  have HOV2 := Lib.hid (show out ++ ovP ((xa, xb) :: la) lb = ovP a b by rw [← hov, HCO.out, if_neg hxy, ← List.append_assoc, HE.out])
                  have HFA2 := Lib.hid hfa
                  have HFB2 := Lib.hid hfb.2.2
                  clear hbc hst3 hxy
                  go_upto_region 14 with fail
                  go_quiet (fail)
                  by_cases hg : db = 1
                  · go_wp2_with fail
                    go_roundw
                    case rel => exact ⟨(xa, xb) :: la, lb, out, _, _, HRA.out, (by have h := RdWdw.rest HRB.out HNB.out (some ⟨bb, fb, none⟩) (fun h => absurd hg h); rw [hg] at h; exact h), rfl, HS8.out _, HOV2.out, HFA2.out, HFB2.out, HOB.out, by have := HNA.out; have := HNB.out; simp; omega⟩
                    case measure => have := HNA.out; have := HNB.out; simp [lenV]; omega
                  · have hg' : ¬ db = 1 := hg
                    go_wp2_with fail
                    go_roundw
                    case rel => exact ⟨(xa, xb) :: la, lb, out, _, _, HRA.out, RdWdw.rest HRB.out HNB.out _ (fun _ => rfl), rfl, HS8.out _, HOV2.out, HFA2.out, HFB2.out, HOB.out, by have := HNA.out; have := HNB.out; simp; omega⟩
                    case measure => have := HNA.out; have := HNB.out; simp [lenV]; omega
    · have hEB' : (EB != 0) = true := by simpa using hEB
      have HX := Lib.hid (show E = EB from HE2.out)
      have HY := Lib.hid (show R = [] by rw [HRR.out, HX.out, if_neg hEB])
      clear hEB
      go_wp2_with fail
      refine bodyPost_ret (v := .tuple #[.slice none 0 0, .int .i64 0, .int .i64 EB]) (by simp [results, Try.results13, go_sem]) rfl ⟨_, by rw [HX.out, HY.out]; rfl, by rw [HY.out]; exact Rd.nil _ _ _, hbw⟩
  · have hEA' : (EA != 0) = true := by simpa using hEA
    have HX := Lib.hid (show E = EA by rw [HE.out]; exact orE_first hEA)
    have HY := Lib.hid (show R = [] by rw [HRR.out, HX.out, if_neg hEA])
    clear hEA
    go_wp2_with fail
    refine bodyPost_ret (v := .tuple #[.slice none 0 0, .int .i64 0, .int .i64 EA]) (by simp [results, Try.results13, go_sem]) rfl ⟨_, by rw [HX.out, HY.out]; rfl, by rw [HY.out]; exact Rd.nil _ _ _, hb1⟩
end Go.Proofs.Ytdacdiigeainmaa

/- pressed() is true: package compress reconstructs. -/

namespace Go.Proofs.Ytdacdiigeainmaa
open Go.RowKit
set_option linter.unusedVariables false
set_option linter.unusedSimpArgs false

theorem RdS.lit (w : World) (l : List Smp) (h : l.length ≤ 1000000) : RdS (w.alloc (.cells (cellsOf l).toArray 55)) 55 (.slice (some ⟨w.heap.size, 0, none⟩) l.length l.length) l :=
  ⟨cellsOf_length l, _, _, rfl, Nat.le_refl _, by simp only [maxLen]; omega, fun _ => ⟨w.heap.size, 0, _, _, rfl, heap_alloc_new w _, fun j hj => by simp⟩⟩
theorem fint_size : (Try.prog.info? 3).map (fun i => (i.zero, i.size, i.bytes)) = some (some (.int .i64 0), 1, 8) := by kernel_rfl
theorem ffields2 {fs : List Field} {a b : String × TypeId × Nat} (h : fs.map (fun f => (f.name, f.type, f.offset)) = [a, b]) :
    ∃ f g : Field, fs = [f, g] ∧ f.name = a.1 ∧ f.type = a.2.1 ∧ f.offset = a.2.2 ∧ g.name = b.1 ∧ g.type = b.2.1 ∧ g.offset = b.2.2 := by
  match fs, h with
  | [f, g], h =>
    simp only [List.map_cons, List.map_nil, List.cons.injEq, and_true] at h
    obtain ⟨h1, h2⟩ := h
    exact ⟨f, g, rfl, by rw [← h1], by rw [← h1], by rw [← h1], by rw [← h2], by rw [← h2], by rw [← h2]⟩
theorem pressed_E : rcE [⟨0, 0, 0⟩, ⟨4, 2, 0⟩] 1 = 0 := by
  simp [rcE, serErr, serFrom, smpErr, inB, notAfter]
theorem pressed_O : reconOf [⟨0, 0, 0⟩, ⟨4, 2, 0⟩] 1 = some (1, 2) := by
  simp [reconOf, posF, atS, lineAt, fracOf, Int.gcd]
theorem pressed_V : rcV [⟨0, 0, 0⟩, ⟨4, 2, 0⟩] 1 = (1, 2) := by
  simp [rcV, reconV, pressed_E, pressed_O]
theorem pressed_B : rcB [⟨0, 0, 0⟩, ⟨4, 2, 0⟩] 1 = true := by
  simp [rcB, reconB, pressed_E, pressed_O]

end Go.Proofs.Ytdacdiigeainmaa

/- slices.Equal at windows, of one list. No condition. -/

namespace Go.Proofs.Ytdacdiigeainmaa
open Go.RowKit
set_option linter.unusedVariables false
set_option linter.unusedSimpArgs false

theorem wdw_held : Try.prog.stoodInHeld 49 = false := by kernel_rfl
theorem wdw_guard : Try.prog.eqGuardType Try.prog.depth 49 = false := by kernel_rfl
theorem wdw_fields : (Try.prog.fieldsOf 49).toList.map (fun f => (f.name, f.type, f.offset)) = [("From", 3, 0), ("To", 3, 1)] := by kernel_rfl
theorem wdw_under : Try.prog.underlying 49 = some (.struct (Try.prog.fieldsOf 49)) := by kernel_rfl
theorem wdw_eqIn9 (w : World) (x y : Int × Int) : (Op.equalIn 9999 49 (.agg #[.int .i64 x.1, .int .i64 x.2]) (.agg #[.int .i64 y.1, .int .i64 y.2])).run Try.prog w = .ok (decide (x = y)) w := by
  obtain ⟨f, g, hf, f1, f2, f3, g1, g2, g3⟩ := ffields2 wdw_fields
  obtain ⟨i0, hi0, hz0, hz1, hz2⟩ := info_parts fint_size
  obtain ⟨t, v⟩ := x
  obtain ⟨t', v'⟩ := y
  rw [run_equalIn_struct w 9998 49 _ _ wdw_under wdw_held, hf]
  simp [Op.eqFields, f1, f2, f3, g1, g2, g3, part, sizeOf, typeInfo, hi0, hz1, go_sem, Try.underlying3]
  by_cases h1 : t = t' <;> by_cases h2 : v = v' <;> simp [h1, h2, Result.andThen]
theorem wdw_eqIn0 (w : World) (x y : Int × Int) : (Op.equalIn 10000 49 (.agg #[.int .i64 x.1, .int .i64 x.2]) (.agg #[.int .i64 y.1, .int .i64 y.2])).run Try.prog w = .ok (decide (x = y)) w := by
  obtain ⟨f, g, hf, f1, f2, f3, g1, g2, g3⟩ := ffields2 wdw_fields
  obtain ⟨i0, hi0, hz0, hz1, hz2⟩ := info_parts fint_size
  obtain ⟨t, v⟩ := x
  obtain ⟨t', v'⟩ := y
  rw [run_equalIn_struct w 9999 49 _ _ wdw_under wdw_held, hf]
  simp [Op.eqFields, f1, f2, f3, g1, g2, g3, part, sizeOf, typeInfo, hi0, hz1, go_sem, Try.underlying3]
  by_cases h1 : t = t' <;> by_cases h2 : v = v' <;> simp [h1, h2, Result.andThen]
theorem wdw_neq (w : World) (x : Int × Int) : (binOp .neq 49 (.agg #[.int .i64 x.1, .int .i64 x.2]) (.agg #[.int .i64 x.1, .int .i64 x.2])).run Try.prog w = .ok (.bool false) w := by
  have h := wdw_eqIn0 w x x
  rw [run_neq_struct, h]
  simp

set_option maxRecDepth 100000 in
set_option maxHeartbeats 1000000 in
theorem equalW_same (v v' : Value) (l : List (Int × Int)) (w : World) (hR : RdWdw w v l) (hR' : RdWdw w v' l) :
    Calls Try.prog 19 #[v, v'] w fun e w' => e = .returned (.bool true) ∧ ∃ m, w' = w.drewN m := by
  rcases Nat.eq_zero_or_pos l.length with h0 | h0
  · obtain rfl := List.eq_nil_of_length_eq_zero h0
    obtain ⟨_, a, c, rfl, _, _, _⟩ := hR
    obtain ⟨_, a', c', rfl, _, _, _⟩ := hR'
    clear h0
    go_enter Try.func19, Try.ntmps19
    go_wp2_with fail
    refine wp_loop_rounds 1 ?_
    rw [rounds_succ]
    go_wp2_with fail
    go_ret
    exact ⟨rfl, 0, rfl⟩
  · obtain ⟨b, off, c, rfl, hc1, hc2, hblt, hcell⟩ := RdWdw.cells hR h0
    obtain ⟨b', off', c', rfl, hc1', hc2', hblt', hcell'⟩ := RdWdw.cells hR' h0
    unfold maxLen at hc2 hc2'
    have HC := Lib.hid hcell
    have HC' := Lib.hid hcell'
    have hgd := wdw_guard
    clear hcell hcell' hR hR'
    go_enter Try.func19, Try.ntmps19
    go_wp2_with fail
    go_loopw [13] (fun i wr => ∃ j : Nat, j ≤ l.length ∧ i = .int .i64 (j : Int) ∧ ∃ m, wr = w.drewN m) (fun i _ => l.length - (intOf i).toNat)
    case atStart => exact ⟨0, by omega, rfl, 0, rfl⟩
    case round =>
      obtain ⟨j, hj, rfl, m, rfl⟩ := hrel
      by_cases hlt : j < l.length
      · obtain ⟨c0, c1⟩ := HC.out j hlt
        obtain ⟨d0, d1⟩ := HC'.out j hlt
        generalize l[j] = x at *
        have hneq := fun w => wdw_neq w x
        go_wp2_with fail
        go_quiet (fail)
        go_wp2_with fail
        go_roundw
        case rel => exact ⟨j + 1, by omega, by go_num, _, rfl⟩
        case measure => simp [intOf]; omega
      · obtain rfl : j = l.length := by omega
        go_wp2_with fail
        go_ret
        exact ⟨rfl, m, rfl⟩
end Go.Proofs.Ytdacdiigeainmaa
