import Derived.Test.YtdacdiigeainmaaMkd
import Derived.Test.YtdacdiigeainmaaMkt
import Derived.Test.YtdacdiigeainmaaQf01
import Derived.Test.YtdacdiigeainmaaFrof
import Derived.Test.YtdacdiigeainmaaQf02
import Derived.Test.YtdacdiigeainmaaCurve
import Derived.Test.YtdacdiigeainmaaOr
import Derived.Test.YtdacdiigeainmaaKmm
import Derived.Test.YtdacdiigeainmaaSer
import Derived.Test.YtdacdiigeainmaaMkl
/- FramesFound: the walk of the law, over a contract of FrameList. -/

namespace Go.Proofs.Ytdacdiigeainmaa
open Go.RowKit
set_option linter.unusedVariables false
set_option linter.unusedSimpArgs false

/-- What the law keeps. -/
structure FfK (w0 : World) (n : Nat) (t : Trg) (v va vb : Value) (l : List Smp) (a b : List (Int × Int)) (W : World) : Prop where
  tb : Blk W n 27 (trgCells t)
  rs : RdS W 55 v l
  ra : RdWdw W va a
  rb : RdWdw W vb b
  lo : Below w0.heap.size w0 W
section
variable {w0 W W' : World} {n : Nat} {t : Trg} {v va vb : Value} {l : List Smp} {a b : List (Int × Int)}
theorem FfK.step (h : FfK w0 n t v va vb l a b W) (hb : Below W.heap.size W W') : FfK w0 n t v va vb l a b W' :=
  ⟨h.tb.below hb h.tb.lt, Rd.below h.rs hb, Rd.below h.ra hb, Rd.below h.rb hb, h.lo.trans (hb.mono h.lo.size)⟩
theorem FfK.alloc (h : FfK w0 n t v va vb l a b W) (o : Obj) : FfK w0 n t v va vb l a b (W.alloc o) := h.step ((Below.refl _ W).alloc (Nat.le_refl _) o)
end

set_option maxRecDepth 100000 in
set_option maxHeartbeats 8000000 in
theorem framesFound_of (HFL : ∀ (W : World) (g : Nat) (L : List Int) (A : Option Addr) (cap k : Nat), Strm W g L A cap k → k ≤ 700000000 → Calls Try.prog 7 #[.pointer (some ⟨g, 0, none⟩)] W (FlEnd W g L A cap k))
    (HBT : ∀ W, Calls Try.prog 20 #[] W fun e w' => e = .returned (.bool true) ∧ Below W.heap.size W w')
    (w : World) (L : List Int) (A : Option Addr) (cap : Nat) (hc : ∀ i, i < L.length → ∃ ad : Addr, A = some ad ∧ ad.block < w.heap.size ∧ w.cell? (ad.add i) = some (.int .i64 (L.getD i 0)))
    (hl : L.length ≤ 9223372036854775807) (hwf : ∀ i, -9223372036854775808 ≤ L.getD i 0 ∧ L.getD i 0 ≤ 9223372036854775807) :
    Calls Try.prog 3 #[.slice A L.length cap] w fun e w' => e = .returned (.bool true) ∧ Below w.heap.size w w' := by
  have hS0 : Strm (w.alloc (.cells #[.slice A L.length cap, .int .i64 0] 25)) w.heap.size L A cap 0 :=
    ⟨heap_alloc_new w _, fun i hi => by
      obtain ⟨ad, e, hb, hcell⟩ := hc i hi
      exact ⟨ad, e, hb, by rw [World.cell?_alloc_lt _ _ _ (by rw [addr_add_block]; exact hb)]; exact hcell⟩, hl, hwf⟩
  have HS0 := Lib.hid hS0
  have HL := Lib.hid HFL
  have HB := Lib.hid HBT
  clear hS0 hc hwf HFL HBT
  go_enter Try.func3, Try.ntmps3
  go_wp2_with fail
  refine (triggerOf_went _ w.heap.size L A cap 0 HS0.out (by omega)).mono ?_
  rintro e w1 ⟨st, sp, jn, ls, k0, rfl, hst, hsp, hjn, hls, hk0, hw1⟩
  go_wp2_with fail
  refine (curve_went _ w.heap.size L A cap k0 12 hw1.1 (by omega) (by omega)).mono ?_
  rintro e w2 ⟨v, rfl, l, k1, hown, hlen, hnear, hk1, hw2⟩
  have hrd2 : RdS w2 55 v l := Rd.of_own hown
  clear hown
  go_wp2_with fail
  refine (pick_new _ _ w.heap.size L A cap k1 [0, 30, 60, 200, 345686400000, -1] hw2.1 rfl (by omega) (by simp)).mono ?_
  rintro e w3 ⟨rfl, hw3⟩
  have hum := pk_mem [0, 30, 60, 200, 345686400000, -1] L k1 (by simp)
  simp only [List.mem_cons, List.not_mem_nil, or_false] at hum
  generalize pk [0, 30, 60, 200, 345686400000, -1] L k1 = u at *
  have hub : -1 ≤ u ∧ u ≤ 345686400000 := by omega
  clear hum
  have hrd3 : RdS w3 55 v l := Rd.but hw2.1 (by decide) hrd2 hw3.2
  go_wp2_with fail
  refine (HL.out _ w.heap.size L A cap (k1 + 1) hw3.1 (by omega)).mono ?_
  rintro e w4 ⟨va, a, k4, rfl, hra4, hla, hk4, hw4⟩
  have hrd4 : RdS w4 55 v l := Rd.but hw3.1 (by decide) hrd3 hw4.2
  go_wp2_with fail
  refine (HL.out _ w.heap.size L A cap k4 hw4.1 (by omega)).mono ?_
  rintro e w5 ⟨vb, b, k5, rfl, hrb5, hlb, hk5, hw5⟩
  have hrd5 : RdS w5 55 v l := Rd.but hw4.1 (by decide) hrd4 hw5.2
  have hra5 : RdWdw w5 va a := Rd.but hw4.1 (by decide) hra4 hw5.2
  have hb5 := hw1.2.trans (hw2.2.trans (hw3.2.trans (hw4.2.trans hw5.2)))
  have hlow : Below w.heap.size w w5 := ((Below.refl _ w).alloc (Nat.le_refl _) _).trans ⟨hb5.os, hb5.tape, hb5.output, hb5.size, fun i hi => hb5.block i (by simp; omega) (by omega)⟩
  obtain ⟨pl, cl, rfl⟩ := hrd5.lenv
  obtain ⟨pa, ca, rfl⟩ := hra5.lenv
  obtain ⟨pb, cb, rfl⟩ := hrb5.lenv
  have hk6 : FfK w w5.heap.size ⟨st, sp, jn, ls⟩ (.slice pl l.length cl) (.slice pa a.length ca) (.slice pb b.length cb) l a b (w5.alloc (.cells #[.int .i64 st, .int .i64 sp, .int .i64 jn, .int .i64 ls] 27)) :=
    ⟨Blk.new _ _ _, Rd.alloc hrd5 _, Rd.alloc hra5 _, Rd.alloc hrb5 _, hlow.alloc hlow.size _⟩
  clear hrd2 hrd3 hrd4 hrd5 hra4 hra5 hrb5 hw1 hw2 hw3 hw4 hw5 hb5 hlow hk0 hk1 hk4 hk5 hnear
  have htwo : (orE (frsErr a) (frsErr b) = 0 ∧ ovE a b = 0 ∧ ovR a b = ovA a b ∧ (∀ y ∈ a, 0 ≤ y.1 ∧ y.1 < y.2 ∧ y.2 ≤ 345686400000) ∧ (∀ y ∈ b, 0 ≤ y.1 ∧ y.1 < y.2 ∧ y.2 ≤ 345686400000)) ∨ (orE (frsErr a) (frsErr b) ≠ 0 ∧ ovE a b = orE (frsErr a) (frsErr b) ∧ ovR a b = []) := by
    by_cases h : orE (frsErr a) (frsErr b) = 0
    · obtain ⟨h1, h2⟩ := orE_zero h
      have ha := frs_zero h1
      have hb := frs_zero h2
      exact .inl ⟨h, h, by unfold ovR; rw [if_pos (show ovE a b = 0 from h)]; exact ov_eq _ a b 0 0 (Nat.le_refl _) ha hb, fun y hy => (ha.behind y hy).2, fun y hy => (hb.behind y hy).2⟩
    · exact .inr ⟨h, rfl, by unfold ovR; rw [if_neg (show ¬ ovE a b = 0 from h)]⟩
  have hone : (orOf [trgErr ⟨st, sp, jn, ls⟩, serErr l, spanErr u 0 345686400000] = 0 ∧ serErr l = 0 ∧ (0 ≤ u ∧ u ≤ 345686400000) ∧ frmE ⟨st, sp, jn, ls⟩ l u = (if 2000 < (frmL ⟨st, sp, jn, ls⟩ l u).length then 2 else 0) ∧ frmR ⟨st, sp, jn, ls⟩ l u = (if 2000 < (frmL ⟨st, sp, jn, ls⟩ l u).length then [] else frmL ⟨st, sp, jn, ls⟩ l u)) ∨
      (orOf [trgErr ⟨st, sp, jn, ls⟩, serErr l, spanErr u 0 345686400000] ≠ 0 ∧ frmE ⟨st, sp, jn, ls⟩ l u = orOf [trgErr ⟨st, sp, jn, ls⟩, serErr l, spanErr u 0 345686400000] ∧ frmR ⟨st, sp, jn, ls⟩ l u = []) := by
    have hE : frmE ⟨st, sp, jn, ls⟩ l u = if trgErr ⟨st, sp, jn, ls⟩ ≠ 0 then trgErr ⟨st, sp, jn, ls⟩ else if serErr l ≠ 0 then serErr l else if inB u 0 345686400000 = false then 1 else if 2000 < (frmL ⟨st, sp, jn, ls⟩ l u).length then 2 else 0 := rfl
    have hR : frmR ⟨st, sp, jn, ls⟩ l u = if frmE ⟨st, sp, jn, ls⟩ l u = 0 then frmL ⟨st, sp, jn, ls⟩ l u else [] := rfl
    have hO : orOf [trgErr ⟨st, sp, jn, ls⟩, serErr l, spanErr u 0 345686400000] = if trgErr ⟨st, sp, jn, ls⟩ ≠ 0 then trgErr ⟨st, sp, jn, ls⟩ else if serErr l ≠ 0 then serErr l else if spanErr u 0 345686400000 ≠ 0 then spanErr u 0 345686400000 else 0 := rfl
    have hP : spanErr u 0 345686400000 = if inB u 0 345686400000 = true then 0 else 1 := rfl
    have hU := @inB_true u 0 345686400000
    rw [hR, hO, hP]
    rw [hE]
    generalize trgErr ⟨st, sp, jn, ls⟩ = TE at *
    generalize frmL ⟨st, sp, jn, ls⟩ l u = FL at *
    by_cases h1 : TE = 0
    · by_cases h2 : serErr l = 0
      · cases h3 : inB u 0 345686400000
        · refine .inr ?_
          simp [h1, h2]
        · refine .inl ⟨by simp [h1, h2], h2, hU.1 h3, by simp [h1, h2], ?_⟩
          by_cases h4 : 2000 < FL.length
          · simp [h1, h2, h4]
          · simp [h1, h2, h4]
      · refine .inr ?_
        simp [h1, h2]
    · refine .inr ?_
      simp [h1]
  have HTF := Lib.hid (fun W => triggerFault_any ⟨st, sp, jn, ls⟩ W)
  have HCT := Lib.hid (fun W => checkTrigger_any ⟨st, sp, jn, ls⟩ W)
  have HFA := Lib.hid (fun W (h : RdWdw W (.slice pa a.length ca) a) => frameFault_any _ a W h (by omega))
  have HFB := Lib.hid (fun W (h : RdWdw W (.slice pb b.length cb) b) => frameFault_any _ b W h (by omega))
  have HCA := Lib.hid (fun W (h : RdWdw W (.slice pa a.length ca) a) => checkFramesG_any _ a W h (by omega))
  have HFR := Lib.hid (fun W (h : RdS W 55 (.slice pl l.length cl) l) => frames_any ⟨st, sp, jn, ls⟩ (.slice pl l.length cl) l u W h)
  have HOV := Lib.hid (fun W (h : RdWdw W (.slice pa a.length ca) a) (h2 : RdWdw W (.slice pb b.length cb) b) => overlaps_any _ _ a b W h h2 (by omega) (by omega))
  have HSF := Lib.hid (fun W (h : RdS W 55 (.slice pl l.length cl) l) => seriesFault_any (.slice pl l.length cl) l W h)
  have HSP := Lib.hid (fun W => spanFault_any u 0 345686400000 W)
  have HFO := Lib.hid (fun W (h : RdS W 55 (.slice pl l.length cl) l) (hS : serErr l = 0) (hu : 0 ≤ u ∧ u ≤ 345686400000) => framesOf_any ⟨st, sp, jn, ls⟩ (.slice pl l.length cl) l u W h hS hu)
  have HOO := Lib.hid (fun W (h : RdWdw W (.slice pa a.length ca) a) (h2 : RdWdw W (.slice pb b.length cb) b) (ha : ∀ y ∈ a, 0 ≤ y.1 ∧ y.1 < y.2 ∧ y.2 ≤ 345686400000) (hb : ∀ y ∈ b, 0 ≤ y.1 ∧ y.1 < y.2 ∧ y.2 ≤ 345686400000) => overlapsOf_any _ _ a b W h h2 (by omega) (by omega) ha hb)
  have htc : trgCells ⟨st, sp, jn, ls⟩ = #[.int .i64 st, .int .i64 sp, .int .i64 jn, .int .i64 ls] := rfl
  rw [htc] at HTF HCT HFR HFO
  go_upto_region 3 with fail
  generalize w5.alloc (.cells #[.int .i64 st, .int .i64 sp, .int .i64 jn, .int .i64 ls] 27) = w6 at *
  generalize w5.heap.size = n at *
  generalize trgErr ⟨st, sp, jn, ls⟩ = TE at *
  generalize frmE ⟨st, sp, jn, ls⟩ l u = FE at *
  generalize frmR ⟨st, sp, jn, ls⟩ l u = FR at *
  generalize frmL ⟨st, sp, jn, ls⟩ l u = FL at *
  generalize (if 2000 < FL.length then (2 : Int) else 0) = IE at *
  generalize (if 2000 < FL.length then [] else FL) = IR at *
  generalize ovE a b = OE at *
  generalize ovR a b = OR at *
  generalize ovA a b = OA at *
  generalize frsErr a = FA at *
  generalize frsErr b = FB at *
  generalize hSE : serErr l = SE at *
  generalize spanErr u 0 345686400000 = SP at *
  have t0 : w6.cell? ⟨n, 0, none⟩ = some (.int .i64 st) := hk6.tb.cell 0
  have t1 : w6.cell? ⟨n, 1, none⟩ = some (.int .i64 sp) := hk6.tb.cell 1
  have t2 : w6.cell? ⟨n, 2, none⟩ = some (.int .i64 jn) := hk6.tb.cell 2
  have t3 : w6.cell? ⟨n, 3, none⟩ = some (.int .i64 ls) := hk6.tb.cell 3
  go_wp2_with fail
  refine (HTF.out _).mono ?_
  rintro e w7 ⟨rfl, hb7⟩
  have hk7 := hk6.step hb7
  clear t0 t1 t2 t3 hk6 hb7
  go_wp2_with fail
  refine (HFA.out _ hk7.ra).mono ?_
  rintro e w8 ⟨rfl, hb8⟩
  have hk8 := hk7.step hb8
  clear hk7 hb8
  have t0 : w8.cell? ⟨n, 0, none⟩ = some (.int .i64 st) := hk8.tb.cell 0
  have t1 : w8.cell? ⟨n, 1, none⟩ = some (.int .i64 sp) := hk8.tb.cell 1
  have t2 : w8.cell? ⟨n, 2, none⟩ = some (.int .i64 jn) := hk8.tb.cell 2
  have t3 : w8.cell? ⟨n, 3, none⟩ = some (.int .i64 ls) := hk8.tb.cell 3
  have hTE : (TE != TE) = false := by simp
  have hFA : (FA != FA) = false := by simp
  go_wp2_with fail
  refine (HCT.out _).mono ?_
  rintro e w9 ⟨rfl, hb9⟩
  have hk9 := hk8.step hb9
  clear t0 t1 t2 t3 hk8 hb9
  go_wp2_with fail
  refine (HCA.out _ hk9.ra).mono ?_
  rintro e wa ⟨rfl, hba⟩
  have hka := hk9.step hba
  clear hk9 hba
  have t0 : wa.cell? ⟨n, 0, none⟩ = some (.int .i64 st) := hka.tb.cell 0
  have t1 : wa.cell? ⟨n, 1, none⟩ = some (.int .i64 sp) := hka.tb.cell 1
  have t2 : wa.cell? ⟨n, 2, none⟩ = some (.int .i64 jn) := hka.tb.cell 2
  have t3 : wa.cell? ⟨n, 3, none⟩ = some (.int .i64 ls) := hka.tb.cell 3
  go_wp2_with fail
  refine (HFR.out _ hka.rs).mono ?_
  rintro e wb ⟨vf, rfl, hrf, hbb⟩
  have hkb := hka.step hbb
  clear t0 t1 t2 t3 hka hbb
  go_wp2_with fail
  refine (HOV.out _ hkb.ra hkb.rb).mono ?_
  rintro e wc ⟨vo, rfl, hro, hbc⟩
  have hkc := hkb.step hbc
  have hrfc : RdWdw wc vf _ := Rd.below hrf hbc
  clear hkb hbc hrf
  go_wp2_with fail
  refine (HSF.out _ hkc.rs).mono ?_
  rintro e wd ⟨rfl, hbd⟩
  have hkd := hkc.step hbd
  have hrfd : RdWdw wd vf _ := Rd.below hrfc hbd
  have hrod : RdWdw wd vo _ := Rd.below hro hbd
  clear hkc hbd hrfc hro
  go_wp2_with fail
  refine (HSP.out _).mono ?_
  rintro e we ⟨rfl, rfl⟩
  have hke := hkd.alloc (.cells #[.int .i64 TE, .int .i64 SE, .int .i64 SP] 34)
  have hrfe : RdWdw (wd.alloc (.cells #[.int .i64 TE, .int .i64 SE, .int .i64 SP] 34)) vf _ := Rd.alloc hrfd _
  have hroe : RdWdw (wd.alloc (.cells #[.int .i64 TE, .int .i64 SE, .int .i64 SP] 34)) vo _ := Rd.alloc hrod _
  have HO3 := Lib.hid (or_any (wd.alloc (.cells #[.int .i64 TE, .int .i64 SE, .int .i64 SP] 34)) wd.heap.size [TE, SE, SP] (Blk.new _ _ _) (by simp))
  generalize orOf [TE, SE, SP] = ON at *
  clear hkd hrfd hrod
  go_wp2_with fail
  refine HO3.out.mono ?_
  rintro e wf ⟨rfl, rfl⟩
  generalize wd.alloc (.cells #[.int .i64 TE, .int .i64 SE, .int .i64 SP] 34) = wg at *
  clear HO3
  go_wp2_with fail
  refine (HFB.out _ hke.rb).mono ?_
  rintro e wh ⟨rfl, hbh⟩
  have hkh := (hke.step hbh).alloc (.cells #[.int .i64 FA, .int .i64 FB] 34)
  have hrfh : RdWdw (wh.alloc (.cells #[.int .i64 FA, .int .i64 FB] 34)) vf FR := Rd.alloc (Rd.below hrfe hbh) _
  have hroh : RdWdw (wh.alloc (.cells #[.int .i64 FA, .int .i64 FB] 34)) vo OR := Rd.alloc (Rd.below hroe hbh) _
  have HO2 := Lib.hid (or2_any (wh.alloc (.cells #[.int .i64 FA, .int .i64 FB] 34)) wh.heap.size FA FB (Blk.new _ _ _))
  rw [orOf2] at HO2
  generalize orE FA FB = TW at *
  clear hke hrfe hroe hbh
  go_wp2_with fail
  refine HO2.out.mono ?_
  rintro e wi ⟨rfl, rfl⟩
  clear HO2
  generalize wh.alloc (.cells #[.int .i64 FA, .int .i64 FB] 34) = wj at *
  rcases hone with ⟨g1, g2, g3, g4, g5⟩ | ⟨g1, g4, g5⟩
  · subst g1 g2 g4 g5
    have t0 : wj.cell? ⟨n, 0, none⟩ = some (.int .i64 st) := hkh.tb.cell 0
    have t1 : wj.cell? ⟨n, 1, none⟩ = some (.int .i64 sp) := hkh.tb.cell 1
    have t2 : wj.cell? ⟨n, 2, none⟩ = some (.int .i64 jn) := hkh.tb.cell 2
    have t3 : wj.cell? ⟨n, 3, none⟩ = some (.int .i64 ls) := hkh.tb.cell 3
    go_wp2_with fail
    refine (HFO.out _ hkh.rs (by first | rfl | trivial) g3).mono ?_
    rintro e wk ⟨vg, rfl, hrg, hbk⟩
    have hkk := hkh.step hbk
    have hrfk : RdWdw wk vf FR := Rd.below hrfh hbk
    have hrok : RdWdw wk vo OR := Rd.below hroh hbk
    have hee : (FE == FE) = true := by simp
    clear hkh hrfh hroh hbk t0 t1 t2 t3
    rcases htwo with ⟨p1, p2, p3, p4, p5⟩ | ⟨p1, p2, p3⟩
    · subst p1 p2 p3
      go_wp2_with fail
      refine (HOO.out _ hkk.ra hkk.rb p4 p5).mono ?_
      rintro e wm ⟨vp, rfl, hrp, hbm⟩
      have hkm := hkk.step hbm
      have hrfm : RdWdw wm vf FR := Rd.below hrfk hbm
      have hrgm : RdWdw wm vg FR := Rd.below hrg hbm
      have hrom : RdWdw wm vo _ := Rd.below hrok hbm
      clear hkk hrfk hrok hbm
      have HQ1 := Lib.hid (equalW_same vf vg FR wm hrfm hrgm)
      have HQ2 := Lib.hid (fun m => equalW_same vo vp OR (wm.drewN m) (Rd.below hrom (show Below wm.heap.size wm (wm.drewN m) from ⟨rfl, rfl, rfl, Nat.le_refl _, fun _ _ => rfl⟩)) (Rd.below hrp (show Below wm.heap.size wm (wm.drewN m) from ⟨rfl, rfl, rfl, Nat.le_refl _, fun _ _ => rfl⟩)))
      have HLO := Lib.hid hkm.lo
      have hse : (sumW2 OR == sumW2 OR) = true := by simp
      clear hkm
      go_wp2_with fail
      refine HQ1.out.mono ?_
      rintro e wp ⟨rfl, m1, rfl⟩
      go_wp2_with fail
      refine (HQ2.out m1).mono ?_
      rintro e wq ⟨rfl, m2, rfl⟩
      have hlz : Below w.heap.size w ((wm.drewN m1).drewN m2) := HLO.out.trans ⟨rfl, rfl, rfl, Nat.le_refl _, fun _ _ => rfl⟩
      generalize (wm.drewN m1).drewN m2 = wq at *
      go_wp2_with fail
      refine (HB.out _).mono ?_
      rintro e wt ⟨rfl, hbt⟩
      go_wp2_with fail
      go_ret
      exact ⟨rfl, hlz.trans (hbt.mono hlz.size)⟩
    · subst p2 p3
      have p1' : (OE == 0) = false := by simpa using p1
      have p1b : (OE == OE) = true := by simp
      have hnil : RdWdw wk (.slice none 0 0) [] := Rd.nil _ _ _
      clear p1
      have HQ1 := Lib.hid (equalW_same vf vg FR wk hrfk hrg)
      have HQ2 := Lib.hid (fun m => equalW_same vo (.slice none 0 0) [] (wk.drewN m) (Rd.below hrok (show Below wk.heap.size wk (wk.drewN m) from ⟨rfl, rfl, rfl, Nat.le_refl _, fun _ _ => rfl⟩)) (Rd.below hnil (show Below wk.heap.size wk (wk.drewN m) from ⟨rfl, rfl, rfl, Nat.le_refl _, fun _ _ => rfl⟩)))
      have HLO := Lib.hid hkk.lo
      have hse : (sumW2 [] == sumW2 []) = true := by simp
      clear hkk
      go_wp2_with fail
      refine HQ1.out.mono ?_
      rintro e wp ⟨rfl, m1, rfl⟩
      go_wp2_with fail
      refine (HQ2.out m1).mono ?_
      rintro e wq ⟨rfl, m2, rfl⟩
      have hlz : Below w.heap.size w ((wk.drewN m1).drewN m2) := HLO.out.trans ⟨rfl, rfl, rfl, Nat.le_refl _, fun _ _ => rfl⟩
      generalize (wk.drewN m1).drewN m2 = wq at *
      go_wp2_with fail
      refine (HB.out _).mono ?_
      rintro e wt ⟨rfl, hbt⟩
      go_wp2_with fail
      go_ret
      exact ⟨rfl, hlz.trans (hbt.mono hlz.size)⟩
  · subst g4 g5
    have g1' : (FE == 0) = false := by simpa using g1
    have hee : (FE == FE) = true := by simp
    have hrg : RdWdw wj (.slice none 0 0) [] := Rd.nil _ _ _
    clear g1
    rcases htwo with ⟨p1, p2, p3, p4, p5⟩ | ⟨p1, p2, p3⟩
    · subst p1 p2 p3
      go_wp2_with fail
      refine (HOO.out _ hkh.ra hkh.rb p4 p5).mono ?_
      rintro e wm ⟨vp, rfl, hrp, hbm⟩
      have hkm := hkh.step hbm
      have hrfm : RdWdw wm vf [] := Rd.below hrfh hbm
      have hrgm : RdWdw wm (.slice none 0 0) [] := Rd.below hrg hbm
      have hrom : RdWdw wm vo _ := Rd.below hroh hbm
      clear hkh hrfh hroh hbm
      have HQ1 := Lib.hid (equalW_same vf (.slice none 0 0) [] wm hrfm hrgm)
      have HQ2 := Lib.hid (fun m => equalW_same vo vp OR (wm.drewN m) (Rd.below hrom (show Below wm.heap.size wm (wm.drewN m) from ⟨rfl, rfl, rfl, Nat.le_refl _, fun _ _ => rfl⟩)) (Rd.below hrp (show Below wm.heap.size wm (wm.drewN m) from ⟨rfl, rfl, rfl, Nat.le_refl _, fun _ _ => rfl⟩)))
      have HLO := Lib.hid hkm.lo
      have hse : (sumW2 OR == sumW2 OR) = true := by simp
      clear hkm
      go_wp2_with fail
      refine HQ1.out.mono ?_
      rintro e wp ⟨rfl, m1, rfl⟩
      go_wp2_with fail
      refine (HQ2.out m1).mono ?_
      rintro e wq ⟨rfl, m2, rfl⟩
      have hlz : Below w.heap.size w ((wm.drewN m1).drewN m2) := HLO.out.trans ⟨rfl, rfl, rfl, Nat.le_refl _, fun _ _ => rfl⟩
      generalize (wm.drewN m1).drewN m2 = wq at *
      go_wp2_with fail
      refine (HB.out _).mono ?_
      rintro e wt ⟨rfl, hbt⟩
      go_wp2_with fail
      go_ret
      exact ⟨rfl, hlz.trans (hbt.mono hlz.size)⟩
    · subst p2 p3
      have p1' : (OE == 0) = false := by simpa using p1
      have p1b : (OE == OE) = true := by simp
      have hnil : RdWdw wj (.slice none 0 0) [] := Rd.nil _ _ _
      clear p1
      have HQ1 := Lib.hid (equalW_same vf (.slice none 0 0) [] wj hrfh hrg)
      have HQ2 := Lib.hid (fun m => equalW_same vo (.slice none 0 0) [] (wj.drewN m) (Rd.below hroh (show Below wj.heap.size wj (wj.drewN m) from ⟨rfl, rfl, rfl, Nat.le_refl _, fun _ _ => rfl⟩)) (Rd.below hnil (show Below wj.heap.size wj (wj.drewN m) from ⟨rfl, rfl, rfl, Nat.le_refl _, fun _ _ => rfl⟩)))
      have HLO := Lib.hid hkh.lo
      have hse : (sumW2 [] == sumW2 []) = true := by simp
      clear hkh
      go_wp2_with fail
      refine HQ1.out.mono ?_
      rintro e wp ⟨rfl, m1, rfl⟩
      go_wp2_with fail
      refine (HQ2.out m1).mono ?_
      rintro e wq ⟨rfl, m2, rfl⟩
      have hlz : Below w.heap.size w ((wj.drewN m1).drewN m2) := HLO.out.trans ⟨rfl, rfl, rfl, Nat.le_refl _, fun _ _ => rfl⟩
      generalize (wj.drewN m1).drewN m2 = wq at *
      go_wp2_with fail
      refine (HB.out _).mono ?_
      rintro e wt ⟨rfl, hbt⟩
      go_wp2_with fail
      go_ret
      exact ⟨rfl, hlz.trans (hbt.mono hlz.size)⟩
end Go.Proofs.Ytdacdiigeainmaa

/- batched() is true: frames are found. -/

namespace Go.Proofs.Ytdacdiigeainmaa
open Go.RowKit
set_option linter.unusedVariables false
set_option linter.unusedSimpArgs false

theorem bat_F : frmL ⟨5, 5, 0, 0⟩ [⟨3, 6, 0⟩] 9 = [(3, 9)] := by
  have h1 : posF [⟨3, 6, 0⟩] 9 = 1 := by simp [posF]
  unfold frmL
  rw [h1]
  simp [trTo, trs, jnTo, jnS, atS, atW]
theorem bat_FE : frmE ⟨5, 5, 0, 0⟩ [⟨3, 6, 0⟩] 9 = 0 := by
  unfold frmE
  rw [bat_F]
  simp [trgErr, serErr, serFrom, smpErr, inB, notAfter]
theorem bat_FR : frmR ⟨5, 5, 0, 0⟩ [⟨3, 6, 0⟩] 9 = [(3, 9)] := by unfold frmR; rw [if_pos bat_FE, bat_F]
theorem wdw_lit (w : World) (a b : Int) : RdWdw (w.alloc (.cells #[.int .i64 a, .int .i64 b] 49)) (.slice (some ⟨w.heap.size, 0, none⟩) 1 1) [(a, b)] :=
  ⟨rfl, some ⟨w.heap.size, 0, none⟩, 1, rfl, Nat.le_refl _, by simp [maxLen], fun _ => ⟨w.heap.size, 0, #[.int .i64 a, .int .i64 b], (0, 0), rfl, heap_alloc_new w _, fun j hj => by rw [Nat.zero_add]; simp [wdwCells]⟩⟩

set_option maxRecDepth 100000 in
set_option maxHeartbeats 2000000 in
theorem batched_any (w : World) : Calls Try.prog 20 #[] w fun e w' => e = .returned (.bool true) ∧ Below w.heap.size w w' := by
  have h5 : RdS (w.alloc (.cells #[.int .i64 3, .int .i64 6, .int .i64 0] 55)) 55 (.slice (some ⟨w.heap.size, 0, none⟩) 1 1) [⟨3, 6, 0⟩] := RdS.lit w [⟨3, 6, 0⟩] (by simp)
  have h6 := frames_any ⟨5, 5, 0, 0⟩ _ _ 9 _ h5
  rw [bat_FE, bat_FR] at h6
  have HF := Lib.hid h6
  have hb : Below w.heap.size w (w.alloc (.cells #[.int .i64 3, .int .i64 6, .int .i64 0] 55)) := (Below.refl _ w).alloc (Nat.le_refl _) _
  clear h5 h6
  go_enter Try.func20, Try.ntmps20
  go_wp2_with fail
  refine HF.out.mono ?_
  rintro e w2 ⟨vx, rfl, hrx, hb2⟩
  have hb3 := hb.trans (hb2.mono hb.size)
  have HQ := Lib.hid (equalW_same vx _ [(3, 9)] (w2.alloc (.cells #[.int .i64 3, .int .i64 9] 49)) (Rd.alloc hrx _) (wdw_lit w2 3 9))
  have hb4 := hb3.alloc hb3.size (.cells #[.int .i64 3, .int .i64 9] 49)
  clear hrx HF hb hb2 hb3
  go_wp2_with fail
  refine HQ.out.mono ?_
  rintro e w3 ⟨rfl, m, rfl⟩
  go_wp2_with fail
  go_ret
  exact ⟨rfl, hb4.trans ⟨rfl, rfl, rfl, Nat.le_refl _, fun _ _ => rfl⟩⟩
end Go.Proofs.Ytdacdiigeainmaa

/- FramesFound: the walk of the law, with the contracts of FrameList and of batched put in. No condition. -/

namespace Go.Proofs.Ytdacdiigeainmaa
open Go.RowKit

theorem framesFound_walk (w : World) (L : List Int) (A : Option Addr) (cap : Nat) (hc : ∀ i, i < L.length → ∃ ad : Addr, A = some ad ∧ ad.block < w.heap.size ∧ w.cell? (ad.add i) = some (.int .i64 (L.getD i 0)))
    (hl : L.length ≤ 9223372036854775807) (hwf : ∀ i, -9223372036854775808 ≤ L.getD i 0 ∧ L.getD i 0 ≤ 9223372036854775807) :
    Calls Try.prog 3 #[.slice A L.length cap] w fun e w' => e = .returned (.bool true) ∧ Below w.heap.size w w' :=
  framesFound_of (fun W g L A cap k hS hk => frameList_went W g L A cap k hS hk) batched_any w L A cap hc hl hwf
end Go.Proofs.Ytdacdiigeainmaa
