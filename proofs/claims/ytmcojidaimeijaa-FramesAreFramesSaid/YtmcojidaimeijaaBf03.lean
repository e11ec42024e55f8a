import Derived.Test.YtmcojidaimeijaaBf02
import Derived.Test.YtmcojidaimeijaaSer
import Derived.Test.YtmcojidaimeijaaBf01
import Derived.Test.YtmcojidaimeijaaRq06
import Derived.BigQuiet
/- The contract of RightCurve (package logmake): some right series; no more is asked of it. -/

namespace Go.Proofs.Ytmcojidaimeijaa
open Go.RowKit
set_option linter.unusedVariables false
set_option linter.unusedSimpArgs false

/-- What is made at last. -/
def RightEnd (w : World) (g : Nat) (L : List Int) (A : Option Addr) (cap k most : Nat) (v : Value) (w' : World) : Prop :=
  ∃ (l : List Smp) (k' : Nat), RdS w' 57 v l ∧ l.length ≤ most ∧ serErr l = 0 ∧ k' ≤ k + 6 * (10 + 3 * most) ∧ Went w g L A cap k' w'

set_option maxRecDepth 100000 in
set_option maxHeartbeats 4000000 in
theorem rightCurve_went (w : World) (g : Nat) (L : List Int) (A : Option Addr) (cap k most : Nat) (hS : Strm w g L A cap k) (hk : k ≤ 600000000) (hm : most ≤ 1000) :
    Calls Try.prog 12 #[.pointer (some ⟨g, 0, none⟩), .int .i64 (most : Int)] w fun e w' => ∃ v, e = .returned v ∧ RightEnd w g L A cap k most v w' := by
  have hlt0 := hS.lt
  go_enter Try.func12, Try.ntmps12
  go_wp2_with fail
  go_loopw [6] (fun i wr => ∃ (j : Nat) (k' : Nat), j ≤ 6 ∧ i = .int .i64 (j : Int) ∧ k' ≤ k + j * (10 + 3 * most) ∧ Went w g L A cap k' wr) (fun i _ => 6 - (intOf i).toNat)
  case atStart => exact ⟨0, k, by omega, rfl, by omega, hS, But.refl _ _⟩
  case round =>
    obtain ⟨j, k', hj, rfl, hk', hw⟩ := hrel
    have hbound : j * (10 + 3 * most) ≤ 6 * (10 + 3 * most) := Nat.mul_le_mul_right _ hj
    by_cases hlt : j < 6
    · have hnext : (j + 1) * (10 + 3 * most) = j * (10 + 3 * most) + (10 + 3 * most) := by rw [Nat.add_mul, Nat.one_mul]
      have hcall := curve_went wr g L A cap k' most hw.1 (by omega) hm
      have HC := Lib.hid hcall
      have HW := Lib.hid hw
      have HN := Lib.hid hnext
      have HX := Lib.hid (show (j + 1) * (10 + 3 * most) ≤ 6 * (10 + 3 * most) from Nat.mul_le_mul_right _ hlt)
      clear hcall hw hnext
      go_wp2_with fail
      refine HC.out.mono ?_
      rintro e w1 ⟨v, rfl, l, k1, hown, hlen, _, hk1, hw1⟩
      have hrd : RdS w1 57 v l := Rd.of_own hown
      obtain ⟨pv, cv, rfl⟩ := hrd.lenv
      have HW1 := Lib.hid (show Went w g L A cap k1 w1 from ⟨hw1.1, HW.out.2.trans hw1.2⟩)
      have HRD := Lib.hid hrd
      clear hown hw1 hrd
      go_wp2_with fail
      refine (seriesFault_any (.slice pv l.length cv) l _ HRD.out).mono ?_
      rintro e w2 ⟨rfl, hb2⟩
      have hsz := hb2.size
      have HW2 := Lib.hid (show Went w g L A cap k1 w2 from ⟨HW1.out.1.below hb2 HW1.out.1.lt, HW1.out.2.below hb2⟩)
      have HR2 := Lib.hid (Rd.below HRD.out hb2)
      clear hb2
      by_cases hE : serErr l = 0
      · have hE' : (serErr l == 0) = true := by simpa using hE
        have HE := Lib.hid hE
        clear hE
        go_wp2_with fail
        go_ret
        exact ⟨_, rfl, l, k1, HR2.out, hlen, HE.out, by have := HN.out; have := HX.out; omega, HW2.out⟩
      · have hE' : (serErr l == 0) = false := by simpa using hE
        clear hE
        go_wp2_with fail
        go_roundw
        case rel => exact ⟨j + 1, k1, by omega, by go_num, by rw [HN.out]; omega, HW2.out⟩
        case measure => simp [intOf]; omega
    · obtain rfl : j = 6 := by omega
      go_wp2_with fail
      go_ret
      exact ⟨_, rfl, [], k', Rd.nil _ _ _, by simp, rfl, by omega, hw⟩
end Go.Proofs.Ytmcojidaimeijaa

/- FramesAreFrames returns true, for every stream. -/

namespace Go.Proofs.Ytmcojidaimeijaa
open Go.RowKit
set_option linter.unusedVariables false
set_option linter.unusedSimpArgs false

/-- What lies in the loop. -/
structure FaK (w0 : World) (n : Nat) (t : Trg) (v vf : Value) (l : List Smp) (F : List (Int × Int)) (W : World) : Prop where
  tb : Blk W n 93 (trgCells t)
  rs : RdS W 57 v l
  rw : RdWdw W vf F
  lo : Below w0.heap.size w0 W
section
variable {w0 W W' : World} {n : Nat} {t : Trg} {v vf : Value} {l : List Smp} {F : List (Int × Int)}
theorem FaK.step (h : FaK w0 n t v vf l F W) (hb : Below W.heap.size W W') : FaK w0 n t v vf l F W' :=
  ⟨h.tb.below hb h.tb.lt, Rd.below h.rs hb, Rd.below h.rw hb, h.lo.trans (hb.mono h.lo.size)⟩
theorem FaK.alloc (h : FaK w0 n t v vf l F W) (o : Obj) : FaK w0 n t v vf l F (W.alloc o) := h.step ((Below.refl _ W).alloc (Nat.le_refl _) o)
theorem FaK.drewN (h : FaK w0 n t v vf l F W) (m : Nat) : FaK w0 n t v vf l F (W.drewN m) := h.step (show Below W.heap.size W (W.drewN m) from ⟨rfl, rfl, rfl, Nat.le_refl _, fun _ _ => rfl⟩)
end

set_option maxRecDepth 100000 in
set_option maxHeartbeats 4000000 in
theorem framesAre_walk (w : World) (L : List Int) (A : Option Addr) (cap : Nat) (hc : ∀ i, i < L.length → ∃ ad : Addr, A = some ad ∧ ad.block < w.heap.size ∧ w.cell? (ad.add i) = some (.int .i64 (L.getD i 0)))
    (hl : L.length ≤ 9223372036854775807) (hwf : ∀ i, -9223372036854775808 ≤ L.getD i 0 ∧ L.getD i 0 ≤ 9223372036854775807) :
    Calls Try.prog 11 #[.slice A L.length cap] w fun e w' => e = .returned (.bool true) ∧ Below w.heap.size w w' := by
  have hS0 : Strm (w.alloc (.cells #[.slice A L.length cap, .int .i64 0] 25)) w.heap.size L A cap 0 :=
    ⟨heap_alloc_new w _, fun i hi => by
      obtain ⟨ad, e, hb, hcell⟩ := hc i hi
      exact ⟨ad, e, hb, by rw [World.cell?_alloc_lt _ _ _ (by rw [addr_add_block]; exact hb)]; exact hcell⟩, hl, hwf⟩
  have HS0 := Lib.hid hS0
  have HR := Lib.hid (fun W => ready_any W)
  clear hS0 hc hwf
  go_enter Try.func11, Try.ntmps11
  go_wp2_with fail
  refine (triggerOf_went _ w.heap.size L A cap 0 HS0.out (by omega)).mono ?_
  rintro e w1 ⟨st, sp, jn, ls, k0, rfl, hst, hsp, hjn, hls, hk0, hw1⟩
  go_wp2_with fail
  refine (rightCurve_went _ w.heap.size L A cap k0 14 hw1.1 (by omega) (by omega)).mono ?_
  rintro e w2 ⟨v, rfl, l, k1, hrd, hlen, hser, hk1, hw2⟩
  go_wp2_with fail
  refine (range_went _ w.heap.size L A cap k1 0 200 hw2.1 (by omega) (by omega) (by omega) (by omega)).mono ?_
  rintro e w3 ⟨rfl, hw3, hz9⟩
  clear hz9
  have hr1 := nxt_range L k1 (200 - 0 + 1) (by omega)
  have hu : 0 ≤ 0 + nxt L k1 (200 - 0 + 1) ∧ 0 + nxt L k1 (200 - 0 + 1) ≤ 200 := by omega
  generalize 0 + nxt L k1 (200 - 0 + 1) = u at *
  clear hr1
  have hrd3 : RdS w3 57 v l := Rd.but hw2.1 (by decide) hrd hw3.2
  have hb3 := hw1.2.trans (hw2.2.trans hw3.2)
  have hlow : Below w.heap.size w w3 := ((Below.refl _ w).alloc (Nat.le_refl _) _).trans ⟨hb3.os, hb3.tape, hb3.output, hb3.size, fun i hi => hb3.block i (by simp; omega) (by omega)⟩
  obtain ⟨pa, ca, rfl⟩ := hrd3.lenv
  have HSER := Lib.hid hser
  have htb := Blk.new w3 93 #[.int .i64 st, .int .i64 sp, .int .i64 jn, .int .i64 ls]
  have hlow4 := hlow.alloc hlow.size (.cells #[.int .i64 st, .int .i64 sp, .int .i64 jn, .int .i64 ls] 93)
  have hrd4 : RdS (w3.alloc (.cells #[.int .i64 st, .int .i64 sp, .int .i64 jn, .int .i64 ls] 93)) 57 (.slice pa l.length ca) l := Rd.alloc hrd3 _
  have hll : l.length ≤ 2000 := by omega
  clear hrd hw1 hw2 hw3 hb3 hrd3 hk1 hser hlow hk0
  go_upto_region 3 with fail
  generalize w3.alloc (.cells #[.int .i64 st, .int .i64 sp, .int .i64 jn, .int .i64 ls] 93) = w4 at *
  generalize w3.heap.size = n at *
  have t0 := htb.cell 0
  have t1 := htb.cell 1
  have t2 := htb.cell 2
  have t3 := htb.cell 3
  go_wp2_with fail
  refine (triggerFault_any ⟨st, sp, jn, ls⟩ _).mono ?_
  rintro e w5 ⟨rfl, hb5⟩
  have htb5 := htb.below hb5 htb.lt
  have hrd5 := Rd.below hrd4 hb5
  have hlow5 := hlow4.trans (hb5.mono hlow4.size)
  clear t0 t1 t2 t3 htb hrd4 hlow4 hb5
  by_cases hT : trgErr ⟨st, sp, jn, ls⟩ = 0
  · have hT' : (trgErr ⟨st, sp, jn, ls⟩ != 0) = false := by simpa using hT
    have hF0 := frmL_good (t := ⟨st, sp, jn, ls⟩) (l := l) (u := u) HSER.out ⟨hu.1, by omega⟩
    have hFE : frmE ⟨st, sp, jn, ls⟩ l u = 0 := by
      unfold frmE
      rw [if_neg (by simp [hT]), if_neg (by simp [HSER.out]), inB_true.2 ⟨by omega, by omega⟩, if_neg (by simp), if_neg (by omega)]
    have hFR : frmR ⟨st, sp, jn, ls⟩ l u = frmL ⟨st, sp, jn, ls⟩ l u := by unfold frmR; rw [if_pos hFE]
    have HFR := Lib.hid (frames_any ⟨st, sp, jn, ls⟩ (.slice pa l.length ca) l u w5 hrd5)
    rw [hFE, hFR] at HFR
    have HBV := Lib.hid (fun p (h : Begs ⟨st, sp, jn, ls⟩ l p) => begs_value HSER.out h)
    generalize frmL ⟨st, sp, jn, ls⟩ l u = F at *
    generalize trgErr ⟨st, sp, jn, ls⟩ = TE at *
    obtain ⟨hf1, hf2, hf3⟩ := hF0
    simp only at hf1 hf2
    have hfl : F.length ≤ 2000 := by omega
    have t0 := htb5.cell 0
    have t1 := htb5.cell 1
    have t2 := htb5.cell 2
    have t3 := htb5.cell 3
    clear hFE hFR hT
    go_wp2_with fail
    refine HFR.out.mono ?_
    rintro e w6 ⟨vf, rfl, hrf, hb6⟩
    have hk6 : FaK w n ⟨st, sp, jn, ls⟩ (.slice pa l.length ca) vf l F w6 := ⟨htb5.below hb6 htb5.lt, Rd.below hrd5 hb6, hrf, hlow5.trans (hb6.mono hlow5.size)⟩
    have hcf := checkFrames_ok vf F w6 hrf (by omega) (fun y hy => by have := (hf1 y hy).2.1; omega) (hf2.imp fun h => h.1)
    have HCF := Lib.hid hcf
    obtain ⟨pf, cf, rfl⟩ := hrf.lenv
    clear t0 t1 t2 t3 htb5 hrd5 hlow5 hb6 hrf HFR hcf
    go_wp2_with fail
    refine HCF.out.mono ?_
    rintro e w7 ⟨rfl, hb7⟩
    have hk7 := hk6.step hb7
    clear hk6 hb7 HCF
    go_wp2_with fail
    go_loopw [43] (fun i wr => ∃ j : Nat, j ≤ F.length ∧ i = .int .i64 (j : Int) ∧ FaK w n ⟨st, sp, jn, ls⟩ (.slice pa l.length ca) (.slice pf F.length cf) l F wr) (fun i _ => F.length - (intOf i).toNat)
    case atStart => exact ⟨0, by omega, rfl, hk7⟩
    case round =>
      clear hk7
      obtain ⟨j, hj, rfl, hk⟩ := hrel
      by_cases hlt : j < F.length
      · obtain ⟨b, off, c, hv, hc1, hc2, hblt, hcell⟩ := RdWdw.at_ hk.rw (by omega)
        cases hv
        unfold maxLen at hc2
        obtain ⟨c0, c1⟩ := hcell j hlt
        have hy := hf1 (atW F j) (by rw [← atW_eq F j hlt]; exact List.getElem_mem _)
        have hprev : ∃ z : Int, (0 < j → jn ≤ (atW F j).1 - z ∧ 0 ≤ z ∧ z ≤ 200) ∧ wr.cell? ⟨b, off + (j - 1) * 2 + 1, none⟩ = some (.int .i64 z) := by
          refine ⟨(atW F (j - 1)).2, fun h0 => ?_, (hcell (j - 1) (by omega)).2⟩
          have h1 := List.pairwise_iff_getElem.1 hf2 (j - 1) j (by omega) hlt (by omega)
          rw [atW_eq F (j - 1) (by omega), atW_eq F j hlt] at h1
          have h2 := (hf1 (atW F (j - 1)) (by rw [← atW_eq F (j - 1) (by omega)]; exact List.getElem_mem _)).2.1
          exact ⟨h1.2, by omega, by omega⟩
        obtain ⟨z, hz, cz⟩ := hprev
        generalize atW F j = y at *
        obtain ⟨ya, yb⟩ := y
        simp only at hy hz c0 c1
        obtain ⟨hbg, hyb, hyl⟩ := hy
        obtain ⟨s, hs, hq, hsv, hp0, hp1⟩ := HBV.out ya hbg
        have hE1 : vatE l ya = 0 := by unfold vatE; rw [if_neg (by simp [HSER.out]), inB_true.2 ⟨by omega, by omega⟩]; rfl
        have hO1 : vatO l true ya = some s := by unfold vatO; rw [if_pos hE1]; exact hs
        obtain ⟨sn, sd, sq⟩ := s
        simp only at hq hsv
        have hpv : pntV ya (some ⟨sn, sd, sq⟩) = .agg #[.int .i64 ya, .int .i64 sn, .int .i64 sd, .int .i64 sq] := rfl
        have his : (some (⟨sn, sd, sq⟩ : Pnt)).isSome = true := rfl
        have hbx := Blk.new wr 43 #[.int .i64 ya, .int .i64 yb]
        have hkx := hk.alloc (.cells #[.int .i64 ya, .int .i64 yb] 43)
        have hcz : (wr.alloc (.cells #[.int .i64 ya, .int .i64 yb] 43)).cell? ⟨b, off + (j - 1) * 2 + 1, none⟩ = some (.int .i64 z) := by rw [World.cell?_alloc_lt _ _ _ hblt]; exact cz
        have hblx : b < (wr.alloc (.cells #[.int .i64 ya, .int .i64 yb] 43)).heap.size := by simp; omega
        clear hcell hk cz hblt hs hbg
        go_upto_region 11 with fail
        generalize wr.alloc (.cells #[.int .i64 ya, .int .i64 yb] 43) = wx at *
        generalize wr.heap.size = P at *
        clear c0 c1
        have c0 := hbx.cell 0
        have c1 := hbx.cell 1
        have HV := Lib.hid (publicValueAt_any (.slice pa l.length ca) l true ya wx hkx.rs)
        rw [hE1, hO1, hpv, his] at HV
        go_wp2_with fail
        refine HV.out.mono ?_
        rintro e wz ⟨rfl, hbz⟩
        have hcz2 : wz.cell? ⟨b, off + (j - 1) * 2 + 1, none⟩ = some (.int .i64 z) := by rw [Below.cell hbz hblx]; exact hcz
        have hkz := hkx.step hbz
        have hbxz := hbx.below hbz hbx.lt
        have hblz : b < wz.heap.size := Nat.lt_of_lt_of_le hblx hbz.size
        have hka := hkz.alloc (.cells #[.int .i64 ya, .int .i64 sn, .int .i64 sd, .int .i64 sq] 37)
        have hpa := Blk.new wz 37 #[.int .i64 ya, .int .i64 sn, .int .i64 sd, .int .i64 sq]
        have hbxa := hbxz.alloc (.cells #[.int .i64 ya, .int .i64 sn, .int .i64 sd, .int .i64 sq] 37)
        have hcza : (wz.alloc (.cells #[.int .i64 ya, .int .i64 sn, .int .i64 sd, .int .i64 sq] 37)).cell? ⟨b, off + (j - 1) * 2 + 1, none⟩ = some (.int .i64 z) := by rw [World.cell?_alloc_lt _ _ _ hblz]; exact hcz2
        clear c0 c1 hcz hcz2 hkx hkz hbx hbxz hbz hblx hblz HV
        go_upto_region 12 with fail
        generalize wz.alloc (.cells #[.int .i64 ya, .int .i64 sn, .int .i64 sd, .int .i64 sq] 37) = wa at *
        generalize wz.heap.size = Q at *
        have HKA := Lib.hid hka
        have t0 : wa.cell? ⟨n, 0, none⟩ = some (.int .i64 st) := hka.tb.cell 0
        have t2 : wa.cell? ⟨n, 2, none⟩ = some (.int .i64 jn) := hka.tb.cell 2
        have t3 : wa.cell? ⟨n, 3, none⟩ = some (.int .i64 ls) := hka.tb.cell 3
        have p1 := hpa.cell 1
        have p3 := hpa.cell 3
        have x0 := hbxa.cell 0
        have x1 := hbxa.cell 1
        have g1 : (sq == 2) = false := by simpa using hq
        have g2 : decide (sn < st) = false := decide_eq_false (by omega)
        have g3 : decide (u < yb) = false := decide_eq_false (by omega)
        have g4 : decide (yb - ya < ls) = false := decide_eq_false (by omega)
        have w1 : IntKind.i64.wrap (yb - ya) = yb - ya := IntWalk.i64_in _ (by omega)
        have hya : 0 ≤ ya ∧ ya ≤ 1000 := by omega
        clear hka hpa hbxa hq hsv hyl hyb hp0 hp1 hE1 hO1 hpv his
        by_cases h0 : j = 0
        · have i0 : (j : Int) ≤ 0 := by omega
          have hdj : decide ((0 : Int) < (j : Int)) = false := decide_eq_false (by omega)
          have hdn : decide (0 < j) = false := decide_eq_false (by omega)
          clear h0 hcza hz hya
          go_quiet (fail)
          go_wp2_with fail
          go_roundw
          case rel => exact ⟨j + 1, by omega, by go_num, HKA.out.drewN _⟩
          case measure => simp [intOf]; omega
        · obtain ⟨hz1, hz2⟩ := hz (by omega)
          have i1 : (1 : Int) ≤ (j : Int) := by omega
          have i0 : (0 : Int) < (j : Int) := by omega
          have hdj : decide ((0 : Int) < (j : Int)) = true := decide_eq_true i0
          have hdn : decide (0 < j) = true := decide_eq_true (by omega)
          have i2 : (j : Int) - 1 < (F.length : Int) := by omega
          have i3 : ((j : Int) - 1).toNat = j - 1 := by omega
          have hwj : IntKind.i64.wrap ((j : Int) - 1) = (j : Int) - 1 := IntWalk.i64_in _ (by omega)
          have g5 : decide (ya - z < jn) = false := decide_eq_false (by omega)
          have w2 : IntKind.i64.wrap (ya - z) = ya - z := IntWalk.i64_in _ (by omega)
          clear h0 hz hz1 hz2 hya
          go_quiet (fail)
          go_wp2_with fail
          go_roundw
          case rel => exact ⟨j + 1, by omega, by go_num, HKA.out.drewN _⟩
          case measure => simp [intOf]; omega
      · obtain rfl : j = F.length := by omega
        have hlow := hk.lo
        clear hk
        go_wp2_with fail
        refine (HR.out _).mono ?_
        rintro e w8 ⟨rfl, hb8⟩
        go_wp2_with fail
        go_ret
        exact ⟨rfl, hlow.trans (hb8.mono hlow.size)⟩
  · have hT' : (trgErr ⟨st, sp, jn, ls⟩ != 0) = true := by simpa using hT
    generalize trgErr ⟨st, sp, jn, ls⟩ = TE at *
    clear hT
    go_wp2_with fail
    refine (HR.out _).mono ?_
    rintro e w6 ⟨rfl, hb6⟩
    go_wp2_with fail
    go_ret
    exact ⟨rfl, hlow5.trans (hb6.mono hlow5.size)⟩
end Go.Proofs.Ytmcojidaimeijaa
