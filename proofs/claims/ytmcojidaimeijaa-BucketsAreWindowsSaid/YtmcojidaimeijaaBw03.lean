import Derived.Test.YtmcojidaimeijaaBw01
import Derived.Test.YtmcojidaimeijaaBw02
import Derived.Test.YtmcojidaimeijaaVbt
import Derived.Test.YtmcojidaimeijaaWinb
import Derived.Test.YtmcojidaimeijaaAspan
import Derived.Test.YtmcojidaimeijaaPressed
import Derived.Test.YtmcojidaimeijaaRq06
/- BucketsAreWindows: the walk of the law, over a contract of ready. -/

namespace Go.Proofs.Ytmcojidaimeijaa
open Go.RowKit
set_option linter.unusedVariables false
set_option linter.unusedSimpArgs false

theorem frac_selfb (w : World) (a b : Int) : (binOp .neq 35 (.agg #[.int .i64 a, .int .i64 b]) (.agg #[.int .i64 a, .int .i64 b])).run Try.prog w = .ok (.bool false) w := by
  have h := frac_eqIn w (a, b) (a, b)
  rw [run_neq_struct, h]
  simp [Result.andThen]

set_option maxRecDepth 100000 in
set_option maxHeartbeats 4000000 in
theorem bucketsAre_of (HRY : ∀ W, Calls Try.prog 17 #[] W fun e w' => e = .returned (.bool true) ∧ Below W.heap.size W w')
    (w : World) (L : List Int) (A : Option Addr) (cap : Nat) (hc : ∀ i, i < L.length → ∃ ad : Addr, A = some ad ∧ ad.block < w.heap.size ∧ w.cell? (ad.add i) = some (.int .i64 (L.getD i 0)))
    (hl : L.length ≤ 9223372036854775807) (hwf : ∀ i, -9223372036854775808 ≤ L.getD i 0 ∧ L.getD i 0 ≤ 9223372036854775807) :
    Calls Try.prog 7 #[.slice A L.length cap] w fun e w' => e = .returned (.bool true) ∧ Below w.heap.size w w' := by
  have hS0 : Strm (w.alloc (.cells #[.slice A L.length cap, .int .i64 0] 25)) w.heap.size L A cap 0 :=
    ⟨heap_alloc_new w _, fun i hi => by
      obtain ⟨ad, e, hb, hcell⟩ := hc i hi
      exact ⟨ad, e, hb, by rw [World.cell?_alloc_lt _ _ _ (by rw [addr_add_block]; exact hb)]; exact hcell⟩, hl, hwf⟩
  have HS0 := Lib.hid hS0
  have HR := Lib.hid HRY
  clear hS0 hc hwf HRY
  go_enter Try.func7, Try.ntmps7
  go_wp2_with fail
  refine (rightCurve_went _ w.heap.size L A cap 0 10 HS0.out (by omega) (by omega)).mono ?_
  rintro e w1 ⟨v, rfl, l, k1, hrd, hlen, hser, hk1, hw1⟩
  go_wp2_with fail
  refine (aSpan_went _ w.heap.size L A cap k1 hw1.1 (by omega)).mono ?_
  rintro e w2 ⟨f, t, k2, rfl, hf, ht, hk2, hw2⟩
  go_wp2_with fail
  refine (range_went _ w.heap.size L A cap k2 1 30 hw2.1 (by omega) (by omega) (by omega) (by omega)).mono ?_
  rintro e w3 ⟨rfl, hw3, hz3⟩
  clear hz3
  have hr1 := nxt_range L k2 (30 - 1 + 1) (by omega)
  have hev : 1 ≤ 1 + nxt L k2 (30 - 1 + 1) ∧ 1 + nxt L k2 (30 - 1 + 1) ≤ 30 := by omega
  generalize 1 + nxt L k2 (30 - 1 + 1) = ev at *
  clear hr1
  have hrd3 : RdS w3 57 v l := Rd.but hw2.1 (by decide) (Rd.but hw1.1 (by decide) hrd hw2.2) hw3.2
  have hb3 := hw1.2.trans (hw2.2.trans hw3.2)
  have hlow3 : Below w.heap.size w w3 := ((Below.refl _ w).alloc (Nat.le_refl _) _).trans ⟨hb3.os, hb3.tape, hb3.output, hb3.size, fun i hi => hb3.block i (by simp; omega) (by omega)⟩
  obtain ⟨pa, ca, rfl⟩ := hrd3.lenv
  have hk4 : KM w w3.heap.size f t (.slice pa l.length ca) l (w3.alloc (.cells #[.int .i64 f, .int .i64 t] 43)) := ⟨Rd.alloc hrd3 _, Blk.new _ _ _, hlow3.alloc hlow3.size _⟩
  have HSER := Lib.hid hser
  clear hrd hw1 hw2 hw3 hb3 hrd3 hlow3 hk1 hk2 hser
  go_upto_region 3 with fail
  generalize w3.alloc (.cells #[.int .i64 f, .int .i64 t] 43) = w4 at *
  generalize w3.heap.size = n at *
  have e0 := hk4.bw.cell 0
  have e1 := hk4.bw.cell 1
  by_cases hW : winErr f t = 0
  · have hWB : 0 ≤ f ∧ f ≤ t ∧ t ≤ 345686400000 := by
      unfold winErr at hW
      by_cases h : winB f t = true
      · exact winB_true.1 h
      · rw [if_neg h] at hW; omega
    have hW' : (winErr f t != 0) = false := by simpa using hW
    have hev2 : 0 ≤ ev ∧ ev ≤ 86400001 := by omega
    clear hW
    go_wp2_with fail
    refine (windowFault_any f t _).mono ?_
    rintro e wk ⟨rfl, hbk⟩
    have hkk := KM.step hbk hk4
    clear e0 e1 hbk hk4
    have e0 := hkk.bw.cell 0
    have e1 := hkk.bw.cell 1
    go_wp2_with fail
    refine (everyFault_any f t ev _ hWB hev2).mono ?_
    rintro e wj ⟨rfl, hbj⟩
    have hkj := KM.step hbj hkk
    clear hbj hkk
    by_cases hE : evE f t ev = 0
    · have hE' : (evE f t ev != 0) = false := by simpa using hE
      have hPE : parE l f t ev = 0 := by unfold parE; rw [(part_ck HSER.out hWB).1, hE]; rfl
      clear e0 e1 hE
      have e0 := hkj.bw.cell 0
      have e1 := hkj.bw.cell 1
      have HKJ := Lib.hid hkj
      clear hkj
      go_wp2_with fail
      refine (buckets_any _ l f t ev _ HKJ.out.rs hev2).mono ?_
      rintro e w7 ⟨vb, rfl, hrb, hb7⟩
      have hk7 := KM.step hb7 HKJ.out
      have hR : bktR l f t ev = bktTo l f t ev (ptsCnt f t ev) := by unfold bktR; rw [if_pos hPE]
      rw [hPE]
      rw [hR] at hrb
      have hbl := bktTo_long l f t ev (ptsCnt f t ev)
      have hget := fun j hj => bktTo_get l f t ev hWB.1 hWB.2.2 hev.1 j (ptsCnt f t ev) hj (Nat.le_refl _)
      generalize bktTo l f t ev (ptsCnt f t ev) = bs at *
      obtain ⟨pb, cb, rfl⟩ := hrb.lenv
      have HBL := Lib.hid hbl
      have HGET := Lib.hid hget
      have HK7 := Lib.hid hk7
      have HRB := Lib.hid hrb
      clear e0 e1 hPE hR hE' hb7 HKJ hbl hget hrb hk7
      have e0 := HK7.out.bw.cell 0
      have e1 := HK7.out.bw.cell 1
      go_wp2_with fail
      clear e0 e1
      go_loopw [9, 50] (fun s i wr => ∃ j : Nat, j ≤ bs.length ∧ i = .int .i64 (j : Int) ∧ s = .int .i64 (atJ f t ev j) ∧ Below w7.heap.size w7 wr) (fun _ i _ => bs.length - (intOf i).toNat)
      case atStart => exact ⟨0, by omega, rfl, by rw [atJ_zero hWB.2.1], Below.refl _ _⟩
      case round =>
        obtain ⟨j, hj, rfl, rfl, hbr⟩ := hrel
        by_cases hlt : j < bs.length
        · have hrbr : RdBkt wr (.slice pb bs.length cb) bs := Rd.below HRB.out hbr
          obtain ⟨b, off, cc, hv, hc1, hc2, hblt, hcell⟩ := RdBkt.cells hrbr (by omega)
          cases hv
          unfold maxLen at hc2
          obtain ⟨c0, c1, c2, c3, c4, c5, c6⟩ := hcell j hlt
          have hjc : j < ptsCnt f t ev := by rw [← HBL.out]; exact hlt
          have hbj : bs[j] = bktOf l (bkF f ev j) (bkT f t ev j) := by
            have h := HGET.out j hjc
            rw [List.getElem?_eq_getElem hlt] at h
            exact Option.some.inj h
          obtain ⟨hpg, hTt⟩ := part_good hWB.1 hWB.2.2 hev.1 hjc
          obtain ⟨hor, hck⟩ := part_ck HSER.out hpg
          have hat := atJ_in hev.1 hjc
          have hnx := atJ_succ (f := f) (t := t) (ev := ev) (j := j)
          have hXf : (bktOf l (bkF f ev j) (bkT f t ev j)).f = bkF f ev j := rfl
          have hXt : (bktOf l (bkF f ev j) (bkT f t ev j)).t = bkT f t ev j := rfl
          rw [hbj] at c0 c1 c2 c3 c4 c5 c6
          rw [hXf] at c0
          rw [hXt] at c1
          rw [hat]
          clear hXf hXt hat hbj hjc hcell hrbr
          generalize bkF f ev j = F at *
          generalize bkT f t ev j = T at *
          generalize bktOf l F T = X at *
          have hkr := KM.step hbr HK7.out
          have hkx := hkr.alloc (.cells #[.int .i64 F, .int .i64 T, .int .i64 X.g, .int .i64 X.n, .int .i64 X.d, .int .i64 X.mn, .int .i64 X.mx] 75)
          have hbx := Blk.new wr 75 #[.int .i64 F, .int .i64 T, .int .i64 X.g, .int .i64 X.n, .int .i64 X.d, .int .i64 X.mn, .int .i64 X.mx]
          have hlx := hbr.alloc hbr.size (.cells #[.int .i64 F, .int .i64 T, .int .i64 X.g, .int .i64 X.n, .int .i64 X.d, .int .i64 X.mn, .int .i64 X.mx] 75)
          have HNX := Lib.hid hnx
          have HCK := Lib.hid hck
          have HOR := Lib.hid hor
          have HPG := Lib.hid hpg
          have HKX := Lib.hid hkx
          have HLX := Lib.hid hlx
          clear hnx hck hor hpg hkr hkx hlx hbr
          go_upto_region 12 with fail
          generalize wr.alloc (.cells #[.int .i64 F, .int .i64 T, .int .i64 X.g, .int .i64 X.n, .int .i64 X.d, .int .i64 X.mn, .int .i64 X.mx] 75) = wx at *
          generalize wr.heap.size = P at *
          have z0 := hbx.cell 0
          have z1 := hbx.cell 1
          clear c0 c1 c2 c3 c4 c5 c6
          go_wp2_with fail
          refine (average_any _ l F T _ HKX.out.rs).mono ?_
          rintro e wy ⟨rfl, hby⟩
          rw [HCK.out, HOR.out]
          have hky := (KM.step hby HKX.out).alloc (.cells #[.int .i64 X.n, .int .i64 X.d] 35)
          have hfy := Blk.new wy 35 #[.int .i64 X.n, .int .i64 X.d]
          have hxy := (hbx.below hby hbx.lt).alloc (.cells #[.int .i64 X.n, .int .i64 X.d] 35)
          have hly := (HLX.out.trans (hby.mono HLX.out.size)).alloc (HLX.out.trans (hby.mono HLX.out.size)).size (.cells #[.int .i64 X.n, .int .i64 X.d] 35)
          have HKY := Lib.hid hky
          have HLY := Lib.hid hly
          clear z0 z1 hbx hby hky hly HKX HLX
          generalize decide (0 < X.g) = B at *
          go_upto_region 13 with fail
          generalize wy.alloc (.cells #[.int .i64 X.n, .int .i64 X.d] 35) = wz at *
          generalize wy.heap.size = Q at *
          have z0 := hxy.cell 0
          have z1 := hxy.cell 1
          go_wp2_with fail
          refine (integral_any _ l F T _ HKY.out.rs).mono ?_
          rintro e wu ⟨rfl, hbu⟩
          rw [HCK.out, HOR.out]
          have hku := KM.step hbu HKY.out
          have hlu := HLY.out.trans (hbu.mono HLY.out.size)
          have hfu := hfy.below hbu hfy.lt
          have hxu := hxy.below hbu hxy.lt
          have HLU := Lib.hid hlu
          clear z0 z1 hfy hxy hbu hlu HKY HLY
          have z0 := hxu.cell 0
          have z1 := hxu.cell 1
          have z2 := hxu.cell 2
          have z3 := hxu.cell 3
          have z4 := hxu.cell 4
          have f0 := hfu.cell 0
          have f1 := hfu.cell 1
          have g1 := hku.bw.cell 1
          have hFF : (F != F) = false := by simp
          have hGG : (X.g != X.g) = false := by simp
          have hgd := frac_guard
          have hfe := fun w => frac_selfb w X.n X.d
          clear hxu hfu hku
          cases B
          · go_wp2_with fail
            go_roundw
            case rel => exact ⟨j + 1, by omega, by go_num, by rw [HNX.out], HLU.out⟩
            case measure => simp [intOf]; omega
          · go_wp2_with fail
            go_roundw
            case rel => exact ⟨j + 1, by omega, by go_num, by rw [HNX.out], HLU.out⟩
            case measure => simp [intOf]; omega
        · obtain rfl : j = bs.length := by omega
          have hen : atJ f t ev bs.length = t := by rw [HBL.out]; exact atJ_end hev.1
          rw [hen]
          have hkr := KM.step hbr HK7.out
          have e0 := hkr.bw.cell 0
          have e1 := hkr.bw.cell 1
          have hle := hWB.2.1
          have htt : (t == t) = true := by simp
          have hff : (f == f) = true := by simp
          have HLOW := Lib.hid hkr.be
          clear hen hkr
          go_wp2_with fail
          all_goals
            refine (HR.out _).mono ?_
            rintro e w9 ⟨rfl, hb9⟩
            go_wp2_with fail
            go_ret
            exact ⟨rfl, HLOW.out.trans (hb9.mono HLOW.out.size)⟩
    · have hE' : (evE f t ev != 0) = true := by simpa using hE
      clear hE
      go_wp2_with fail
      refine (HR.out _).mono ?_
      rintro e w9 ⟨rfl, hb9⟩
      go_wp2_with fail
      go_ret
      exact ⟨rfl, hkj.be.trans (hb9.mono hkj.be.size)⟩
  · have hW' : (winErr f t != 0) = true := by simpa using hW
    clear hW
    go_wp2_with fail
    refine (windowFault_any f t _).mono ?_
    rintro e wk ⟨rfl, hbk⟩
    have hkk := KM.step hbk hk4
    clear e0 e1 hbk hk4
    go_wp2_with fail
    refine (HR.out _).mono ?_
    rintro e w9 ⟨rfl, hb9⟩
    go_wp2_with fail
    go_ret
    exact ⟨rfl, hkk.be.trans (hb9.mono hkk.be.size)⟩
end Go.Proofs.Ytmcojidaimeijaa

/- BucketsAreWindows returns true, for every stream: the law over the contract of ready(), which is proved. -/

namespace Go.Proofs.Ytmcojidaimeijaa
open Go.RowKit
theorem bucketsAre_walk (w : World) (L : List Int) (A : Option Addr) (cap : Nat) (hc : ∀ i, i < L.length → ∃ ad : Addr, A = some ad ∧ ad.block < w.heap.size ∧ w.cell? (ad.add i) = some (.int .i64 (L.getD i 0)))
    (hl : L.length ≤ 9223372036854775807) (hwf : ∀ i, -9223372036854775808 ≤ L.getD i 0 ∧ L.getD i 0 ≤ 9223372036854775807) :
    Calls Try.prog 7 #[.slice A L.length cap] w fun e w' => e = .returned (.bool true) ∧ Below w.heap.size w w' :=
  bucketsAre_of ready_any w L A cap hc hl hwf
end Go.Proofs.Ytmcojidaimeijaa
