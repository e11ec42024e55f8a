import Derived.Test.YtmcojidaimeijaaBk03
import Derived.Test.YtmcojidaimeijaaBk04
import Derived.Test.YtmcojidaimeijaaBk02
import Derived.Test.YtmcojidaimeijaaPressed
import Derived.Test.YtmcojidaimeijaaRq06
/- KeptAreThemselves: the walk of the law, over a contract of ready. -/

namespace Go.Proofs.Ytmcojidaimeijaa
open Go.RowKit
set_option linter.unusedVariables false
set_option linter.unusedSimpArgs false

theorem frac_self (w : World) (a b : Int) : (binOp .neq 35 (.agg #[.int .i64 a, .int .i64 b]) (.agg #[.int .i64 a, .int .i64 b])).run Try.prog w = .ok (.bool false) w := by
  have h := frac_eqIn w (a, b) (a, b)
  rw [run_neq_struct, h]
  simp [Result.andThen]

set_option maxRecDepth 100000 in
set_option maxHeartbeats 4000000 in
theorem keptThemselves_of (HRY : ∀ W, Calls Try.prog 17 #[] W fun e w' => e = .returned (.bool true) ∧ Below W.heap.size W w')
    (w : World) (L : List Int) (A : Option Addr) (cap : Nat) (hc : ∀ i, i < L.length → ∃ ad : Addr, A = some ad ∧ ad.block < w.heap.size ∧ w.cell? (ad.add i) = some (.int .i64 (L.getD i 0)))
    (hl : L.length ≤ 9223372036854775807) (hwf : ∀ i, -9223372036854775808 ≤ L.getD i 0 ∧ L.getD i 0 ≤ 9223372036854775807) :
    Calls Try.prog 6 #[.slice A L.length cap] w fun e w' => e = .returned (.bool true) ∧ Below w.heap.size w w' := by
  have hS0 : Strm (w.alloc (.cells #[.slice A L.length cap, .int .i64 0] 25)) w.heap.size L A cap 0 :=
    ⟨heap_alloc_new w _, fun i hi => by
      obtain ⟨ad, e, hb, hcell⟩ := hc i hi
      exact ⟨ad, e, hb, by rw [World.cell?_alloc_lt _ _ _ (by rw [addr_add_block]; exact hb)]; exact hcell⟩, hl, hwf⟩
  have HS0 := Lib.hid hS0
  have HR := Lib.hid HRY
  clear hS0 hc hwf HRY
  go_enter Try.func6, Try.ntmps6
  go_wp2_with fail
  refine (rightCurve_went _ w.heap.size L A cap 0 12 HS0.out (by omega) (by omega)).mono ?_
  rintro e w1 ⟨v, rfl, l, k1, hrd, hlen, hser, hk1, hw1⟩
  go_wp2_with fail
  refine (keptList_went _ w.heap.size L A cap k1 v l hw1.1 hrd (by omega) (by omega)).mono ?_
  rintro e w2 ⟨vk, rfl, ks, k2, hown, hkl, hk2, hw2⟩
  have hrd2 : RdS w2 57 v l := Rd.but hw1.1 (by decide) hrd hw2.2
  have hrk2 : RdI w2 vk ks := Rd.of_own hown
  have hb2 := hw1.2.trans hw2.2
  have hlow : Below w.heap.size w w2 := ((Below.refl _ w).alloc (Nat.le_refl _) _).trans ⟨hb2.os, hb2.tape, hb2.output, hb2.size, fun i hi => hb2.block i (by simp; omega) (by omega)⟩
  obtain ⟨pa, ca, rfl⟩ := hrd2.lenv
  obtain ⟨pk, ck, rfl⟩ := hrk2.lenv
  have HRD := Lib.hid hrd2
  have HRK := Lib.hid hrk2
  have HSER := Lib.hid hser
  have HLOW := Lib.hid hlow
  clear hrd hw1 hw2 hb2 hrd2 hrk2 hown hk1 hk2 hser hlow
  go_wp2_with fail
  refine (indicesFault_any _ _ l ks _ HRD.out HRK.out (by omega) (by omega)).mono ?_
  rintro e w3 ⟨rfl, rfl⟩
  by_cases hI : idxErr l.length ks = 0
  · have hI' : (idxErr l.length ks != 0) = false := by simpa using hI
    have hkept : keptErr l ks = 0 := by unfold keptErr; rw [if_neg (by simp [HSER.out])]; exact hI
    have hcr := chosen_right HSER.out hI
    clear hI
    go_wp2_with fail
    refine (keep_any _ _ l ks _ HRD.out HRK.out (by omega)).mono ?_
    rintro e w4 ⟨vr, rfl, hok, _, hb4⟩
    have hrr := hok hkept
    rw [hkept]
    have hKl := choOf_length l ks
    generalize choOf l ks = K at *
    obtain ⟨pr, cr, rfl⟩ := RdS.lenv hrr
    have hll : ((K.length : Int) != (ks.length : Int)) = false := by simp [hKl]
    have hK13 : K.length ≤ 13 := by omega
    have HLOW4 := Lib.hid (HLOW.out.trans (hb4.mono HLOW.out.size))
    have HRD4 := Lib.hid (Rd.below HRD.out hb4)
    have HRR := Lib.hid hrr
    have HCR := Lib.hid hcr
    clear hkept hcr hok hrr hb4 HLOW HRD HRK hKl
    go_wp2_with fail
    clear hI' hll
    go_loopw [8, 48] (fun o i wr => ∃ j : Nat, j ≤ l.length ∧ i = .int .i64 (j : Int) ∧ StK w4 o (upI j) wr) (fun _ i _ => l.length - (intOf i).toNat)
    case atStart => exact ⟨0, by omega, rfl, World.ownsRow_nil _ _ _ _, Below.refl _ _⟩
    case round =>
      obtain ⟨j, hj, rfl, hk⟩ := hrel
      by_cases hlt : j < l.length
      · have hul := upI_long j
        have hup : upI (j + 1) = upI j ++ [(j : Int)] := rfl
        have HUP := Lib.hid hup
        generalize upI j = out at *
        have ho := hk.alloc (.cells #[.int .i64 (j : Int)] 3)
        have HO := Lib.hid ho
        have hso := ho.bl.size
        clear hup hk ho
        go_wp2_with (at_builtin; go_loud (refine wpList_append_num rfl (.tmp 51) (.tmp 53) rfl w4.heap.size u8 out.length out rfl (by exact HO.out.own) wr.heap.size rfl (j : Int) (by exact Blk.new _ _ _) (by omega) (by exact hso) ?_); intro v1 wd hown1 hgrow1)
        have hkd := HO.out.grown _ hgrow1 hown1
        clear hown1 hgrow1
        go_roundw
        case rel => exact ⟨j + 1, by omega, by go_num, by rw [HUP.out]; exact hkd⟩
        case measure => simp [intOf]; omega
      · obtain rfl : j = l.length := by omega
        generalize u8 = va at *
        have hul := upI_long l.length
        have HAK := Lib.hid (fun h => all_kept (l := l) HSER.out h)
        have HK := Lib.hid hk
        clear hk
        go_wp2_with fail
        go_loopw [58] (fun i wr => ∃ j : Nat, j ≤ K.length ∧ i = .int .i64 (j : Int) ∧ StK w4 va (upI l.length) wr) (fun i _ => K.length - (intOf i).toNat)
        case atStart => exact ⟨0, by omega, rfl, HK.out⟩
        case round =>
          clear HK
          obtain ⟨j, hj, rfl, hk⟩ := hrel
          by_cases hlt2 : j < K.length
          · obtain ⟨b, off, cc, hv, hc1, hc2, hblt, hcell⟩ := RdS.at_ (Rd.below HRR.out hk.bl) (by omega)
            cases hv
            unfold maxLen at hc2
            obtain ⟨c0, c1, c2⟩ := hcell j hlt2
            obtain ⟨hE, hB, hV⟩ := kept_rc HCR.out j hlt2
            generalize atS K j = x at *
            have hkx := hk.alloc (.cells #[.int .i64 x.t, .int .i64 x.v, .int .i64 x.q] 57)
            have hbx := Blk.new wr 57 #[.int .i64 x.t, .int .i64 x.v, .int .i64 x.q]
            have HKX := Lib.hid hkx
            have HEX := Lib.hid hE
            have HBX := Lib.hid hB
            have HVX := Lib.hid hV
            clear hcell hk hkx hE hB hV
            go_upto_region 18 with fail
            generalize wr.alloc (.cells #[.int .i64 x.t, .int .i64 x.v, .int .i64 x.q] 57) = wx at *
            generalize wr.heap.size = P at *
            have z0 := hbx.cell 0
            clear c0 c1 c2
            go_wp2_with fail
            refine (reconstruct_any _ K x.t _ (by exact Rd.below HRR.out HKX.out.bl)).mono ?_
            rintro e wy ⟨rfl, hby⟩
            rw [HEX.out]
            have hky := HKX.out.step hby
            have hbz := hbx.below hby hbx.lt
            clear z0 hbx hby
            by_cases hq : x.q = 2
            · have hB : rcB K x.t = false := by rw [HBX.out]; simp [hq]
              have hV : rcV K x.t = (0, 0) := by rw [HVX.out, if_pos hq]
              rw [hB, hV]
              have hq' : (x.q != 2) = false := by simp [hq]
              have hkz := hky.alloc (.cells #[.int .i64 0, .int .i64 0] 35)
              have hfz := Blk.new wy 35 #[.int .i64 0, .int .i64 0]
              have hxz := hbz.alloc (.cells #[.int .i64 0, .int .i64 0] 35)
              have HKZ := Lib.hid hkz
              clear hB hV hq hky hbz hkz
              go_upto_region 19 with fail
              generalize wy.alloc (.cells #[.int .i64 0, .int .i64 0] 35) = wz at *
              generalize wy.heap.size = Q at *
              have z1 := hxz.cell 1
              have z2 := hxz.cell 2
              have f0 := hfz.cell 0
              have f1 := hfz.cell 1
              clear hxz hfz
              go_wp2_with fail
              go_roundw
              case rel => exact ⟨j + 1, by omega, by go_num, HKZ.out⟩
              case measure => simp [intOf]; omega
            · have hB : rcB K x.t = true := by rw [HBX.out]; simp [hq]
              have hV : rcV K x.t = (x.v, 1) := by rw [HVX.out, if_neg hq]
              rw [hB, hV]
              have hq' : (x.q != 2) = true := by simp [hq]
              have hkz := hky.alloc (.cells #[.int .i64 x.v, .int .i64 1] 35)
              have hfz := Blk.new wy 35 #[.int .i64 x.v, .int .i64 1]
              have hxz := hbz.alloc (.cells #[.int .i64 x.v, .int .i64 1] 35)
              have HKZ := Lib.hid hkz
              clear hB hV hq hky hbz hkz
              go_upto_region 19 with fail
              generalize wy.alloc (.cells #[.int .i64 x.v, .int .i64 1] 35) = wz at *
              generalize wy.heap.size = Q at *
              have z1 := hxz.cell 1
              have z2 := hxz.cell 2
              have f0 := hfz.cell 0
              have f1 := hfz.cell 1
              have hgd := frac_guard
              have hfe := fun w => frac_self w x.v 1
              clear hxz hfz
              go_wp2_with fail
              go_roundw
              case rel => exact ⟨j + 1, by omega, by go_num, HKZ.out⟩
              case measure => simp [intOf]; omega
          · obtain rfl : j = K.length := by omega
            have HKF := Lib.hid hk
            have hri : RdI wr va (upI l.length) := Rd.of_own hk.own
            have HRI := Lib.hid hri
            clear hk hri
            go_wp2_with fail
            refine (error_any _ _ l (upI l.length) _ (by exact Rd.below HRD4.out HKF.out.bl) HRI.out (by omega)).mono ?_
            rintro e we ⟨rfl, hbe⟩
            have hlow5 := HLOW4.out.trans ((HKF.out.bl.trans (hbe.mono HKF.out.bl.size)).mono HLOW4.out.size)
            generalize hEE : errE l (upI l.length) = E at *
            generalize hFF : errF l (upI l.length) = F at *
            generalize errI l (upI l.length) = I at *
            have hlow6 := hlow5.alloc hlow5.size (.cells #[.int .i64 F.1, .int .i64 F.2] 35)
            have hf6 := Blk.new we 35 #[.int .i64 F.1, .int .i64 F.2]
            have HEE := Lib.hid hEE
            have HFF := Lib.hid hFF
            have HLOW6 := Lib.hid hlow6
            clear hbe hlow5 hEE hFF hlow6 HKF HRI HLOW4
            go_upto_region 23 with fail
            generalize we.alloc (.cells #[.int .i64 F.1, .int .i64 F.2] 35) = wf at *
            generalize we.heap.size = P at *
            have f0 := hf6.cell 0
            clear hf6
            by_cases hE0 : E = 0
            · have hF0 : F.1 = 0 := HAK.out hE0
              have hE' : (E == 0) = true := by simpa using hE0
              rw [hF0] at f0
              clear hE0 hF0
              go_wp2_with fail
              refine (HR.out _).mono ?_
              rintro e wg ⟨rfl, hbg⟩
              go_wp2_with fail
              go_ret
              exact ⟨rfl, HLOW6.out.trans (hbg.mono HLOW6.out.size)⟩
            · have hE' : (E == 0) = false := by simpa using hE0
              clear hE0
              go_wp2_with fail
              refine (HR.out _).mono ?_
              rintro e wg ⟨rfl, hbg⟩
              go_wp2_with fail
              go_ret
              exact ⟨rfl, HLOW6.out.trans (hbg.mono HLOW6.out.size)⟩
  · have hI' : (idxErr l.length ks != 0) = true := by simpa using hI
    clear hI
    go_wp2_with fail
    refine (HR.out _).mono ?_
    rintro e wg ⟨rfl, hbg⟩
    go_wp2_with fail
    go_ret
    exact ⟨rfl, HLOW.out.trans (hbg.mono HLOW.out.size)⟩
end Go.Proofs.Ytmcojidaimeijaa

/- KeptAreThemselves returns true, for every stream: the law over the contract of ready(), which is proved. -/

namespace Go.Proofs.Ytmcojidaimeijaa
open Go.RowKit
theorem keptThemselves_walk (w : World) (L : List Int) (A : Option Addr) (cap : Nat) (hc : ∀ i, i < L.length → ∃ ad : Addr, A = some ad ∧ ad.block < w.heap.size ∧ w.cell? (ad.add i) = some (.int .i64 (L.getD i 0)))
    (hl : L.length ≤ 9223372036854775807) (hwf : ∀ i, -9223372036854775808 ≤ L.getD i 0 ∧ L.getD i 0 ≤ 9223372036854775807) :
    Calls Try.prog 6 #[.slice A L.length cap] w fun e w' => e = .returned (.bool true) ∧ Below w.heap.size w w' :=
  keptThemselves_of ready_any w L A cap hc hl hwf
end Go.Proofs.Ytmcojidaimeijaa
