import Derived.Test.YtmcojidaimeijaaBs02
import Derived.Test.YtmcojidaimeijaaBs03
import Derived.Test.YtmcojidaimeijaaRq06
/- StepsHold: the walk of the law, over a contract of ready. -/

namespace Go.Proofs.Ytmcojidaimeijaa
open Go.RowKit
set_option linter.unusedVariables false
set_option linter.unusedSimpArgs false

theorem pnt_eqs (w : World) (a b c d : Int) : (binOp .eql 37 (.agg #[.int .i64 a, .int .i64 b, .int .i64 c, .int .i64 d]) (.agg #[.int .i64 a, .int .i64 b, .int .i64 c, .int .i64 d])).run Try.prog w = .ok (.bool true) w := by
  have h := pnt_eqIn w a b c d a b c d
  rw [run_eql_struct, h]
  simp

set_option maxRecDepth 100000 in
set_option maxHeartbeats 4000000 in
theorem stepsHold_of (HRY : ∀ W, Calls Try.prog 17 #[] W fun e w' => e = .returned (.bool true) ∧ Below W.heap.size W w')
    (w : World) (L : List Int) (A : Option Addr) (cap : Nat) (hc : ∀ i, i < L.length → ∃ ad : Addr, A = some ad ∧ ad.block < w.heap.size ∧ w.cell? (ad.add i) = some (.int .i64 (L.getD i 0)))
    (hl : L.length ≤ 9223372036854775807) (hwf : ∀ i, -9223372036854775808 ≤ L.getD i 0 ∧ L.getD i 0 ≤ 9223372036854775807) :
    Calls Try.prog 3 #[.slice A L.length cap] w fun e w' => e = .returned (.bool true) ∧ Below w.heap.size w w' := by
  have hS0 : Strm (w.alloc (.cells #[.slice A L.length cap, .int .i64 0] 25)) w.heap.size L A cap 0 :=
    ⟨heap_alloc_new w _, fun i hi => by
      obtain ⟨ad, e, hb, hcell⟩ := hc i hi
      exact ⟨ad, e, hb, by rw [World.cell?_alloc_lt _ _ _ (by rw [addr_add_block]; exact hb)]; exact hcell⟩, hl, hwf⟩
  have HS0 := Lib.hid hS0
  have HR := Lib.hid HRY
  clear hS0 hc hwf HRY
  go_enter Try.func3, Try.ntmps3
  go_wp2_with fail
  refine (rightCurve_went _ w.heap.size L A cap 0 14 HS0.out (by omega) (by omega)).mono ?_
  rintro e w1 ⟨v, rfl, l, k1, hrd, hlen, hser, hk1, hw1⟩
  go_wp2_with fail
  refine (range_went _ w.heap.size L A cap k1 0 120 hw1.1 (by omega) (by omega) (by omega) (by omega)).mono ?_
  rintro e w2 ⟨rfl, hw2, _⟩
  have hr1 := nxt_range L k1 (120 - 0 + 1) (by omega)
  have ht : 0 ≤ 0 + nxt L k1 (120 - 0 + 1) ∧ 0 + nxt L k1 (120 - 0 + 1) ≤ 120 := by omega
  generalize 0 + nxt L k1 (120 - 0 + 1) = t at *
  clear hr1
  have hrd2 : RdS w2 57 v l := Rd.but hw1.1 (by decide) hrd hw2.2
  have hb2 := hw1.2.trans hw2.2
  have hlow : Below w.heap.size w w2 := ((Below.refl _ w).alloc (Nat.le_refl _) _).trans ⟨hb2.os, hb2.tape, hb2.output, hb2.size, fun i hi => hb2.block i (by simp; omega) (by omega)⟩
  obtain ⟨pa, ca, rfl⟩ := hrd2.lenv
  have HRD := Lib.hid hrd2
  have HSER := Lib.hid hser
  clear hrd hw1 hw2 hb2 hrd2 hk1 hser
  go_wp2_with fail
  refine (steps_any (.slice pa l.length ca) l _ HRD.out).mono ?_
  rintro e w3 ⟨vt, rfl, hrt, hb3⟩
  have hst : stpR l = stpTo l l.length := by unfold stpR; rw [if_pos HSER.out]
  rw [hst] at hrt
  rw [HSER.out]
  have hlow3 := hlow.trans (hb3.mono hlow.size)
  have HR3 := Lib.hid (Rd.below HRD.out hb3)
  have HRT := Lib.hid hrt
  have hsl := stpTo_long l l.length
  clear hst hrt hb3 hlow HRD
  go_wp2_with fail
  refine (keep_any (.slice pa l.length ca) vt l (stpTo l l.length) _ HR3.out HRT.out (by omega)).mono ?_
  rintro e w4 ⟨vk, rfl, hok, _, hb4⟩
  rw [stp_kept HSER.out]
  have hrk := hok (stp_kept HSER.out)
  have hlow4 := hlow3.trans (hb4.mono hlow3.size)
  have HR4 := Lib.hid (Rd.below HR3.out hb4)
  have HRK := Lib.hid hrk
  clear hok hrk hb4 hlow3 HR3 HRT
  go_wp2_with fail
  refine (publicValueAt_any (.slice pa l.length ca) l true t _ HR4.out).mono ?_
  rintro e w5 ⟨rfl, hb5⟩
  have hE1 : vatE l t = 0 := by unfold vatE; rw [if_neg (by simp [HSER.out]), inB_true.2 ⟨by omega, by omega⟩]; rfl
  have hO1 : vatO l true t = valO l true t := by unfold vatO; rw [if_pos hE1]
  rw [hE1, hO1]
  obtain ⟨a, b, c, d, hag⟩ := pntV_agg t (valO l true t)
  rw [hag]
  have hlow5 := (hlow4.trans (hb5.mono hlow4.size)).alloc (hlow4.trans (hb5.mono hlow4.size)).size (.cells #[.int .i64 a, .int .i64 b, .int .i64 c, .int .i64 d] 37)
  have HK5 := Lib.hid (Rd.alloc (Rd.below HRK.out hb5) (.cells #[.int .i64 a, .int .i64 b, .int .i64 c, .int .i64 d] 37) : RdS _ 57 vk (choOf l (stpTo l l.length)))
  have hp5 := Blk.new w5 37 #[.int .i64 a, .int .i64 b, .int .i64 c, .int .i64 d]
  have HAG := Lib.hid hag
  clear hE1 hO1 hag hb5 hlow4 HR4 HRK
  go_upto_region 10 with fail
  generalize w5.alloc (.cells #[.int .i64 a, .int .i64 b, .int .i64 c, .int .i64 d] 37) = w6 at *
  generalize w5.heap.size = P at *
  obtain ⟨pk, ck, rfl⟩ := RdS.lenv HK5.out
  go_wp2_with fail
  refine (publicValueAt_any _ (choOf l (stpTo l l.length)) true t _ HK5.out).mono ?_
  rintro e w7 ⟨rfl, hb7⟩
  have hE2 : vatE (choOf l (stpTo l l.length)) t = 0 := by unfold vatE; rw [if_neg (by simp [steps_right HSER.out]), inB_true.2 ⟨by omega, by omega⟩]; rfl
  have hO2 : vatO (choOf l (stpTo l l.length)) true t = valO l true t := by unfold vatO; rw [if_pos hE2, steps_value HSER.out]
  rw [hE2, hO2, HAG.out]
  have hp7 := (hp5.below hb7 hp5.lt).alloc (.cells #[.int .i64 a, .int .i64 b, .int .i64 c, .int .i64 d] 37)
  have hq7 := Blk.new w7 37 #[.int .i64 a, .int .i64 b, .int .i64 c, .int .i64 d]
  have hlow7 := (hlow5.trans (hb7.mono hlow5.size)).alloc (hlow5.trans (hb7.mono hlow5.size)).size (.cells #[.int .i64 a, .int .i64 b, .int .i64 c, .int .i64 d] 37)
  generalize (valO l true t).isSome = B at *
  clear hE2 hO2 HAG hb7 hlow5 HK5 hp5
  go_upto_region 11 with fail
  generalize w7.alloc (.cells #[.int .i64 a, .int .i64 b, .int .i64 c, .int .i64 d] 37) = w8 at *
  generalize w7.heap.size = Q at *
  have e0 := hp7.cell 0
  have e1 := hp7.cell 1
  have e2 := hp7.cell 2
  have e3 := hp7.cell 3
  have f0 := hq7.cell 0
  have f1 := hq7.cell 1
  have f2 := hq7.cell 2
  have f3 := hq7.cell 3
  have hgd := pnt_guard
  have hpe := fun w => pnt_eqs w a b c d
  have hBB : (B == B) = true := by simp
  clear hp7 hq7
  go_wp2_with fail
  refine (HR.out _).mono ?_
  rintro e w9 ⟨rfl, hb9⟩
  go_wp2_with fail
  go_ret
  exact ⟨rfl, hlow7.trans (hb9.mono hlow7.size)⟩
end Go.Proofs.Ytmcojidaimeijaa

/- StepsHold returns true, for every stream: the law over the contract of ready(), which is proved. -/

namespace Go.Proofs.Ytmcojidaimeijaa
open Go.RowKit
theorem stepsHold_walk (w : World) (L : List Int) (A : Option Addr) (cap : Nat) (hc : ∀ i, i < L.length → ∃ ad : Addr, A = some ad ∧ ad.block < w.heap.size ∧ w.cell? (ad.add i) = some (.int .i64 (L.getD i 0)))
    (hl : L.length ≤ 9223372036854775807) (hwf : ∀ i, -9223372036854775808 ≤ L.getD i 0 ∧ L.getD i 0 ≤ 9223372036854775807) :
    Calls Try.prog 3 #[.slice A L.length cap] w fun e w' => e = .returned (.bool true) ∧ Below w.heap.size w w' :=
  stepsHold_of ready_any w L A cap hc hl hwf
end Go.Proofs.Ytmcojidaimeijaa
