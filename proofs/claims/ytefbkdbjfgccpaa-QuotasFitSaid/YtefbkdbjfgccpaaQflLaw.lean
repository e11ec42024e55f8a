/- QuotasFit: the walk of the law. No condition. -/
import Derived.Test.YtefbkdbjfgccpaaLvo
import Derived.Test.YtefbkdbjfgccpaaLvf
import Derived.Test.YtefbkdbjfgccpaaLvl
import Derived.Test.YtefbkdbjfgccpaaRtd
import Derived.Test.YtefbkdbjfgccpaaErrs
import Derived.Deep.DeepCutAuto
namespace Go.Proofs.Ytefbkdbjfgccpaa
open Go.RowKit
set_option linter.unusedVariables false
set_option linter.unusedSimpArgs false

set_option maxHeartbeats 1000000 in
theorem whenQ_any (c : Bool) (x : Int) (w : World) : Calls Try.prog 11 #[.bool c, .int .i64 x] w fun e w' => e = .returned (.int .i64 (if c = true then x else 0)) ∧ w = w' := by
  cases c
  · go_enter Try.func11, Try.ntmps11
    go_wp2_with fail
    go_ret
    exact ⟨rfl, rfl⟩
  · go_enter Try.func11, Try.ntmps11
    go_wp2_with fail
    go_ret
    exact ⟨rfl, rfl⟩

theorem vq {a b : Int} (h : a = b) : Value.int .i64 a = Value.int .i64 b := by rw [h]
/-- What the law keeps. -/
structure QfK (w0 : World) (v : Value) (xs : List (Int × Int)) (vx : Value) (fr : List (Int × Int)) (W : World) : Prop where
  rd : RdLvl W v xs
  rx : RdLvl W vx fr
  lo : Below w0.heap.size w0 W
section
variable {w0 W W' : World} {v vx : Value} {xs fr : List (Int × Int)}
theorem QfK.step (h : QfK w0 v xs vx fr W) (hb : Below W.heap.size W W') : QfK w0 v xs vx fr W' := ⟨Rd.below h.rd hb, Rd.below h.rx hb, h.lo.trans (hb.mono h.lo.size)⟩
theorem QfK.alloc (h : QfK w0 v xs vx fr W) (o : Obj) : QfK w0 v xs vx fr (W.alloc o) := h.step ((Below.refl _ _).alloc (Nat.le_refl _) _)
end

set_option maxRecDepth 100000 in
set_option maxHeartbeats 8000000 in
theorem quotasFit_walk (w : World) (L : List Int) (A : Option Addr) (cap : Nat) (hc : ∀ i, i < L.length → ∃ ad : Addr, A = some ad ∧ ad.block < w.heap.size ∧ w.cell? (ad.add i) = some (.int .i64 (L.getD i 0)))
    (hl : L.length ≤ 9223372036854775807) (hwf : ∀ i, -9223372036854775808 ≤ L.getD i 0 ∧ L.getD i 0 ≤ 9223372036854775807) :
    Calls Try.prog 3 #[.slice A L.length cap] w fun e w' => e = .returned (.bool true) ∧ Below w.heap.size w w' := by
  have hS0 : Strm (w.alloc (.cells #[.slice A L.length cap, .int .i64 0] 25)) w.heap.size L A cap 0 :=
    ⟨heap_alloc_new w _, fun i hi => by
      obtain ⟨ad, e, hb, hcell⟩ := hc i hi
      exact ⟨ad, e, hb, by rw [World.cell?_alloc_lt _ _ _ (by rw [addr_add_block]; exact hb)]; exact hcell⟩, hl, hwf⟩
  have HS0 := Lib.hid hS0
  clear hS0 hc hwf
  go_enter Try.func3, Try.ntmps3
  go_wp2_with fail
  refine (levelList_went _ w.heap.size L A cap 0 HS0.out (by omega)).mono ?_
  rintro e w1 ⟨v, l, k1, rfl, hown, hl0, hl4, hsm, hk1, hw1⟩
  go_wp2_with fail
  refine (pick_new _ _ w.heap.size L A cap k1 [1, 60, 3600, 100000, 1000000, 0, 1000001] hw1.1 rfl (by omega) (by simp)).mono ?_
  rintro e w2 ⟨rfl, hw2⟩
  have hP := pk_mem [1, 60, 3600, 100000, 1000000, 0, 1000001] L k1 (by simp)
  simp only [List.mem_cons, List.not_mem_nil, or_false] at hP
  generalize pk [1, 60, 3600, 100000, 1000000, 0, 1000001] L k1 = r at *
  have hrb : 0 ≤ r ∧ r ≤ 1000001 := by omega
  clear hP
  go_wp2_with fail
  refine (pick_new _ _ w.heap.size L A cap (k1 + 1) [1, 2, 3, 5, 8, 20, 100, 1000000, 0, 1000001] hw2.1 rfl (by omega) (by simp)).mono ?_
  rintro e w3 ⟨rfl, hw3⟩
  have hP := pk_mem [1, 2, 3, 5, 8, 20, 100, 1000000, 0, 1000001] L (k1 + 1) (by simp)
  simp only [List.mem_cons, List.not_mem_nil, or_false] at hP
  generalize pk [1, 2, 3, 5, 8, 20, 100, 1000000, 0, 1000001] L (k1 + 1) = q at *
  have hqb : 0 ≤ q ∧ q ≤ 1000001 := by omega
  clear hP
  have hk3 : LlK (w.alloc (.cells #[.slice A L.length cap, .int .i64 0] 25)) w.heap.size L A cap v l (k1 + 2) w3 := ((⟨hw1.1, hw1.2, hown⟩ : LlK _ w.heap.size L A cap v l k1 w1).went hw2).went hw3
  clear hw1 hw2 hw3 hown
  go_wp2_with fail
  refine (flip_went _ w.heap.size L A cap (k1 + 2) 3 hk3.s (by omega) (by omega)).mono ?_
  rintro e w4 ⟨rfl, hw4, hz4⟩; clear hz4
  have hk4 := hk3.went hw4
  have hb4 := hk4.bt
  have hlow : Below w.heap.size w w4 := ((Below.refl _ w).alloc (Nat.le_refl _) _).trans ⟨hb4.os, hb4.tape, hb4.output, hb4.size, fun i hi => hb4.block i (by simp; omega) (by omega)⟩
  have hown : w4.ownsRow w.heap.size 31 2 v l.length (lvlCells l) := own_baseL hk4.ow (by simp)
  clear hk3 hw4 hb4 hk4
  by_cases hF : nxt L (k1 + 2) 3 = 0
  · have hF' : (nxt L (k1 + 2) 3 == 0) = true := by simpa using hF
    clear hF
    have hrd0 : RdLvl w4 v l := Rd.of_own hown
    obtain ⟨pa, ca, rfl⟩ := hrd0.lenv
    clear hrd0
    generalize nxt L (k1 + 2) 3 = fl at *
    go_wp2_with fail
    go_loopw [33] (fun i wr => ∃ (j : Nat) (xs : List (Int × Int)), j ≤ l.length ∧ i = .int .i64 (j : Int) ∧ xs.length = l.length ∧ SmallLv xs ∧ wr.ownsRow w.heap.size 31 2 (.slice pa l.length ca) l.length (lvlCells xs) ∧ Below w.heap.size w wr) (fun i _ => l.length - (intOf i).toNat)
    case atStart => exact ⟨0, l, by omega, rfl, rfl, hsm, hown, hlow⟩
    case round =>
      clear hown hlow hsm
      obtain ⟨j, xs, hj, rfl, hxl, hsx, hox, hwr⟩ := hrel
      by_cases hlt : j < l.length
      · obtain ⟨g1, cap1, hv, hg1, hd1, hd2⟩ := own_form hox (by omega)
        cases hv
        unfold maxLen at hd2
        have hjx : j < xs.length := by omega
        obtain ⟨c0, c1⟩ := own_lvl hox hxl j hlt
        have f1 := hox.frozenAt (j * 2 + 1)
        have hsj := (hsx _ (List.getElem_mem hjx)).2
        have HSX := Lib.hid hsx
        have hox2 : wr.ownsRow w.heap.size 31 2 (.slice (some ⟨g1, 0, none⟩) xs.length ca) xs.length (lvlCells xs) := by rw [hxl]; exact hox
        clear hsx hox c0
        generalize (xs[j]'hjx).2 = k at *
        obtain ⟨P, hP⟩ : ∃ P, P = k * 3000000 := ⟨_, rfl⟩
        obtain ⟨B, hB⟩ : ∃ B, B = 345686399900 + (j : Int) := ⟨_, rfl⟩
        have hwP : IntKind.i64.wrap (k * 3000000) = P := by rw [← hP]; exact IntWalk.i64_in _ (by omega)
        have hwB : IntKind.i64.wrap (345686399900 + (j : Int)) = B := by rw [← hB]; exact IntWalk.i64_in _ (by omega)
        have hPb : 0 ≤ P := by omega
        have hBb : 345686399900 ≤ B ∧ B ≤ 345686399904 := by omega
        have i1 : (0 : Int) ≤ (j : Int) := by omega
        have i2 : (j : Int) < (l.length : Int) := by omega
        clear hP hB
        rcases Int.lt_trichotomy P B with h | h | h
        · have hput := own_keepL hox2 j hjx P
          rw [hxl] at hput
          have hsm2 : SmallLv (xs.set j ((xs.getD j (0, 0)).1, P)) := fun z hz => by
            rcases List.mem_or_eq_of_mem_set hz with h | h
            · exact HSX.out z h
            · rw [h]; exact ⟨(HSX.out _ (mem_getD hjx)).1, by simp only; omega, by simp only; omega⟩
          have HPUT := Lib.hid hput
          have HSM2 := Lib.hid hsm2
          have hws := hwr.setCell (p := ⟨g1, j * 2 + 1, none⟩) hg1 (.int .i64 P)
          have HL2 := Lib.hid (show (xs.set j ((xs.getD j (0, 0)).1, P)).length = l.length from by rw [List.length_set]; exact hxl)
          have HOXC := Lib.hid hox2
          clear hput hsm2 hox2 hwr hxl
          go_wp2_with fail
          go_roundw
          case rel => exact ⟨j + 1, _, by omega, by go_num, HL2.out, HSM2.out, HPUT.out, hws⟩
          case measure => simp [intOf]; omega
        · subst h
          have hput := own_keepL hox2 j hjx P
          rw [hxl] at hput
          have hsm2 : SmallLv (xs.set j ((xs.getD j (0, 0)).1, P)) := fun z hz => by
            rcases List.mem_or_eq_of_mem_set hz with h | h
            · exact HSX.out z h
            · rw [h]; exact ⟨(HSX.out _ (mem_getD hjx)).1, by simp only; omega, by simp only; omega⟩
          have HPUT := Lib.hid hput
          have HSM2 := Lib.hid hsm2
          have hws := hwr.setCell (p := ⟨g1, j * 2 + 1, none⟩) hg1 (.int .i64 P)
          have HL2 := Lib.hid (show (xs.set j ((xs.getD j (0, 0)).1, P)).length = l.length from by rw [List.length_set]; exact hxl)
          have HOXC := Lib.hid hox2
          clear hput hsm2 hox2 hwr hxl
          go_wp2_with fail
          go_roundw
          case rel => exact ⟨j + 1, _, by omega, by go_num, HL2.out, HSM2.out, HPUT.out, hws⟩
          case measure => simp [intOf]; omega
        · have hput := own_keepL hox2 j hjx B
          rw [hxl] at hput
          have hsm2 : SmallLv (xs.set j ((xs.getD j (0, 0)).1, B)) := fun z hz => by
            rcases List.mem_or_eq_of_mem_set hz with h | h
            · exact HSX.out z h
            · rw [h]; exact ⟨(HSX.out _ (mem_getD hjx)).1, by simp only; omega, by simp only; omega⟩
          have HPUT := Lib.hid hput
          have HSM2 := Lib.hid hsm2
          have hws := hwr.setCell (p := ⟨g1, j * 2 + 1, none⟩) hg1 (.int .i64 B)
          have HL2 := Lib.hid (show (xs.set j ((xs.getD j (0, 0)).1, B)).length = l.length from by rw [List.length_set]; exact hxl)
          have HOXC := Lib.hid hox2
          clear hput hsm2 hox2 hwr hxl
          go_wp2_with fail
          go_roundw
          case rel => exact ⟨j + 1, _, by omega, by go_num, HL2.out, HSM2.out, HPUT.out, hws⟩
          case measure => simp [intOf]; omega
      · obtain rfl : j = l.length := by omega
        generalize l.length = n at *
        subst hxl
        have hrd : RdLvl wr (.slice pa xs.length ca) xs := Rd.of_own hox
        clear hox hlt hj
        have hbig : ∀ x ∈ xs, -9000000000000000000 ≤ x.1 ∧ x.1 ≤ 9000000000000000000 := fun x hx => by have := (hsx x hx).1; omega
        have HBIG := Lib.hid hbig
        clear hbig hsx
        go_wp2_with fail
        refine (cost_any r _ xs _ hrd HBIG.out).mono ?_
        rintro e wa ⟨rfl, hba⟩
        have hrda : RdLvl wa (.slice pa xs.length ca) xs := Rd.below hrd hba
        have hla := hwr.trans (hba.mono hwr.size)
        clear hrd hwr hba
        go_wp2_with fail
        refine (fit_any r q _ xs _ hrda HBIG.out).mono ?_
        rintro e wb ⟨vx, rfl, hrx, hbb⟩
        have hkq : QfK w (.slice pa xs.length ca) xs vx (fitR xs r q) wb := ⟨Rd.below hrda hbb, hrx, hla.trans (hbb.mono hla.size)⟩
        clear hrda hla hbb hrx
        obtain ⟨px, cx, rfl⟩ := hkq.rx.lenv
        go_upto_region 11 with fail
        go_cut [13] (fun s13 wx => s13 = .int .i64 (costE xs r) ∧ QfK w (.slice pa xs.length ca) xs (.slice px (fitR xs r q).length cx) (fitR xs r q) wx)
        case first =>
          have hX : costE xs r = if lvsErr xs ≠ 0 then lvsErr xs else if inB r 1 1000000 = true then 0 else 1 := rfl
          by_cases h1 : r < 1
          · have hi : inB r 1 1000000 = false := inB_false.2 (by omega)
            have HX := Lib.hid (show costE xs r = firstErr [lvsErr xs, 1] from by rw [hX, hi]; simp [firstErr])
            clear hX hi
            go_wp2_with (first
              | (go_at_call 10; refine (levelsFault_any _ _ _ hkq.rd HBIG.out).mono ?_; rintro e wk ⟨rfl, hbk⟩; have hkr := hkq.step hbk)
              | (go_at_call 11; refine (whenQ_any _ _ _).mono ?_; rintro e wj ⟨rfl, rfl⟩)
              | (go_at_call 9; refine (errs_any _ _ [_, _] (by exact Blk.new _ _ _) (by simp)).mono ?_; rintro e wi ⟨rfl, rfl⟩))
            go_meet
            exact ⟨vq (by rw [HX.out]), hkr.alloc _⟩
          · by_cases h2 : 1000000 < r
            · have hi : inB r 1 1000000 = false := inB_false.2 (by omega)
              have HX := Lib.hid (show costE xs r = firstErr [lvsErr xs, 1] from by rw [hX, hi]; simp [firstErr])
              clear hX hi
              go_wp2_with (first
                | (go_at_call 10; refine (levelsFault_any _ _ _ hkq.rd HBIG.out).mono ?_; rintro e wk ⟨rfl, hbk⟩; have hkr := hkq.step hbk)
                | (go_at_call 11; refine (whenQ_any _ _ _).mono ?_; rintro e wj ⟨rfl, rfl⟩)
                | (go_at_call 9; refine (errs_any _ _ [_, _] (by exact Blk.new _ _ _) (by simp)).mono ?_; rintro e wi ⟨rfl, rfl⟩))
              go_meet
              exact ⟨vq (by rw [HX.out]), hkr.alloc _⟩
            · have hi : inB r 1 1000000 = true := inB_true.2 (by omega)
              have HX := Lib.hid (show costE xs r = firstErr [lvsErr xs, 0] from by rw [hX, hi]; simp [firstErr])
              clear hX hi
              go_wp2_with (first
                | (go_at_call 10; refine (levelsFault_any _ _ _ hkq.rd HBIG.out).mono ?_; rintro e wk ⟨rfl, hbk⟩; have hkr := hkq.step hbk)
                | (go_at_call 11; refine (whenQ_any _ _ _).mono ?_; rintro e wj ⟨rfl, rfl⟩)
                | (go_at_call 9; refine (errs_any _ _ [_, _] (by exact Blk.new _ _ _) (by simp)).mono ?_; rintro e wi ⟨rfl, rfl⟩))
              go_meet
              exact ⟨vq (by rw [HX.out]), hkr.alloc _⟩
        case rest =>
          obtain ⟨rfl, hkz⟩ := hcut
          clear hkq
          have HCE := Lib.hid (show costV xs r = if costE xs r = 0 then lvSum r xs else 0 from rfl)
          have HCO := Lib.hid (fun h : costE xs r = 0 => And.intro (goodL (costE_ok h).1) (And.intro (costE_ok h).2 (show 0 < xs.length from List.length_pos_iff.2 (fun h2 => by have h3 := (costE_ok h).1; rw [h2] at h3; simp [lvsErr] at h3))))
          have HFE := Lib.hid (show fitE xs r q = if costE xs r ≠ 0 then costE xs r else if inB q 1 1000000 = true then 0 else 1 from rfl)
          have HFB := Lib.hid (show fitB xs r q = (decide (fitE xs r q = 0) && decide (lvSum r (fitTo r q xs xs.length) ≤ q)) from rfl)
          have HFR := Lib.hid (show fitR xs r q = if fitB xs r q = true then fitTo r q xs xs.length else [] from rfl)
          generalize costE xs r = CE at *
          generalize costV xs r = CV at *
          generalize fitE xs r q = FE at *
          generalize fitB xs r q = FB at *
          generalize fitR xs r q = FR at *
          go_upto_region 12 with fail
          go_cut [14] (fun s14 wx => s14 = .int .i64 FE ∧ QfK w (.slice pa xs.length ca) xs (.slice px FR.length cx) FR wx)
          case first =>
            by_cases h1 : q < 1
            · have hi : inB q 1 1000000 = false := inB_false.2 (by omega)
              have HX := Lib.hid (show FE = firstErr [CE, 1] from by rw [HFE.out, hi]; simp [firstErr])
              clear hi
              go_wp2_with (first
                | (go_at_call 11; refine (whenQ_any _ _ _).mono ?_; rintro e wj ⟨rfl, rfl⟩)
                | (go_at_call 9; refine (errs_any _ _ [_, _] (by exact Blk.new _ _ _) (by simp)).mono ?_; rintro e wi ⟨rfl, rfl⟩))
              go_meet
              exact ⟨vq (by rw [HX.out]), hkz.alloc _⟩
            · by_cases h2 : 1000000 < q
              · have hi : inB q 1 1000000 = false := inB_false.2 (by omega)
                have HX := Lib.hid (show FE = firstErr [CE, 1] from by rw [HFE.out, hi]; simp [firstErr])
                clear hi
                go_wp2_with (first
                  | (go_at_call 11; refine (whenQ_any _ _ _).mono ?_; rintro e wj ⟨rfl, rfl⟩)
                  | (go_at_call 9; refine (errs_any _ _ [_, _] (by exact Blk.new _ _ _) (by simp)).mono ?_; rintro e wi ⟨rfl, rfl⟩))
                go_meet
                exact ⟨vq (by rw [HX.out]), hkz.alloc _⟩
              · have hi : inB q 1 1000000 = true := inB_true.2 (by omega)
                have HX := Lib.hid (show FE = firstErr [CE, 0] from by rw [HFE.out, hi]; simp [firstErr])
                clear hi
                go_wp2_with (first
                  | (go_at_call 11; refine (whenQ_any _ _ _).mono ?_; rintro e wj ⟨rfl, rfl⟩)
                  | (go_at_call 9; refine (errs_any _ _ [_, _] (by exact Blk.new _ _ _) (by simp)).mono ?_; rintro e wi ⟨rfl, rfl⟩))
                go_meet
                exact ⟨vq (by rw [HX.out]), hkz.alloc _⟩
          case rest =>
            obtain ⟨rfl, hky⟩ := hcut
            clear hkz
            have c1 : (CE == CE) = true := by simp
            have c2 : (FE == FE) = true := by simp
            have c3 : (FB == FB) = true := by simp
            by_cases h0 : CE = 0
            · obtain ⟨hG, hr, hlp⟩ := HCO.out h0
              have hCV : CV = lvSum r xs := by rw [HCE.out, if_pos h0]
              have hcs := fun (W : World) (h : RdLvl W (.slice pa xs.length ca) xs) => rcostSum_any r hr _ _ W h hG.ok hG.few
              rw [← hCV] at hcs
              have HCS := Lib.hid hcs
              have h0' : (CE == 0) = true := by simpa using h0
              have c4 : (CV == CV) = true := by simp
              by_cases h1 : FE = 0
              · have hqi : inB q 1 1000000 = true := by
                  have h := HFE.out
                  rw [if_neg (by rw [h0]; simp)] at h
                  by_cases hh : inB q 1 1000000 = true
                  · exact hh
                  · rw [if_neg hh] at h; omega
                have hq := inB_true.1 hqi
                have hfo := fun (W : World) (h : RdLvl W (.slice pa xs.length ca) xs) => fitOf_any r q hr hq _ _ hG hlp W h
                have hB : FB = decide (lvSum r (fitTo r q xs xs.length) ≤ q) := by rw [HFB.out]; simp [h1]
                have hR : FR = if lvSum r (fitTo r q xs xs.length) ≤ q then fitTo r q xs xs.length else [] := by
                  rw [HFR.out, hB]
                  by_cases hh : lvSum r (fitTo r q xs xs.length) ≤ q
                  · simp [hh]
                  · simp [hh]
                unfold FoEnd at hfo
                rw [← hB, ← hR] at hfo
                have HFO := Lib.hid hfo
                have h1' : (FE == 0) = true := by simpa using h1
                have HH := Lib.hid h1
                have HH0 := Lib.hid h0
                clear hG hr hlp hCV hcs hqi hq hfo hB hR h1 h0
                go_wp2_with fail
                refine (HCS.out _ hky.rd).mono ?_
                rintro e wd ⟨rfl, hbd⟩
                have hkd := hky.step hbd
                clear hky hbd
                go_wp2_with fail
                refine (HFO.out _ hkd.rd).mono ?_
                rintro e we ⟨vw, rfl, hrw, hbe⟩
                have hkf := hkd.step hbe
                clear hkd hbe
                obtain ⟨pw, cw, rfl⟩ := hrw.lenv
                go_wp2_with (first
                  | (go_at_call 14; refine (equalL_same _ _ _ _ hkf.rx hrw).mono ?_; rintro e wk ⟨rfl, me, rfl⟩)
                  | (go_at_call 15; refine (retained_any _).mono ?_; rintro e wj ⟨rfl, hbj⟩))
                have hz0 : Below w.heap.size w (we.drewN me) := hkf.lo.trans ⟨rfl, rfl, rfl, Nat.le_refl _, fun _ _ => rfl⟩
                have hz := hz0.trans (hbj.mono hz0.size)
                go_wp2_with fail
                go_ret
                exact ⟨rfl, hz⟩
              · have hB : FB = false := by rw [HFB.out]; simp [h1]
                have hR : FR = [] := by rw [HFR.out, hB]; simp
                have h1' : (FE == 0) = false := by simpa using h1
                have HH := Lib.hid h1
                have HH0 := Lib.hid h0
                subst hB
                subst hR
                have hnil := fun W => (Rd.nil W 31 2 : RdLvl W (.slice none 0 0) [])
                have HNIL := Lib.hid hnil
                clear hG hr hlp hCV hcs h1 h0 hnil
                go_wp2_with fail
                refine (HCS.out _ hky.rd).mono ?_
                rintro e wd ⟨rfl, hbd⟩
                have hkf := hky.step hbd
                clear hky hbd
                go_wp2_with (first
                  | (go_at_call 14; refine (equalL_same _ _ _ _ hkf.rx (HNIL.out _)).mono ?_; rintro e wk ⟨rfl, me, rfl⟩)
                  | (go_at_call 15; refine (retained_any _).mono ?_; rintro e wj ⟨rfl, hbj⟩))
                have hz0 : Below w.heap.size w (wd.drewN me) := hkf.lo.trans ⟨rfl, rfl, rfl, Nat.le_refl _, fun _ _ => rfl⟩
                have hz := hz0.trans (hbj.mono hz0.size)
                go_wp2_with fail
                go_ret
                exact ⟨rfl, hz⟩
            · have hCV : CV = 0 := by rw [HCE.out, if_neg h0]
              have hFEC : FE = CE := by rw [HFE.out, if_pos h0]
              have hB : FB = false := by rw [HFB.out, hFEC]; simp [h0]
              have hR : FR = [] := by rw [HFR.out, hB]; simp
              have h0' : (CE == 0) = false := by simpa using h0
              have hnil := fun W => (Rd.nil W 31 2 : RdLvl W (.slice none 0 0) [])
              have HNIL := Lib.hid hnil
              subst hCV
              subst hB
              subst hR
              subst hFEC
              clear h0 hnil
              go_wp2_with (first
                | (go_at_call 14; refine (equalL_same _ _ _ _ hky.rx (HNIL.out _)).mono ?_; rintro e wk ⟨rfl, me, rfl⟩)
                | (go_at_call 15; refine (retained_any _).mono ?_; rintro e wj ⟨rfl, hbj⟩))
              have hz0 : Below w.heap.size w (wc.drewN me) := hky.lo.trans ⟨rfl, rfl, rfl, Nat.le_refl _, fun _ _ => rfl⟩
              have hz := hz0.trans (hbj.mono hz0.size)
              go_wp2_with fail
              go_ret
              exact ⟨rfl, hz⟩
  · have hF' : (nxt L (k1 + 2) 3 == 0) = false := by simpa using hF
    clear hF
    have hrd : RdLvl w4 v l := Rd.of_own hown
    clear hown
    generalize nxt L (k1 + 2) 3 = fl at *
    have hbig : ∀ x ∈ l, -9000000000000000000 ≤ x.1 ∧ x.1 ≤ 9000000000000000000 := fun x hx => by have := (hsm x hx).1; omega
    obtain ⟨pa, ca, rfl⟩ := (hrd).lenv
    have HBIG := Lib.hid hbig
    clear hbig hsm
    go_wp2_with fail
    refine (cost_any r _ l _ hrd HBIG.out).mono ?_
    rintro e wa ⟨rfl, hba⟩
    have hrda : RdLvl wa (.slice pa l.length ca) l := Rd.below hrd hba
    have hla := hlow.trans (hba.mono hlow.size)
    clear hrd hlow hba
    go_wp2_with fail
    refine (fit_any r q _ l _ hrda HBIG.out).mono ?_
    rintro e wb ⟨vx, rfl, hrx, hbb⟩
    have hkq : QfK w (.slice pa l.length ca) l vx (fitR l r q) wb := ⟨Rd.below hrda hbb, hrx, hla.trans (hbb.mono hla.size)⟩
    clear hrda hla hbb hrx
    obtain ⟨px, cx, rfl⟩ := hkq.rx.lenv
    go_upto_region 11 with fail
    go_cut [13] (fun s13 wx => s13 = .int .i64 (costE l r) ∧ QfK w (.slice pa l.length ca) l (.slice px (fitR l r q).length cx) (fitR l r q) wx)
    case first =>
      have hX : costE l r = if lvsErr l ≠ 0 then lvsErr l else if inB r 1 1000000 = true then 0 else 1 := rfl
      by_cases h1 : r < 1
      · have hi : inB r 1 1000000 = false := inB_false.2 (by omega)
        have HX := Lib.hid (show costE l r = firstErr [lvsErr l, 1] from by rw [hX, hi]; simp [firstErr])
        clear hX hi
        go_wp2_with (first
          | (go_at_call 10; refine (levelsFault_any _ _ _ hkq.rd HBIG.out).mono ?_; rintro e wk ⟨rfl, hbk⟩; have hkr := hkq.step hbk)
          | (go_at_call 11; refine (whenQ_any _ _ _).mono ?_; rintro e wj ⟨rfl, rfl⟩)
          | (go_at_call 9; refine (errs_any _ _ [_, _] (by exact Blk.new _ _ _) (by simp)).mono ?_; rintro e wi ⟨rfl, rfl⟩))
        go_meet
        exact ⟨vq (by rw [HX.out]), hkr.alloc _⟩
      · by_cases h2 : 1000000 < r
        · have hi : inB r 1 1000000 = false := inB_false.2 (by omega)
          have HX := Lib.hid (show costE l r = firstErr [lvsErr l, 1] from by rw [hX, hi]; simp [firstErr])
          clear hX hi
          go_wp2_with (first
            | (go_at_call 10; refine (levelsFault_any _ _ _ hkq.rd HBIG.out).mono ?_; rintro e wk ⟨rfl, hbk⟩; have hkr := hkq.step hbk)
            | (go_at_call 11; refine (whenQ_any _ _ _).mono ?_; rintro e wj ⟨rfl, rfl⟩)
            | (go_at_call 9; refine (errs_any _ _ [_, _] (by exact Blk.new _ _ _) (by simp)).mono ?_; rintro e wi ⟨rfl, rfl⟩))
          go_meet
          exact ⟨vq (by rw [HX.out]), hkr.alloc _⟩
        · have hi : inB r 1 1000000 = true := inB_true.2 (by omega)
          have HX := Lib.hid (show costE l r = firstErr [lvsErr l, 0] from by rw [hX, hi]; simp [firstErr])
          clear hX hi
          go_wp2_with (first
            | (go_at_call 10; refine (levelsFault_any _ _ _ hkq.rd HBIG.out).mono ?_; rintro e wk ⟨rfl, hbk⟩; have hkr := hkq.step hbk)
            | (go_at_call 11; refine (whenQ_any _ _ _).mono ?_; rintro e wj ⟨rfl, rfl⟩)
            | (go_at_call 9; refine (errs_any _ _ [_, _] (by exact Blk.new _ _ _) (by simp)).mono ?_; rintro e wi ⟨rfl, rfl⟩))
          go_meet
          exact ⟨vq (by rw [HX.out]), hkr.alloc _⟩
    case rest =>
      obtain ⟨rfl, hkz⟩ := hcut
      clear hkq
      have HCE := Lib.hid (show costV l r = if costE l r = 0 then lvSum r l else 0 from rfl)
      have HCO := Lib.hid (fun h : costE l r = 0 => And.intro (goodL (costE_ok h).1) (And.intro (costE_ok h).2 (show 0 < l.length from List.length_pos_iff.2 (fun h2 => by have h3 := (costE_ok h).1; rw [h2] at h3; simp [lvsErr] at h3))))
      have HFE := Lib.hid (show fitE l r q = if costE l r ≠ 0 then costE l r else if inB q 1 1000000 = true then 0 else 1 from rfl)
      have HFB := Lib.hid (show fitB l r q = (decide (fitE l r q = 0) && decide (lvSum r (fitTo r q l l.length) ≤ q)) from rfl)
      have HFR := Lib.hid (show fitR l r q = if fitB l r q = true then fitTo r q l l.length else [] from rfl)
      generalize costE l r = CE at *
      generalize costV l r = CV at *
      generalize fitE l r q = FE at *
      generalize fitB l r q = FB at *
      generalize fitR l r q = FR at *
      go_upto_region 12 with fail
      go_cut [14] (fun s14 wx => s14 = .int .i64 FE ∧ QfK w (.slice pa l.length ca) l (.slice px FR.length cx) FR wx)
      case first =>
        by_cases h1 : q < 1
        · have hi : inB q 1 1000000 = false := inB_false.2 (by omega)
          have HX := Lib.hid (show FE = firstErr [CE, 1] from by rw [HFE.out, hi]; simp [firstErr])
          clear hi
          go_wp2_with (first
            | (go_at_call 11; refine (whenQ_any _ _ _).mono ?_; rintro e wj ⟨rfl, rfl⟩)
            | (go_at_call 9; refine (errs_any _ _ [_, _] (by exact Blk.new _ _ _) (by simp)).mono ?_; rintro e wi ⟨rfl, rfl⟩))
          go_meet
          exact ⟨vq (by rw [HX.out]), hkz.alloc _⟩
        · by_cases h2 : 1000000 < q
          · have hi : inB q 1 1000000 = false := inB_false.2 (by omega)
            have HX := Lib.hid (show FE = firstErr [CE, 1] from by rw [HFE.out, hi]; simp [firstErr])
            clear hi
            go_wp2_with (first
              | (go_at_call 11; refine (whenQ_any _ _ _).mono ?_; rintro e wj ⟨rfl, rfl⟩)
              | (go_at_call 9; refine (errs_any _ _ [_, _] (by exact Blk.new _ _ _) (by simp)).mono ?_; rintro e wi ⟨rfl, rfl⟩))
            go_meet
            exact ⟨vq (by rw [HX.out]), hkz.alloc _⟩
          · have hi : inB q 1 1000000 = true := inB_true.2 (by omega)
            have HX := Lib.hid (show FE = firstErr [CE, 0] from by rw [HFE.out, hi]; simp [firstErr])
            clear hi
            go_wp2_with (first
              | (go_at_call 11; refine (whenQ_any _ _ _).mono ?_; rintro e wj ⟨rfl, rfl⟩)
              | (go_at_call 9; refine (errs_any _ _ [_, _] (by exact Blk.new _ _ _) (by simp)).mono ?_; rintro e wi ⟨rfl, rfl⟩))
            go_meet
            exact ⟨vq (by rw [HX.out]), hkz.alloc _⟩
      case rest =>
        obtain ⟨rfl, hky⟩ := hcut
        clear hkz
        have c1 : (CE == CE) = true := by simp
        have c2 : (FE == FE) = true := by simp
        have c3 : (FB == FB) = true := by simp
        by_cases h0 : CE = 0
        · obtain ⟨hG, hr, hlp⟩ := HCO.out h0
          have hCV : CV = lvSum r l := by rw [HCE.out, if_pos h0]
          have hcs := fun (W : World) (h : RdLvl W (.slice pa l.length ca) l) => rcostSum_any r hr _ _ W h hG.ok hG.few
          rw [← hCV] at hcs
          have HCS := Lib.hid hcs
          have h0' : (CE == 0) = true := by simpa using h0
          have c4 : (CV == CV) = true := by simp
          by_cases h1 : FE = 0
          · have hqi : inB q 1 1000000 = true := by
              have h := HFE.out
              rw [if_neg (by rw [h0]; simp)] at h
              by_cases hh : inB q 1 1000000 = true
              · exact hh
              · rw [if_neg hh] at h; omega
            have hq := inB_true.1 hqi
            have hfo := fun (W : World) (h : RdLvl W (.slice pa l.length ca) l) => fitOf_any r q hr hq _ _ hG hlp W h
            have hB : FB = decide (lvSum r (fitTo r q l l.length) ≤ q) := by rw [HFB.out]; simp [h1]
            have hR : FR = if lvSum r (fitTo r q l l.length) ≤ q then fitTo r q l l.length else [] := by
              rw [HFR.out, hB]
              by_cases hh : lvSum r (fitTo r q l l.length) ≤ q
              · simp [hh]
              · simp [hh]
            unfold FoEnd at hfo
            rw [← hB, ← hR] at hfo
            have HFO := Lib.hid hfo
            have h1' : (FE == 0) = true := by simpa using h1
            have HH := Lib.hid h1
            have HH0 := Lib.hid h0
            clear hG hr hlp hCV hcs hqi hq hfo hB hR h1 h0
            go_wp2_with fail
            refine (HCS.out _ hky.rd).mono ?_
            rintro e wd ⟨rfl, hbd⟩
            have hkd := hky.step hbd
            clear hky hbd
            go_wp2_with fail
            refine (HFO.out _ hkd.rd).mono ?_
            rintro e we ⟨vw, rfl, hrw, hbe⟩
            have hkf := hkd.step hbe
            clear hkd hbe
            obtain ⟨pw, cw, rfl⟩ := hrw.lenv
            go_wp2_with (first
              | (go_at_call 14; refine (equalL_same _ _ _ _ hkf.rx hrw).mono ?_; rintro e wk ⟨rfl, me, rfl⟩)
              | (go_at_call 15; refine (retained_any _).mono ?_; rintro e wj ⟨rfl, hbj⟩))
            have hz0 : Below w.heap.size w (we.drewN me) := hkf.lo.trans ⟨rfl, rfl, rfl, Nat.le_refl _, fun _ _ => rfl⟩
            have hz := hz0.trans (hbj.mono hz0.size)
            go_wp2_with fail
            go_ret
            exact ⟨rfl, hz⟩
          · have hB : FB = false := by rw [HFB.out]; simp [h1]
            have hR : FR = [] := by rw [HFR.out, hB]; simp
            have h1' : (FE == 0) = false := by simpa using h1
            have HH := Lib.hid h1
            have HH0 := Lib.hid h0
            subst hB
            subst hR
            have hnil := fun W => (Rd.nil W 31 2 : RdLvl W (.slice none 0 0) [])
            have HNIL := Lib.hid hnil
            clear hG hr hlp hCV hcs h1 h0 hnil
            go_wp2_with fail
            refine (HCS.out _ hky.rd).mono ?_
            rintro e wd ⟨rfl, hbd⟩
            have hkf := hky.step hbd
            clear hky hbd
            go_wp2_with (first
              | (go_at_call 14; refine (equalL_same _ _ _ _ hkf.rx (HNIL.out _)).mono ?_; rintro e wk ⟨rfl, me, rfl⟩)
              | (go_at_call 15; refine (retained_any _).mono ?_; rintro e wj ⟨rfl, hbj⟩))
            have hz0 : Below w.heap.size w (wd.drewN me) := hkf.lo.trans ⟨rfl, rfl, rfl, Nat.le_refl _, fun _ _ => rfl⟩
            have hz := hz0.trans (hbj.mono hz0.size)
            go_wp2_with fail
            go_ret
            exact ⟨rfl, hz⟩
        · have hCV : CV = 0 := by rw [HCE.out, if_neg h0]
          have hFEC : FE = CE := by rw [HFE.out, if_pos h0]
          have hB : FB = false := by rw [HFB.out, hFEC]; simp [h0]
          have hR : FR = [] := by rw [HFR.out, hB]; simp
          have h0' : (CE == 0) = false := by simpa using h0
          have hnil := fun W => (Rd.nil W 31 2 : RdLvl W (.slice none 0 0) [])
          have HNIL := Lib.hid hnil
          subst hCV
          subst hB
          subst hR
          subst hFEC
          clear h0 hnil
          go_wp2_with (first
            | (go_at_call 14; refine (equalL_same _ _ _ _ hky.rx (HNIL.out _)).mono ?_; rintro e wk ⟨rfl, me, rfl⟩)
            | (go_at_call 15; refine (retained_any _).mono ?_; rintro e wj ⟨rfl, hbj⟩))
          have hz0 : Below w.heap.size w (wc.drewN me) := hky.lo.trans ⟨rfl, rfl, rfl, Nat.le_refl _, fun _ _ => rfl⟩
          have hz := hz0.trans (hbj.mono hz0.size)
          go_wp2_with fail
          go_ret
          exact ⟨rfl, hz⟩
end Go.Proofs.Ytefbkdbjfgccpaa
