/- CountersTotalled: the walk of the law. No condition. -/
import Derived.Test.YtblbfpokkpkcjaaQued
import Derived.Test.YtblbfpokkpkcjaaCou
import Derived.Test.YtblbfpokkpkcjaaTotr
import Derived.Test.YtblbfpokkpkcjaaAspan
import Derived.Test.YtblbfpokkpkcjaaCtr
import Derived.Test.YtblbfpokkpkcjaaOr
import Derived.Test.YtblbfpokkpkcjaaKmm
namespace Go.Proofs.Ytblbfpokkpkcjaa
open Go.RowKit
set_option linter.unusedVariables false
set_option linter.unusedSimpArgs false

set_option maxRecDepth 100000 in
set_option maxHeartbeats 4000000 in
theorem countersTotalled_walk (w : World) (L : List Int) (A : Option Addr) (cap : Nat) (hc : ∀ i, i < L.length → ∃ ad : Addr, A = some ad ∧ ad.block < w.heap.size ∧ w.cell? (ad.add i) = some (.int .i64 (L.getD i 0)))
    (hl : L.length ≤ 9223372036854775807) (hwf : ∀ i, -9223372036854775808 ≤ L.getD i 0 ∧ L.getD i 0 ≤ 9223372036854775807) :
    Calls Try.prog 11 #[.slice A L.length cap] w fun e w' => e = .returned (.bool true) ∧ Below w.heap.size w w' := by
  have hS0 : Strm (w.alloc (.cells #[.slice A L.length cap, .int .i64 0] 25)) w.heap.size L A cap 0 :=
    ⟨heap_alloc_new w _, fun i hi => by
      obtain ⟨ad, e, hb, hcell⟩ := hc i hi
      exact ⟨ad, e, hb, by rw [World.cell?_alloc_lt _ _ _ (by rw [addr_add_block]; exact hb)]; exact hcell⟩, hl, hwf⟩
  have HS0 := Lib.hid hS0
  have hsz0 : w.heap.size < (w.alloc (.cells #[.slice A L.length cap, .int .i64 0] 25)).heap.size := by simp
  have HB0 := Lib.hid ((Below.refl w.heap.size w).alloc (Nat.le_refl _) (.cells #[.slice A L.length cap, .int .i64 0] 25))
  clear hS0 hc hwf
  go_enter Try.func11, Try.ntmps11
  go_upto_region 2 with fail
  generalize w.alloc (.cells #[.slice A L.length cap, .int .i64 0] 25) = W at *
  go_wp2_with fail
  refine (counters_went _ w.heap.size L A cap 0 HS0.out (by omega)).mono ?_
  rintro e w1 ⟨v0, rfl, l0, k1, hown, hlen, hnear, hk1, hw1⟩
  go_wp2_with fail
  refine (aSpan_went _ w.heap.size L A cap k1 hw1.1 (by omega)).mono ?_
  rintro e w2 ⟨f, t, k2, rfl, hf, ht, hk2, hw2⟩
  have hown2 := own_but hw1.1 (by decide) hown hw2.2
  have hb2 := hw1.2.trans hw2.2
  clear hown hw1
  go_wp2_with fail
  refine (pick_new _ _ w.heap.size L A cap k2 [10, 10, 10, 5, 0, 2000000001] hw2.1 rfl (by omega) (by simp)).mono ?_
  rintro e w3 ⟨rfl, hw3⟩
  have hm3 := pk_mem [10, 10, 10, 5, 0, 2000000001] L k2 (by simp)
  simp only [List.mem_cons, List.not_mem_nil, or_false] at hm3
  generalize pk [10, 10, 10, 5, 0, 2000000001] L k2 = roll at *
  have hro : 0 ≤ roll ∧ roll ≤ 2000000001 := by omega
  have hown3 := own_but hw2.1 (by decide) hown2 hw3.2
  have hb3 := hb2.trans hw3.2
  clear hm3 hown2 hw2 hb2
  go_wp2_with fail
  refine (pick_new _ _ w.heap.size L A cap (k2 + 1) [0, 1, 2, 3] hw3.1 rfl (by omega) (by simp)).mono ?_
  rintro e w4 ⟨rfl, hw4⟩
  have hm4 := pk_mem [0, 1, 2, 3] L (k2 + 1) (by simp)
  simp only [List.mem_cons, List.not_mem_nil, or_false] at hm4
  generalize pk [0, 1, 2, 3] L (k2 + 1) = q at *
  have hq : 0 ≤ q ∧ q ≤ 3 := by omega
  have hown4 := own_but hw3.1 (by decide) hown3 hw4.2
  have hb4 := hb3.trans hw4.2
  have hs4 := hw4.1
  clear hm4 hown3 hw3 hw4 hb3
  have hsz4 := hb4.size
  have hbx := Blk.new w4 82 #[.int .i64 f, .int .i64 t]
  have hs5 := hs4.alloc (.cells #[.int .i64 f, .int .i64 t] 82)
  have hb5 := hb4.alloc (.cells #[.int .i64 f, .int .i64 t] 82)
  have hown5 := hown4.alloc (.cells #[.int .i64 f, .int .i64 t] 82)
  have hng : w4.heap.size ≠ w.heap.size := by omega
  go_upto_region 3 with fail
  generalize w4.alloc (.cells #[.int .i64 f, .int .i64 t] 82) = w5 at *
  generalize w4.heap.size = n at *
  clear hown4 hb4 hs4
  go_wp2_with fail
  refine (flip_went _ w.heap.size L A cap (k2 + 1 + 1) 5 hs5 (by omega) (by omega)).mono ?_
  rintro e w6 ⟨rfl, hw6, _⟩
  have hown6 := own_but hs5 (by decide) hown5 hw6.2
  have hbx6 : Blk w6 n 82 #[.int .i64 f, .int .i64 t] := hbx.but hw6.2 hng
  have hb6 := hb5.trans hw6.2
  have hs6 := hw6.1
  clear hw6 hown5 hbx hb5 hs5
  go_upto_if 31 with fail
  go_cut [4] (fun s4 wx => ∃ (v : Value) (l : List Smp), v = s4 ∧ l.length ≤ 9 ∧ Near l ∧ KM w n f t v l wx)
  case first =>
    cases hN : (nxt L (k2 + 1 + 1) 5 == 0)
    · clear hN
      go_wp2_with fail
      go_meet
      exact ⟨_, l0, rfl, hlen, hnear, Rd.of_own hown6, hbx6, HB0.out.trans (butBelow2 hb6 (Nat.le_refl _) (Nat.le_of_lt hsz0))⟩
    · clear hN
      go_wp2_with fail
      refine (curve_went _ w.heap.size L A cap (k2 + 1 + 1 + 1) 8 hs6 (by omega) (by omega)).mono ?_
      rintro e w7 ⟨v1, rfl, l1, k7, hown7, hlen7, hnear7, hk7, hw7⟩
      have hbx7 : Blk w7 n 82 #[.int .i64 f, .int .i64 t] := hbx6.but hw7.2 hng
      have hb7 := hb6.trans hw7.2
      clear hw7 hb6
      go_wp2_with fail
      go_meet
      exact ⟨_, l1, rfl, by omega, hnear7, Rd.of_own hown7, hbx7, HB0.out.trans (butBelow2 hb7 (Nat.le_refl _) (Nat.le_of_lt hsz0))⟩
  case rest =>
    obtain ⟨v, l, rfl, hl9, hnl, hk⟩ := hcut
    clear hown6 hbx6 hb6 hs6 hnear hlen hng hsz4
    have e0 := hk.bw.cell 0
    have e1 := hk.bw.cell 1
    go_upto_region 5 with fail
    go_region_held3 (fun w' => w'.cell? ⟨n, 0, none⟩ = some (.int .i64 f) ∧ w'.cell? ⟨n, 1, none⟩ = some (.int .i64 t))
      (first | exact ⟨hk2.bw.cell 0, hk2.bw.cell 1⟩ | exact ⟨hkk.bw.cell 0, hkk.bw.cell 1⟩ | exact ⟨e0, e1⟩ | go_keep)
      (first
      | (go_at_call 21; (with_reducible refine (seriesFault_any v l _ ?_).mono ?_); (focus (exact KM.rs (by first | assumption | exact KM.drew (by assumption)))); rintro e wk ⟨rfl, hbk⟩; have hkk := KM.step hbk (by first | assumption | exact KM.drew (by assumption)); clear hbk)
      | (go_at_call 56; (with_reducible refine (windowFault_any f t _).mono ?_); rintro e wk ⟨rfl, hbk⟩; have hkk := KM.step hbk (by first | assumption | exact KM.drew (by assumption)); clear hbk)
      | (go_at_call 20; refine (or2_any _ _ (serErr l) (winErr f t) (by exact Blk.new _ _ _)).mono ?_; rintro e wj ⟨rfl, rfl⟩; have hk2 := hkk.alloc (.cells #[.int .i64 (serErr l), .int .i64 (winErr f t)] 34)))
    rw [orOf2]
    clear e0 e1 hkk hk
    generalize wk.alloc (.cells #[.int .i64 (serErr l), .int .i64 (winErr f t)] 34) = wz at *
    have e0 := hk2.bw.cell 0
    have e1 := hk2.bw.cell 1
    go_wp2_with fail
    refine (total_any v l f t roll _ hk2.rs (by omega)).mono ?_
    rintro e wa ⟨rfl, hba⟩
    have hka := KM.step hba hk2
    clear e0 e1 hba hk2
    have e0 := hka.bw.cell 0
    have e1 := hka.bw.cell 1
    go_wp2_with fail
    refine (count_any v l f t q _ hka.rs).mono ?_
    rintro e wb ⟨rfl, hbb⟩
    have hkb := KM.step hbb hka
    clear e0 e1 hbb hka
    go_upto_region 8 with fail
    go_cut [13, 14] (fun s13 s14 wx => s13 = .int .i64 (orE (serErr l) (winErr f t)) ∧ s14 = .int .i64 (couE l f t q) ∧ KM w n f t v l wx)
    case first =>
      have HC := Lib.hid (show couE l f t q = orE (orE (serErr l) (winErr f t)) (if inB q 0 2 = false then 4 else 0) from rfl)
      generalize orE (serErr l) (winErr f t) = F at *
      by_cases h2 : 2 < q
      · have hin : inB q 0 2 = false := inB_false.2 (by omega)
        have HIN := Lib.hid hin
        clear hin
        go_wp2_with (first
          | (go_at_call 66; refine (when1_any _ _ _).mono ?_; rintro e wk ⟨rfl, rfl⟩)
          | (go_at_call 20; refine (or2_any _ _ F 4 (by exact Blk.new _ _ _)).mono ?_; rintro e wj ⟨rfl, rfl⟩))
        go_meet
        exact ⟨rfl, vi (by rw [HC.out, HIN.out, orOf2]; rfl), hkb.alloc _⟩
      · have hin : inB q 0 2 = true := inB_true.2 (by omega)
        have HIN := Lib.hid hin
        have h2' : q ≤ 2 := by omega
        clear hin h2
        go_wp2_with (first
          | (go_at_call 66; refine (when1_any _ _ _).mono ?_; rintro e wk ⟨rfl, rfl⟩)
          | (go_at_call 20; refine (or2_any _ _ F 0 (by exact Blk.new _ _ _)).mono ?_; rintro e wj ⟨rfl, rfl⟩))
        go_meet
        exact ⟨rfl, vi (by rw [HC.out, HIN.out, orOf2]; rfl), hkb.alloc _⟩
    case rest =>
      obtain ⟨rfl, rfl, hkc⟩ := hcut
      clear hkb
      have e0 := hkc.bw.cell 0
      have e1 := hkc.bw.cell 1
      go_upto_if 66 with fail
      go_cut [13, 15] (fun s13 s15 wx => s13 = .int .i64 (totE l f t roll) ∧ s15 = .int .i64 (totV l f t roll) ∧ KM w n f t v l wx)
      case first =>
        have HTE := Lib.hid (show totE l f t roll = orE (orE (serErr l) (winErr f t)) (if inB roll 1 2000000000 = false then 1 else if tAll roll (slicF f (t + 1) l) = true then 0 else 16) from rfl)
        have HTV := Lib.hid (show totV l f t roll = if totE l f t roll = 0 then (tSt roll (slicF f (t + 1) l)).1 else 0 from rfl)
        generalize totV l f t roll = TV at *
        generalize totE l f t roll = TE at *
        by_cases hF : orE (serErr l) (winErr f t) = 0
        · have hF' : (orE (serErr l) (winErr f t) == 0) = true := by simpa using hF
          have HF0 := Lib.hid hF
          have HTE2 := Lib.hid (show TE = if inB roll 1 2000000000 = false then 1 else if tAll roll (slicF f (t + 1) l) = true then 0 else 16 by rw [HTE.out, orE_left hF])
          clear hF
          go_wp2_with fail
          refine (totalFault_any v l f t roll _ hkc.rs (serErr_good (orE_zero HF0.out).1).1 (by omega)).mono ?_
          rintro e wd ⟨rfl, hbd⟩
          rw [← HTE2.out]
          have hkd := KM.step hbd hkc
          clear e0 e1 hbd hkc
          have e0 := hkd.bw.cell 0
          have e1 := hkd.bw.cell 1
          by_cases hT : TE = 0
          · have hT' : (TE == 0) = true := by simpa using hT
            have hin : inB roll 1 2000000000 = true := by
              cases h : inB roll 1 2000000000
              · have := HTE2.out; rw [h] at this; simp at this; omega
              · rfl
            have hta : tAll roll (slicF f (t + 1) l) = true := by
              cases h : tAll roll (slicF f (t + 1) l)
              · have := HTE2.out; rw [hin, h] at this; simp at this; omega
              · rfl
            have HT0 := Lib.hid hT
            have HIN := Lib.hid hin
            have HTA := Lib.hid hta
            clear hT hin hta
            go_wp2_with fail
            refine (totalOf_any v l f t roll _ hkd.rs (serErr_good (orE_zero HF0.out).1).1 HIN.out HTA.out).mono ?_
            rintro e we ⟨rfl, hbe⟩
            have hke := KM.step hbe hkd
            go_wp2_with fail
            go_meet
            exact ⟨rfl, vi (by rw [HTV.out, if_pos HT0.out]), hke⟩
          · have hT' : (TE == 0) = false := by simpa using hT
            have HT0 := Lib.hid hT
            clear hT
            go_wp2_with fail
            go_meet
            exact ⟨rfl, vi (by rw [HTV.out, if_neg HT0.out]), hkd⟩
        · have hF' : (orE (serErr l) (winErr f t) == 0) = false := by simpa using hF
          have HTE2 := Lib.hid (show TE = orE (serErr l) (winErr f t) by rw [HTE.out, orE_first hF])
          have HF0 := Lib.hid hF
          clear hF
          go_wp2_with fail
          go_meet
          exact ⟨vi HTE2.out.symm, vi (by rw [HTV.out, if_neg (by rw [HTE2.out]; exact HF0.out)]), hkc⟩
      case rest =>
        obtain ⟨rfl, rfl, hkd⟩ := hcut
        clear e0 e1 hkc
        have e0 := hkd.bw.cell 0
        have e1 := hkd.bw.cell 1
        go_upto_if 78 with fail
        go_cut [16] (fun s16 wx => s16 = .int .i64 (couV l f t q) ∧ KM w n f t v l wx)
        case first =>
          have HCE := Lib.hid (show couE l f t q = orE (orE (serErr l) (winErr f t)) (if inB q 0 2 = false then 4 else 0) from rfl)
          have HCV := Lib.hid (show couV l f t q = if couE l f t q = 0 then (qCnt q (slicF f t l) : Int) else 0 from rfl)
          generalize couV l f t q = CV at *
          generalize couE l f t q = CE at *
          by_cases hC : CE = 0
          · have hC' : (CE == 0) = true := by simpa using hC
            have hz := (orE_zero (HCE.out.symm.trans hC)).1
            have HC0 := Lib.hid hC
            have HZ := Lib.hid hz
            clear hC hz
            go_wp2_with fail
            refine (countedOf_any v l f t q _ hkd.rs (serErr_good (orE_zero HZ.out).1).1 (by omega)).mono ?_
            rintro e we ⟨rfl, hbe⟩
            have hke := KM.step hbe hkd
            go_wp2_with fail
            go_meet
            exact ⟨vi (by rw [HCV.out, if_pos HC0.out, wCnt_eq]), hke⟩
          · have hC' : (CE == 0) = false := by simpa using hC
            have HC0 := Lib.hid hC
            clear hC
            go_wp2_with fail
            go_meet
            exact ⟨vi (by rw [HCV.out, if_neg HC0.out]), hkd⟩
        case rest =>
          obtain ⟨rfl, hke⟩ := hcut
          have h1 : (totE l f t roll == totE l f t roll) = true := by simp
          have h2 : (totV l f t roll == totV l f t roll) = true := by simp
          have h3 : (couE l f t q == couE l f t q) = true := by simp
          have h4 : (couV l f t q == couV l f t q) = true := by simp
          clear hkd e0 e1
          go_wp2_with fail
          refine (queried_any _).mono ?_
          rintro e wf ⟨rfl, hbf⟩
          have hkf := KM.step hbf hke
          go_wp2_with fail
          go_ret
          exact ⟨rfl, hkf.be⟩
end Go.Proofs.Ytblbfpokkpkcjaa
