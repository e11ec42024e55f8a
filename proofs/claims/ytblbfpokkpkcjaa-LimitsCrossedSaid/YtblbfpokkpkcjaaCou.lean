/- The contract of Count (package query), and of the reference's CountedOf. -/
import Derived.Test.YtblbfpokkpkcjaaSlice
import Derived.Test.YtblbfpokkpkcjaaTotm
import Derived.Test.YtblbfpokkpkcjaaTot
import Derived.Test.YtblbfpokkpkcjaaDist
namespace Go.Proofs.Ytblbfpokkpkcjaa
open Go.RowKit
set_option linter.unusedVariables false
set_option linter.unusedSimpArgs false

theorem qCnt_succ (q : Int) (l : List Smp) (i : Nat) (h : i < l.length) : qCnt q (l.take (i + 1)) = qCnt q (l.take i) + (if (atS l i).q = q then 1 else 0) := by
  rw [take_snocS l i h]; unfold qCnt; rw [List.countP_append]; simp [List.countP_cons]
theorem wCnt_succ (f t q : Int) (l : List Smp) (i : Nat) (h : i < l.length) : wCnt f t q (l.take (i + 1)) = wCnt f t q (l.take i) + (if inB (atS l i).t f (t - 1) = true ∧ (atS l i).q = q then 1 else 0) := by
  rw [take_snocS l i h]; unfold wCnt; rw [List.countP_append]; simp [List.countP_cons]
theorem qCnt_le (q : Int) (l : List Smp) : qCnt q l ≤ l.length := List.countP_le_length
theorem wCnt_le (f t q : Int) (l : List Smp) : wCnt f t q l ≤ l.length := List.countP_le_length

set_option maxRecDepth 100000 in
set_option maxHeartbeats 2000000 in
theorem count_any (v : Value) (l : List Smp) (f t q : Int) (w : World) (hR : RdS w 71 v l) :
    Calls Try.prog 91 #[v, .agg #[.int .i64 f, .int .i64 t], .int .i64 q] w fun e w' => e = .returned (.tuple #[.int .i64 (couV l f t q), .int .i64 (couE l f t q)]) ∧ Below w.heap.size w w' := by
  have hE : couE l f t q = orE (orE (serErr l) (winErr f t)) (if inB q 0 2 = false then 4 else 0) := rfl
  have hV : couV l f t q = if couE l f t q = 0 then (qCnt q (slicF f t l) : Int) else 0 := rfl
  generalize couV l f t q = V at *
  generalize couE l f t q = E at *
  have HE := Lib.hid hE
  have HV := Lib.hid hV
  have hk0 := KW.start (f := f) (t := t) hR
  have HK0 := Lib.hid hk0
  clear hE hV hR hk0
  go_enter Try.func91, Try.ntmps91
  go_wp2_with fail
  refine (slice_any v l f t _ HK0.out.rs).mono ?_
  rintro e w1 ⟨vs, rfl, hrs, hb1⟩
  have hbe := HK0.out.be.trans (hb1.mono HK0.out.be.size)
  obtain ⟨ps, cs, rfl⟩ := hrs.lenv
  have hsd : sliE l f t = orE (serErr l) (winErr f t) := rfl
  have hsr : sliR l f t = if sliE l f t = 0 then slicF f t l else [] := rfl
  have HSD := Lib.hid hsd
  have HSR := Lib.hid hsr
  clear hb1 hsd hsr
  generalize sliE l f t = G at *
  generalize sliR l f t = S at *
  by_cases hG : G = 0
  · have hG' : (G != 0) = false := by simpa using hG
    have HG := Lib.hid hG
    have hS5 : S.length ≤ 5000 := by
      rw [HSR.out, if_pos hG]
      have h0 : serErr l = 0 := by have := HSD.out; rw [hG] at this; unfold orE at this; split at this <;> omega
      have := (serErr_good h0).1
      have := List.length_filter_le (fun x => !outB f t x) l
      unfold slicF; omega
    clear hG
    go_wp2_with fail
    refine (isQuality_any q _).mono ?_
    rintro e w2 ⟨rfl, rfl⟩
    cases hin : inB q 0 2
    · have HIN := Lib.hid hin
      clear hin
      go_wp2_with fail
      go_ret2
      have hE1 : E = 4 := by rw [HE.out, ← HSD.out, HG.out, HIN.out]; rfl
      exact ⟨by rw [HV.out, if_neg (by omega), hE1]; rfl, hbe⟩
    · have HIN := Lib.hid hin
      clear hin
      go_wp2_with fail
      go_loopw [10, 29] (fun sc si wr => ∃ m : Nat, m ≤ S.length ∧ si = .int .i64 (m : Int) ∧ sc = .int .i64 (qCnt q (S.take m) : Int) ∧ Below w1.heap.size w1 wr) (fun _ i _ => S.length - (intOf i).toNat)
      case atStart => exact ⟨0, by omega, rfl, rfl, Below.refl _ _⟩
      case round =>
        obtain ⟨m, hm, rfl, rfl, hbr⟩ := hrel
        have hql := qCnt_le q (S.take m)
        have htl : (S.take m).length = m := by rw [List.length_take]; omega
        rw [htl] at hql
        clear htl
        by_cases hlt : m < S.length
        · have hqs := qCnt_succ q S m hlt
          have HQS := Lib.hid hqs
          have hrsr : RdS wr 71 _ S := Rd.below hrs hbr
          obtain ⟨b, off, c, hv, hc1, hc2, hblt, hcell⟩ := RdS.at_ hrsr (by omega)
          cases hv
          unfold maxLen at hc2
          obtain ⟨c0, c1, c2⟩ := hcell m hlt
          have hbx := hbr.alloc hbr.size (.cells #[.int .i64 (atS S m).t, .int .i64 (atS S m).v, .int .i64 (atS S m).q] 71)
          clear hcell hrsr hqs
          generalize atS S m = x at *
          generalize qCnt q (S.take m) = n at *
          by_cases hq : x.q = q
          · have hq' : (x.q == q) = true := by simpa using hq
            have HQ := Lib.hid hq
            clear hq
            go_wp2_with fail
            go_roundw
            case rel => exact ⟨m + 1, by omega, by go_num, by rw [HQS.out, if_pos HQ.out]; go_num, hbx⟩
            case measure => simp [intOf]; omega
          · have hq' : (x.q == q) = false := by simpa using hq
            have HQ := Lib.hid hq
            clear hq
            go_wp2_with fail
            go_roundw
            case rel => exact ⟨m + 1, by omega, by go_num, by rw [HQS.out, if_neg HQ.out]; go_num, hbx⟩
            case measure => simp [intOf]; omega
        · obtain rfl : m = S.length := by omega
          have hta : S.take S.length = S := List.take_length
          have HTA := Lib.hid hta
          clear hta
          go_wp2_with fail
          go_ret2
          have hE1 : E = 0 := by rw [HE.out, ← HSD.out, HG.out, HIN.out]; rfl
          have hSS : S = slicF f t l := by rw [HSR.out, if_pos HG.out]
          exact ⟨by rw [HV.out, if_pos hE1, hE1, HTA.out, hSS]; rfl, hbe.trans (hbr.mono hbe.size)⟩
  · have hG' : (G != 0) = true := by simpa using hG
    have HG := Lib.hid hG
    clear hG
    go_wp2_with fail
    go_ret2
    have hE1 : E = G := by rw [HE.out, ← HSD.out, orE, if_pos HG.out]
    exact ⟨by rw [HV.out, if_neg (by rw [hE1]; exact HG.out), hE1]; rfl, hbe⟩

set_option maxRecDepth 100000 in
set_option maxHeartbeats 2000000 in
theorem countedOf_any (v : Value) (l : List Smp) (f t q : Int) (w : World) (hR : RdS w 71 v l) (hlong : l.length ≤ 5000) (ht : -2000000000000000000 ≤ t ∧ t ≤ 2000000000000000000) :
    Calls Try.prog 94 #[v, .agg #[.int .i64 f, .int .i64 t], .int .i64 q] w fun e w' => e = .returned (.int .i64 (wCnt f t q l : Int)) ∧ Below w.heap.size w w' := by
  obtain ⟨ps, cs, rfl⟩ := hR.lenv
  have hk0 := KW.start (f := f) (t := t) hR
  generalize hz : w.alloc (.cells #[.int .i64 f, .int .i64 t] 82) = wz at hk0
  have HZ := Lib.hid hz
  have HK0 := Lib.hid hk0
  have HRZ := Lib.hid hk0.rs
  clear hR hz hk0
  go_enter Try.func94, Try.ntmps94
  go_wp2_with fail
  rw [HZ.out]
  go_loopw [7, 12] (fun sc si wr => ∃ m : Nat, m ≤ l.length ∧ si = .int .i64 (m : Int) ∧ sc = .int .i64 (wCnt f t q (l.take m) : Int) ∧ KW w (.slice ps l.length cs) l f t wr) (fun _ i _ => l.length - (intOf i).toNat)
  case atStart => exact ⟨0, by omega, rfl, rfl, HK0.out⟩
  case round =>
    obtain ⟨m, hm, rfl, rfl, hkr⟩ := hrel
    have hql := wCnt_le f t q (l.take m)
    have htl : (l.take m).length = m := by rw [List.length_take]; omega
    rw [htl] at hql
    clear htl
    by_cases hlt : m < l.length
    · have hqs := wCnt_succ f t q l m hlt
      have HQS := Lib.hid hqs
      obtain ⟨b, off, c, hv, hc1, hc2, hblt, hcell⟩ := RdS.at_ hkr.rs (by omega)
      cases hv
      unfold maxLen at hc2
      obtain ⟨c0, c1, c2⟩ := hcell m hlt
      have e0 : wr.cell? ⟨w.heap.size, 0, none⟩ = some (.int .i64 f) := hkr.bw.cell 0
      have e1 : wr.cell? ⟨w.heap.size, 1, none⟩ = some (.int .i64 t) := hkr.bw.cell 1
      have hltw := hkr.bw.lt
      have hkx := hkr.alloc (.cells #[.int .i64 (atS l m).t, .int .i64 (atS l m).v, .int .i64 (atS l m).q] 71)
      clear hcell hqs hkr
      generalize atS l m = x at *
      generalize wCnt f t q (l.take m) = n at *
      have hri := fun w => rin_any x.t f (t - 1) w
      cases hin : inB x.t f (t - 1)
      · have hn : wCnt f t q (l.take (m + 1)) = n := by rw [HQS.out, if_neg (by rw [hin]; simp)]; rfl
        have HN := Lib.hid hn
        rw [hin] at hri
        clear hin hn
        go_wp2_with (go_at_call 111; refine (hri _).mono ?_; rintro e wj ⟨rfl, rfl⟩)
        go_roundw
        case rel => exact ⟨m + 1, by omega, by go_num, by rw [HN.out], hkx⟩
        case measure => simp [intOf]; omega
      · rw [hin] at hri
        by_cases hq : x.q = q
        · have hn : wCnt f t q (l.take (m + 1)) = n + 1 := by rw [HQS.out, if_pos ⟨hin, hq⟩]
          have hq' : (x.q == q) = true := by simpa using hq
          have HN := Lib.hid hn
          clear hin hn hq
          go_wp2_with (go_at_call 111; refine (hri _).mono ?_; rintro e wj ⟨rfl, rfl⟩)
          go_roundw
          case rel => exact ⟨m + 1, by omega, by go_num, by rw [HN.out]; go_num, hkx⟩
          case measure => simp [intOf]; omega
        · have hn : wCnt f t q (l.take (m + 1)) = n := by rw [HQS.out, if_neg (fun h => hq h.2)]; rfl
          have hq' : (x.q == q) = false := by simpa using hq
          have HN := Lib.hid hn
          clear hin hn hq
          go_wp2_with (go_at_call 111; refine (hri _).mono ?_; rintro e wj ⟨rfl, rfl⟩)
          go_roundw
          case rel => exact ⟨m + 1, by omega, by go_num, by rw [HN.out], hkx⟩
          case measure => simp [intOf]; omega
    · obtain rfl : m = l.length := by omega
      have hta : l.take l.length = l := List.take_length
      have HTA := Lib.hid hta
      clear hta
      go_wp2_with fail
      go_ret
      exact ⟨ret_int (by rw [HTA.out]), hkr.be⟩
end Go.Proofs.Ytblbfpokkpkcjaa
