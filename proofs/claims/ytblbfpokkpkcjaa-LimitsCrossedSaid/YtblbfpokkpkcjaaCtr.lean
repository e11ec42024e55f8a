/- The contract of Counters (package logmake): it makes some samples, whose numbers are small. -/
import Derived.Test.YtblbfpokkpkcjaaCurve
namespace Go.Proofs.Ytblbfpokkpkcjaa
open Go.RowKit
set_option linter.unusedVariables false
set_option linter.unusedSimpArgs false

theorem Near.add {l : List Smp} (h : Near l) (t v q : Int) (ht : 0 ≤ t ∧ t ≤ 1000000) (hv : 0 ≤ v ∧ v ≤ 9) (hq : 0 ≤ q ∧ q ≤ 2) : Near (l ++ [⟨t, v, q⟩]) :=
  NearB.snoc h _ ⟨by simp only; omega, by simp only; omega, by simp only; omega⟩

set_option maxRecDepth 100000 in
set_option maxHeartbeats 2000000 in
theorem counters_went (w : World) (g : Nat) (L : List Int) (A : Option Addr) (cap k : Nat) (hS : Strm w g L A cap k) (hk : k ≤ 700000000) :
    Calls Try.prog 89 #[.pointer (some ⟨g, 0, none⟩)] w fun e w' => ∃ v, e = .returned v ∧ CurveEnd w g L A cap k 9 v w' := by
  have hlt0 := hS.lt
  go_enter Try.func89, Try.ntmps89
  go_wp2_with fail
  refine (pick_new _ _ g L A cap k [0, 5] hS rfl (by omega) (by simp)).mono ?_
  rintro e w1 ⟨rfl, hw1⟩
  have hm1 := pk_mem [0, 5] L k (by simp)
  simp only [List.mem_cons, List.not_mem_nil, or_false] at hm1
  generalize pk [0, 5] L k = T at *
  have hT : 0 ≤ T ∧ T ≤ 5 := by omega
  go_wp2_with fail
  refine (range_went _ g L A cap (k + 1) 0 9 hw1.1 (by omega) (by omega) (by omega) (by omega)).mono ?_
  rintro e w2 ⟨rfl, hw2, hz2⟩
  have hr2 := nxt_range L (k + 1) (9 - 0 + 1) (by omega)
  generalize nxt L (k + 1) (9 - 0 + 1) = V0 at *
  have hV : 0 ≤ 0 + V0 ∧ 0 + V0 ≤ 9 := by omega
  generalize 0 + V0 = V at *
  go_wp2_with fail
  refine (range_went _ g L A cap (k + 2) 0 9 hw2.1 (by omega) (by omega) (by omega) (by omega)).mono ?_
  rintro e w3 ⟨rfl, hw3, hz3⟩
  have hr3 := nxt_range L (k + 2) (9 - 0 + 1) (by omega)
  generalize nxt L (k + 2) (9 - 0 + 1) = N0 at *
  obtain ⟨N, hN⟩ : ∃ N : Nat, 0 + N0 = (N : Int) := ⟨(0 + N0).toNat, by omega⟩
  rw [hN]
  have hN9 : N ≤ 9 := by omega
  have hg3 : Went w g L A cap (k + 3 + 3 * 0) w3 := ⟨hw3.1, hw1.2.trans (hw2.2.trans hw3.2)⟩
  clear hw1 hw2 hw3 hz2 hz3 hr2 hr3 hN hm1
  go_wp2_with fail
  go_loopw [3, 4, 5, 14] (fun sl st sv si wr => ∃ (j : Nat) (t v : Int) (vl : Value) (l : List Smp), vl = sl ∧ j ≤ N ∧ si = .int .i64 (j : Int) ∧ st = .int .i64 t ∧ sv = .int .i64 v ∧ (0 ≤ t ∧ t ≤ 5 + 20 * (j : Int)) ∧ (0 ≤ v ∧ v ≤ 9) ∧ l.length = j ∧ Near l ∧ wr.ownsRow w.heap.size 71 3 vl j (cellsOf l) ∧ Went w g L A cap (k + 3 + 3 * j) wr)
    (fun _ _ _ i _ => N - (intOf i).toNat)
  case atStart => exact ⟨0, T, V, _, [], rfl, by omega, rfl, rfl, rfl, by omega, by omega, rfl, (fun x hx => by simp at hx), World.ownsRow_nil _ _ _ _, hg3⟩
  case round =>
    obtain ⟨j, t, v, vl, l, rfl, hj, rfl, rfl, rfl, ht, hv, hl, hnear, hown, hwr⟩ := hrel
    have HL := Lib.hid hl
    have HNR := Lib.hid hnear
    have hszr := hwr.2.size
    clear hl hnear
    by_cases hlt : j < N
    · go_wp2_with fail
      refine (pick_new _ _ g L A cap (k + 3 + 3 * j) [0, 0, 0, 1, 2] hwr.1 rfl (by omega) (by simp)).mono ?_
      rintro e wa ⟨rfl, hwa⟩
      have hm2 := pk_mem [0, 0, 0, 1, 2] L (k + 3 + 3 * j) (by simp)
      simp only [List.mem_cons, List.not_mem_nil, or_false] at hm2
      generalize pk [0, 0, 0, 1, 2] L (k + 3 + 3 * j) = q at *
      have hq : 0 ≤ q ∧ q ≤ 2 := by omega
      have hownb : wa.ownsRow w.heap.size 71 3 vl j (cellsOf l) := own_but hwr.1 (by decide) hown hwa.2
      have hwb' : Went w g L A cap (k + 3 + 3 * j + 1) wa := ⟨hwa.1, hwr.2.trans hwa.2⟩
      have hszb := hwb'.2.size
      clear hwa hown hwr hm2
      by_cases hq2 : q = 2
      · subst hq2
        go_wp2_with (at_builtin; go_loud (refine wpList_append_smp rfl (.tmp 26) (.tmp 28) rfl w.heap.size vl j l rfl (by exact (hownb.alloc _).alloc _) (wa.heap.size + 1) rfl ⟨t, 0, 2⟩ (by exact Blk.new1 _ _ _ _) (by omega) (by simp; omega) ?_); intro v1 wc hown1 hgrow1)
        have hwc : Went w g L A cap (k + 3 + 3 * j + 1) wc := hwb'.below hlt0 ((((Below.refl _ wa).alloc hszb _).alloc (by simp; omega) _).trans (below_grown ((hownb.alloc _).alloc _) (by simp; omega) hgrow1))
        clear hownb hgrow1 hwb'
        refine (pick_new _ _ g L A cap (k + 3 + 3 * j + 1) [1, 5, 20] hwc.1 rfl (by omega) (by simp)).mono ?_
        rintro e wd ⟨rfl, hwd⟩
        have hm3 := pk_mem [1, 5, 20] L (k + 3 + 3 * j + 1) (by simp)
        simp only [List.mem_cons, List.not_mem_nil, or_false] at hm3
        generalize pk [1, 5, 20] L (k + 3 + 3 * j + 1) = dt at *
        have hdt : 0 ≤ dt ∧ dt ≤ 20 := by omega
        have hownd := own_but hwc.1 (by decide) hown1 hwd.2
        have hwd' : Went w g L A cap (k + 3 + 3 * j + 1 + 1) wd := ⟨hwd.1, hwc.2.trans hwd.2⟩
        clear hwc hwd hown1 hm3
        go_wp2_with fail
        refine (pick_new _ _ g L A cap (k + 3 + 3 * j + 1 + 1) [0, 1, 3, 8] hwd'.1 rfl (by omega) (by simp)).mono ?_
        rintro e we ⟨rfl, hwe⟩
        have hm4 := pk_mem [0, 1, 3, 8] L (k + 3 + 3 * j + 1 + 1) (by simp)
        simp only [List.mem_cons, List.not_mem_nil, or_false] at hm4
        generalize pk [0, 1, 3, 8] L (k + 3 + 3 * j + 1 + 1) = dv at *
        have hdv : 0 ≤ dv ∧ dv ≤ 8 := by omega
        have howne := own_but hwd'.1 (by decide) hownd hwe.2
        have hwe' : Went w g L A cap (k + 3 + 3 * (j + 1)) we := ⟨hwe.1, hwd'.2.trans hwe.2⟩
        clear hwd' hwe hownd hm4
        go_wp2_with fail
        go_roundw
        case rel => exact ⟨j + 1, t + dt, (v + dv) % 10, _, l ++ [⟨t, 0, 2⟩], rfl, by omega, by go_num, by go_num, by go_num, by omega, by omega, by simp [HL.out], HNR.out.add _ _ _ (by omega) (by omega) (by omega), howne, hwe'⟩
        case measure => simp [intOf]; omega
      · have hq2' : (q == 2) = false := by simpa using hq2
        clear hq2
        go_wp2_with (at_builtin; go_loud (refine wpList_append_smp rfl (.tmp 26) (.tmp 28) rfl w.heap.size vl j l rfl (by exact (hownb.alloc _).alloc _) (wa.heap.size + 1) rfl ⟨t, v, q⟩ (by exact Blk.new1 _ _ _ _) (by omega) (by simp; omega) ?_); intro v1 wc hown1 hgrow1)
        have hwc : Went w g L A cap (k + 3 + 3 * j + 1) wc := hwb'.below hlt0 ((((Below.refl _ wa).alloc hszb _).alloc (by simp; omega) _).trans (below_grown ((hownb.alloc _).alloc _) (by simp; omega) hgrow1))
        clear hownb hgrow1 hwb'
        refine (pick_new _ _ g L A cap (k + 3 + 3 * j + 1) [1, 5, 20] hwc.1 rfl (by omega) (by simp)).mono ?_
        rintro e wd ⟨rfl, hwd⟩
        have hm3 := pk_mem [1, 5, 20] L (k + 3 + 3 * j + 1) (by simp)
        simp only [List.mem_cons, List.not_mem_nil, or_false] at hm3
        generalize pk [1, 5, 20] L (k + 3 + 3 * j + 1) = dt at *
        have hdt : 0 ≤ dt ∧ dt ≤ 20 := by omega
        have hownd := own_but hwc.1 (by decide) hown1 hwd.2
        have hwd' : Went w g L A cap (k + 3 + 3 * j + 1 + 1) wd := ⟨hwd.1, hwc.2.trans hwd.2⟩
        clear hwc hwd hown1 hm3
        go_wp2_with fail
        refine (pick_new _ _ g L A cap (k + 3 + 3 * j + 1 + 1) [0, 1, 3, 8] hwd'.1 rfl (by omega) (by simp)).mono ?_
        rintro e we ⟨rfl, hwe⟩
        have hm4 := pk_mem [0, 1, 3, 8] L (k + 3 + 3 * j + 1 + 1) (by simp)
        simp only [List.mem_cons, List.not_mem_nil, or_false] at hm4
        generalize pk [0, 1, 3, 8] L (k + 3 + 3 * j + 1 + 1) = dv at *
        have hdv : 0 ≤ dv ∧ dv ≤ 8 := by omega
        have howne := own_but hwd'.1 (by decide) hownd hwe.2
        have hwe' : Went w g L A cap (k + 3 + 3 * (j + 1)) we := ⟨hwe.1, hwd'.2.trans hwe.2⟩
        clear hwd' hwe hownd hm4
        go_wp2_with fail
        go_roundw
        case rel => exact ⟨j + 1, t + dt, (v + dv) % 10, _, l ++ [⟨t, v, q⟩], rfl, by omega, by go_num, by go_num, by go_num, by omega, by omega, by simp [HL.out], HNR.out.add _ _ _ (by omega) (by omega) (by omega), howne, hwe'⟩
        case measure => simp [intOf]; omega
    · obtain rfl : j = N := by omega
      go_wp2_with fail
      go_ret
      exact ⟨_, rfl, l, _, by rw [HL.out]; exact hown, by rw [HL.out]; omega, HNR.out, by omega, hwr⟩
end Go.Proofs.Ytblbfpokkpkcjaa
