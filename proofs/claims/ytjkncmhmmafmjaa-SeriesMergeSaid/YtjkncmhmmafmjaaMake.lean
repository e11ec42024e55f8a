/- The contracts of what makes samples, windows and factors out of a stream (package logmake). -/
import Derived.Test.YtjkncmhmmafmjaaApp
namespace Go.Proofs.Ytjkncmhmmafmjaa
open Go.RowKit
set_option linter.unusedVariables false
set_option linter.unusedSimpArgs false

def oneSample (L : List Int) (k : Nat) : Smp :=
  ⟨pk [0, 50, 345686399999, 345686400000, -1] L k, pk [0, 1, 1000000, -1000000, 1000001, -1000001, 4611686018427387904, -9223372036854775808] L (k + 1), pk [0, 1, 2, 3, -1] L (k + 2)⟩

set_option maxHeartbeats 400000 in
theorem one_went (w : World) (g : Nat) (L : List Int) (A : Option Addr) (cap k : Nat) (hS : Strm w g L A cap k) (hk : k ≤ 900000000) :
    Calls Try.prog 6 #[.pointer (some ⟨g, 0, none⟩)] w fun e w' => e = .returned (oneSample L k).agg ∧ Went w g L A cap (k + 3) w' := by
  have hlt := hS.lt
  have hB := Blk.new w 27 #[.int .i64 0, .int .i64 0, .int .i64 0]
  have HB := Lib.hid hB
  clear hB
  go_enter Try.func6, Try.ntmps6
  go_wp2_with fail
  refine (pick_new _ _ g L A cap k [0, 50, 345686399999, 345686400000, -1] (hS.alloc _) (by simp) (by omega) (by simp)).mono ?_
  rintro e w1 ⟨rfl, hw1⟩
  go_wp2_with fail
  refine (pick_new _ _ g L A cap (k + 1) [0, 1, 1000000, -1000000, 1000001, -1000001, 4611686018427387904, -9223372036854775808] hw1.1 rfl (by omega) (by simp)).mono ?_
  rintro e w2 ⟨rfl, hw2⟩
  go_wp2_with fail
  refine (pick_new _ _ g L A cap (k + 2) [0, 1, 2, 3, -1] hw2.1 rfl (by omega) (by simp)).mono ?_
  rintro e w3 ⟨rfl, hw3⟩
  have hB3 : Blk w3 w.heap.size 27 #[.int .i64 0, .int .i64 0, .int .i64 0] := ((HB.out.but hw1.2 (by omega)).but hw2.2 (by omega)).but hw3.2 (by omega)
  have c0 : w3.cell? ⟨w.heap.size, 0, none⟩ = some (.int .i64 0) := hB3.cell 0
  have c1 : w3.cell? ⟨w.heap.size, 1, none⟩ = some (.int .i64 0) := hB3.cell 1
  have c2 : w3.cell? ⟨w.heap.size, 2, none⟩ = some (.int .i64 0) := hB3.cell 2
  have f0 : w3.frozen? ⟨w.heap.size, 0, none⟩ = false := hB3.frozen 0
  have f1 : w3.frozen? ⟨w.heap.size, 1, none⟩ = false := hB3.frozen 1
  have f2 : w3.frozen? ⟨w.heap.size, 2, none⟩ = false := hB3.frozen 2
  clear hB3
  go_wp2_with fail
  refine bodyPost_ret (v := (oneSample L k).agg) (by simp [results, Try.results6, go_sem, oneSample, Smp.agg, c0, c1, c2]) rfl ⟨rfl, ?_, ?_⟩
  · exact (((hw3.1.setCell (by omega) _).setCell (by omega) _).setCell (by omega) _)
  · have h3 : But g w w3 := (((But.refl g w).alloc _).trans hw1.2).trans (hw2.2.trans hw3.2)
    exact ((h3.setCell (.inr (Nat.le_refl _)) _).setCell (.inr (Nat.le_refl _)) _).setCell (.inr (Nat.le_refl _)) _

/-- The sample of one round of RightSamples. -/
def rightOne (L : List Int) (k : Nat) (t : Int) : Smp :=
  ⟨t, if pk [0, 0, 0, 1, 2] L (k + 1) = 2 then 0 else pk [5, 5, 7, 7, -3, 100, 0] L k, pk [0, 0, 0, 1, 2] L (k + 1)⟩
/-- What RightSamples has after i rounds: the samples, and the next moment. -/
def rightTo (L : List Int) (k : Nat) (t : Int) : Nat → List Smp × Int
  | 0 => ([], t)
  | i + 1 => ((rightTo L k t i).1 ++ [rightOne L (k + 3 * i) (rightTo L k t i).2], (rightTo L k t i).2 + pk [1, 5, 10, 30, 60] L (k + 3 * i + 2))
/-- How many samples RightSamples makes. -/
def rightN (L : List Int) (k : Nat) (most : Int) : Nat := (nxt L (k + 1) (most + 1)).toNat
def rightSamples (L : List Int) (k : Nat) (most : Int) : List Smp := (rightTo L (k + 2) (pk [0, 5, 90] L k) (rightN L k most)).1

theorem rightTo_length (L : List Int) (k : Nat) (t : Int) (i : Nat) : (rightTo L k t i).1.length = i := by
  induction i with
  | zero => rfl
  | succ i ih => simp [rightTo, ih]
theorem rightTo_bound (L : List Int) (k : Nat) (t : Int) (i : Nat) (h : 0 ≤ t ∧ t ≤ 90) : 0 ≤ (rightTo L k t i).2 ∧ (rightTo L k t i).2 ≤ 90 + 60 * (i : Int) := by
  induction i with
  | zero => simp [rightTo]; exact h
  | succ i ih =>
    have := pk_mem [1, 5, 10, 30, 60] L (k + 3 * i + 2) (by simp)
    simp only [List.mem_cons, List.not_mem_nil, or_false] at this
    simp only [rightTo]
    omega

set_option maxRecDepth 100000 in
set_option maxHeartbeats 1000000 in
theorem right_went (w : World) (g : Nat) (L : List Int) (A : Option Addr) (cap k : Nat) (most : Int) (hS : Strm w g L A cap k) (hk : k ≤ 800000000) (hm : 0 ≤ most ∧ most ≤ 1000) :
    Calls Try.prog 39 #[.pointer (some ⟨g, 0, none⟩), .int .i64 most] w fun e w' =>
      ∃ v, e = .returned v ∧ w'.ownsRow w.heap.size 27 3 v (rightN L k most) (cellsOf (rightSamples L k most)) ∧ Went w g L A cap (k + 2 + 3 * rightN L k most) w' := by
  have hlt0 := hS.lt
  have hr := nxt_range L (k + 1) (most + 1) (by omega)
  have hn : ((rightN L k most : Nat) : Int) = 0 + nxt L (k + 1) (most - 0 + 1) := by unfold rightN; rw [show most - 0 + 1 = most + 1 from by omega]; omega
  have hN : rightN L k most ≤ 1000 := by unfold rightN; omega
  have hp : 0 ≤ pk [0, 5, 90] L k ∧ pk [0, 5, 90] L k ≤ 90 := by
    have := pk_mem [0, 5, 90] L k (by simp)
    simp only [List.mem_cons, List.not_mem_nil, or_false] at this
    omega
  have hfin : rightSamples L k most = (rightTo L (k + 2) (pk [0, 5, 90] L k) (rightN L k most)).1 := rfl
  generalize rightSamples L k most = R at *
  generalize rightN L k most = N at *
  have HN := Lib.hid hn
  have HF := Lib.hid hfin
  obtain ⟨i0, hi0, hz0, hz1, hz2⟩ := info_parts info_smp
  clear hn hfin hr
  go_enter Try.func39, Try.ntmps39
  go_wp2_with fail
  refine (pick_new _ _ g L A cap k [0, 5, 90] hS rfl (by omega) (by simp)).mono ?_
  rintro e w1 ⟨rfl, hw1⟩
  generalize pk [0, 5, 90] L k = T at *
  go_wp2_with fail
  refine (range_went _ g L A cap (k + 1) 0 most hw1.1 (by omega) (by omega) (by omega) (by omega)).mono ?_
  rintro e w2 ⟨rfl, hw2, hz2⟩
  rw [← HN.out]
  have hg2 : Went w g L A cap (k + 2 + 3 * 0) w2 := ⟨hw2.1, hw1.2.trans hw2.2⟩
  clear hw1 hw2 hz2 HN
  go_wp2_with fail
  go_loopw [5, 6, 14] (fun v t i wr => ∃ j : Nat, j ≤ N ∧ i = .int .i64 (j : Int) ∧ t = .int .i64 (rightTo L (k + 2) T j).2 ∧ wr.ownsRow w.heap.size 27 3 v j (cellsOf (rightTo L (k + 2) T j).1) ∧ Went w g L A cap (k + 2 + 3 * j) wr)
    (fun _ _ i _ => N - (intOf i).toNat)
  case atStart => exact ⟨0, by omega, rfl, rfl, World.ownsRow_nil _ _ _ _, hg2⟩
  case round =>
    obtain ⟨j, hj, rfl, rfl, hown, hwr⟩ := hrel
    by_cases hlt : j < N
    · have hs1 := rightTo_bound L (k + 2) T j hp
      have hstep1 : (rightTo L (k + 2) T (j + 1)).1 = (rightTo L (k + 2) T j).1 ++ [rightOne L (k + 2 + 3 * j) (rightTo L (k + 2) T j).2] := rfl
      have hstep2 : (rightTo L (k + 2) T (j + 1)).2 = (rightTo L (k + 2) T j).2 + pk [1, 5, 10, 30, 60] L (k + 2 + 3 * j + 2) := rfl
      have hlen := rightTo_length L (k + 2) T j
      generalize (rightTo L (k + 2) T j).1 = xs at *
      generalize (rightTo L (k + 2) T j).2 = t at *
      have H1 := Lib.hid hstep1
      have H2 := Lib.hid hstep2
      have H3 := Lib.hid hlen
      clear hstep1 hstep2 hlen
      have hpm := pk_mem [1, 5, 10, 30, 60] L (k + 2 + 3 * j + 2) (by simp)
      simp only [List.mem_cons, List.not_mem_nil, or_false] at hpm
      have hpb : 1 ≤ pk [1, 5, 10, 30, 60] L (k + 2 + 3 * j + 2) ∧ pk [1, 5, 10, 30, 60] L (k + 2 + 3 * j + 2) ≤ 60 := by omega
      clear hpm
      have hone : rightOne L (k + 2 + 3 * j) t = ⟨t, if pk [0, 0, 0, 1, 2] L (k + 2 + 3 * j + 1) = 2 then 0 else pk [5, 5, 7, 7, -3, 100, 0] L (k + 2 + 3 * j), pk [0, 0, 0, 1, 2] L (k + 2 + 3 * j + 1)⟩ := rfl
      have hszr := hwr.2.size
      by_cases hq : pk [0, 0, 0, 1, 2] L (k + 2 + 3 * j + 1) = 2
      · have hq' : (pk [0, 0, 0, 1, 2] L (k + 2 + 3 * j + 1) == 2) = true := by simpa using hq
        rw [if_pos hq] at hone
        have H4 := Lib.hid hone
        clear hq hone
        go_wp2_with fail
        refine (pick_new _ _ g L A cap (k + 2 + 3 * j) [5, 5, 7, 7, -3, 100, 0] hwr.1 rfl (by omega) (by simp)).mono ?_
        rintro e wa ⟨rfl, hwa⟩
        generalize pk [5, 5, 7, 7, -3, 100, 0] L (k + 2 + 3 * j) = va at *
        go_wp2_with fail
        refine (pick_new _ _ g L A cap (k + 2 + 3 * j + 1) [0, 0, 0, 1, 2] hwa.1 rfl (by omega) (by simp)).mono ?_
        rintro e wb ⟨rfl, hwb⟩
        generalize pk [0, 0, 0, 1, 2] L (k + 2 + 3 * j + 1) = vb at *
        have hownb : wb.ownsRow w.heap.size 27 3 u5 j (cellsOf xs) := own_but hwa.1 (by decide) (own_but hwr.1 (by decide) hown hwa.2) hwb.2
        have hwb' : Went w g L A cap (k + 2 + 3 * j + 1 + 1) wb := ⟨hwb.1, hwr.2.trans (hwa.2.trans hwb.2)⟩
        have hszb := hwb'.2.size
        clear hwa hwb hown hwr
        go_wp2_with (at_builtin; go_loud (refine wpList_append_smp rfl (.tmp 28) (.tmp 30) rfl w.heap.size u5 j xs rfl (by exact (hownb.alloc _).alloc _) (wb.heap.size + 1) rfl ⟨t, 0, vb⟩ (by exact Blk.new1 _ _ _ _) (by omega) (by simp; omega) ?_); intro v1 wc hown1 hgrow1)
        have hwc : Went w g L A cap (k + 2 + 3 * j + 1 + 1) wc := hwb'.below hlt0 ((((Below.refl _ wb).alloc hszb _).alloc (by simp; omega) _).trans (below_grown ((hownb.alloc _).alloc _) (by simp; omega) hgrow1))
        clear hownb hgrow1 hwb'
        refine (pick_new _ _ g L A cap (k + 2 + 3 * j + 2) [1, 5, 10, 30, 60] hwc.1 rfl (by omega) (by simp)).mono ?_
        rintro e wd ⟨rfl, hwd⟩
        generalize pk [1, 5, 10, 30, 60] L (k + 2 + 3 * j + 2) = dd at *
        have hownd := own_but hwc.1 (by decide) hown1 hwd.2
        have hwd' : Went w g L A cap (k + 2 + 3 * (j + 1)) wd := ⟨hwd.1, hwc.2.trans hwd.2⟩
        clear hwc hwd hown1
        go_wp2_with fail
        go_roundw
        case rel => exact ⟨j + 1, by omega, by go_num, by rw [H2.out], by rw [H1.out, H4.out]; exact hownd, hwd'⟩
        case measure => simp [intOf]; omega
      · have hq' : (pk [0, 0, 0, 1, 2] L (k + 2 + 3 * j + 1) == 2) = false := by simpa using hq
        rw [if_neg hq] at hone
        have H4 := Lib.hid hone
        clear hq hone
        go_wp2_with fail
        refine (pick_new _ _ g L A cap (k + 2 + 3 * j) [5, 5, 7, 7, -3, 100, 0] hwr.1 rfl (by omega) (by simp)).mono ?_
        rintro e wa ⟨rfl, hwa⟩
        generalize pk [5, 5, 7, 7, -3, 100, 0] L (k + 2 + 3 * j) = va at *
        go_wp2_with fail
        refine (pick_new _ _ g L A cap (k + 2 + 3 * j + 1) [0, 0, 0, 1, 2] hwa.1 rfl (by omega) (by simp)).mono ?_
        rintro e wb ⟨rfl, hwb⟩
        generalize pk [0, 0, 0, 1, 2] L (k + 2 + 3 * j + 1) = vb at *
        have hownb : wb.ownsRow w.heap.size 27 3 u5 j (cellsOf xs) := own_but hwa.1 (by decide) (own_but hwr.1 (by decide) hown hwa.2) hwb.2
        have hwb' : Went w g L A cap (k + 2 + 3 * j + 1 + 1) wb := ⟨hwb.1, hwr.2.trans (hwa.2.trans hwb.2)⟩
        have hszb := hwb'.2.size
        clear hwa hwb hown hwr
        go_wp2_with (at_builtin; go_loud (refine wpList_append_smp rfl (.tmp 28) (.tmp 30) rfl w.heap.size u5 j xs rfl (by exact (hownb.alloc _).alloc _) (wb.heap.size + 1) rfl ⟨t, va, vb⟩ (by exact Blk.new1 _ _ _ _) (by omega) (by simp; omega) ?_); intro v1 wc hown1 hgrow1)
        have hwc : Went w g L A cap (k + 2 + 3 * j + 1 + 1) wc := hwb'.below hlt0 ((((Below.refl _ wb).alloc hszb _).alloc (by simp; omega) _).trans (below_grown ((hownb.alloc _).alloc _) (by simp; omega) hgrow1))
        clear hownb hgrow1 hwb'
        refine (pick_new _ _ g L A cap (k + 2 + 3 * j + 2) [1, 5, 10, 30, 60] hwc.1 rfl (by omega) (by simp)).mono ?_
        rintro e wd ⟨rfl, hwd⟩
        generalize pk [1, 5, 10, 30, 60] L (k + 2 + 3 * j + 2) = dd at *
        have hownd := own_but hwc.1 (by decide) hown1 hwd.2
        have hwd' : Went w g L A cap (k + 2 + 3 * (j + 1)) wd := ⟨hwd.1, hwc.2.trans hwd.2⟩
        clear hwc hwd hown1
        go_wp2_with fail
        go_roundw
        case rel => exact ⟨j + 1, by omega, by go_num, by rw [H2.out], by rw [H1.out, H4.out]; exact hownd, hwd'⟩
        case measure => simp [intOf]; omega
    · obtain rfl : j = N := by omega
      go_wp2_with fail
      go_ret
      refine ⟨_, rfl, ?_, ?_⟩
      · rw [HF.out]; exact hown
      · exact hwr
end Go.Proofs.Ytjkncmhmmafmjaa
