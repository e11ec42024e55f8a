/- The contract of ExceptionOf: what makes exceptions. -/
import Derived.Test.YtgbnjbbjgkfefaaOdd
namespace Go.Proofs.Ytgbnjbbjgkfefaa
open Go.RowKit
set_option linter.unusedVariables false
set_option linter.unusedSimpArgs false

set_option maxRecDepth 100000 in
set_option maxHeartbeats 2000000 in
theorem exceptionOf_went (w : World) (g : Nat) (L : List Int) (A : Option Addr) (cap k : Nat) (hS : Strm w g L A cap k) (hk : k ≤ 800000000) :
    Calls Try.prog 9 #[.pointer (some ⟨g, 0, none⟩)] w fun e w' =>
      ∃ (a b : Int) (k' : Nat), e = .returned (.agg #[.int .i64 a, .int .i64 b]) ∧ (-1099511627776 ≤ a ∧ a ≤ 1099511627776) ∧ (-1099511627776 ≤ b ∧ b ≤ 1099511627776) ∧ k' ≤ k + 7 ∧ Went w g L A cap k' w' := by
  have hlt0 := hS.lt
  have hB := Blk.new w 27 #[.int .i64 0, .int .i64 0]
  have HB := Lib.hid hB
  clear hB
  go_enter Try.func9, Try.ntmps9
  go_wp2_with fail
  refine (pick_new _ _ g L A cap k [0, 1, 2, 5] (hS.alloc _) (by simp) (by omega) (by simp)).mono ?_
  rintro e w1 ⟨rfl, hw1⟩
  have hm1 := pk_mem [0, 1, 2, 5] L k (by simp)
  simp only [List.mem_cons, List.not_mem_nil, or_false] at hm1
  generalize pk [0, 1, 2, 5] L k = a at *
  have ha : 0 ≤ a ∧ a ≤ 1000 := by omega
  clear hm1
  go_wp2_with fail
  refine (pick_new _ _ g L A cap (k + 1) [1, 10, 30, 1000] hw1.1 rfl (by omega) (by simp)).mono ?_
  rintro e w2 ⟨rfl, hw2⟩
  have hm2 := pk_mem [1, 10, 30, 1000] L (k + 1) (by simp)
  simp only [List.mem_cons, List.not_mem_nil, or_false] at hm2
  generalize pk [1, 10, 30, 1000] L (k + 1) = b at *
  have hb : 0 ≤ b ∧ b ≤ 1000 := by omega
  clear hm2
  have hg2 : But g w w2 := ((But.refl g w).alloc _).trans (hw1.2.trans hw2.2)
  have hr2 : Blk w2 w.heap.size 27 #[.int .i64 0, .int .i64 0] := (HB.out.but hw1.2 (by omega)).but hw2.2 (by omega)
  have hs2 := hw2.1
  have hlt2 := hr2.lt
  have hf2 := Blk.new w2 27 #[.int .i64 a, .int .i64 b]
  have HR2 := Lib.hid hr2
  have HF2 := Lib.hid hf2
  clear hw1 hw2 hr2 hf2
  go_wp2_with fail
  refine (flip_went _ g L A cap (k + 2) 15 (hs2.alloc _) (by omega) (by omega)).mono ?_
  rintro e w3 ⟨rfl, hw3, hz3⟩
  have hr3 : Blk w3 w.heap.size 27 #[.int .i64 0, .int .i64 0] := (HR2.out.alloc _).but hw3.2 (by omega)
  have hf3 : Blk w3 w2.heap.size 27 #[.int .i64 a, .int .i64 b] := HF2.out.but hw3.2 (by omega)
  have hg3 : But g w w3 := (hg2.alloc _).trans hw3.2
  have hs3 := hw3.1
  have HZ3 := Lib.hid hz3
  clear hz3 hw3 hg2 hs2
  have hne : ¬ w2.heap.size = w.heap.size := by omega
  have hne' : ¬ w.heap.size = w2.heap.size := by omega
  by_cases hN : nxt L (k + 2) 15 = 0
  · have hN' : (nxt L (k + 2) 15 == 0) = true := by simpa using hN
    clear hN
    have HR3 := Lib.hid hr3
    have HF3 := Lib.hid hf3
    clear hr3 hf3
    go_wp2_with fail
    refine (odd_went _ g L A cap (k + 3) 0 2000000 hs3 (by omega) (by omega) (by omega) (by omega)).mono ?_
    rintro e w4 ⟨x, rfl, hx, hw4⟩
    have hr4 := HR3.out.but hw4.2 (by omega)
    have hf4 := HF3.out.but hw4.2 (by omega)
    go_wp2_with fail
    refine (odd_went _ g L A cap (k + 5) 1 34560000000 hw4.1 (by omega) (by omega) (by omega) (by omega)).mono ?_
    rintro e w5 ⟨y, rfl, hy, hw5⟩
    have hr5 := hr4.but hw5.2 (by omega)
    have hf5 := hf4.but hw5.2 (by omega)
    have hw5' : Went w g L A cap (k + 7) w5 := ⟨hw5.1, hg3.trans (hw4.2.trans hw5.2)⟩
    have c0 : w5.cell? ⟨w.heap.size, 0, none⟩ = some (.int .i64 0) := hr5.cell 0
    have c1 : w5.cell? ⟨w.heap.size, 1, none⟩ = some (.int .i64 0) := hr5.cell 1
    have d0 : w5.cell? ⟨w2.heap.size, 0, none⟩ = some (.int .i64 a) := hf5.cell 0
    have d1 : w5.cell? ⟨w2.heap.size, 1, none⟩ = some (.int .i64 b) := hf5.cell 1
    have fr0 : w5.frozen? ⟨w.heap.size, 0, none⟩ = false := hr5.frozen 0
    have fr1 : w5.frozen? ⟨w.heap.size, 1, none⟩ = false := hr5.frozen 1
    have fs0 : w5.frozen? ⟨w2.heap.size, 0, none⟩ = false := hf5.frozen 0
    have fs1 : w5.frozen? ⟨w2.heap.size, 1, none⟩ = false := hf5.frozen 1
    clear hr4 hf4 hr5 hf5 hw4 hw5 hg3 hs3
    go_wp2_with fail
    refine bodyPost_ret (v := .agg #[.int .i64 x, .int .i64 y]) (by simp [results, Try.results9, go_sem, c0, c1, d0, d1, hne, hne']) rfl ⟨x, y, k + 7, rfl, hx, hy, by omega, ?_⟩
    exact hw5'.below hlt0 (by (repeat (refine Below.setCell ?_ (by first | exact Nat.le_refl _ | exact Nat.le_of_lt hlt2) _)); exact Below.refl _ _)
  · have hN' : (nxt L (k + 2) 15 == 0) = false := by simpa using hN
    clear hN
    have c0 : w3.cell? ⟨w.heap.size, 0, none⟩ = some (.int .i64 0) := hr3.cell 0
    have c1 : w3.cell? ⟨w.heap.size, 1, none⟩ = some (.int .i64 0) := hr3.cell 1
    have d0 : w3.cell? ⟨w2.heap.size, 0, none⟩ = some (.int .i64 a) := hf3.cell 0
    have d1 : w3.cell? ⟨w2.heap.size, 1, none⟩ = some (.int .i64 b) := hf3.cell 1
    have fr0 : w3.frozen? ⟨w.heap.size, 0, none⟩ = false := hr3.frozen 0
    have fr1 : w3.frozen? ⟨w.heap.size, 1, none⟩ = false := hr3.frozen 1
    have fs0 : w3.frozen? ⟨w2.heap.size, 0, none⟩ = false := hf3.frozen 0
    have fs1 : w3.frozen? ⟨w2.heap.size, 1, none⟩ = false := hf3.frozen 1
    have hw3' : Went w g L A cap (k + 3) w3 := ⟨hs3, hg3⟩
    clear hr3 hf3 hg3 hs3
    go_wp2_with fail
    refine bodyPost_ret (v := .agg #[.int .i64 a, .int .i64 b]) (by simp [results, Try.results9, go_sem, c0, c1, d0, d1, hne, hne']) rfl ⟨a, b, k + 3, rfl, by omega, by omega, by omega, ?_⟩
    exact hw3'.below hlt0 (by (repeat (refine Below.setCell ?_ (by first | exact Nat.le_refl _ | exact Nat.le_of_lt hlt2) _)); exact Below.refl _ _)

end Go.Proofs.Ytgbnjbbjgkfefaa
