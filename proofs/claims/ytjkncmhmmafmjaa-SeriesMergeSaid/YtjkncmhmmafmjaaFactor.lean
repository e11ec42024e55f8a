/- The contract of Factor (package logmake). -/
import Derived.Test.YtjkncmhmmafmjaaMakeb
import Derived.Test.YtjkncmhmmafmjaaChk
namespace Go.Proofs.Ytjkncmhmmafmjaa
open Go.RowKit
set_option linter.unusedVariables false
set_option linter.unusedSimpArgs false

def facA : List (Int × Int) := [(1, 2), (3, 1), (-1, 3), (0, 1), (1000000, 1), (1, 1000000), (5, 2)]
def facB : List (Int × Int) := [(2, 4), (1, 0), (1, -1), (1000001, 1), (1, 1000001), (-9223372036854775808, 1), (1, 4611686018427387904), (0, 2)]
def facOf (L : List Int) (k : Nat) : Int × Int :=
  if nxt L (k + 1) 12 = 0 then facB.getD (nxt L (k + 2) 8).toNat (0, 0) else facA.getD (nxt L k 7).toNat (0, 0)
def facK (L : List Int) (k : Nat) : Nat := if nxt L (k + 1) 12 = 0 then k + 3 else k + 2

def pairCells (l : List (Int × Int)) : List Value := l.flatMap fun p => [.int .i64 p.1, .int .i64 p.2]
theorem pairCells_get (l : List (Int × Int)) (i : Nat) (h : i < l.length) : (pairCells l)[i * 2]? = some (.int .i64 l[i].1) ∧ (pairCells l)[i * 2 + 1]? = some (.int .i64 l[i].2) := by
  induction l generalizing i with
  | nil => simp at h
  | cons x l ih =>
    cases i with
    | zero => simp [pairCells]
    | succ i =>
      have := ih i (by simpa using h)
      rw [show (i + 1) * 2 = i * 2 + 2 from by omega, show i * 2 + 2 + 1 = i * 2 + 1 + 2 from by omega]
      simpa [pairCells] using this
theorem fac_cells {w : World} {b : Nat} {l : List (Int × Int)} (h : Blk w b 48 (pairCells l).toArray) (i : Nat) (hi : i < l.length) :
    w.cell? ⟨b, i * 2, none⟩ = some (.int .i64 (l.getD i (0, 0)).1) ∧ w.cell? ⟨b, i * 2 + 1, none⟩ = some (.int .i64 (l.getD i (0, 0)).2) := by
  obtain ⟨h1, h2⟩ := pairCells_get l i hi
  rw [h.cell, h.cell]
  have e : l.getD i (0, 0) = l[i] := by simp [List.getD_eq_getElem?_getD, List.getElem?_eq_getElem hi]
  rw [e]
  exact ⟨by simpa using h1, by simpa using h2⟩

set_option maxRecDepth 100000 in
set_option maxHeartbeats 1000000 in
theorem factor_went (w : World) (g : Nat) (L : List Int) (A : Option Addr) (cap k : Nat) (hS : Strm w g L A cap k) (hk : k ≤ 800000000) :
    Calls Try.prog 22 #[.pointer (some ⟨g, 0, none⟩)] w fun e w' =>
      e = .returned (.agg #[.int .i64 (facOf L k).1, .int .i64 (facOf L k).2]) ∧ Went w g L A cap (facK L k) w' := by
  have hlt0 := hS.lt
  have hfin : facOf L k = if nxt L (k + 1) 12 = 0 then facB.getD (nxt L (k + 2) 8).toNat (0, 0) else facA.getD (nxt L k 7).toNat (0, 0) := rfl
  have hfk : facK L k = if nxt L (k + 1) 12 = 0 then k + 3 else k + 2 := rfl
  generalize facOf L k = F at *
  generalize facK L k = K at *
  have HF := Lib.hid hfin
  have HK := Lib.hid hfk
  clear hfin hfk
  have hB := Blk.new w 48 #[.int .i64 0, .int .i64 0]
  have HB := Lib.hid hB
  clear hB
  have hr := nxt_range L k 7 (by omega)
  go_enter Try.func22, Try.ntmps22
  go_wp2_with fail
  refine (next_went _ g L A cap k 7 ((hS.alloc _).alloc _) (by omega) (by omega)).mono ?_
  rintro e w1 ⟨rfl, hw1, hz1⟩
  have hb1 : Blk w1 (w.heap.size + 1) 48 (pairCells facA).toArray := (Blk.new1 _ _ _ _).but hw1.2 (by omega)
  have hr1 : Blk w1 w.heap.size 48 #[.int .i64 0, .int .i64 0] := (HB.out.alloc _).but hw1.2 (by omega)
  have hlen1 : (nxt L k 7).toNat < facA.length := by simp [facA]; omega
  obtain ⟨a0, a1⟩ := fac_cells hb1 _ hlen1
  have hsz1 : w1.heap.size = w.heap.size + 2 := by rw [hz1]; simp
  generalize hfa : facA.getD (nxt L k 7).toNat (0, 0) = fa at *
  have HFA := Lib.hid hfa
  have HSZ1 := Lib.hid hsz1
  have HR1 := Lib.hid hr1
  have hg1 : But g w w1 := (((But.refl g w).alloc _).alloc _).trans hw1.2
  have hs1 := hw1.1
  clear hfa hsz1 hz1 hb1 hlen1 hr1 hw1
  have hblkf := Blk.new w1 48 #[.int .i64 fa.1, .int .i64 fa.2]
  have HBF := Lib.hid hblkf
  clear hblkf
  go_wp2_with fail
  refine (flip_went _ g L A cap (k + 1) 12 (hs1.alloc _) (by omega) (by omega)).mono ?_
  rintro e w2 ⟨rfl, hw2, hz2⟩
  have hr2 : Blk w2 w.heap.size 48 #[.int .i64 0, .int .i64 0] := (HR1.out.alloc _).but hw2.2 (by omega)
  have hf2 : Blk w2 w1.heap.size 48 #[.int .i64 fa.1, .int .i64 fa.2] := HBF.out.but hw2.2 (by have := HSZ1.out; omega)
  have hg2 : But g w w2 := (hg1.alloc _).trans hw2.2
  have hs2 := hw2.1
  have hlt2 : w.heap.size < w1.heap.size := by have := HSZ1.out; omega
  have HZ2 := Lib.hid hz2
  clear hz2 hw2 HBF HR1 a0 a1
  by_cases hN : nxt L (k + 1) 12 = 0
  · have hN' : (nxt L (k + 1) 12 == 0) = true := by simpa using hN
    have HN := Lib.hid hN
    clear hN
    have hrr := nxt_range L (k + 2) 8 (by omega)
    have HR2 := Lib.hid hr2
    have HF2 := Lib.hid hf2
    clear hr2 hf2
    go_wp2_with fail
    refine (next_went _ g L A cap (k + 2) 8 (hs2.alloc _) (by omega) (by omega)).mono ?_
    rintro e w3 ⟨rfl, hw3, hz3⟩
    have hsz2 : w.heap.size + 2 < w2.heap.size := by have := HZ2.out; rw [World.size_alloc] at this; have := HSZ1.out; omega
    have hb3 : Blk w3 w2.heap.size 48 (pairCells facB).toArray := (Blk.new w2 _ _).but hw3.2 (by omega)
    have hlen3 : (nxt L (k + 2) 8).toNat < facB.length := by simp [facB]; omega
    obtain ⟨a0, a1⟩ := fac_cells hb3 _ hlen3
    generalize hfb : facB.getD (nxt L (k + 2) 8).toNat (0, 0) = fb at *
    have HFB := Lib.hid hfb
    have hr3 : Blk w3 w.heap.size 48 #[.int .i64 0, .int .i64 0] := (HR2.out.alloc _).but hw3.2 (by omega)
    have hf3 : Blk w3 w1.heap.size 48 #[.int .i64 fa.1, .int .i64 fa.2] := (HF2.out.alloc _).but hw3.2 (by omega)
    have c0 : w3.cell? ⟨w.heap.size, 0, none⟩ = some (.int .i64 0) := hr3.cell 0
    have c1 : w3.cell? ⟨w.heap.size, 1, none⟩ = some (.int .i64 0) := hr3.cell 1
    have d0 : w3.cell? ⟨w1.heap.size, 0, none⟩ = some (.int .i64 fa.1) := hf3.cell 0
    have d1 : w3.cell? ⟨w1.heap.size, 1, none⟩ = some (.int .i64 fa.2) := hf3.cell 1
    have fr0 : w3.frozen? ⟨w.heap.size, 0, none⟩ = false := hr3.frozen 0
    have fr1 : w3.frozen? ⟨w.heap.size, 1, none⟩ = false := hr3.frozen 1
    have fs0 : w3.frozen? ⟨w1.heap.size, 0, none⟩ = false := hf3.frozen 0
    have fs1 : w3.frozen? ⟨w1.heap.size, 1, none⟩ = false := hf3.frozen 1
    have hne : ¬ w1.heap.size = w.heap.size := by omega
    have hne' : ¬ w.heap.size = w1.heap.size := by omega
    have hw3' : Went w g L A cap (k + 3) w3 := ⟨hw3.1, (hg2.alloc _).trans hw3.2⟩
    clear hb3 hr3 hf3 hz3 hfb hg1 hg2 hs1 hs2 hw3 hlen3 hsz2
    go_wp2_with fail
    have hF : F = fb := by have := HF.out; rw [if_pos HN.out] at this; exact this
    have hK : K = k + 3 := by have := HK.out; rw [if_pos HN.out] at this; exact this
    subst hF hK
    refine bodyPost_ret (v := .agg #[.int .i64 F.1, .int .i64 F.2]) (by simp [results, Try.results22, go_sem, c0, c1, d0, d1, hne, hne']) rfl ⟨rfl, ?_⟩
    exact hw3'.below hlt0 (by (repeat (refine Below.setCell ?_ (by first | exact Nat.le_refl _ | exact Nat.le_of_lt hlt2) _)); exact Below.refl _ _)
  · have hN' : (nxt L (k + 1) 12 == 0) = false := by simpa using hN
    have HN := Lib.hid hN
    have c0 : w2.cell? ⟨w.heap.size, 0, none⟩ = some (.int .i64 0) := hr2.cell 0
    have c1 : w2.cell? ⟨w.heap.size, 1, none⟩ = some (.int .i64 0) := hr2.cell 1
    have d0 : w2.cell? ⟨w1.heap.size, 0, none⟩ = some (.int .i64 fa.1) := hf2.cell 0
    have d1 : w2.cell? ⟨w1.heap.size, 1, none⟩ = some (.int .i64 fa.2) := hf2.cell 1
    have fr0 : w2.frozen? ⟨w.heap.size, 0, none⟩ = false := hr2.frozen 0
    have fr1 : w2.frozen? ⟨w.heap.size, 1, none⟩ = false := hr2.frozen 1
    have hne : ¬ w1.heap.size = w.heap.size := by omega
    have hne' : ¬ w.heap.size = w1.heap.size := by omega
    have hw2' : Went w g L A cap (k + 2) w2 := ⟨hs2, hg2⟩
    clear hN hr2 hf2 hg1 hg2 hs1 hs2
    go_wp2_with fail
    have hF : F = fa := by have := HF.out; rw [if_neg HN.out] at this; exact this
    have hK : K = k + 2 := by have := HK.out; rw [if_neg HN.out] at this; exact this
    subst hF hK
    refine bodyPost_ret (v := .agg #[.int .i64 F.1, .int .i64 F.2]) (by simp [results, Try.results22, go_sem, c0, c1, d0, d1, hne, hne']) rfl ⟨rfl, ?_⟩
    exact hw2'.below hlt0 (by (repeat (refine Below.setCell ?_ (by first | exact Nat.le_refl _ | exact Nat.le_of_lt hlt2) _)); exact Below.refl _ _)
end Go.Proofs.Ytjkncmhmmafmjaa
