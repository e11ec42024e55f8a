/- The contracts of ASpan, AMoment and ALimit (package logmake): numbers within bounds. -/
import Derived.Test.YtmcojidaimeijaaDist
import Derived.Test.YtmcojidaimeijaaPick
import Derived.Deep.RegionWith
import Derived.Deep.DeepCutAuto
namespace Go.Proofs.Ytmcojidaimeijaa
open Go.RowKit
set_option linter.unusedVariables false
set_option linter.unusedSimpArgs false

set_option maxHeartbeats 400000 in
theorem pick_at (w : World) (b : Nat) (g : Nat) (L : List Int) (A : Option Addr) (cap k : Nat) (xs : List Int) (hS : Strm w g L A cap k) (hB : Blk w b 3 (xs.map (Value.int .i64)).toArray) (hg : b ≠ g) (hk : k ≤ 1000000000) (hx : 0 < xs.length ∧ xs.length ≤ 1000000) :
    Calls Try.prog 63 #[.pointer (some ⟨g, 0, none⟩), .slice (some ⟨b, 0, none⟩) xs.length xs.length] w fun e w' =>
      e = .returned (.int .i64 (pk xs L k)) ∧ Went w g L A cap (k + 1) w' := by
  have h1 := nxt_range L k xs.length (by omega)
  have hi : (nxt L k xs.length).toNat < xs.length := by omega
  have hbl := hB.lt
  have HB := Lib.hid hB
  have hcell : ∀ w', Went w g L A cap (k + 1) w' → w'.cell? ⟨b, (nxt L k xs.length).toNat, none⟩ = some (.int .i64 (pk xs L k)) := fun w' hw => by
    have h := HB.out.but hw.2 hg
    rw [h.cell]
    simp [pk, List.getD_eq_getElem?_getD, List.getElem?_eq_getElem hi]
  have HC := Lib.hid hcell
  clear hB hcell
  go_enter Try.func63, Try.ntmps63
  go_wp2_with (go_at_call 41; refine (next_went _ g L A cap k _ hS hk (by omega)).mono ?_; rintro e w' ⟨rfl, hw, hz⟩; have hcell := HC.out _ hw)
  go_ret
  exact ⟨rfl, hw⟩

theorem pick3_at (w : World) (b : Nat) (g : Nat) (L : List Int) (A : Option Addr) (cap k : Nat) (x y z : Int) (hS : Strm w g L A cap k) (hB : Blk w b 3 #[.int .i64 x, .int .i64 y, .int .i64 z]) (hg : b ≠ g) (hk : k ≤ 1000000000) :
    Calls Try.prog 63 #[.pointer (some ⟨g, 0, none⟩), .slice (some ⟨b, 0, none⟩) 3 3] w fun e w' =>
      e = .returned (.int .i64 (pk [x, y, z] L k)) ∧ Went w g L A cap (k + 1) w' :=
  pick_at w b g L A cap k [x, y, z] hS hB hg hk (by simp)
theorem blkNewE (w : World) (t : TypeId) (cs : Array Value) (b : Nat) (hb : b = w.heap.size) : Blk (w.alloc (.cells cs t)) b t cs := by subst hb; exact Blk.new w t cs

/-- What ASpan returns. -/
def SpanEnd (w : World) (g : Nat) (L : List Int) (A : Option Addr) (cap k : Nat) (e : Ending) (w' : World) : Prop :=
  ∃ (f t : Int) (k' : Nat), e = .returned (.agg #[.int .i64 f, .int .i64 t]) ∧ (-1000000000000 ≤ f ∧ f ≤ 1000000000000) ∧ (-1000000000000 ≤ t ∧ t ≤ 1000000000000) ∧ k' ≤ k + 5 ∧ Went w g L A cap k' w'

set_option maxRecDepth 100000 in
set_option maxHeartbeats 4000000 in
theorem aSpan_went (w : World) (g : Nat) (L : List Int) (A : Option Addr) (cap k : Nat) (hS : Strm w g L A cap k) (hk : k ≤ 800000000) :
    Calls Try.prog 32 #[.pointer (some ⟨g, 0, none⟩)] w (SpanEnd w g L A cap k) := by
  have hlt0 := hS.lt
  have hB := Blk.new w 43 #[.int .i64 0, .int .i64 0]
  have HB := Lib.hid hB
  clear hB
  go_enter Try.func32, Try.ntmps32
  go_wp2_with fail
  refine (pick_new _ _ g L A cap k [0, 1, 5, 12, 40, 60] (hS.alloc _) (by simp) (by omega) (by simp)).mono ?_
  rintro e w1 ⟨rfl, hw1⟩
  have hm1 := pk_mem [0, 1, 5, 12, 40, 60] L k (by simp)
  simp only [List.mem_cons, List.not_mem_nil, or_false] at hm1
  generalize pk [0, 1, 5, 12, 40, 60] L k = f at *
  have ha : 0 ≤ f ∧ f ≤ 60 := by omega
  clear hm1
  go_wp2_with fail
  refine (pick_new _ _ g L A cap (k + 1) [0, 1, 7, 20, 50, 200] hw1.1 rfl (by omega) (by simp)).mono ?_
  rintro e w2 ⟨rfl, hw2⟩
  have hm2 := pk_mem [0, 1, 7, 20, 50, 200] L (k + 1) (by simp)
  simp only [List.mem_cons, List.not_mem_nil, or_false] at hm2
  generalize pk [0, 1, 7, 20, 50, 200] L (k + 1) = d at *
  have hb : 0 ≤ d ∧ d ≤ 200 := by omega
  clear hm2
  have hg2 : But g w w2 := ((But.refl g w).alloc _).trans (hw1.2.trans hw2.2)
  have hr2 : Blk w2 w.heap.size 43 #[.int .i64 0, .int .i64 0] := (HB.out.but hw1.2 (by omega)).but hw2.2 (by omega)
  have hs2 := hw2.1
  have hlt2 := hr2.lt
  have hf2 := Blk.new w2 43 #[.int .i64 f, .int .i64 (f + d)]
  have HR2 := Lib.hid hr2
  have HF2 := Lib.hid hf2
  clear hw1 hw2 hr2 hf2
  go_wp2_with fail
  refine (flip_went _ g L A cap (k + 2) 12 (hs2.alloc _) (by omega) (by omega)).mono ?_
  rintro e w3 ⟨rfl, hw3, hz3⟩
  have hr3 : Blk w3 w.heap.size 43 #[.int .i64 0, .int .i64 0] := (HR2.out.alloc _).but hw3.2 (by omega)
  have hf3 : Blk w3 w2.heap.size 43 #[.int .i64 f, .int .i64 (f + d)] := HF2.out.but hw3.2 (by omega)
  have hg3 : But g w w3 := (hg2.alloc _).trans hw3.2
  have hs3 := hw3.1
  clear hz3 hw3 hg2 hs2
  have hne : ¬ w2.heap.size = w.heap.size := by omega
  have hne' : ¬ w.heap.size = w2.heap.size := by omega
  generalize hT : f + d = t at *
  have htt : 0 ≤ t ∧ t ≤ 260 := by omega
  clear hT HR2 HF2
  have c0 : w3.cell? ⟨w.heap.size, 0, none⟩ = some (.int .i64 0) := hr3.cell 0
  have c1 : w3.cell? ⟨w.heap.size, 1, none⟩ = some (.int .i64 0) := hr3.cell 1
  have d0 : w3.cell? ⟨w2.heap.size, 0, none⟩ = some (.int .i64 f) := hf3.cell 0
  have d1 : w3.cell? ⟨w2.heap.size, 1, none⟩ = some (.int .i64 t) := hf3.cell 1
  have fr0 : w3.frozen? ⟨w.heap.size, 0, none⟩ = false := hr3.frozen 0
  have fr1 : w3.frozen? ⟨w.heap.size, 1, none⟩ = false := hr3.frozen 1
  have fs0 : w3.frozen? ⟨w2.heap.size, 0, none⟩ = false := hf3.frozen 0
  have fs1 : w3.frozen? ⟨w2.heap.size, 1, none⟩ = false := hf3.frozen 1
  have hlt3 := hf3.lt
  have hgs3 := hs3.lt
  by_cases hN : nxt L (k + 2) 12 = 0
  · have hN' : (nxt L (k + 2) 12 == 0) = true := by simpa using hN
    clear hN
    generalize w2.heap.size = n at *
    go_upto_region 4 with fail
    go_region_with (first
      | (go_at_call 63; (with_reducible refine (pick3_at _ _ g L A cap (k + 3) f (-1) 90 ?_ ?_ ?_ ?_).mono ?_); (focus ((repeat (first | with_reducible exact hs3 | with_reducible apply Strm.alloc | with_reducible apply Strm.drew)); done)); (focus ((repeat (first | (with_reducible refine blkNewE _ _ _ _ ?_; (focus (simp; done))) | with_reducible apply Blk.drew | with_reducible apply Blk.alloc)); done)); (focus (first | omega | (simp; omega))); (focus omega); rintro e w5 ⟨rfl, hw5⟩; have hs5 := hw5.1; have hb5 := hw5.2; have hf5 : Blk w5 n 43 #[.int .i64 f, .int .i64 t] := Blk.but (by repeat (first | with_reducible exact hf3 | with_reducible apply Blk.drew | with_reducible apply Blk.alloc)) hb5 (by omega); have d50 := hf5.cell 0; have d51 := hf5.cell 1; have hr5 : Blk w5 w.heap.size 43 #[.int .i64 0, .int .i64 0] := Blk.but (by repeat (first | with_reducible exact hr3 | with_reducible apply Blk.drew | with_reducible apply Blk.alloc)) hb5 (by omega); have hg5 : But g w w5 := But.trans (by repeat (first | with_reducible exact hg3 | with_reducible apply But.alloc | with_reducible apply But.drew)) hb5)
      | (go_at_call 63; (with_reducible refine (pick3_at _ _ g L A cap (k + 3 + 1) t 345686400000 345686400001 ?_ ?_ ?_ ?_).mono ?_); (focus ((repeat (first | with_reducible exact hs5 | with_reducible apply Strm.alloc | with_reducible apply Strm.drew)); done)); (focus (first | ((repeat (first | (with_reducible refine blkNewE _ _ _ _ ?_; (focus (simp; done))) | with_reducible apply Blk.drew | with_reducible apply Blk.alloc)); done) | (refine Blk.but ?_ hb5 ?_; (focus ((repeat (first | (with_reducible refine blkNewE _ _ _ _ ?_; (focus (simp; done))) | with_reducible apply Blk.drew | with_reducible apply Blk.alloc)); done)); (have := hs3.lt; first | omega | (simp; omega))))); (focus (have := hs5.lt; first | omega | (simp; omega))); (focus omega); rintro e w7 ⟨rfl, hw7⟩; have hf7 : Blk w7 n 43 #[.int .i64 f, .int .i64 t] := Blk.but (by repeat (first | with_reducible exact hf5 | with_reducible apply Blk.drew | with_reducible apply Blk.alloc)) hw7.2 (by omega); have d70 := hf7.cell 0; have d71 := hf7.cell 1; have f70 := hf7.frozen 0; have f71 := hf7.frozen 1; have hr7 : Blk w7 w.heap.size 43 #[.int .i64 0, .int .i64 0] := Blk.but (by repeat (first | with_reducible exact hr5 | with_reducible apply Blk.drew | with_reducible apply Blk.alloc)) hw7.2 (by omega); have hg7 : But g w w7 := But.trans (by repeat (first | with_reducible exact hg5 | with_reducible apply But.alloc | with_reducible apply But.drew)) hw7.2))
    all_goals
      have hp1 := pk_mem [f, -1, 90] L (k + 3) (by simp)
      have hp2 := pk_mem [t, 345686400000, 345686400001] L (k + 3 + 1) (by simp)
      simp only [List.mem_cons, List.not_mem_nil, or_false] at hp1 hp2
      generalize pk [f, -1, 90] L (k + 3) = r1 at *
      generalize pk [t, 345686400000, 345686400001] L (k + 3 + 1) = r2 at *
      have hq1 : -1000000000000 ≤ r1 ∧ r1 ≤ 1000000000000 := by omega
      have hq2 : -1000000000000 ≤ r2 ∧ r2 ≤ 1000000000000 := by omega
      have hw7' : Went w g L A cap (k + 5) w7 := ⟨hw7.1, hg7⟩
      have c70 := hr7.cell 0
      have c71 := hr7.cell 1
      have g70 := hr7.frozen 0
      have g71 := hr7.frozen 1
      clear hp1 hp2 hw5 hw7 hf5 hf7 hr5 hr7 hg5 hg7 hs5 hb5 d50 d51 c0 c1 d0 d1 fr0 fr1 fs0 fs1 hf3 hr3 hs3 hg3
      go_wp2_with fail
      refine bodyPost_ret (v := .agg #[.int .i64 r1, .int .i64 r2]) (by simp [results, Try.results32, go_sem, c70, c71, d70, d71, hne, hne']) rfl ⟨r1, r2, k + 5, rfl, hq1, hq2, by omega, ?_⟩
      exact hw7'.below hlt0 (by (repeat (refine Below.setCell ?_ (by first | exact Nat.le_refl _ | exact Nat.le_of_lt hlt2) _)); exact Below.refl _ _)
  · have hN' : (nxt L (k + 2) 12 == 0) = false := by simpa using hN
    clear hN
    have hw3' : Went w g L A cap (k + 3) w3 := ⟨hs3, hg3⟩
    clear hr3 hf3 hg3 hs3
    go_wp2_with fail
    refine bodyPost_ret (v := .agg #[.int .i64 f, .int .i64 t]) (by simp [results, Try.results32, go_sem, c0, c1, d0, d1, hne, hne']) rfl ⟨f, t, k + 3, rfl, by omega, by omega, by omega, ?_⟩
    exact hw3'.below hlt0 (by (repeat (refine Below.setCell ?_ (by first | exact Nat.le_refl _ | exact Nat.le_of_lt hlt2) _)); exact Below.refl _ _)
end Go.Proofs.Ytmcojidaimeijaa
