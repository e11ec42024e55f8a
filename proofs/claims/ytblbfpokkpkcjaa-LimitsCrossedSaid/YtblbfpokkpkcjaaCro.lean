/- The contracts of crossing and inside (package query). -/
import Derived.Test.YtblbfpokkpkcjaaCrm
import Derived.Test.YtblbfpokkpkcjaaOnline
import Derived.Deep.RegionHeld3
import Derived.RegionTactic
import Derived.Deep.DeepCutAuto
namespace Go.Proofs.Ytblbfpokkpkcjaa
open Go.RowKit
set_option linter.unusedVariables false
set_option linter.unusedSimpArgs false

theorem dif_dist (a b : Int) : dist a b = dif a b := rfl
/-- A fraction whose products with moments are small. -/
def FitT (x : Int × Int) : Prop := (-2000000000000000000 ≤ x.1 ∧ x.1 ≤ 2000000000000000000) ∧ (0 < x.2 ∧ x.2 ≤ 4000000)

set_option maxRecDepth 100000 in
set_option maxHeartbeats 2000000 in
theorem inside_any (x : Int × Int) (f t : Int) (w : World) (hx : FitT x) (hf : 0 ≤ f ∧ f ≤ 400000000000) (ht : 0 ≤ t ∧ t ≤ 400000000000) :
    Calls Try.prog 137 #[.agg #[.int .i64 x.1, .int .i64 x.2], .agg #[.int .i64 f, .int .i64 t]] w fun e w' => e = .returned (.bool (insB f t x)) ∧ Below w.heap.size w w' := by
  obtain ⟨a, b⟩ := x
  unfold FitT at hx
  simp only at *
  have hm1 := mul_bound f b 400000000000 4000000 (by omega) (by omega)
  have hm2 := mul_bound t b 400000000000 4000000 (by omega) (by omega)
  have hw1 : IntKind.i64.wrap (f * b) = f * b := IntWalk.i64_in _ (by omega)
  have hw2 : IntKind.i64.wrap (t * b) = t * b := IntWalk.i64_in _ (by omega)
  have hE : insB f t (a, b) = (decide (f * b ≤ a) && decide (a < t * b)) := rfl
  generalize insB f t (a, b) = E at *
  have HE := Lib.hid hE
  clear hE
  by_cases h1 : f * b ≤ a
  · have h1' : decide (f * b ≤ a) = true := by simpa using h1
    by_cases h2 : a < t * b
    · have h2' : decide (a < t * b) = true := by simpa using h2
      have HE2 := Lib.hid (show E = true by rw [HE.out, h1', h2']; rfl)
      go_enter Try.func137, Try.ntmps137
      go_wp2_with fail
      go_ret
      exact ⟨ret_bool HE2.out.symm, ((Below.refl _ w).alloc (Nat.le_refl _) _).alloc (by simp) _⟩
    · have h2' : decide (a < t * b) = false := by simpa using h2
      have HE2 := Lib.hid (show E = false by rw [HE.out, h1', h2']; rfl)
      have h3 : t * b ≤ a := by omega
      clear h2
      go_enter Try.func137, Try.ntmps137
      go_wp2_with fail
      go_ret
      exact ⟨ret_bool HE2.out.symm, ((Below.refl _ w).alloc (Nat.le_refl _) _).alloc (by simp) _⟩
  · have h1' : decide (f * b ≤ a) = false := by simpa using h1
    have HE2 := Lib.hid (show E = false by rw [HE.out, h1']; rfl)
    have h3 : a < f * b := by omega
    clear h1
    go_enter Try.func137, Try.ntmps137
    go_wp2_with fail
    go_ret
    exact ⟨ret_bool HE2.out.symm, ((Below.refl _ w).alloc (Nat.le_refl _) _).alloc (by simp) _⟩
/-- The boxes of crossing: the result, both samples. -/
structure KX (w0 : World) (nx ny : Nat) (x y : Smp) (w : World) : Prop where
  b : Blk w w0.heap.size 57 #[.int .i64 0, .int .i64 0]
  x : Blk w nx 71 #[.int .i64 x.t, .int .i64 x.v, .int .i64 x.q]
  y : Blk w ny 71 #[.int .i64 y.t, .int .i64 y.v, .int .i64 y.q]
  e : Below w0.heap.size w0 w
theorem KX.step {w0 w w' : World} {nx ny : Nat} {x y : Smp} (hb : Below w.heap.size w w') (h : KX w0 nx ny x y w) : KX w0 nx ny x y w' :=
  ⟨h.b.below hb h.b.lt, h.x.below hb h.x.lt, h.y.below hb h.y.lt, h.e.trans (hb.mono h.e.size)⟩
theorem KX.drew {w0 w : World} {nx ny : Nat} {x y : Smp} (h : KX w0 nx ny x y w) : KX w0 nx ny x y w.drew := KX.step (show Below w.heap.size w w.drew from ⟨rfl, rfl, rfl, Nat.le_refl _, fun _ _ => rfl⟩) h
theorem KX.stored {w0 w : World} {nx ny : Nat} {x y : Smp} (h : KX w0 nx ny x y w) (u u' : Value) (hx : nx ≠ w0.heap.size) (hy : ny ≠ w0.heap.size) :
    Blk ((w.setCell ⟨w0.heap.size, 0, none⟩ u).setCell ⟨w0.heap.size, 1, none⟩ u') nx 71 #[.int .i64 x.t, .int .i64 x.v, .int .i64 x.q] ∧ Blk ((w.setCell ⟨w0.heap.size, 0, none⟩ u).setCell ⟨w0.heap.size, 1, none⟩ u') ny 71 #[.int .i64 y.t, .int .i64 y.v, .int .i64 y.q] :=
  ⟨(h.x.setOther hx _).setOther hx _, (h.y.setOther hy _).setOther hy _⟩
/-- The time of a crossing, of the samples from the first to the second one. -/
def croT (L : Int) (P : List Smp) : Int × Int :=
  if 2 < P.length then ((atS P 1).t, 1)
  else fracOf ((atS P 0).t * dif (atS P 0).v (atS P 1).v + dif (atS P 0).v L * ((atS P 1).t - (atS P 0).t)) (dif (atS P 0).v (atS P 1).v)

set_option maxRecDepth 100000 in
set_option maxHeartbeats 4000000 in
theorem crossing_any (v : Value) (P : List Smp) (L : Int) (w : World) (hR : RdS w 71 v P) (h2 : 2 ≤ P.length) (hlong : P.length ≤ 5000) (hL : -1000000 ≤ L ∧ L ≤ 1000000) (ha : Right (atS P 0)) (hb : Right (atS P 1)) (hv : 2 < P.length ∨ (atS P 0).v ≠ (atS P 1).v) :
    Calls Try.prog 136 #[v, .int .i64 L] w fun e w' => e = .returned (.agg #[.int .i64 (croT L P).1, .int .i64 (croT L P).2]) ∧ Below w.heap.size w w' := by
  have hR1 : RdS _ 71 v P := Rd.alloc hR (.cells #[.int .i64 0, .int .i64 0] 57)
  have hB := Blk.new w 57 #[.int .i64 0, .int .i64 0]
  have hbe := (Below.refl w.heap.size w).alloc (Nat.le_refl _) (.cells #[.int .i64 0, .int .i64 0] 57)
  obtain ⟨b, off, c, rfl, hc1, hc2, hblt, hcell⟩ := RdS.at_ hR1 (by omega)
  unfold maxLen at hc2
  obtain ⟨a0, a1, a2⟩ := hcell 0 (by omega)
  obtain ⟨b0, b1, b2⟩ := hcell 1 (by omega)
  have hE : croT L P = if 2 < P.length then ((atS P 1).t, 1) else fracOf ((atS P 0).t * dif (atS P 0).v (atS P 1).v + dif (atS P 0).v L * ((atS P 1).t - (atS P 0).t)) (dif (atS P 0).v (atS P 1).v) := rfl
  generalize croT L P = E at *
  generalize atS P 0 = x at *
  generalize atS P 1 = y at *
  have HE := Lib.hid hE
  clear hcell hR hR1 hE
  by_cases h3 : 2 < P.length
  · have HE2 := Lib.hid (show E = (y.t, 1) by rw [HE.out, if_pos h3])
    have h3' : (2 : Int) < (P.length : Int) := by omega
    go_enter Try.func136, Try.ntmps136
    go_upto_region 1 with fail
    have hlt := hB.lt
    generalize w.alloc (.cells #[.int .i64 0, .int .i64 0] 57) = w1 at *
    have r0 : w1.cell? ⟨w.heap.size, 0, none⟩ = some (.int .i64 0) := hB.cell 0
    have r1 : w1.cell? ⟨w.heap.size, 1, none⟩ = some (.int .i64 0) := hB.cell 1
    have g0 : w1.frozen? ⟨w.heap.size, 0, none⟩ = false := hB.frozen 0
    have g1 : w1.frozen? ⟨w.heap.size, 1, none⟩ = false := hB.frozen 1
    simp only [Nat.one_mul, Nat.zero_mul, Nat.add_zero] at a0 a1 a2 b0 b1 b2
    go_wp2_with fail
    refine bodyPost_ret (v := .agg #[.int .i64 y.t, .int .i64 1]) (by simp [results, Try.results136, go_sem, r0, r1]) rfl ⟨by rw [HE2.out], ?_⟩
    exact hbe.trans (by (repeat (refine Below.setCell ?_ (by exact Nat.le_refl _) _)); exact Below.refl _ _)
  · have HE2 := Lib.hid (show E = fracOf (x.t * dif x.v y.v + dif x.v L * (y.t - x.t)) (dif x.v y.v) by rw [HE.out, if_neg h3])
    have h3' : (P.length : Int) ≤ 2 := by omega
    have hl2 : (1 : Int) < (P.length : Int) := by omega
    go_enter Try.func136, Try.ntmps136
    go_upto_region 1 with fail
    have hlt := hB.lt
    generalize w.alloc (.cells #[.int .i64 0, .int .i64 0] 57) = w1 at *
    simp only [Nat.one_mul, Nat.zero_mul, Nat.add_zero] at a0 a1 a2 b0 b1 b2
    have hvv : x.v ≠ y.v := by rcases hv with h | h; · omega
                               · exact h
    have hD : 1 ≤ dif x.v y.v ∧ dif x.v y.v ≤ 2000000 := by unfold Right at ha hb; unfold dif; split <;> omega
    have hF : 0 ≤ dif x.v L ∧ dif x.v L ≤ 2000000 := by unfold Right at ha; unfold dif; split <;> omega
    have HD := Lib.hid (dif_dist x.v y.v)
    have hdl := fun w => distance_any x.v L w (by unfold Right at ha; omega) (by omega)
    rw [dif_dist] at hdl
    have HDL := Lib.hid hdl
    clear hdl h3
    generalize dif x.v y.v = D at *
    generalize dif x.v L = F at *
    have hT : -345686400000 ≤ y.t - x.t ∧ y.t - x.t ≤ 345686400000 := by unfold Right at ha hb; omega
    have hm1 := mul_bound x.t D 345686400000 2000000 (by unfold Right at ha; omega) (by omega)
    have hm2 := mul_bound F (y.t - x.t) 2000000 345686400000 (by omega) (by omega)
    have hw1 : IntKind.i64.wrap (y.t - x.t) = y.t - x.t := IntWalk.i64_in _ (by omega)
    have hw2 : IntKind.i64.wrap (x.t * D) = x.t * D := IntWalk.i64_in _ (by omega)
    have hw3 : IntKind.i64.wrap (F * (y.t - x.t)) = F * (y.t - x.t) := IntWalk.i64_in _ (by omega)
    have hw4 : IntKind.i64.wrap (x.t * D + F * (y.t - x.t)) = x.t * D + F * (y.t - x.t) := IntWalk.i64_in _ (by omega)
    have hred := fun w => reduced_any (x.t * D + F * (y.t - x.t)) D w (by omega) (by omega)
    generalize hV : fracOf (x.t * D + F * (y.t - x.t)) D = V at *
    have HRED := Lib.hid hred
    have HV := Lib.hid hV
    clear hred hV hm1 hm2
    go_upto_region 3 with fail
    go_region
    · have hk : KX w (w1.heap.size) (w1.heap.size + 1) x y ((w1.alloc (.cells #[.int .i64 x.t, .int .i64 x.v, .int .i64 x.q] 71)).alloc (.cells #[.int .i64 y.t, .int .i64 y.v, .int .i64 y.q] 71)).drew :=
        ⟨(hB.alloc _).alloc _, ((Blk.new _ _ _).alloc _).drew, (Blk.new1 _ _ _ _).drew, ((hbe.alloc hbe.size _).alloc (by simp; have := hbe.size; omega) _).drew⟩
      have hnx : w1.heap.size ≠ w.heap.size := by omega
      have hny : w1.heap.size + 1 ≠ w.heap.size := by omega
      go_upto_region 4 with fail
      generalize ((w1.alloc (.cells #[.int .i64 x.t, .int .i64 x.v, .int .i64 x.q] 71)).alloc (.cells #[.int .i64 y.t, .int .i64 y.v, .int .i64 y.q] 71)).drew = W2 at *
      generalize w1.heap.size + 1 = ny at *
      generalize w1.heap.size = nx at *
      have c0 : W2.cell? ⟨nx, 0, none⟩ = some (.int .i64 x.t) := hk.x.cell 0
      have c1 : W2.cell? ⟨nx, 1, none⟩ = some (.int .i64 x.v) := hk.x.cell 1
      have d0 : W2.cell? ⟨ny, 0, none⟩ = some (.int .i64 y.t) := hk.y.cell 0
      have d1 : W2.cell? ⟨ny, 1, none⟩ = some (.int .i64 y.v) := hk.y.cell 1
      go_wp2_with fail
      refine (distance_any x.v y.v _ (by unfold Right at ha hb; omega) (by unfold Right at ha hb; omega)).mono ?_
      rintro e w3 ⟨rfl, rfl⟩
      rw [HD.out]
      go_upto_region 5 with fail
      go_region_held3 (fun w' => w'.cell? ⟨nx, 0, none⟩ = some (.int .i64 x.t) ∧ w'.cell? ⟨nx, 1, none⟩ = some (.int .i64 x.v) ∧ w'.cell? ⟨ny, 0, none⟩ = some (.int .i64 y.t))
        (first | exact ⟨hkk.x.cell 0, hkk.x.cell 1, hkk.y.cell 0⟩ | exact ⟨hk.x.cell 0, hk.x.cell 1, hk.y.cell 0⟩ | exact ⟨(hkk.stored _ _ hnx hny).1.cell 0, (hkk.stored _ _ hnx hny).1.cell 1, (hkk.stored _ _ hnx hny).2.cell 0⟩ | go_keep)
        (first
        | (go_at_call 156; (with_reducible refine (HDL.out _).mono ?_); rintro e wk ⟨rfl, rfl⟩)
        | (go_at_call 124; (with_reducible refine (HRED.out _).mono ?_); rintro e wk ⟨rfl, hbk⟩; have hkk := KX.step hbk (by first | assumption | exact KX.drew (by assumption)); have t0 : wk.frozen? ⟨w.heap.size, 0, none⟩ = false := hkk.b.frozen 0; have t1 : wk.frozen? ⟨w.heap.size, 1, none⟩ = false := hkk.b.frozen 1; have t2 : wk.cell? ⟨w.heap.size, 0, none⟩ = some (.int .i64 0) := hkk.b.cell 0; have t3 : wk.cell? ⟨w.heap.size, 1, none⟩ = some (.int .i64 0) := hkk.b.cell 1; clear hbk))
      have hbe2 := hkk.e
      go_wp2_with fail
      refine bodyPost_ret (v := .agg #[.int .i64 V.1, .int .i64 V.2]) (by simp [results, Try.results136, go_sem, t2, t3]) rfl ⟨by rw [HE2.out], ?_⟩
      exact hbe2.trans (by (repeat (refine Below.setCell ?_ (by exact Nat.le_refl _) _)); exact Below.refl _ _)
    · have hk : KX w (w1.heap.size + 1) (w1.heap.size) x y ((w1.alloc (.cells #[.int .i64 y.t, .int .i64 y.v, .int .i64 y.q] 71)).alloc (.cells #[.int .i64 x.t, .int .i64 x.v, .int .i64 x.q] 71)).drew :=
        ⟨(hB.alloc _).alloc _, (Blk.new1 _ _ _ _).drew, ((Blk.new _ _ _).alloc _).drew, ((hbe.alloc hbe.size _).alloc (by simp; have := hbe.size; omega) _).drew⟩
      have hnx : w1.heap.size + 1 ≠ w.heap.size := by omega
      have hny : w1.heap.size ≠ w.heap.size := by omega
      go_upto_region 4 with fail
      generalize ((w1.alloc (.cells #[.int .i64 y.t, .int .i64 y.v, .int .i64 y.q] 71)).alloc (.cells #[.int .i64 x.t, .int .i64 x.v, .int .i64 x.q] 71)).drew = W2 at *
      generalize w1.heap.size + 1 = nx at *
      generalize w1.heap.size = ny at *
      have c0 : W2.cell? ⟨nx, 0, none⟩ = some (.int .i64 x.t) := hk.x.cell 0
      have c1 : W2.cell? ⟨nx, 1, none⟩ = some (.int .i64 x.v) := hk.x.cell 1
      have d0 : W2.cell? ⟨ny, 0, none⟩ = some (.int .i64 y.t) := hk.y.cell 0
      have d1 : W2.cell? ⟨ny, 1, none⟩ = some (.int .i64 y.v) := hk.y.cell 1
      go_wp2_with fail
      refine (distance_any x.v y.v _ (by unfold Right at ha hb; omega) (by unfold Right at ha hb; omega)).mono ?_
      rintro e w3 ⟨rfl, rfl⟩
      rw [HD.out]
      go_upto_region 5 with fail
      go_region_held3 (fun w' => w'.cell? ⟨nx, 0, none⟩ = some (.int .i64 x.t) ∧ w'.cell? ⟨nx, 1, none⟩ = some (.int .i64 x.v) ∧ w'.cell? ⟨ny, 0, none⟩ = some (.int .i64 y.t))
        (first | exact ⟨hkk.x.cell 0, hkk.x.cell 1, hkk.y.cell 0⟩ | exact ⟨hk.x.cell 0, hk.x.cell 1, hk.y.cell 0⟩ | exact ⟨(hkk.stored _ _ hnx hny).1.cell 0, (hkk.stored _ _ hnx hny).1.cell 1, (hkk.stored _ _ hnx hny).2.cell 0⟩ | go_keep)
        (first
        | (go_at_call 156; (with_reducible refine (HDL.out _).mono ?_); rintro e wk ⟨rfl, rfl⟩)
        | (go_at_call 124; (with_reducible refine (HRED.out _).mono ?_); rintro e wk ⟨rfl, hbk⟩; have hkk := KX.step hbk (by first | assumption | exact KX.drew (by assumption)); have t0 : wk.frozen? ⟨w.heap.size, 0, none⟩ = false := hkk.b.frozen 0; have t1 : wk.frozen? ⟨w.heap.size, 1, none⟩ = false := hkk.b.frozen 1; have t2 : wk.cell? ⟨w.heap.size, 0, none⟩ = some (.int .i64 0) := hkk.b.cell 0; have t3 : wk.cell? ⟨w.heap.size, 1, none⟩ = some (.int .i64 0) := hkk.b.cell 1; clear hbk))
      have hbe2 := hkk.e
      go_wp2_with fail
      refine bodyPost_ret (v := .agg #[.int .i64 V.1, .int .i64 V.2]) (by simp [results, Try.results136, go_sem, t2, t3]) rfl ⟨by rw [HE2.out], ?_⟩
      exact hbe2.trans (by (repeat (refine Below.setCell ?_ (by exact Nat.le_refl _) _)); exact Below.refl _ _)
end Go.Proofs.Ytblbfpokkpkcjaa
