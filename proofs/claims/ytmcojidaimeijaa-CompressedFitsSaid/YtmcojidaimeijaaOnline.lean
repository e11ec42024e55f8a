/- The contracts of OnLine (package basic) and of Reconstruct (package compress). -/
import Derived.Test.YtmcojidaimeijaaDiv
import Derived.Test.YtmcojidaimeijaaRise
import Derived.Deep.RegionHeld3
import Derived.Deep.DeepCutAuto
import Derived.Laws.EntriesVeiled
namespace Go.Proofs.Ytmcojidaimeijaa
open Go.RowKit
set_option linter.unusedVariables false
set_option linter.unusedSimpArgs false

theorem mul_bound (a b : Int) (A B : Nat) (ha : -(A : Int) ≤ a ∧ a ≤ A) (hb : -(B : Int) ≤ b ∧ b ≤ B) : -((A * B : Nat) : Int) ≤ a * b ∧ a * b ≤ ((A * B : Nat) : Int) := by
  have h1 : (a * b).natAbs ≤ A * B := by
    rw [Int.natAbs_mul]
    exact Nat.mul_le_mul (by omega) (by omega)
  omega

/-- The value at a moment on the line between two samples. -/
def lineAt (p n : Smp) (t : Int) : Int × Int := fracOf (p.v * (n.t - p.t) + (n.v - p.v) * (t - p.t)) (n.t - p.t)

/-- A sample whose numbers are right. -/
def Right (x : Smp) : Prop := (0 ≤ x.t ∧ x.t ≤ 345686399999) ∧ (-1000000 ≤ x.v ∧ x.v ≤ 1000000)

set_option maxRecDepth 100000 in
set_option maxHeartbeats 2000000 in
theorem onLine_any (p n : Smp) (t : Int) (w : World) (hp : Right p) (hn : Right n) (hpn : p.t < n.t) (ht : p.t ≤ t ∧ t ≤ n.t) :
    Calls Try.prog 101 #[p.agg, n.agg, .int .i64 t] w fun e w' => e = .returned (.agg #[.int .i64 (lineAt p n t).1, .int .i64 (lineAt p n t).2]) ∧ Below w.heap.size w w' := by
  obtain ⟨pt, pv, pq⟩ := p
  obtain ⟨nt, nv, nq⟩ := n
  unfold Right at hp hn
  simp only at hp hn hpn ht
  have hfr : lineAt ⟨pt, pv, pq⟩ ⟨nt, nv, nq⟩ t = fracOf (pv * (nt - pt) + (nv - pv) * (t - pt)) (nt - pt) := rfl
  generalize lineAt ⟨pt, pv, pq⟩ ⟨nt, nv, nq⟩ t = F at *
  have hm1 := mul_bound pv (nt - pt) 1000000 345686400000 (by omega) (by omega)
  have hm2 := mul_bound (nv - pv) (t - pt) 2000000 345686400000 (by omega) (by omega)
  have hred := fun w => reduced_any (pv * (nt - pt) + (nv - pv) * (t - pt)) (nt - pt) w (by omega) (by omega)
  rw [← hfr] at hred
  have hB := (Blk.new2 w (.cells #[.int .i64 pt, .int .i64 pv, .int .i64 pq] 57) (.cells #[.int .i64 nt, .int .i64 nv, .int .i64 nq] 57) 35 #[.int .i64 0, .int .i64 0])
  have hw1 : IntKind.i64.wrap (nt - pt) = nt - pt := IntWalk.i64_in _ (by omega)
  have hw2 : IntKind.i64.wrap (nv - pv) = nv - pv := IntWalk.i64_in _ (by omega)
  have hw3 : IntKind.i64.wrap (t - pt) = t - pt := IntWalk.i64_in _ (by omega)
  have hw4 : IntKind.i64.wrap (pv * (nt - pt)) = pv * (nt - pt) := IntWalk.i64_in _ (by omega)
  have hw5 : IntKind.i64.wrap ((nv - pv) * (t - pt)) = (nv - pv) * (t - pt) := IntWalk.i64_in _ (by omega)
  have hw6 : IntKind.i64.wrap (pv * (nt - pt) + (nv - pv) * (t - pt)) = pv * (nt - pt) + (nv - pv) * (t - pt) := IntWalk.i64_in _ (by omega)
  have HRED := Lib.hid hred
  have HB := Lib.hid hB
  clear hred hB hfr
  unfold Smp.agg
  generalize hM1 : pv * (nt - pt) = M1 at *
  generalize hM2 : (nv - pv) * (t - pt) = M2 at *
  have HM1 := Lib.hid hM1
  have HM2 := Lib.hid hM2
  go_enter Try.func101, Try.ntmps101
  go_wp2_with fail
  refine (HRED.out _).mono ?_
  rintro e w1 ⟨rfl, hb1⟩
  have hB1 : Blk w1 (w.heap.size + 1 + 1) 35 #[.int .i64 0, .int .i64 0] := HB.out.below hb1 (by simp)
  have hbw : Below w.heap.size w w1 := ((((Below.refl _ w).alloc (Nat.le_refl _) _).alloc (by simp) _).alloc (by simp; omega) _).trans (hb1.mono (by simp; omega))
  have c0 : w1.cell? ⟨w.heap.size + 1 + 1, 0, none⟩ = some (.int .i64 0) := hB1.cell 0
  have c1 : w1.cell? ⟨w.heap.size + 1 + 1, 1, none⟩ = some (.int .i64 0) := hB1.cell 1
  have f0 : w1.frozen? ⟨w.heap.size + 1 + 1, 0, none⟩ = false := hB1.frozen 0
  have f1 : w1.frozen? ⟨w.heap.size + 1 + 1, 1, none⟩ = false := hB1.frozen 1
  clear hB1 hb1 HB HRED
  go_wp2_with fail
  refine bodyPost_ret (v := .agg #[.int .i64 F.1, .int .i64 F.2]) (by simp [results, Try.results101, go_sem, c0, c1]) rfl ⟨rfl, ?_⟩
  exact hbw.trans (by (repeat (refine Below.setCell ?_ (by simp; omega) _)); exact Below.refl _ _)
end Go.Proofs.Ytmcojidaimeijaa
