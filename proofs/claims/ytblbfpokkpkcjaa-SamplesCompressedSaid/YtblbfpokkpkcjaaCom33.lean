import Derived.Test.YtblbfpokkpkcjaaCom29
import Derived.Test.YtblbfpokkpkcjaaCom30
import Derived.Test.YtblbfpokkpkcjaaCom32
import Derived.Deep.RegionHeld3
/- The contracts of difference and Error (package compress). -/

namespace Go.Proofs.Ytblbfpokkpkcjaa
open Go.RowKit
set_option linter.unusedVariables false
set_option linter.unusedSimpArgs false

/-- By how much an integer and a fraction differ. -/
def diffF (n : Int) (f : Int × Int) : Int × Int := (dist (n * f.2) f.1, f.2)
/-- Numbers of a reconstruction. -/
def Sane (f : Int × Int) : Prop := (-2000000000000000000 ≤ f.1 ∧ f.1 ≤ 2000000000000000000) ∧ (1 ≤ f.2 ∧ f.2 ≤ 345686400000) ∧ Int.gcd f.1 f.2 = 1

theorem fracOf_gcd (n d : Int) (hd : 0 < d) : Int.gcd (fracOf n d).1 (fracOf n d).2 = 1 := by
  have h0 : 0 < Int.gcd n d := Int.gcd_pos_of_ne_zero_right _ (by omega)
  exact Int.gcd_ediv_gcd_ediv_gcd h0
theorem lineAt_sane (p n : Smp) (t : Int) (hp : Right p) (hn : Right n) (hpn : p.t < n.t) (ht : p.t ≤ t ∧ t ≤ n.t) : Sane (lineAt p n t) := by
  obtain ⟨⟨p1, p2⟩, p3, p4⟩ := hp
  obtain ⟨⟨n1, n2⟩, n3, n4⟩ := hn
  have hm1 := mul_bound p.v (n.t - p.t) 1000000 345686400000 (by omega) (by omega)
  have hm2 := mul_bound (n.v - p.v) (t - p.t) 2000000 345686400000 (by omega) (by omega)
  unfold lineAt
  obtain ⟨hg0, hg1, hg2⟩ := frac_parts (p.v * (n.t - p.t) + (n.v - p.v) * (t - p.t)) (n.t - p.t) (by omega)
  have hb1 := tdiv_bound (p.v * (n.t - p.t) + (n.v - p.v) * (t - p.t)) _ hg0
  have hb2 := tdiv_bound (n.t - p.t) _ hg0
  have hgg := fracOf_gcd (p.v * (n.t - p.t) + (n.v - p.v) * (t - p.t)) (n.t - p.t) (by omega)
  have hpos : 0 < (fracOf (p.v * (n.t - p.t) + (n.v - p.v) * (t - p.t)) (n.t - p.t)).2 := by
    unfold fracOf
    exact Int.ediv_pos_of_pos_of_dvd (by omega) (by omega) (Int.gcd_dvd_right ..)
  rw [hg1] at hb1
  rw [hg2] at hb2
  exact ⟨by omega, by omega, hgg⟩
theorem recon_sane (l : List Smp) (t : Int) (h : Rise none l) (hr : ∀ i, i < l.length → Right (atS l i)) (hb : reconB l t = true) : Sane (reconV l t) := by
  have hpa := pos_around l t h
  unfold reconB reconV reconOf at *
  have hql := posF_le l t
  generalize posF l t = q at *
  split at hb
  · simp at hb
  · rename_i h1
    rw [if_neg h1]
    have hq : q < l.length := by omega
    split at hb
    · rename_i h2
      rw [if_pos h2]
      have := hr q hq
      obtain ⟨_, h3, h4⟩ := this
      refine ⟨by simp; omega, by simp, by simp [Int.gcd]⟩
    · rename_i h2
      rw [if_neg h2]
      split at hb
      · simp at hb
      · rename_i h3
        rw [if_neg h3]
        have h4 := hpa.1 (q - 1) (by omega) (by omega)
        have h5 := hpa.2 hq
        exact lineAt_sane _ _ _ (hr _ (by omega)) (hr _ hq) (by omega) (by omega)
theorem diffF_bounds {n : Int} {f : Int × Int} (hf : Sane f) (hn : -1000000 ≤ n ∧ n ≤ 1000000) : (-1000000000000000000 ≤ n * f.2 ∧ n * f.2 ≤ 1000000000000000000) ∧ (0 ≤ (diffF n f).1 ∧ (diffF n f).1 ≤ 4000000000000000000) ∧ (1 ≤ (diffF n f).2 ∧ (diffF n f).2 ≤ 345686400000) := by
  obtain ⟨h1, h2, _⟩ := hf
  have hm := mul_bound n f.2 1000000 345686400000 (by omega) (by omega)
  unfold diffF dist
  simp only
  refine ⟨by omega, ?_, h2⟩
  split <;> omega

set_option maxRecDepth 100000 in
set_option maxHeartbeats 2000000 in
theorem difference_walk (n a b M D : Int) (w : World) (hM : IntKind.i64.wrap (n * b) = M) (hd : ∀ w, Calls Try.prog 156 #[.int .i64 M, .int .i64 a] w fun e w' => e = .returned (.int .i64 D) ∧ w = w') :
    Calls Try.prog 122 #[.int .i64 n, .agg #[.int .i64 a, .int .i64 b]] w fun e w' => e = .returned (.agg #[.int .i64 D, .int .i64 b]) ∧ Below w.heap.size w w' := by
  have c0 : ((w.alloc (.cells #[.int .i64 a, .int .i64 b] 57)).alloc (.cells #[.int .i64 0, .int .i64 0] 57)).cell? ⟨w.heap.size, 0, none⟩ = some (.int .i64 a) := ((Blk.new w 57 #[.int .i64 a, .int .i64 b]).alloc (.cells #[.int .i64 0, .int .i64 0] 57)).cell 0
  have c1 : ((w.alloc (.cells #[.int .i64 a, .int .i64 b] 57)).alloc (.cells #[.int .i64 0, .int .i64 0] 57)).cell? ⟨w.heap.size, 1, none⟩ = some (.int .i64 b) := ((Blk.new w 57 #[.int .i64 a, .int .i64 b]).alloc (.cells #[.int .i64 0, .int .i64 0] 57)).cell 1
  have hbw : Below w.heap.size w ((w.alloc (.cells #[.int .i64 a, .int .i64 b] 57)).alloc (.cells #[.int .i64 0, .int .i64 0] 57)) := ((Below.refl _ w).alloc (Nat.le_refl _) _).alloc (by simp) _
  have HBW := Lib.hid hbw
  have HDD := Lib.hid hd
  clear hd hbw
  go_enter Try.func122, Try.ntmps122
  go_wp2_with fail
  go_region_with (first | (go_at_call 156; refine (HDD.out _).mono ?_; rintro e wk ⟨rfl, rfl⟩))
  all_goals
    go_wp2_with fail
    refine bodyPost_ret (v := .agg #[.int .i64 D, .int .i64 b]) (by simp [results, Try.results122, go_sem]) rfl ⟨rfl, ?_⟩
    exact bdrewN (((Below.refl _ w).alloc (Nat.le_refl _) _).alloc (by simp) _) 1
theorem difference_any (n : Int) (f : Int × Int) (w : World) (hf : Sane f) (hn : -1000000 ≤ n ∧ n ≤ 1000000) :
    Calls Try.prog 122 #[.int .i64 n, .agg #[.int .i64 f.1, .int .i64 f.2]] w fun e w' => e = .returned (.agg #[.int .i64 (diffF n f).1, .int .i64 (diffF n f).2]) ∧ Below w.heap.size w w' := by
  have hb := diffF_bounds hf hn
  have h1 := hf.1
  exact difference_walk n f.1 f.2 (n * f.2) (diffF n f).1 w (IntWalk.i64_in _ (by omega)) (fun w => distance_any (n * f.2) f.1 w (by omega) (by omega))
end Go.Proofs.Ytblbfpokkpkcjaa
