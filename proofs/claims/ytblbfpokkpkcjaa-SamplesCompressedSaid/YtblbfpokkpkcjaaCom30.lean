import Derived.Test.YtblbfpokkpkcjaaCom06
import Derived.Deep.RegionWith
import Derived.WalkKit
import Derived.Lib.Hide
import Derived.Test.YtblbfpokkpkcjaaRows
import Derived.Shelf.Bits.Mul64
import Derived.Deep.RegionHeld3
import Derived.Deep.DeepCutAuto
import Derived.Laws.EntriesVeiled
/- The contracts of divisor and Reduced (package basic): the greatest common divisor; a quotient in lowest terms. -/

namespace Go.Proofs.Ytblbfpokkpkcjaa
open Go.RowKit
set_option linter.unusedVariables false
set_option linter.unusedSimpArgs false

theorem gcd_step (a b : Int) (h : b ≠ 0) : Int.gcd b (a.tmod b) = Int.gcd a b := by
  unfold Int.gcd
  rw [Int.natAbs_tmod, Nat.gcd_comm a.natAbs b.natAbs]
  conv => rhs; rw [Nat.gcd_rec]
  exact Nat.gcd_comm _ _
theorem gtmod_less (a b : Int) (h : b ≠ 0) : (a.tmod b).natAbs < b.natAbs := by
  rw [Int.natAbs_tmod]
  exact Nat.mod_lt _ (by omega)

set_option maxRecDepth 100000 in
set_option maxHeartbeats 1000000 in
theorem gdivisor_any (n d : Int) (w : World) (hn : -9223372036854775807 ≤ n ∧ n ≤ 9223372036854775807) (hd : -9223372036854775807 ≤ d ∧ d ≤ 9223372036854775807) :
    Calls Try.prog 177 #[.int .i64 n, .int .i64 d] w fun e w' => e = .returned (.int .i64 ((Int.gcd n d : Nat) : Int)) ∧ ∃ m, w' = w.drewN m := by
  go_enter Try.func177, Try.ntmps177
  go_wp2_with fail
  go_loopw [0, 1] (fun a b wr => ∃ x y : Int, a = .int .i64 x ∧ b = .int .i64 y ∧ Int.gcd n d = Int.gcd x y ∧ (-9223372036854775807 ≤ x ∧ x ≤ 9223372036854775807) ∧ (-9223372036854775807 ≤ y ∧ y ≤ 9223372036854775807) ∧ ∃ m, wr = w.drewN m) (fun _ b _ => (intOf b).natAbs)
  case atStart => exact ⟨n, d, rfl, rfl, rfl, hn, hd, 0, rfl⟩
  case round =>
    obtain ⟨x, y, rfl, rfl, he, hx, hy, m, rfl⟩ := hrel
    have HE := Lib.hid he
    clear he
    by_cases hy0 : y = 0
    · subst hy0
      have hz : Int.gcd x 0 = x.natAbs := Int.gcd_zero_right x
      have HZ := Lib.hid hz
      clear hz
      go_wp2_with fail
      all_goals go_ret
      all_goals exact ⟨ret_int (by rw [HE.out, HZ.out]; omega), m, rfl⟩
    · have hy0' : (y != 0) = true := by simpa using hy0
      have hs := gcd_step x y hy0
      have hl := gtmod_less x y hy0
      have htb : -9223372036854775807 ≤ x.tmod y ∧ x.tmod y ≤ 9223372036854775807 := by omega
      have HS := Lib.hid hs
      clear hs
      go_wp2_with fail
      go_quiet (fail)
      go_wp2_with fail
      go_roundw
      case rel => exact ⟨y, x.tmod y, rfl, rfl, HE.out.trans HS.out.symm, hy, htb, _, World.drewN_drewN _ _ _⟩
      case measure => exact hl

/-- A quotient in lowest terms. -/
def fracOf (n d : Int) : Int × Int := (n / ((Int.gcd n d : Nat) : Int), d / ((Int.gcd n d : Nat) : Int))
theorem frac_parts (n d : Int) (hd : 0 < d) : 0 < ((Int.gcd n d : Nat) : Int) ∧ n.tdiv ((Int.gcd n d : Nat) : Int) = (fracOf n d).1 ∧ d.tdiv ((Int.gcd n d : Nat) : Int) = (fracOf n d).2 := by
  have h0 : 0 < Int.gcd n d := Int.gcd_pos_of_ne_zero_right _ (by omega)
  refine ⟨by omega, ?_, ?_⟩
  · exact Int.tdiv_eq_ediv_of_dvd (Int.gcd_dvd_left ..)
  · exact Int.tdiv_eq_ediv_of_dvd (Int.gcd_dvd_right ..)
theorem tdiv_bound (n g : Int) (hg : 0 < g) : -(n.natAbs : Int) ≤ n.tdiv g ∧ n.tdiv g ≤ (n.natAbs : Int) := by
  have h1 := Int.natAbs_tdiv n g
  have h2 : n.natAbs / g.natAbs ≤ n.natAbs := Nat.div_le_self _ _
  have h3 : (n.tdiv g).natAbs ≤ n.natAbs := by rw [h1]; exact h2
  omega

set_option maxRecDepth 100000 in
set_option maxHeartbeats 1000000 in
theorem reduced_any (n d : Int) (w : World) (hn : -9223372036854775807 ≤ n ∧ n ≤ 9223372036854775807) (hd : 0 < d ∧ d ≤ 9223372036854775807) :
    Calls Try.prog 124 #[.int .i64 n, .int .i64 d] w fun e w' => e = .returned (.agg #[.int .i64 (fracOf n d).1, .int .i64 (fracOf n d).2]) ∧ Below w.heap.size w w' := by
  obtain ⟨hg0, hg1, hg2⟩ := frac_parts n d hd.1
  have hb1 := tdiv_bound n _ hg0
  have hb2 := tdiv_bound d _ hg0
  have hB := Blk.new w 57 #[.int .i64 0, .int .i64 0]
  have hgd := fun w => gdivisor_any n d w hn (by omega)
  generalize ((Int.gcd n d : Nat) : Int) = G at *
  generalize hq1 : n.tdiv G = q1 at *
  generalize hq2 : d.tdiv G = q2 at *
  have HB := Lib.hid hB
  have HGD := Lib.hid hgd
  clear hB hgd
  subst hg1 hg2
  have hgne : ¬ G = 0 := by omega
  have hw1 : IntKind.i64.wrap (fracOf n d).1 = (fracOf n d).1 := IntWalk.i64_in _ (by omega)
  have hw2 : IntKind.i64.wrap (fracOf n d).2 = (fracOf n d).2 := IntWalk.i64_in _ (by omega)
  go_enter Try.func124, Try.ntmps124
  go_wp2_with fail
  refine (HGD.out _).mono ?_
  rintro e w1 ⟨rfl, m, rfl⟩
  have hB1 : Blk ((w.alloc (.cells #[.int .i64 0, .int .i64 0] 57)).drewN m) w.heap.size 57 #[.int .i64 0, .int .i64 0] := HB.out
  have hb1w : Below w.heap.size w ((w.alloc (.cells #[.int .i64 0, .int .i64 0] 57)).drewN m) := ⟨rfl, rfl, rfl, by simp, fun b hb => Below.heap_alloc w _ b hb⟩
  have hszz : w.heap.size < ((w.alloc (.cells #[.int .i64 0, .int .i64 0] 57)).drewN m).heap.size := by simp
  generalize (w.alloc (.cells #[.int .i64 0, .int .i64 0] 57)).drewN m = w2 at *
  have c0 : w2.cell? ⟨w.heap.size, 0, none⟩ = some (.int .i64 0) := hB1.cell 0
  have c1 : w2.cell? ⟨w.heap.size, 1, none⟩ = some (.int .i64 0) := hB1.cell 1
  have f0 : w2.frozen? ⟨w.heap.size, 0, none⟩ = false := hB1.frozen 0
  have f1 : w2.frozen? ⟨w.heap.size, 1, none⟩ = false := hB1.frozen 1
  clear hB1
  go_wp2_with fail
  go_region
  all_goals
    go_wp2_with fail
    refine bodyPost_ret (v := .agg #[.int .i64 (fracOf n d).1, .int .i64 (fracOf n d).2]) (by simp [results, Try.results124, go_sem, c0, c1]) rfl ⟨rfl, ?_⟩
    exact hb1w.trans (bdrewN (by (repeat (refine Below.setCell ?_ (by exact Nat.le_refl _) _)); exact Below.refl _ _) 1)
end Go.Proofs.Ytblbfpokkpkcjaa

/- The contract of math/bits.Mul64. -/

namespace Go.Proofs.Ytblbfpokkpkcjaa
open Go.RowKit
set_option linter.unusedVariables false
set_option linter.unusedSimpArgs false

set_option maxRecDepth 100000 in
set_option maxHeartbeats 2000000 in
theorem mul64_any (x y : Nat) (hx : x < 18446744073709551616) (hy : y < 18446744073709551616) (w : World) :
    Calls Try.prog 176 #[.int .u64 x, .int .u64 y] w fun e w' => e = .returned (.tuple #[.int .u64 ((x * y / 18446744073709551616 : Nat) : Int), .int .u64 ((x * y % 18446744073709551616 : Nat) : Int)]) ∧ w = w' := by
  obtain ⟨b1, b2, b3, hhi⟩ := Lib.mul64_hi x y hx hy
  have ba := Lib.half_mul_le (a := x / 4294967296) (b := y / 4294967296) (by omega) (by omega)
  have bb := Lib.half_mul_le (a := x / 4294967296) (b := y % 4294967296) (by omega) (by omega)
  have bc := Lib.half_mul_le (a := x % 4294967296) (b := y / 4294967296) (by omega) (by omega)
  have c1 : x / 4294967296 * (y / 4294967296) < 18446744073709551616 := by omega
  have c2 : x / 4294967296 * (y % 4294967296) < 18446744073709551616 := by omega
  have c3 : x % 4294967296 * (y / 4294967296) < 18446744073709551616 := by omega
  have c4 : x / 4294967296 * (y / 4294967296) + (x / 4294967296 * (y % 4294967296) + x % 4294967296 * (y % 4294967296) / 4294967296) / 4294967296 < 18446744073709551616 := by omega
  have c5 : x / 4294967296 * (y / 4294967296) + (x / 4294967296 * (y % 4294967296) + x % 4294967296 * (y % 4294967296) / 4294967296) / 4294967296 + ((x / 4294967296 * (y % 4294967296) + x % 4294967296 * (y % 4294967296) / 4294967296) % 4294967296 + x % 4294967296 * (y / 4294967296)) / 4294967296 < 18446744073709551616 := by omega
  go_enter Try.func176, Try.ntmps176
  go_wp2
  simp only [Mul64.maskN x hx, Mul64.maskN y hy, Mul64.divN, Mul64.mulN, Mul64.addN, Mul64.wrapN _ b1, Mul64.wrapN _ c2, Mul64.wrapN _ b2, Mul64.maskN _ b2, Mul64.wrapN _ c3, Mul64.wrapN _ b3, Mul64.wrapN _ c1, Mul64.wrapN _ c4, Mul64.wrapN _ c5, Mul64.wrapM (x * y)]
  rw [hhi]
  go_ret2
  exact ⟨rfl, rfl⟩

end Go.Proofs.Ytblbfpokkpkcjaa

/- The contracts of math/bits.Mul64, and of what compares fractions by it (package compress, and the reference). -/

namespace Go.Proofs.Ytblbfpokkpkcjaa
open Go.RowKit
set_option linter.unusedVariables false
set_option linter.unusedSimpArgs false

/-- Is the fraction a less than b, both from 0 on? -/
def lessF (a b : Int × Int) : Bool := decide (a.1 * b.2 < b.1 * a.2)
theorem lessF_nat (a b c d : Nat) : lessF ((a : Int), (b : Int)) ((c : Int), (d : Int)) = decide (a * d < c * b) := by
  unfold lessF
  simp only [decide_eq_decide, ← Int.natCast_mul]
  omega

set_option maxRecDepth 100000 in
set_option maxHeartbeats 2000000 in
theorem mulLess_any (a b c d : Nat) (w : World) (ha : a ≤ 9223372036854775807) (hb : b ≤ 9223372036854775807) (hc : c ≤ 9223372036854775807) (hd : d ≤ 9223372036854775807) :
    Calls Try.prog 172 #[.int .i64 (a : Int), .int .i64 (b : Int), .int .i64 (c : Int), .int .i64 (d : Int)] w fun e w' => e = .returned (.bool (decide (a * b < c * d))) ∧ w = w' := by
  have w1 : IntKind.u64.wrap (a : Int) = (a : Int) := Mul64.wrapN a (by omega)
  have w2 : IntKind.u64.wrap (b : Int) = (b : Int) := Mul64.wrapN b (by omega)
  have w3 : IntKind.u64.wrap (c : Int) = (c : Int) := Mul64.wrapN c (by omega)
  have w4 : IntKind.u64.wrap (d : Int) = (d : Int) := Mul64.wrapN d (by omega)
  have m1 := fun w => mul64_any a b (by omega) (by omega) w
  have m2 := fun w => mul64_any c d (by omega) (by omega) w
  generalize hx : a * b = x at *
  generalize hy : c * d = y at *
  clear hx hy
  have hE : ∃ E, E = decide (x < y) := ⟨_, rfl⟩
  obtain ⟨E, hE⟩ := hE
  rw [← hE]
  have HE := Lib.hid hE
  generalize hh1 : x / 18446744073709551616 = h1 at *
  generalize hh2 : y / 18446744073709551616 = h2 at *
  generalize hl1 : x % 18446744073709551616 = l1 at *
  generalize hl2 : y % 18446744073709551616 = l2 at *
  have H := Lib.hid (And.intro hh1 (And.intro hh2 (And.intro hl1 hl2)))
  clear hh1 hh2 hl1 hl2
  have M1 := Lib.hid m1
  have M2 := Lib.hid m2
  clear m1 m2 hE
  go_enter Try.func172, Try.ntmps172
  go_wp2_with fail
  refine (M1.out _).mono ?_
  rintro e w1 ⟨rfl, rfl⟩
  go_wp2_with fail
  refine (M2.out _).mono ?_
  rintro e w1 ⟨rfl, rfl⟩
  by_cases q1 : (h1 : Int) < (h2 : Int)
  · have q1' : decide ((h1 : Int) < (h2 : Int)) = true := by simpa using q1
    go_wp2_with fail
    go_ret
    exact ⟨ret_bool (by rw [HE.out]; obtain ⟨g1, g2, g3, g4⟩ := H.out; symm; simp; omega), rfl⟩
  · have q1' : decide ((h1 : Int) < (h2 : Int)) = false := by simpa using q1
    by_cases q2 : (h1 : Int) = (h2 : Int)
    · have q2' : ((h1 : Int) == (h2 : Int)) = true := by simpa using q2
      go_wp2_with fail
      go_ret
      exact ⟨ret_bool (by rw [HE.out]; obtain ⟨g1, g2, g3, g4⟩ := H.out; simp only [decide_eq_decide]; omega), rfl⟩
    · have q2' : ((h1 : Int) == (h2 : Int)) = false := by simpa using q2
      go_wp2_with fail
      go_ret
      exact ⟨ret_bool (by rw [HE.out]; obtain ⟨g1, g2, g3, g4⟩ := H.out; symm; simp; omega), rfl⟩

set_option maxRecDepth 100000 in
set_option maxHeartbeats 2000000 in
theorem less_any (a b c d : Nat) (w : World) (ha : a ≤ 9223372036854775807) (hb : b ≤ 9223372036854775807) (hc : c ≤ 9223372036854775807) (hd : d ≤ 9223372036854775807) :
    Calls Try.prog 123 #[.agg #[.int .i64 (a : Int), .int .i64 (b : Int)], .agg #[.int .i64 (c : Int), .int .i64 (d : Int)]] w fun e w' => e = .returned (.bool (decide (a * d < c * b))) ∧ Below w.heap.size w w' := by
  have w1 : IntKind.u64.wrap (a : Int) = (a : Int) := Mul64.wrapN a (by omega)
  have w2 : IntKind.u64.wrap (b : Int) = (b : Int) := Mul64.wrapN b (by omega)
  have w3 : IntKind.u64.wrap (c : Int) = (c : Int) := Mul64.wrapN c (by omega)
  have w4 : IntKind.u64.wrap (d : Int) = (d : Int) := Mul64.wrapN d (by omega)
  have m1 := fun w => mul64_any a d (by omega) (by omega) w
  have m2 := fun w => mul64_any c b (by omega) (by omega) w
  generalize hx : a * d = x at *
  generalize hy : c * b = y at *
  clear hx hy
  have hE : ∃ E, E = decide (x < y) := ⟨_, rfl⟩
  obtain ⟨E, hE⟩ := hE
  rw [← hE]
  have HE := Lib.hid hE
  generalize hh1 : x / 18446744073709551616 = h1 at *
  generalize hh2 : y / 18446744073709551616 = h2 at *
  generalize hl1 : x % 18446744073709551616 = l1 at *
  generalize hl2 : y % 18446744073709551616 = l2 at *
  have H := Lib.hid (And.intro hh1 (And.intro hh2 (And.intro hl1 hl2)))
  clear hh1 hh2 hl1 hl2
  have M1 := Lib.hid m1
  have M2 := Lib.hid m2
  clear m1 m2 hE
  go_enter Try.func123, Try.ntmps123
  go_wp2_with fail
  refine (M1.out _).mono ?_
  rintro e w1 ⟨rfl, rfl⟩
  go_wp2_with fail
  refine (M2.out _).mono ?_
  rintro e w1 ⟨rfl, rfl⟩
  have hbw : Below w.heap.size w ((w.alloc (.cells #[.int .i64 (a : Int), .int .i64 (b : Int)] 57)).alloc (.cells #[.int .i64 (c : Int), .int .i64 (d : Int)] 57)) := ((Below.refl _ w).alloc (Nat.le_refl _) _).alloc (by simp) _
  by_cases q1 : (h1 : Int) < (h2 : Int)
  · have q1' : decide ((h1 : Int) < (h2 : Int)) = true := by simpa using q1
    go_wp2_with fail
    go_ret
    exact ⟨ret_bool (by rw [HE.out]; obtain ⟨g1, g2, g3, g4⟩ := H.out; symm; simp; omega), hbw⟩
  · have q1' : decide ((h1 : Int) < (h2 : Int)) = false := by simpa using q1
    by_cases q2 : (h1 : Int) = (h2 : Int)
    · have q2' : ((h1 : Int) == (h2 : Int)) = true := by simpa using q2
      go_wp2_with fail
      go_ret
      exact ⟨ret_bool (by rw [HE.out]; obtain ⟨g1, g2, g3, g4⟩ := H.out; simp only [decide_eq_decide]; omega), hbw⟩
    · have q2' : ((h1 : Int) == (h2 : Int)) = false := by simpa using q2
      go_wp2_with fail
      go_ret
      exact ⟨ret_bool (by rw [HE.out]; obtain ⟨g1, g2, g3, g4⟩ := H.out; symm; simp; omega), hbw⟩
end Go.Proofs.Ytblbfpokkpkcjaa

/- The contracts of OnLine (package basic) and of Reconstruct (package compress). -/

namespace Go.Proofs.Ytblbfpokkpkcjaa
open Go.RowKit
set_option linter.unusedVariables false
set_option linter.unusedSimpArgs false

theorem mul_bound (a b : Int) (A B : Nat) (ha : -(A : Int) ≤ a ∧ a ≤ A) (hb : -(B : Int) ≤ b ∧ b ≤ B) : -((A * B : Nat) : Int) ≤ a * b ∧ a * b ≤ ((A * B : Nat) : Int) := by
  have h1 : (a * b).natAbs ≤ A * B := by
    rw [Int.natAbs_mul]
    exact Nat.mul_le_mul (by omega) (by omega)
  omega

/-- The value at a moment on the line between two samples. -/
def lineAt (p n : Smp) (t : Int) : Int × Int := fracOf (p.v * (n.t - p.t) + (n.v - p.v) * (t - p.t)) (n.t - p.t)

/-- A sample whose numbers are right. -/
def Right (x : Smp) : Prop := (0 ≤ x.t ∧ x.t ≤ 345686399999) ∧ (-1000000 ≤ x.v ∧ x.v ≤ 1000000)

set_option maxRecDepth 100000 in
set_option maxHeartbeats 2000000 in
theorem onLine_any (p n : Smp) (t : Int) (w : World) (hp : Right p) (hn : Right n) (hpn : p.t < n.t) (ht : p.t ≤ t ∧ t ≤ n.t) :
    Calls Try.prog 175 #[p.agg, n.agg, .int .i64 t] w fun e w' => e = .returned (.agg #[.int .i64 (lineAt p n t).1, .int .i64 (lineAt p n t).2]) ∧ Below w.heap.size w w' := by
  obtain ⟨pt, pv, pq⟩ := p
  obtain ⟨nt, nv, nq⟩ := n
  unfold Right at hp hn
  simp only at hp hn hpn ht
  have hfr : lineAt ⟨pt, pv, pq⟩ ⟨nt, nv, nq⟩ t = fracOf (pv * (nt - pt) + (nv - pv) * (t - pt)) (nt - pt) := rfl
  generalize lineAt ⟨pt, pv, pq⟩ ⟨nt, nv, nq⟩ t = F at *
  have hm1 := mul_bound pv (nt - pt) 1000000 345686400000 (by omega) (by omega)
  have hm2 := mul_bound (nv - pv) (t - pt) 2000000 345686400000 (by omega) (by omega)
  have hred := fun w => reduced_any (pv * (nt - pt) + (nv - pv) * (t - pt)) (nt - pt) w (by omega) (by omega)
  rw [← hfr] at hred
  have hB := (Blk.new2 w (.cells #[.int .i64 pt, .int .i64 pv, .int .i64 pq] 71) (.cells #[.int .i64 nt, .int .i64 nv, .int .i64 nq] 71) 57 #[.int .i64 0, .int .i64 0])
  have hw1 : IntKind.i64.wrap (nt - pt) = nt - pt := IntWalk.i64_in _ (by omega)
  have hw2 : IntKind.i64.wrap (nv - pv) = nv - pv := IntWalk.i64_in _ (by omega)
  have hw3 : IntKind.i64.wrap (t - pt) = t - pt := IntWalk.i64_in _ (by omega)
  have hw4 : IntKind.i64.wrap (pv * (nt - pt)) = pv * (nt - pt) := IntWalk.i64_in _ (by omega)
  have hw5 : IntKind.i64.wrap ((nv - pv) * (t - pt)) = (nv - pv) * (t - pt) := IntWalk.i64_in _ (by omega)
  have hw6 : IntKind.i64.wrap (pv * (nt - pt) + (nv - pv) * (t - pt)) = pv * (nt - pt) + (nv - pv) * (t - pt) := IntWalk.i64_in _ (by omega)
  have HRED := Lib.hid hred
  have HB := Lib.hid hB
  clear hred hB hfr
  unfold Smp.agg
  generalize hM1 : pv * (nt - pt) = M1 at *
  generalize hM2 : (nv - pv) * (t - pt) = M2 at *
  have HM1 := Lib.hid hM1
  have HM2 := Lib.hid hM2
  go_enter Try.func175, Try.ntmps175
  go_wp2_with fail
  refine (HRED.out _).mono ?_
  rintro e w1 ⟨rfl, hb1⟩
  have hB1 : Blk w1 (w.heap.size + 1 + 1) 57 #[.int .i64 0, .int .i64 0] := HB.out.below hb1 (by simp)
  have hbw : Below w.heap.size w w1 := ((((Below.refl _ w).alloc (Nat.le_refl _) _).alloc (by simp) _).alloc (by simp; omega) _).trans (hb1.mono (by simp; omega))
  have c0 : w1.cell? ⟨w.heap.size + 1 + 1, 0, none⟩ = some (.int .i64 0) := hB1.cell 0
  have c1 : w1.cell? ⟨w.heap.size + 1 + 1, 1, none⟩ = some (.int .i64 0) := hB1.cell 1
  have f0 : w1.frozen? ⟨w.heap.size + 1 + 1, 0, none⟩ = false := hB1.frozen 0
  have f1 : w1.frozen? ⟨w.heap.size + 1 + 1, 1, none⟩ = false := hB1.frozen 1
  clear hB1 hb1 HB HRED
  go_wp2_with fail
  refine bodyPost_ret (v := .agg #[.int .i64 F.1, .int .i64 F.2]) (by simp [results, Try.results175, go_sem, c0, c1]) rfl ⟨rfl, ?_⟩
  exact hbw.trans (by (repeat (refine Below.setCell ?_ (by simp; omega) _)); exact Below.refl _ _)
end Go.Proofs.Ytblbfpokkpkcjaa
