/- The contracts of divisor and Reduced (package basic): the greatest common divisor; a quotient in lowest terms. -/
import Derived.Test.YtmcojidaimeijaaDist
import Derived.Deep.RegionWith
namespace Go.Proofs.Ytmcojidaimeijaa
open Go.RowKit
set_option linter.unusedVariables false
set_option linter.unusedSimpArgs false

theorem gcd_step (a b : Int) (h : b ≠ 0) : Int.gcd b (a.tmod b) = Int.gcd a b := by
  unfold Int.gcd
  rw [Int.natAbs_tmod, Nat.gcd_comm a.natAbs b.natAbs]
  conv => rhs; rw [Nat.gcd_rec]
  exact Nat.gcd_comm _ _
theorem gtmod_less (a b : Int) (h : b ≠ 0) : (a.tmod b).natAbs < b.natAbs := by
  rw [Int.natAbs_tmod]
  exact Nat.mod_lt _ (by omega)

set_option maxRecDepth 100000 in
set_option maxHeartbeats 1000000 in
theorem gdivisor_any (n d : Int) (w : World) (hn : -9223372036854775807 ≤ n ∧ n ≤ 9223372036854775807) (hd : -9223372036854775807 ≤ d ∧ d ≤ 9223372036854775807) :
    Calls Try.prog 128 #[.int .i64 n, .int .i64 d] w fun e w' => e = .returned (.int .i64 ((Int.gcd n d : Nat) : Int)) ∧ ∃ m, w' = w.drewN m := by
  go_enter Try.func128, Try.ntmps128
  go_wp2_with fail
  go_loopw [0, 1] (fun a b wr => ∃ x y : Int, a = .int .i64 x ∧ b = .int .i64 y ∧ Int.gcd n d = Int.gcd x y ∧ (-9223372036854775807 ≤ x ∧ x ≤ 9223372036854775807) ∧ (-9223372036854775807 ≤ y ∧ y ≤ 9223372036854775807) ∧ ∃ m, wr = w.drewN m) (fun _ b _ => (intOf b).natAbs)
  case atStart => exact ⟨n, d, rfl, rfl, rfl, hn, hd, 0, rfl⟩
  case round =>
    obtain ⟨x, y, rfl, rfl, he, hx, hy, m, rfl⟩ := hrel
    have HE := Lib.hid he
    clear he
    by_cases hy0 : y = 0
    · subst hy0
      have hz : Int.gcd x 0 = x.natAbs := Int.gcd_zero_right x
      have HZ := Lib.hid hz
      clear hz
      go_wp2_with fail
      all_goals go_ret
      all_goals exact ⟨ret_int (by rw [HE.out, HZ.out]; omega), m, rfl⟩
    · have hy0' : (y != 0) = true := by simpa using hy0
      have hs := gcd_step x y hy0
      have hl := gtmod_less x y hy0
      have htb : -9223372036854775807 ≤ x.tmod y ∧ x.tmod y ≤ 9223372036854775807 := by omega
      have HS := Lib.hid hs
      clear hs
      go_wp2_with fail
      go_quiet (fail)
      go_wp2_with fail
      go_roundw
      case rel => exact ⟨y, x.tmod y, rfl, rfl, HE.out.trans HS.out.symm, hy, htb, _, World.drewN_drewN _ _ _⟩
      case measure => exact hl

/-- A quotient in lowest terms. -/
def fracOf (n d : Int) : Int × Int := (n / ((Int.gcd n d : Nat) : Int), d / ((Int.gcd n d : Nat) : Int))
theorem frac_parts (n d : Int) (hd : 0 < d) : 0 < ((Int.gcd n d : Nat) : Int) ∧ n.tdiv ((Int.gcd n d : Nat) : Int) = (fracOf n d).1 ∧ d.tdiv ((Int.gcd n d : Nat) : Int) = (fracOf n d).2 := by
  have h0 : 0 < Int.gcd n d := Int.gcd_pos_of_ne_zero_right _ (by omega)
  refine ⟨by omega, ?_, ?_⟩
  · exact Int.tdiv_eq_ediv_of_dvd (Int.gcd_dvd_left ..)
  · exact Int.tdiv_eq_ediv_of_dvd (Int.gcd_dvd_right ..)
theorem tdiv_bound (n g : Int) (hg : 0 < g) : -(n.natAbs : Int) ≤ n.tdiv g ∧ n.tdiv g ≤ (n.natAbs : Int) := by
  have h1 := Int.natAbs_tdiv n g
  have h2 : n.natAbs / g.natAbs ≤ n.natAbs := Nat.div_le_self _ _
  have h3 : (n.tdiv g).natAbs ≤ n.natAbs := by rw [h1]; exact h2
  omega

set_option maxRecDepth 100000 in
set_option maxHeartbeats 1000000 in
theorem reduced_any (n d : Int) (w : World) (hn : -9223372036854775807 ≤ n ∧ n ≤ 9223372036854775807) (hd : 0 < d ∧ d ≤ 9223372036854775807) :
    Calls Try.prog 112 #[.int .i64 n, .int .i64 d] w fun e w' => e = .returned (.agg #[.int .i64 (fracOf n d).1, .int .i64 (fracOf n d).2]) ∧ Below w.heap.size w w' := by
  obtain ⟨hg0, hg1, hg2⟩ := frac_parts n d hd.1
  have hb1 := tdiv_bound n _ hg0
  have hb2 := tdiv_bound d _ hg0
  have hB := Blk.new w 35 #[.int .i64 0, .int .i64 0]
  have hgd := fun w => gdivisor_any n d w hn (by omega)
  generalize ((Int.gcd n d : Nat) : Int) = G at *
  generalize hq1 : n.tdiv G = q1 at *
  generalize hq2 : d.tdiv G = q2 at *
  have HB := Lib.hid hB
  have HGD := Lib.hid hgd
  clear hB hgd
  subst hg1 hg2
  have hgne : ¬ G = 0 := by omega
  have hw1 : IntKind.i64.wrap (fracOf n d).1 = (fracOf n d).1 := IntWalk.i64_in _ (by omega)
  have hw2 : IntKind.i64.wrap (fracOf n d).2 = (fracOf n d).2 := IntWalk.i64_in _ (by omega)
  go_enter Try.func112, Try.ntmps112
  go_wp2_with fail
  refine (HGD.out _).mono ?_
  rintro e w1 ⟨rfl, m, rfl⟩
  have hB1 : Blk ((w.alloc (.cells #[.int .i64 0, .int .i64 0] 35)).drewN m) w.heap.size 35 #[.int .i64 0, .int .i64 0] := HB.out
  have hb1w : Below w.heap.size w ((w.alloc (.cells #[.int .i64 0, .int .i64 0] 35)).drewN m) := ⟨rfl, rfl, rfl, by simp, fun b hb => Below.heap_alloc w _ b hb⟩
  have hszz : w.heap.size < ((w.alloc (.cells #[.int .i64 0, .int .i64 0] 35)).drewN m).heap.size := by simp
  generalize (w.alloc (.cells #[.int .i64 0, .int .i64 0] 35)).drewN m = w2 at *
  have c0 : w2.cell? ⟨w.heap.size, 0, none⟩ = some (.int .i64 0) := hB1.cell 0
  have c1 : w2.cell? ⟨w.heap.size, 1, none⟩ = some (.int .i64 0) := hB1.cell 1
  have f0 : w2.frozen? ⟨w.heap.size, 0, none⟩ = false := hB1.frozen 0
  have f1 : w2.frozen? ⟨w.heap.size, 1, none⟩ = false := hB1.frozen 1
  clear hB1
  go_wp2_with fail
  go_region
  all_goals
    go_wp2_with fail
    refine bodyPost_ret (v := .agg #[.int .i64 (fracOf n d).1, .int .i64 (fracOf n d).2]) (by simp [results, Try.results112, go_sem, c0, c1]) rfl ⟨rfl, ?_⟩
    exact hb1w.trans (bdrewN (by (repeat (refine Below.setCell ?_ (by exact Nat.le_refl _) _)); exact Below.refl _ _) 1)
end Go.Proofs.Ytmcojidaimeijaa
