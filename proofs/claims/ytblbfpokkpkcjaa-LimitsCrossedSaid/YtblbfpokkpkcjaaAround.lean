/- The contracts of the reference's divisor, Lowest, onLine, around. -/
import Derived.Test.YtblbfpokkpkcjaaRecon
namespace Go.Proofs.Ytblbfpokkpkcjaa
open Go.RowKit
set_option linter.unusedVariables false
set_option linter.unusedSimpArgs false

set_option maxRecDepth 100000 in
set_option maxHeartbeats 1000000 in
theorem rdivisor_any (n d : Int) (w : World) (hn : 0 ≤ n ∧ n ≤ 9223372036854775807) (hd : 0 ≤ d ∧ d ≤ 9223372036854775807) :
    Calls Try.prog 127 #[.int .i64 n, .int .i64 d] w fun e w' => e = .returned (.int .i64 ((Int.gcd n d : Nat) : Int)) ∧ ∃ m, w' = w.drewN m := by
  go_enter Try.func127, Try.ntmps127
  go_wp2_with fail
  go_loopw [0, 1] (fun a b wr => ∃ x y : Int, a = .int .i64 x ∧ b = .int .i64 y ∧ Int.gcd n d = Int.gcd x y ∧ (0 ≤ x ∧ x ≤ 9223372036854775807) ∧ (0 ≤ y ∧ y ≤ 9223372036854775807) ∧ ∃ m, wr = w.drewN m) (fun _ b _ => (intOf b).natAbs)
  case atStart => exact ⟨n, d, rfl, rfl, rfl, hn, hd, 0, rfl⟩
  case round =>
    obtain ⟨x, y, rfl, rfl, he, hx, hy, m, rfl⟩ := hrel
    have HE := Lib.hid he
    clear he
    by_cases hy0 : y = 0
    · subst hy0
      have hz : Int.gcd x 0 = x.natAbs := Int.gcd_zero_right x
      have HZ := Lib.hid hz
      clear hz
      go_wp2_with fail
      all_goals go_ret
      all_goals exact ⟨ret_int (by rw [HE.out, HZ.out]; omega), m, rfl⟩
    · have hy0' : (y != 0) = true := by simpa using hy0
      have hs := gcd_step x y hy0
      have hl := gtmod_less x y hy0
      have hnn : 0 ≤ x.tmod y := Int.tmod_nonneg y hx.1
      have htb : 0 ≤ x.tmod y ∧ x.tmod y ≤ 9223372036854775807 := by omega
      have htm : x.tmod y = x % y := Int.tmod_eq_emod_of_nonneg hx.1
      rw [htm] at hs hl htb hnn
      have HS := Lib.hid hs
      clear hs
      go_wp2_with fail
      go_quiet (fail)
      go_wp2_with fail
      go_roundw
      case rel => exact ⟨y, x % y, rfl, rfl, HE.out.trans HS.out.symm, hy, htb, _, World.drewN_drewN _ _ _⟩
      case measure => exact hl

set_option maxRecDepth 100000 in
set_option maxHeartbeats 4000000 in
theorem rlowest_any (n d : Int) (w : World) (hn : -9223372036854775807 ≤ n ∧ n ≤ 9223372036854775807) (hd : 0 < d ∧ d ≤ 9223372036854775807) :
    Calls Try.prog 43 #[.int .i64 n, .int .i64 d] w fun e w' => e = .returned (.agg #[.int .i64 (fracOf n d).1, .int .i64 (fracOf n d).2]) ∧ Below w.heap.size w w' := by
  obtain ⟨hg0, hg1, hg2⟩ := frac_parts n d hd.1
  have hb1 := tdiv_bound n _ hg0
  have hb2 := tdiv_bound d _ hg0
  have hB := Blk.new w 57 #[.int .i64 0, .int .i64 0]
  have hgp := fun (h : 0 ≤ n) w => rdivisor_any n d w (by omega) (by omega)
  have hgm := fun (h : n ≤ 0) w => rdivisor_any (-n) d w (by omega) (by omega)
  rw [Int.neg_gcd] at hgm
  generalize ((Int.gcd n d : Nat) : Int) = G at *
  generalize hq1 : n.tdiv G = q1 at *
  generalize hq2 : d.tdiv G = q2 at *
  have HB := Lib.hid hB
  have HGP := Lib.hid hgp
  have HGM := Lib.hid hgm
  subst hg1 hg2
  have hgne : ¬ G = 0 := by omega
  have hb1' : -9223372036854775807 ≤ (fracOf n d).1 ∧ (fracOf n d).1 ≤ 9223372036854775807 := by omega
  have hb2' : -9223372036854775807 ≤ (fracOf n d).2 ∧ (fracOf n d).2 ≤ 9223372036854775807 := by omega
  have hw1 : IntKind.i64.wrap (fracOf n d).1 = (fracOf n d).1 := IntWalk.i64_in _ (by omega)
  have hw2 : IntKind.i64.wrap (fracOf n d).2 = (fracOf n d).2 := IntWalk.i64_in _ (by omega)
  clear hB hgp hgm hb1 hb2
  go_enter Try.func43, Try.ntmps43
  go_wp2_with fail
  all_goals
    first
      | refine (HGP.out (by omega) _).mono ?_
      | refine (HGM.out (by omega) _).mono ?_
    rintro e w1 ⟨rfl, m, rfl⟩
    have hB1 : Blk ((w.alloc (.cells #[.int .i64 0, .int .i64 0] 57)).drewN m) w.heap.size 57 #[.int .i64 0, .int .i64 0] := HB.out
    have hb1w : Below w.heap.size w ((w.alloc (.cells #[.int .i64 0, .int .i64 0] 57)).drewN m) := ⟨rfl, rfl, rfl, by simp, fun b hb => Below.heap_alloc w _ b hb⟩
    have hszz : w.heap.size < ((w.alloc (.cells #[.int .i64 0, .int .i64 0] 57)).drewN m).heap.size := by simp
    generalize (w.alloc (.cells #[.int .i64 0, .int .i64 0] 57)).drewN m = w2 at *
    have c0 : w2.cell? ⟨w.heap.size, 0, none⟩ = some (.int .i64 0) := hB1.cell 0
    have c1 : w2.cell? ⟨w.heap.size, 1, none⟩ = some (.int .i64 0) := hB1.cell 1
    have f0 : w2.frozen? ⟨w.heap.size, 0, none⟩ = false := hB1.frozen 0
    have f1 : w2.frozen? ⟨w.heap.size, 1, none⟩ = false := hB1.frozen 1
    clear hB1
    go_wp2_with fail
    go_region
    all_goals
      go_wp2_with fail
      refine bodyPost_ret (v := .agg #[.int .i64 (fracOf n d).1, .int .i64 (fracOf n d).2]) (by simp [results, Try.results43, go_sem, c0, c1]) rfl ⟨rfl, ?_⟩
      exact hb1w.trans (bdrewN (by (repeat (refine Below.setCell ?_ (by exact Nat.le_refl _) _)); exact Below.refl _ _) 1)

/-- The value on the line, where the two samples may be one. -/
def lineOr (p n : Smp) (t : Int) : Int × Int := if p.t = n.t then (p.v, 1) else lineAt p n t

set_option maxRecDepth 100000 in
set_option maxHeartbeats 2000000 in
theorem ronLine_any (p n : Smp) (t : Int) (w : World) (hp : Right p) (hn : Right n) (hpn : p.t ≤ n.t) (ht : p.t ≤ t ∧ t ≤ n.t) :
    Calls Try.prog 126 #[p.agg, n.agg, .int .i64 t] w fun e w' => e = .returned (.agg #[.int .i64 (lineOr p n t).1, .int .i64 (lineOr p n t).2]) ∧ Below w.heap.size w w' := by
  obtain ⟨pt, pv, pq⟩ := p
  obtain ⟨nt, nv, nq⟩ := n
  unfold Right at hp hn
  simp only at hp hn hpn ht
  have hfr : lineOr ⟨pt, pv, pq⟩ ⟨nt, nv, nq⟩ t = if pt = nt then (pv, 1) else fracOf (pv * (nt - pt) + (nv - pv) * (t - pt)) (nt - pt) := rfl
  generalize lineOr ⟨pt, pv, pq⟩ ⟨nt, nv, nq⟩ t = F at *
  have hB := (Blk.new2 w (.cells #[.int .i64 pt, .int .i64 pv, .int .i64 pq] 71) (.cells #[.int .i64 nt, .int .i64 nv, .int .i64 nq] 71) 57 #[.int .i64 0, .int .i64 0])
  have HB := Lib.hid hB
  have hbl : Below w.heap.size w (((w.alloc (.cells #[.int .i64 pt, .int .i64 pv, .int .i64 pq] 71)).alloc (.cells #[.int .i64 nt, .int .i64 nv, .int .i64 nq] 71)).alloc (.cells #[.int .i64 0, .int .i64 0] 57)) := (((Below.refl _ w).alloc (Nat.le_refl _) _).alloc (by simp) _).alloc (by simp; omega) _
  have HBL := Lib.hid hbl
  clear hB hbl
  unfold Smp.agg
  by_cases he : pt = nt
  · subst he
    rw [if_pos rfl] at hfr
    have HF := Lib.hid hfr
    clear hfr
    go_enter Try.func126, Try.ntmps126
    go_wp2_with fail
    refine bodyPost_ret (v := .agg #[.int .i64 pv, .int .i64 1]) (by simp [results, Try.results126, go_sem]) rfl ⟨by rw [HF.out], ?_⟩
    exact (((Below.refl _ w).alloc (Nat.le_refl _) _).alloc (by simp) _).alloc (by simp; omega) _
  · have he' : (pt == nt) = false := by simpa using he
    rw [if_neg he] at hfr
    have hm1 := mul_bound pv (nt - pt) 1000000 345686400000 (by omega) (by omega)
    have hm2 := mul_bound (nv - pv) (t - pt) 2000000 345686400000 (by omega) (by omega)
    have hred := fun w => rlowest_any (pv * (nt - pt) + (nv - pv) * (t - pt)) (nt - pt) w (by omega) (by omega)
    rw [← hfr] at hred
    have hw1 : IntKind.i64.wrap (nt - pt) = nt - pt := IntWalk.i64_in _ (by omega)
    have hw2 : IntKind.i64.wrap (nv - pv) = nv - pv := IntWalk.i64_in _ (by omega)
    have hw3 : IntKind.i64.wrap (t - pt) = t - pt := IntWalk.i64_in _ (by omega)
    have hw4 : IntKind.i64.wrap (pv * (nt - pt)) = pv * (nt - pt) := IntWalk.i64_in _ (by omega)
    have hw5 : IntKind.i64.wrap ((nv - pv) * (t - pt)) = (nv - pv) * (t - pt) := IntWalk.i64_in _ (by omega)
    have hw6 : IntKind.i64.wrap (pv * (nt - pt) + (nv - pv) * (t - pt)) = pv * (nt - pt) + (nv - pv) * (t - pt) := IntWalk.i64_in _ (by omega)
    have HRED := Lib.hid hred
    clear hred hfr
    generalize hM1 : pv * (nt - pt) = M1 at *
    generalize hM2 : (nv - pv) * (t - pt) = M2 at *
    go_enter Try.func126, Try.ntmps126
    go_wp2_with fail
    refine (HRED.out _).mono ?_
    rintro e w1 ⟨rfl, hb1⟩
    have hB1 : Blk w1 (w.heap.size + 1 + 1) 57 #[.int .i64 0, .int .i64 0] := HB.out.below hb1 (by simp)
    have hbw : Below w.heap.size w w1 := HBL.out.trans (hb1.mono (by simp; omega))
    have c0 : w1.cell? ⟨w.heap.size + 1 + 1, 0, none⟩ = some (.int .i64 0) := hB1.cell 0
    have c1 : w1.cell? ⟨w.heap.size + 1 + 1, 1, none⟩ = some (.int .i64 0) := hB1.cell 1
    have f0 : w1.frozen? ⟨w.heap.size + 1 + 1, 0, none⟩ = false := hB1.frozen 0
    have f1 : w1.frozen? ⟨w.heap.size + 1 + 1, 1, none⟩ = false := hB1.frozen 1
    clear hB1 hb1 HB HRED
    go_wp2_with fail
    refine bodyPost_ret (v := .agg #[.int .i64 F.1, .int .i64 F.2]) (by simp [results, Try.results126, go_sem, c0, c1]) rfl ⟨rfl, ?_⟩
    exact hbw.trans (by (repeat (refine Below.setCell ?_ (by simp; omega) _)); exact Below.refl _ _)
end Go.Proofs.Ytblbfpokkpkcjaa
