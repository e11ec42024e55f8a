/- The contract of the reference's ReconstructedOf: it is Reconstruct's value. -/
import Derived.Test.YtgbnjbbjgkfefaaArd
import Derived.Test.YtgbnjbbjgkfefaaAround
namespace Go.Proofs.Ytgbnjbbjgkfefaa
open Go.RowKit
set_option linter.unusedVariables false
set_option linter.unusedSimpArgs false

theorem pos_next (l : List Smp) (t : Int) (h : Rise none l) : (posF l t < l.length → (atS l (posF l t)).t = t → posF l (t + 1) = posF l t + 1) ∧ (posF l t < l.length → (atS l (posF l t)).t ≠ t → posF l (t + 1) = posF l t) ∧ (posF l t = l.length → posF l (t + 1) = l.length) := by
  have hq := posF_iff l t none h
  have hc := posF_iff l (t + 1) none h
  have hql := posF_le l t
  have hcl := posF_le l (t + 1)
  have hlt := fun i j => rise_ltA h i j
  generalize posF l t = q at *
  generalize posF l (t + 1) = c at *
  refine ⟨fun h1 h2 => ?_, fun h1 h2 => ?_, fun h1 => ?_⟩
  · have h3 := hc q h1
    have h4 : q < c := by omega
    rcases Nat.lt_or_ge (q + 1) l.length with h5 | h5
    · have h6 := hlt q (q + 1) (by omega) h5
      have h7 := hc (q + 1) h5
      omega
    · omega
  · have h3 := hc q h1
    have h4 := hq q h1
    have h5 : c ≤ q := by omega
    rcases Nat.eq_zero_or_pos q with h6 | h6
    · omega
    · have h7 := hq (q - 1) (by omega)
      have h8 := hc (q - 1) (by omega)
      omega
  · rcases Nat.eq_zero_or_pos l.length with h6 | h6
    · omega
    · have h7 := hq (l.length - 1) (by omega)
      have h8 := hc (l.length - 1) (by omega)
      omega

theorem around_recon (l : List Smp) (t : Int) (h : Rise none l) : arB l t = reconB l t ∧ (arB l t = false → reconV l t = (0, 0)) ∧ (arB l t = true → reconV l t = lineOr (arP l t) (arN l t) t ∧ (arP l t).t ≤ t ∧ t ≤ (arN l t).t ∧ (∃ i, i < l.length ∧ arP l t = atS l i) ∧ (∃ i, i < l.length ∧ arN l t = atS l i)) := by
  have hn := pos_next l t h
  have hq := posF_iff l t none h
  have hc := posF_iff l (t + 1) none h
  have hql := posF_le l t
  have hlt := fun i j => rise_ltA h i j
  unfold reconV reconB reconOf arB arP arN
  generalize posF l t = q at *
  generalize posF l (t + 1) = c at *
  rcases Nat.lt_or_ge q l.length with h1 | h1
  · have h2 := hq q h1
    have h2' : t ≤ (atS l q).t := by omega
    by_cases h3 : (atS l q).q = 2
    · simp only [if_pos h1, if_pos (show q = l.length ∨ (atS l q).q = 2 from .inr h3)]
      simp [h3]
    · by_cases h4 : (atS l q).t = t
      · have h5 : c = q + 1 := hn.1 h1 h4
        subst h5
        simp only [if_pos h1, if_neg (show ¬ (q = l.length ∨ (atS l q).q = 2) by omega), if_pos h4, if_pos (show 0 < q + 1 by omega), Nat.add_sub_cancel]
        refine ⟨by simp [h1, h3], fun hh => by simp [h1, h3] at hh, fun _ => ⟨?_, by omega, by omega, ⟨q, h1, rfl⟩, ⟨q, h1, rfl⟩⟩⟩
        unfold lineOr
        rw [if_pos rfl]; rfl
      · have h5 : c = q := hn.2.1 h1 h4
        subst h5
        rcases Nat.eq_zero_or_pos c with h6 | h6
        · simp only [if_pos h1, if_neg (show ¬ (c = l.length ∨ (atS l c).q = 2) by omega), if_neg h4, if_pos (show c = 0 ∨ (atS l (c - 1)).q = 2 from .inl h6), if_neg (show ¬ 0 < c by omega)]
          simp [h6]
        · by_cases h7 : (atS l (c - 1)).q = 2
          · simp only [if_pos h1, if_neg (show ¬ (c = l.length ∨ (atS l c).q = 2) by omega), if_neg h4, if_pos (show c = 0 ∨ (atS l (c - 1)).q = 2 from .inr h7), if_pos h6]
            simp [h7]
          · simp only [if_pos h1, if_neg (show ¬ (c = l.length ∨ (atS l c).q = 2) by omega), if_neg h4, if_neg (show ¬ (c = 0 ∨ (atS l (c - 1)).q = 2) by omega), if_pos h6]
            have h8 := hq (c - 1) (by omega)
            have h9 := hlt (c - 1) c (by omega) h1
            refine ⟨by simp [h1, h3, h6, h7], fun hh => by simp [h1, h3, h6, h7] at hh, fun _ => ⟨?_, by omega, by omega, ⟨c - 1, by omega, rfl⟩, ⟨c, h1, rfl⟩⟩⟩
            unfold lineOr
            rw [if_neg (by omega)]; rfl
  · simp only [if_neg (show ¬ q < l.length by omega), if_pos (show q = l.length ∨ (atS l q).q = 2 from .inl (by omega))]
    simp [show ¬ q < l.length by omega]

set_option maxRecDepth 100000 in
set_option maxHeartbeats 4000000 in
theorem reconstructedOf_any (v : Value) (l : List Smp) (t : Int) (w : World) (hR : RdS w 71 v l) (hS : Rise none l) (hlong : l.length ≤ 5000) (hr : ∀ i, i < l.length → Right (atS l i)) :
    Calls Try.prog 38 #[v, .int .i64 t] w fun e w' => e = .returned (.tuple #[.agg #[.int .i64 (reconV l t).1, .int .i64 (reconV l t).2], .bool (reconB l t)]) ∧ Below w.heap.size w w' := by
  obtain ⟨ha1, ha2, ha3⟩ := around_recon l t hS
  have har := fun w hR => around_any v l t w hR hS hlong
  have hrp : arB l t = true → Right (arP l t) ∧ Right (arN l t) := fun h => by
    obtain ⟨_, _, _, ⟨i, hi, e1⟩, ⟨j, hj, e2⟩⟩ := ha3 h
    rw [e1, e2]
    exact ⟨hr i hi, hr j hj⟩
  generalize reconV l t = V at *
  generalize reconB l t = B at *
  generalize hP : arP l t = P at *
  generalize hN : arN l t = N at *
  generalize arB l t = b at *
  subst ha1
  have hB0 := Blk.new w 57 #[.int .i64 0, .int .i64 0]
  have HA2 := Lib.hid ha2
  have HA3 := Lib.hid ha3
  have HRP := Lib.hid hrp
  have HAR := Lib.hid (har _ (Rd.alloc hR (.cells #[.int .i64 0, .int .i64 0] 57)))
  have HB0 := Lib.hid hB0
  clear ha2 ha3 har hrp hR hr hP hN hB0
  unfold Smp.agg at HAR
  go_enter Try.func38, Try.ntmps38
  go_wp2_with fail
  refine HAR.out.mono ?_
  rintro e w1 ⟨rfl, hb1⟩
  have hB1 := HB0.out.below hb1 (by simp)
  have hb01 : Below w.heap.size w w1 := ((Below.refl _ w).alloc (Nat.le_refl _) _).trans (hb1.mono (by simp))
  have hsz := hb01.size
  have hlt1 := hB1.lt
  have hB2 := (hB1.alloc (.cells #[.int .i64 P.t, .int .i64 P.v, .int .i64 P.q] 71)).alloc (.cells #[.int .i64 N.t, .int .i64 N.v, .int .i64 N.q] 71)
  have hb02 : Below w.heap.size w ((w1.alloc (.cells #[.int .i64 P.t, .int .i64 P.v, .int .i64 P.q] 71)).alloc (.cells #[.int .i64 N.t, .int .i64 N.v, .int .i64 N.q] 71)) := (hb01.alloc hsz _).alloc (by simp; omega) _
  have HB2 := Lib.hid hB2
  have HB02 := Lib.hid hb02
  clear hb1 hb01 hB1 HB0 HAR hB2 hb02
  cases b
  · have hV : V = (0, 0) := HA2.out rfl
    have HV := Lib.hid hV
    have r0 := HB2.out.cell 0
    have r1 := HB2.out.cell 1
    have g0 := HB2.out.frozen 0
    have g1 := HB2.out.frozen 1
    clear hV hlt1 hsz
    go_wp2_with fail
    refine bodyPost_ret (v := .tuple #[.agg #[.int .i64 0, .int .i64 0], .bool false]) (by simp [results, Try.results38, go_sem, r0, r1]) rfl ⟨by rw [HV.out], ?_⟩
    exact HB02.out.trans (by (repeat (refine Below.setCell ?_ (by simp) _)); exact Below.refl _ _)
  · obtain ⟨hV, h1, h2, _, _⟩ := HA3.out rfl
    obtain ⟨h3, h4⟩ := HRP.out rfl
    have hon := fun w => ronLine_any P N t w h3 h4 (by omega) ⟨h1, h2⟩
    rw [← hV] at hon
    have HON := Lib.hid hon
    unfold Smp.agg at HON
    clear hV hon h1 h2 h3 h4
    go_wp2_with fail
    refine (HON.out _).mono ?_
    rintro e w2 ⟨rfl, hb2⟩
    have hB3 := HB2.out.below hb2 HB2.out.lt
    have hb03 : Below w.heap.size w w2 := HB02.out.trans (hb2.mono HB02.out.size)
    have r0 := hB3.cell 0
    have r1 := hB3.cell 1
    have g0 := hB3.frozen 0
    have g1 := hB3.frozen 1
    clear hb2 hB3
    go_wp2_with fail
    refine bodyPost_ret (v := .tuple #[.agg #[.int .i64 V.1, .int .i64 V.2], .bool true]) (by simp [results, Try.results38, go_sem, r0, r1]) rfl ⟨rfl, ?_⟩
    exact hb03.trans (by (repeat (refine Below.setCell ?_ (by simp) _)); exact Below.refl _ _)
end Go.Proofs.Ytgbnjbbjgkfefaa
