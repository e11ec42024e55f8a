import Derived.Test.YtblbfpokkpkcjaaCom24
/- The contracts of the reference's AddFault, lineOff and covers. -/

namespace Go.Proofs.Ytblbfpokkpkcjaa
open Go.RowKit
set_option linter.unusedVariables false
set_option linter.unusedSimpArgs false

set_option maxRecDepth 100000 in
set_option maxHeartbeats 1000000 in
theorem addFault_any (v : Value) (l : List Smp) (x : Smp) (w : World) (hR : RdS w 71 v l) (hlong : l.length ≤ 100000) :
    Calls Try.prog 49 #[v, .agg #[.int .i64 x.t, .int .i64 x.v, .int .i64 x.q]] w fun e w' => e = .returned (.int .i64 (addErr l x)) ∧ Below w.heap.size w w' := by
  have hcs := fun w => sampleFault_any x w
  unfold Smp.agg at hcs
  obtain ⟨pa, ca, rfl⟩ := hR.lenv
  by_cases h0 : smpErr x = 0
  · rw [h0] at hcs
    have he : addErr l x = if 0 < l.length ∧ x.t ≤ (atS l (l.length - 1)).t then 7 else 0 := by unfold addErr; rw [if_neg (by simpa using h0)]
    have HE := Lib.hid he
    clear he h0
    have hbl : Below w.heap.size w ((w.alloc (.cells #[.int .i64 x.t, .int .i64 x.v, .int .i64 x.q] 71)).alloc (.cells #[.int .i64 x.t, .int .i64 x.v, .int .i64 x.q] 71)) := ((Below.refl _ w).alloc (Nat.le_refl _) _).alloc (by simp) _
    have hB1 : Blk ((w.alloc (.cells #[.int .i64 x.t, .int .i64 x.v, .int .i64 x.q] 71)).alloc (.cells #[.int .i64 x.t, .int .i64 x.v, .int .i64 x.q] 71)) w.heap.size 71 #[.int .i64 x.t, .int .i64 x.v, .int .i64 x.q] := (Blk.new _ _ _).alloc _
    have hR2 := (hR.below hbl (Nat.le_refl _))
    have HX := Lib.hid (And.intro hbl (And.intro hB1 hR2))
    clear hbl hB1 hR2 hR
    rcases Nat.eq_zero_or_pos l.length with hl | hl
    · have hl' : decide (0 < l.length) = false := decide_eq_false (by omega)
      have HE2 := Lib.hid (show addErr l x = 0 by rw [HE.out, if_neg (fun h => by omega)])
      have hll : (l.length : Int) = 0 := by omega
      clear hl hl'
      go_enter Try.func49, Try.ntmps49
      go_upto_region 5 with (go_at_call 102; refine (hcs _).mono ?_; rintro e w' ⟨rfl, rfl⟩)
      obtain ⟨hbl, hB1, hR2⟩ := HX.out
      generalize (w.alloc (.cells #[.int .i64 x.t, .int .i64 x.v, .int .i64 x.q] 71)).alloc (.cells #[.int .i64 x.t, .int .i64 x.v, .int .i64 x.q] 71) = wa at *
      go_quiet (fail)
      go_wp2_with fail
      go_ret
      exact ⟨ret_int HE2.out.symm, bdrewN hbl _⟩
    · have hl' : decide (0 < l.length) = true := by simpa using hl
      obtain ⟨k, hk⟩ : ∃ k, l.length = k + 1 := ⟨l.length - 1, by omega⟩
      obtain ⟨hbl, hB1, hR2⟩ := HX.out
      obtain ⟨b, off, c, hv, hc1, hc2, hblt, hcell⟩ := RdS.at_ hR2 (by omega)
      cases hv
      obtain ⟨z0, z1, z2⟩ := hcell k (by omega)
      have he2 : addErr l x = if x.t ≤ (atS l k).t then 7 else 0 := by
        rw [HE.out, hk, Nat.add_sub_cancel]
        by_cases h : x.t ≤ (atS l k).t
        · rw [if_pos ⟨by omega, h⟩, if_pos h]
        · rw [if_neg (fun hh => h hh.2), if_neg h]
      have HE2 := Lib.hid he2
      have a0 := hB1.cell 0
      have HB := Lib.hid hbl
      generalize atS l k = y at *
      have HZ := Lib.hid (And.intro z0 (show _ = some (Value.int .i64 x.t) from a0))
      clear hcell he2 hbl hB1 hR2 z0 z1 z2 a0 hl
      by_cases hle : x.t ≤ y.t
      · have hle' : decide (x.t ≤ y.t) = true := by simpa using hle
        have HE3 := Lib.hid (show addErr l x = 7 by rw [HE2.out, if_pos hle])
        clear hle
        go_enter Try.func49, Try.ntmps49
        go_upto_region 5 with (go_at_call 102; refine (hcs _).mono ?_; rintro e w' ⟨rfl, rfl⟩)
        obtain ⟨z0, a0⟩ := HZ.out
        generalize (w.alloc (.cells #[.int .i64 x.t, .int .i64 x.v, .int .i64 x.q] 71)).alloc (.cells #[.int .i64 x.t, .int .i64 x.v, .int .i64 x.q] 71) = wa at *
        go_quiet (fail)
        go_wp2_with fail
        go_ret
        exact ⟨ret_int HE3.out.symm, bdrewN HB.out _⟩
      · have hle' : decide (x.t ≤ y.t) = false := by simpa using hle
        have HE3 := Lib.hid (show addErr l x = 0 by rw [HE2.out, if_neg hle])
        clear hle
        go_enter Try.func49, Try.ntmps49
        go_upto_region 5 with (go_at_call 102; refine (hcs _).mono ?_; rintro e w' ⟨rfl, rfl⟩)
        obtain ⟨z0, a0⟩ := HZ.out
        generalize (w.alloc (.cells #[.int .i64 x.t, .int .i64 x.v, .int .i64 x.q] 71)).alloc (.cells #[.int .i64 x.t, .int .i64 x.v, .int .i64 x.q] 71) = wa at *
        go_quiet (fail)
        go_wp2_with fail
        go_ret
        exact ⟨ret_int HE3.out.symm, bdrewN HB.out _⟩
  · have he : addErr l x = smpErr x := by unfold addErr; rw [if_pos h0]
    rw [he]
    have hne : (smpErr x != 0) = true := by simpa using h0
    generalize smpErr x = E at *
    clear he h0 hR
    go_enter Try.func49, Try.ntmps49
    go_wp2_with (go_at_call 102; refine (hcs _).mono ?_; rintro e w' ⟨rfl, rfl⟩)
    go_ret
    exact ⟨rfl, ((Below.refl _ w).alloc (Nat.le_refl _) _).alloc (by simp) _⟩

theorem prod_near {u t : Int} (hu : -2000000 ≤ u ∧ u ≤ 2000000) (ht : -345686399999 ≤ t ∧ t ≤ 345686399999) : -691372799998000000 ≤ u * t ∧ u * t ≤ 691372799998000000 := by
  have e : (u * t).natAbs = u.natAbs * t.natAbs := Int.natAbs_mul _ _
  have h5 : u.natAbs * t.natAbs ≤ 2000000 * 345686399999 := Nat.mul_le_mul (by omega) (by omega)
  omega
set_option maxRecDepth 100000 in
set_option maxHeartbeats 1000000 in
theorem lineOff_any (a b s : Smp) (w : World) (ha : FitP a) (hb : FitP b) (hs : FitP s) :
    Calls Try.prog 173 #[.agg #[.int .i64 a.t, .int .i64 a.v, .int .i64 a.q], .agg #[.int .i64 b.t, .int .i64 b.v, .int .i64 b.q], .agg #[.int .i64 s.t, .int .i64 s.v, .int .i64 s.q]] w fun e w' => e = .returned (.int .i64 (dist (lineI a b s) 0)) ∧ Below w.heap.size w w' := by
  have q1 : -691372799998000000 ≤ (a.v - s.v) * (b.t - a.t) ∧ (a.v - s.v) * (b.t - a.t) ≤ 691372799998000000 := prod_near (by unfold FitP at *; omega) (by unfold FitP at *; omega)
  have q2 : -691372799998000000 ≤ (b.v - a.v) * (s.t - a.t) ∧ (b.v - a.v) * (s.t - a.t) ≤ 691372799998000000 := prod_near (by unfold FitP at *; omega) (by unfold FitP at *; omega)
  have r1 : (-2000000 ≤ a.v - s.v ∧ a.v - s.v ≤ 2000000) ∧ (-2000000 ≤ b.v - a.v ∧ b.v - a.v ≤ 2000000) := by unfold FitP at *; omega
  have r2 : (-345686399999 ≤ b.t - a.t ∧ b.t - a.t ≤ 345686399999) ∧ (-345686399999 ≤ s.t - a.t ∧ s.t - a.t ≤ 345686399999) := by unfold FitP at *; omega
  have hf := fun w => far_any ((a.v - s.v) * (b.t - a.t) + (b.v - a.v) * (s.t - a.t)) 0 w (by omega) (by omega)
  have hl : lineI a b s = (a.v - s.v) * (b.t - a.t) + (b.v - a.v) * (s.t - a.t) := rfl
  rw [hl]
  have HP := Lib.hid (And.intro ha (And.intro hb hs))
  clear ha hb hs hl
  go_enter Try.func173, Try.ntmps173
  go_wp2_with (go_at_call 103; refine (hf _).mono ?_; rintro e w' ⟨rfl, rfl⟩)
  go_ret
  exact ⟨rfl, (((Below.refl _ w).alloc (Nat.le_refl _) _).alloc (by simp) _).alloc (by simp; omega) _⟩
end Go.Proofs.Ytblbfpokkpkcjaa

/- The contract of the reference's covers. -/

namespace Go.Proofs.Ytblbfpokkpkcjaa
open Go.RowKit
set_option linter.unusedVariables false
set_option linter.unusedSimpArgs false

theorem dist_zero (a D : Int) : (D < dist a 0) ↔ ¬ (a ≤ D ∧ -D ≤ a) := by unfold dist; split <;> omega
/-- What covers keeps. -/
structure KV (w0 : World) (bd n : Nat) (d m : Int) (v : Value) (l : List Smp) (X : Smp) (w : World) : Prop where
  dr : Blk w bd 30 #[.int .i64 d, .int .i64 m]
  bx : Blk w n 71 #[.int .i64 X.t, .int .i64 X.v, .int .i64 X.q]
  rd : RdS w 71 v l
  bl : Below w0.heap.size w0 w
theorem KV.step {w0 w w' : World} {bd n : Nat} {d m : Int} {v : Value} {l : List Smp} {X : Smp} (hb : Below w.heap.size w w') (h : KV w0 bd n d m v l X w) : KV w0 bd n d m v l X w' :=
  ⟨h.dr.below hb h.dr.lt, h.bx.below hb h.bx.lt, h.rd.below hb (Nat.le_refl _), h.bl.trans (hb.mono h.bl.size)⟩
theorem KV.drew {w0 w : World} {bd n : Nat} {d m : Int} {v : Value} {l : List Smp} {X : Smp} (h : KV w0 bd n d m v l X w) : KV w0 bd n d m v l X w.drew := h.step (w' := w.drew) (show Below w.heap.size w w.drew from ⟨rfl, rfl, rfl, Nat.le_refl _, fun _ _ => rfl⟩)

set_option maxRecDepth 100000 in
set_option maxHeartbeats 2000000 in
theorem covers_any (d m : Int) (v : Value) (l : List Smp) (p k : Nat) (w : World) (hR : RdS w 71 v l) (hl : FitL l) (hlong : l.length ≤ 100000) (hpk : p < k) (hk : k < l.length) (hd : 0 ≤ d ∧ d ≤ 2000000) :
    Calls Try.prog 115 #[.agg #[.int .i64 d, .int .i64 m], v, .int .i64 (p : Int), .int .i64 (k : Int)] w fun e w' => e = .returned (.bool (cov d l p k)) ∧ Below w.heap.size w w' := by
  obtain ⟨pa, ca, rfl⟩ := hR.lenv
  have hD0 := Blk.new w 30 #[.int .i64 d, .int .i64 m]
  have hR1 : RdS _ 71 (.slice pa l.length ca) l := Rd.alloc hR (.cells #[.int .i64 d, .int .i64 m] 30)
  have hb1 : Below w.heap.size w (w.alloc (.cells #[.int .i64 d, .int .i64 m] 30)) := (Below.refl _ w).alloc (Nat.le_refl _) _
  have hsz1 : w.heap.size < (w.alloc (.cells #[.int .i64 d, .int .i64 m] 30)).heap.size := by simp
  obtain ⟨b, off, c, hv, hc1, hc2, hblt, hcell⟩ := RdS.at_ hR (by omega)
  cases hv
  unfold maxLen at hc2
  have hca : ¬ ca = p + 1 := by omega
  have HR1 := Lib.hid hR1
  have HD0 := Lib.hid hD0
  have HB1 := Lib.hid hb1
  have HL := Lib.hid hl
  clear hR hR1 hD0 hb1 hcell hl
  have hpk' : (p : Int) + 1 ≤ (k : Int) := by omega
  have hkl' : (k : Int) ≤ (l.length : Int) := by omega
  go_enter Try.func115, Try.ntmps115
  go_wp2_with fail
  generalize w.alloc (.cells #[.int .i64 d, .int .i64 m] 30) = w1 at *
  have hN : k - (p + 1) = k - (p + 1) := rfl
  generalize hNe : k - (p + 1) = N at *
  have HN := Lib.hid hNe
  have hNk : p + 1 + N = k := by omega
  have HNK := Lib.hid hNk
  clear hN hNe hNk
  go_loopw [17] (fun i wr => ∃ j : Nat, j ≤ N ∧ i = .int .i64 (j : Int) ∧ (∀ q, p < q → q < p + 1 + j → lineI (atS l p) (atS l k) (atS l q) ≤ d * ((atS l k).t - (atS l p).t) ∧ -(d * ((atS l k).t - (atS l p).t)) ≤ lineI (atS l p) (atS l k) (atS l q)) ∧ Below w1.heap.size w1 wr) (fun i _ => N - (intOf i).toNat)
  case atStart => exact ⟨0, by omega, rfl, fun q h1 h2 => by omega, Below.refl _ _⟩
  case round =>
    obtain ⟨j, hj, rfl, hall, hbr⟩ := hrel
    have HALL := Lib.hid hall
    clear hall
    have hszr := hbr.size
    by_cases hlt : j < N
    · have hqk : p + 1 + j < k := by have := HNK.out; omega
      have hRr : RdS wr 71 (.slice (some ⟨b, off, none⟩) l.length ca) l := HR1.out.below hbr (Nat.le_refl _)
      have hDr := HD0.out.below hbr hsz1
      obtain ⟨x0, x1, x2, hbw⟩ := RdS.atv hRr (p + 1 + j) (by omega)
      have ea : off + (p + 1 + j) * 3 = off + (p + 1) * 3 + j * 3 := by omega
      rw [ea] at x0 x1 x2
      have hfq := HL.out.fit (p + 1 + j) (by omega)
      have hfp := HL.out.fit p (by omega)
      have hfk := HL.out.fit k hk
      have hstep := fun (h : lineI (atS l p) (atS l k) (atS l (p + 1 + j)) ≤ d * ((atS l k).t - (atS l p).t) ∧ -(d * ((atS l k).t - (atS l p).t)) ≤ lineI (atS l p) (atS l k) (atS l (p + 1 + j))) => (show ∀ q, p < q → q < p + 1 + (j + 1) → lineI (atS l p) (atS l k) (atS l q) ≤ d * ((atS l k).t - (atS l p).t) ∧ -(d * ((atS l k).t - (atS l p).t)) ≤ lineI (atS l p) (atS l k) (atS l q) from fun q h1 h2 => by
        by_cases hq : q = p + 1 + j
        · rw [hq]; exact h
        · exact HALL.out q h1 (by omega))
      have hno := fun (h : ¬ (lineI (atS l p) (atS l k) (atS l (p + 1 + j)) ≤ d * ((atS l k).t - (atS l p).t) ∧ -(d * ((atS l k).t - (atS l p).t)) ≤ lineI (atS l p) (atS l k) (atS l (p + 1 + j)))) => (show cov d l p k = false from cov_false.2 fun hc => h (hc (p + 1 + j) (by omega) hqk))
      have HSTEP := Lib.hid hstep
      have HNO := Lib.hid hno
      clear hstep hno ea
      generalize hXe : atS l (p + 1 + j) = X at *
      generalize hPe : atS l p = P at *
      generalize hKe : atS l k = K at *
      have HPe := Lib.hid hPe
      have HKe := Lib.hid hKe
      have hkv : KV w1 w.heap.size wr.heap.size d m (.slice (some ⟨b, off, none⟩) l.length ca) l X (wr.alloc (.cells #[.int .i64 X.t, .int .i64 X.v, .int .i64 X.q] 71)) :=
        ⟨hDr.alloc _, Blk.new _ _ _, Rd.alloc hRr _, hbr.alloc hszr _⟩
      have hlo := fun w => lineOff_any P K X w hfp hfk hfq
      have hpr : 0 ≤ d * (K.t - P.t) ∧ d * (K.t - P.t) ≤ 691372799998000000 := by
        have h1 := prod_near (u := d) (t := K.t - P.t) (by omega) (by unfold FitP at hfp hfk; omega)
        have h2 : 0 ≤ K.t - P.t := by have := HL.out.ok.lt p k hpk hk; rw [hPe, hKe] at this; omega
        exact ⟨Int.mul_nonneg hd.1 h2, h1.2⟩
      have hT : -345686399999 ≤ K.t - P.t ∧ K.t - P.t ≤ 345686399999 := by unfold FitP at hfp hfk; omega
      have hw1 : IntKind.i64.wrap (K.t - P.t) = K.t - P.t := IntWalk.i64_in _ (by omega)
      have hw2 : IntKind.i64.wrap (d * (K.t - P.t)) = d * (K.t - P.t) := IntWalk.i64_in _ (by omega)
      have hdz := dist_zero (lineI P K X) (d * (K.t - P.t))
      have HDZ := Lib.hid hdz
      generalize lineI P K X = LI at *
      generalize hDe : dist LI 0 = DI at *
      clear hXe hPe hKe hfq hfp hfk hdz hDe hRr hDr
      have i1 : (0 : Int) ≤ (p : Int) := by omega
      have i2 : (p : Int) < (l.length : Int) := by omega
      have i3 : (0 : Int) ≤ (k : Int) := by omega
      have i4 : (k : Int) < (l.length : Int) := by omega
      go_upto_region 4 with fail
      generalize wr.alloc (.cells #[.int .i64 X.t, .int .i64 X.v, .int .i64 X.q] 71) = wb at *
      generalize wr.heap.size = n at *
      have hS0 : (wb.drew).cell? ⟨b, off + p * 3, none⟩ = some (.int .i64 P.t) ∧ (wb.drew).cell? ⟨b, off + p * 3 + 1, none⟩ = some (.int .i64 P.v) ∧ (wb.drew).cell? ⟨b, off + p * 3 + 2, none⟩ = some (.int .i64 P.q) ∧ (wb.drew).cell? ⟨b, off + k * 3, none⟩ = some (.int .i64 K.t) ∧ (wb.drew).cell? ⟨b, off + k * 3 + 1, none⟩ = some (.int .i64 K.v) ∧ (wb.drew).cell? ⟨b, off + k * 3 + 2, none⟩ = some (.int .i64 K.q) ∧ (wb.drew).cell? ⟨n, 0, none⟩ = some (.int .i64 X.t) ∧ (wb.drew).cell? ⟨n, 1, none⟩ = some (.int .i64 X.v) ∧ (wb.drew).cell? ⟨n, 2, none⟩ = some (.int .i64 X.q) ∧ (wb.drew).cell? ⟨w.heap.size, 0, none⟩ = some (.int .i64 d) := (by have hp3 := RdS.atv (hkv.drew).rd p (by omega); have hk3 := RdS.atv (hkv.drew).rd k (by omega); rw [HPe.out] at hp3; rw [HKe.out] at hk3; exact ⟨hp3.1, hp3.2.1, hp3.2.2.1, hk3.1, hk3.2.1, hk3.2.2.1, (hkv.drew).bx.cell 0, (hkv.drew).bx.cell 1, (hkv.drew).bx.cell 2, (hkv.drew).dr.cell 0⟩)
      go_region_held3 (fun w' => (w').cell? ⟨b, off + p * 3, none⟩ = some (.int .i64 P.t) ∧ (w').cell? ⟨b, off + p * 3 + 1, none⟩ = some (.int .i64 P.v) ∧ (w').cell? ⟨b, off + p * 3 + 2, none⟩ = some (.int .i64 P.q) ∧ (w').cell? ⟨b, off + k * 3, none⟩ = some (.int .i64 K.t) ∧ (w').cell? ⟨b, off + k * 3 + 1, none⟩ = some (.int .i64 K.v) ∧ (w').cell? ⟨b, off + k * 3 + 2, none⟩ = some (.int .i64 K.q) ∧ (w').cell? ⟨n, 0, none⟩ = some (.int .i64 X.t) ∧ (w').cell? ⟨n, 1, none⟩ = some (.int .i64 X.v) ∧ (w').cell? ⟨n, 2, none⟩ = some (.int .i64 X.q) ∧ (w').cell? ⟨w.heap.size, 0, none⟩ = some (.int .i64 d))
        (first | with_reducible exact hSk | with_reducible exact hS0)
        (first
        | (go_at_call 173; (with_reducible refine (hlo _).mono ?_); rintro e wk ⟨rfl, hbk⟩; have hkk := KV.step hbk hkv.drew; have hSk : (wk).cell? ⟨b, off + p * 3, none⟩ = some (.int .i64 P.t) ∧ (wk).cell? ⟨b, off + p * 3 + 1, none⟩ = some (.int .i64 P.v) ∧ (wk).cell? ⟨b, off + p * 3 + 2, none⟩ = some (.int .i64 P.q) ∧ (wk).cell? ⟨b, off + k * 3, none⟩ = some (.int .i64 K.t) ∧ (wk).cell? ⟨b, off + k * 3 + 1, none⟩ = some (.int .i64 K.v) ∧ (wk).cell? ⟨b, off + k * 3 + 2, none⟩ = some (.int .i64 K.q) ∧ (wk).cell? ⟨n, 0, none⟩ = some (.int .i64 X.t) ∧ (wk).cell? ⟨n, 1, none⟩ = some (.int .i64 X.v) ∧ (wk).cell? ⟨n, 2, none⟩ = some (.int .i64 X.q) ∧ (wk).cell? ⟨w.heap.size, 0, none⟩ = some (.int .i64 d) := (by have hp3 := RdS.atv (hkk).rd p (by omega); have hk3 := RdS.atv (hkk).rd k (by omega); rw [HPe.out] at hp3; rw [HKe.out] at hk3; exact ⟨hp3.1, hp3.2.1, hp3.2.2.1, hk3.1, hk3.2.1, hk3.2.2.1, (hkk).bx.cell 0, (hkk).bx.cell 1, (hkk).bx.cell 2, (hkk).dr.cell 0⟩); clear hbk))
      have hkk2 := hkk.bl
      clear hpr hT hw1 hw2 hlo
      generalize hDT : d * (K.t - P.t) = DT at *
      have HDT := Lib.hid hDT
      clear hDT
      by_cases hgt : DT < DI
      · have hgt' : decide (DT < DI) = true := by simpa using hgt
        have HC := Lib.hid (HNO.out (HDZ.out.1 hgt))
        go_wp2_with fail
        go_ret
        exact ⟨ret_bool HC.out.symm, HB1.out.trans (hkk2.mono (by omega))⟩
      · have hgt' : decide (DT < DI) = false := by simpa using hgt
        have HC := Lib.hid (HSTEP.out (Classical.not_not.1 fun h => hgt (HDZ.out.2 h)))
        have hge : DI ≤ DT := by omega
        go_wp2_with fail
        go_roundw
        case rel => exact ⟨j + 1, by omega, by go_num, by rw [HDT.out]; exact HC.out, hkk2⟩
        case measure => simp [intOf]; omega
    · obtain rfl : j = N := by omega
      have hc : cov d l p k = true := cov_true.2 fun q h1 h2 => HALL.out q h1 (by have := HNK.out; omega)
      have HC := Lib.hid hc
      clear hc
      go_wp2_with fail
      go_ret
      exact ⟨ret_bool HC.out.symm, HB1.out.trans (hbr.mono (by omega))⟩
end Go.Proofs.Ytblbfpokkpkcjaa
