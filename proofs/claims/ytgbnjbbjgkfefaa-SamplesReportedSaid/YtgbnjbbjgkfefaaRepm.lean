/- The contract of Report (package compress), whole: its errors, and the indices that it reports. -/
import Derived.Test.YtgbnjbbjgkfefaaRep
import Derived.Test.YtgbnjbbjgkfefaaExc
import Derived.Test.YtgbnjbbjgkfefaaDex
import Derived.Deep.RegionHeld3
namespace Go.Proofs.Ytgbnjbbjgkfefaa
open Go.RowKit
set_option linter.unusedVariables false
set_option linter.unusedSimpArgs false

structure RepK (w0 : World) (m : Nat) (s : Int × List Int) (w : World) : Prop where
  st : RepSt w m s
  bl : Below m w0 w
theorem RepK.lt {w0 w : World} {m : Nat} {s : Int × List Int} (h : RepK w0 m s w) : m + 1 < w.heap.size := h.st.last.lt
theorem RepK.step {w0 w w' : World} {m : Nat} {s : Int × List Int} {B : Nat} (h : RepK w0 m s w) (hb : Below B w w') (hB : w.heap.size ≤ B) : RepK w0 m s w' :=
  ⟨h.st.below (hb.mono hB), h.bl.trans (hb.mono (by have := h.lt; omega))⟩
theorem RepK.alloc {w0 w : World} {m : Nat} {s : Int × List Int} (h : RepK w0 m s w) (o : Obj) : RepK w0 m s (w.alloc o) := h.step ((Below.refl _ w).alloc (Nat.le_refl _) o) (Nat.le_refl _)
theorem RepK.drew {w0 w : World} {m : Nat} {s : Int × List Int} (h : RepK w0 m s w) : RepK w0 m s w.drew := h.step (show Below w.heap.size w w.drew from ⟨rfl, rfl, rfl, Nat.le_refl _, fun _ _ => rfl⟩) (Nat.le_refl _)
theorem RepK.drewN {w0 w : World} {m : Nat} {s : Int × List Int} (h : RepK w0 m s w) (n : Nat) : RepK w0 m s (w.drewN n) := h.step (show Below w.heap.size w (w.drewN n) from ⟨rfl, rfl, rfl, Nat.le_refl _, fun _ _ => rfl⟩) (Nat.le_refl _)
theorem enter_report1 (args : Array Value) (w : World) : (callFunc 82 args).run Try.prog w = .ok (.enter 82 args) w := by kernel_rfl
/-- What stays readable in a round: the boxes, the exception, the sample, the series. -/
structure RepQ (B0 : Nat) (d gp : Int) (v : Value) (l : List Smp) (bs : Nat) (y : Smp) (w0 : World) (m : Nat) (s : Int × List Int) (w : World) : Prop where
  k : RepK w0 m s w
  be : Blk w B0 27 #[.int .i64 d, .int .i64 gp]
  bs : Blk w bs 71 #[.int .i64 y.t, .int .i64 y.v, .int .i64 y.q]
  rd : RdS w 71 v l
theorem RepQ.step {B0 : Nat} {d gp : Int} {v : Value} {l : List Smp} {bs : Nat} {y : Smp} {w0 : World} {m : Nat} {s : Int × List Int} {w w' : World} (hb : Below w.heap.size w w') (h : RepQ B0 d gp v l bs y w0 m s w) : RepQ B0 d gp v l bs y w0 m s w' :=
  ⟨h.k.step hb (Nat.le_refl _), h.be.below hb h.be.lt, h.bs.below hb h.bs.lt, h.rd.below hb (Nat.le_refl _)⟩
theorem RepQ.drew {B0 : Nat} {d gp : Int} {v : Value} {l : List Smp} {bs : Nat} {y : Smp} {w0 : World} {m : Nat} {s : Int × List Int} {w : World} (h : RepQ B0 d gp v l bs y w0 m s w) : RepQ B0 d gp v l bs y w0 m s w.drew :=
  h.step (w' := w.drew) (show Below w.heap.size w w.drew from ⟨rfl, rfl, rfl, Nat.le_refl _, fun _ _ => rfl⟩)

set_option maxRecDepth 100000 in
set_option maxHeartbeats 4000000 in
theorem report_any (d gp : Int) (v : Value) (l : List Smp) (w : World) (hR : RdS w 71 v l) (hlong : l.length ≤ 5000) (hfit : Fit l) :
    Calls Try.prog 16 #[.agg #[.int .i64 d, .int .i64 gp], v] w fun e w' =>
      ∃ vr E, e = .returned (.tuple #[vr, .int .i64 E]) ∧ E = orOf [doorErr d gp, serErr l] ∧ (E = 0 → RdI w' vr (reported d gp l)) ∧ (E ≠ 0 → vr = .slice none 0 0) ∧ Below w.heap.size w w' := by
  obtain ⟨pa, ca, rfl⟩ := hR.lenv
  have hor : orOf [doorErr d gp, serErr l] = if doorErr d gp ≠ 0 then doorErr d gp else serErr l := by
    simp only [orOf]
    split
    · rfl
    · split
      · rfl
      · omega
  generalize orOf [doorErr d gp, serErr l] = EE at *
  have HOR := Lib.hid hor
  have hmf : ∀ (fn : Fn) (first cap : Array Value) (w : World), (Instr.makeFunc fn first cap).run Try.prog w = .ok (.func fn first cap) w := fun _ _ _ _ => rfl
  have hcf := enter_report1
  have hB0 := Blk.new w 27 #[.int .i64 d, .int .i64 gp]
  have HR := Lib.hid hR
  have HFIT := Lib.hid hfit
  have HB0 := Lib.hid hB0
  clear hor hR hfit hB0
  go_enter Try.func16, Try.ntmps16
  go_wp2_with fail
  refine (checkException_any d gp _).mono ?_
  rintro e w1 ⟨rfl, hb1⟩
  have hb01 : Below w.heap.size w w1 := ((Below.refl _ w).alloc (Nat.le_refl _) _).trans (hb1.mono (by simp))
  have hB1 := HB0.out.below hb1 (by simp)
  by_cases hD : doorErr d gp = 0
  · have hD' : (doorErr d gp != 0) = false := by simpa using hD
    have HD := Lib.hid hD
    clear hD hb1
    go_wp2_with fail
    refine (checkSeries_any _ l _ (Rd.below HR.out hb01)).mono ?_
    rintro e w2 ⟨rfl, hb2⟩
    have hb02 : Below w.heap.size w w2 := hb01.trans (hb2.mono hb01.size)
    have hB2 := hB1.below hb2 hB1.lt
    by_cases hS : serErr l = 0
    · have hS' : (serErr l != 0) = false := by simpa using hS
      have HS := Lib.hid hS
      clear hS hb2 hB1 hb01
      have hlt0 := hB2.lt
      have hsz0 := hb02.size
      have HB2 := Lib.hid hB2
      have HB02 := Lib.hid hb02
      clear hB2 hb02
      go_wp2_with fail
      go_loopw [26] (fun i wr => ∃ j : Nat, j ≤ l.length ∧ i = .int .i64 (j : Int) ∧ RepK w2 w2.heap.size (repTo d gp l j) wr) (fun i _ => l.length - (intOf i).toNat)
      case atStart =>
        refine ⟨0, by omega, rfl, ⟨⟨_, (Blk.new w2 _ _).alloc _, World.ownsRow_nil _ _ _ _⟩, Blk.new1 _ _ _ _⟩, ((Below.refl _ w2).alloc (Nat.le_refl _) _).alloc (by simp) _⟩
      case round =>
        obtain ⟨j, hj, rfl, hk⟩ := hrel
        have hl1 := (repTo_last d gp l j)
        have hl2 := repTo_long d gp l j
        by_cases hlt : j < l.length
        · have hRr : RdS wr _ _ l := Rd.below HR.out (HB02.out.trans (hk.bl.mono HB02.out.size))
          obtain ⟨b, off, c, hv, hc1, hc2, hblt, hcell⟩ := RdS.at_ hRr (by omega)
          cases hv
          unfold maxLen at hc2
          obtain ⟨c0, c1, c2⟩ := hcell j hlt
          have hfj := HFIT.out j hlt
          have q0 : wr.cell? ⟨w.heap.size, 0, none⟩ = some (.int .i64 d) := (HB2.out.below hk.bl hlt0).cell 0
          have q1 : wr.cell? ⟨w.heap.size, 1, none⟩ = some (.int .i64 gp) := (HB2.out.below hk.bl hlt0).cell 1
          have q2 : wr.cell? ⟨w2.heap.size + 1, 0, none⟩ = some (.int .i64 (repTo d gp l j).1) := hk.st.last.cell 0
          have hmr := hk.lt
          have hstep : repTo d gp l (j + 1) = if j = 0 ∨ excB d gp (atS l (repTo d gp l j).1.toNat) (atS l j) = true then repI (j : Int) (repI ((j : Int) - 1) (repTo d gp l j)) else repTo d gp l j := rfl
          have hk1 := hk.alloc (.cells #[.int .i64 (atS l j).t, .int .i64 (atS l j).v, .int .i64 (atS l j).q] 71)
          rcases Nat.eq_zero_or_pos j with hj0 | hj0
          · subst hj0
            rw [if_pos (.inl rfl)] at hstep
            generalize repTo d gp l 0 = s at *
            have HST := Lib.hid hstep
            simp only [Nat.zero_mul, Nat.add_zero] at c0 c1 c2
            generalize atS l 0 = x at *
            clear hstep hcell hRr
            go_wp2_with fail
            go_quiet (fail)
            go_wp2_with fail
            refine (report1_any _ w2.heap.size s _ (hk1.drewN _).st (by omega)).mono ?_
            rintro e w3 ⟨rfl, hs3, hb3⟩
            have hk3 : RepK w2 w2.heap.size _ w3 := ⟨hs3, (hk1.drewN _).bl.trans hb3⟩
            have hl3 := repI_long (-1) s
            go_wp2_with fail
            refine (report1_any _ w2.heap.size _ _ hs3 (by first | omega | (have := hl3; simp at this ⊢; omega))).mono ?_
            rintro e w4 ⟨rfl, hs4, hb4⟩
            have hk4 : RepK w2 w2.heap.size _ w4 := ⟨hs4, hk3.bl.trans hb4⟩
            go_wp2_with fail
            go_roundw
            case rel => exact ⟨1, by omega, rfl, by rw [HST.out]; exact hk4⟩
            case measure => simp [intOf]; omega
          · have hzn : ∃ zn : Nat, (repTo d gp l j).1 = (zn : Int) := ⟨(repTo d gp l j).1.toNat, by have := hl1.2.2 hj0; omega⟩
            obtain ⟨zn, hzn⟩ := hzn
            have hznj : zn < j := by omega
            obtain ⟨z0, z1, z2⟩ := hcell zn (by omega)
            have hfz := HFIT.out zn (by omega)
            rw [hzn, Int.toNat_natCast] at hstep
            rw [hzn] at q2
            have hs1 : (repTo d gp l j).2.length ≤ 2 * j := hl2
            generalize repTo d gp l j = s at *
            have hj0' : ((j : Int) == 0) = false := by simp; omega
            have hex := isException_any d gp (atS l zn) (atS l j)
            generalize hx : atS l zn = x at *
            generalize atS l j = y at *
            have HX := Lib.hid hx
            have HRR := Lib.hid hRr
            have HST := Lib.hid hstep
            have HEX := Lib.hid hex
            have HZN := Lib.hid hzn
            clear hstep hcell hRr hex hzn hx
            have i1 : (0 : Int) ≤ (zn : Int) := by omega
            have i2 : (zn : Int) < (l.length : Int) := by omega
            have hbw : b < wr.heap.size := hblt
            have hQ : RepQ w.heap.size d gp (.slice (some ⟨b, off, none⟩) l.length ca) l wr.heap.size y w2 w2.heap.size s (wr.alloc (.cells #[.int .i64 y.t, .int .i64 y.v, .int .i64 y.q] 71)) :=
              ⟨hk1, (HB2.out.below hk.bl hlt0).alloc _, Blk.new _ _ _, Rd.alloc HRR.out _⟩
            have hq0 := hQ
            have hat : ∀ w', RepQ w.heap.size d gp (.slice (some ⟨b, off, none⟩) l.length ca) l wr.heap.size y w2 w2.heap.size s w' → w'.cell? ⟨w.heap.size, 0, none⟩ = some (.int .i64 d) ∧ w'.cell? ⟨w.heap.size, 1, none⟩ = some (.int .i64 gp) ∧ w'.cell? ⟨w2.heap.size + 1, 0, none⟩ = some (.int .i64 (zn : Int)) ∧ w'.cell? ⟨b, off + zn * 3, none⟩ = some (.int .i64 x.t) ∧ w'.cell? ⟨b, off + zn * 3 + 1, none⟩ = some (.int .i64 x.v) ∧ w'.cell? ⟨b, off + zn * 3 + 2, none⟩ = some (.int .i64 x.q) ∧ w'.cell? ⟨wr.heap.size, 0, none⟩ = some (.int .i64 y.t) ∧ w'.cell? ⟨wr.heap.size, 1, none⟩ = some (.int .i64 y.v) ∧ w'.cell? ⟨wr.heap.size, 2, none⟩ = some (.int .i64 y.q) := fun w' h => by
              obtain ⟨k0, k1, k2, _⟩ := h.rd.atv zn (by omega)
              rw [HX.out] at k0 k1 k2
              refine ⟨h.be.cell 0, h.be.cell 1, ?_, k0, k1, k2, h.bs.cell 0, h.bs.cell 1, h.bs.cell 2⟩
              have := h.k.st.last.cell 0
              rw [HZN.out] at this
              exact this
            have HAT := Lib.hid hat
            obtain ⟨r0, r1, r2, r3, r4, r5, r6, r7, r8⟩ := hat _ hQ
            clear hat
            go_wp2_with fail
            go_region_held3 (fun w' => w'.cell? ⟨w.heap.size, 0, none⟩ = some (.int .i64 d) ∧ w'.cell? ⟨w.heap.size, 1, none⟩ = some (.int .i64 gp) ∧ w'.cell? ⟨w2.heap.size + 1, 0, none⟩ = some (.int .i64 (zn : Int)) ∧ w'.cell? ⟨b, off + zn * 3, none⟩ = some (.int .i64 x.t) ∧ w'.cell? ⟨b, off + zn * 3 + 1, none⟩ = some (.int .i64 x.v) ∧ w'.cell? ⟨b, off + zn * 3 + 2, none⟩ = some (.int .i64 x.q) ∧ w'.cell? ⟨wr.heap.size, 0, none⟩ = some (.int .i64 y.t) ∧ w'.cell? ⟨wr.heap.size, 1, none⟩ = some (.int .i64 y.v) ∧ w'.cell? ⟨wr.heap.size, 2, none⟩ = some (.int .i64 y.q))
              (first | exact HAT.out _ hkk | exact HAT.out _ hq0 | go_keep)
              (first | (go_at_call 83; refine (HEX.out _ (by omega) (by omega) (by omega) (by omega)).mono ?_; rintro e wk ⟨rfl, hbk⟩; have hkk := RepQ.step hbk (by first | assumption | exact RepQ.drew (by assumption)); clear hbk))
            generalize excB d gp x y = B at *
            cases B
            · go_wp2_with fail
              go_roundw
              case rel => exact ⟨j + 1, by omega, by go_num, by rw [HST.out, if_neg (by simp; omega)]; exact hkk.k⟩
              case measure => simp [intOf]; omega
            · have hl3 := repI_long ((j : Int) - 1) s
              go_wp2_with fail
              refine (report1_any _ w2.heap.size s _ hkk.k.st (by omega)).mono ?_
              rintro e w3 ⟨rfl, hs3, hb3⟩
              have hk3 : RepK w2 w2.heap.size _ w3 := ⟨hs3, hkk.k.bl.trans hb3⟩
              go_wp2_with fail
              refine (report1_any _ w2.heap.size _ _ hs3 (by omega)).mono ?_
              rintro e w4 ⟨rfl, hs4, hb4⟩
              have hk4 : RepK w2 w2.heap.size _ w4 := ⟨hs4, hk3.bl.trans hb4⟩
              go_wp2_with fail
              go_roundw
              case rel => exact ⟨j + 1, by omega, by go_num, by rw [HST.out, if_pos (.inr trivial)]; exact hk4⟩
              case measure => simp [intOf]; omega
        · obtain rfl : j = l.length := by omega
          go_wp2_with fail
          refine (report1_any _ w2.heap.size _ _ hk.st (by omega)).mono ?_
          rintro e w5 ⟨rfl, ⟨⟨vr, hb, hown⟩, _⟩, hbl⟩
          have c0 := hb.cell 0
          have hb25 : Below w.heap.size w w5 := HB02.out.trans ((hk.bl.trans hbl).mono hsz0)
          have hE0 : EE = 0 := by rw [HOR.out, if_neg (by rw [HD.out]; simp)]; exact HS.out
          have hread : RdI w5 vr (reported d gp l) := Rd.of_own hown
          clear hb hown hbl
          go_wp2_with fail
          go_ret2
          exact ⟨vr, 0, rfl, hE0.symm, fun _ => hread, fun h => absurd rfl h, hb25⟩
    · have hS' : (serErr l != 0) = true := by simpa using hS
      have HS := Lib.hid hS
      clear hS
      go_wp2_with fail
      go_ret2
      exact ⟨_, _, rfl, by rw [HOR.out, if_neg (by rw [HD.out]; simp)], fun h => absurd h HS.out, fun _ => rfl, hb02⟩
  · have hD' : (doorErr d gp != 0) = true := by simpa using hD
    have HD := Lib.hid hD
    clear hD
    go_wp2_with fail
    go_ret2
    exact ⟨_, _, rfl, by rw [HOR.out, if_pos HD.out], fun h => absurd h HD.out, fun _ => rfl, hb01⟩
end Go.Proofs.Ytgbnjbbjgkfefaa
