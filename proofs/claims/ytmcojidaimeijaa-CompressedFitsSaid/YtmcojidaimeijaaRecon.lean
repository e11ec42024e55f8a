/- The contract of Reconstruct (package compress). -/
import Derived.Test.YtmcojidaimeijaaOnline
import Derived.Test.YtmcojidaimeijaaSerr
import Derived.Test.YtmcojidaimeijaaPos
namespace Go.Proofs.Ytmcojidaimeijaa
open Go.RowKit
set_option linter.unusedVariables false
set_option linter.unusedSimpArgs false

def reconOf (l : List Smp) (t : Int) : Option (Int × Int) :=
  if posF l t = l.length ∨ (atS l (posF l t)).q = 2 then none
  else if (atS l (posF l t)).t = t then some ((atS l (posF l t)).v, 1)
  else if posF l t = 0 ∨ (atS l (posF l t - 1)).q = 2 then none
  else some (lineAt (atS l (posF l t - 1)) (atS l (posF l t)) t)
def reconV (l : List Smp) (t : Int) : Int × Int := (reconOf l t).getD (0, 0)
def reconB (l : List Smp) (t : Int) : Bool := (reconOf l t).isSome

/-- The box of reconstructed: the result. -/
structure RcK (w0 : World) (v : Value) (l : List Smp) (w : World) : Prop where
  b2 : Blk w w0.heap.size 35 #[.int .i64 0, .int .i64 0]
  rd : RdS w 57 v l
  bl : Below w0.heap.size w0 w
theorem RcK.step {w0 w w' : World} {v : Value} {l : List Smp} (hb : Below w.heap.size w w') (h : RcK w0 v l w) : RcK w0 v l w' :=
  ⟨h.b2.below hb h.b2.lt, h.rd.below hb (Nat.le_refl _), h.bl.trans (hb.mono h.bl.size)⟩
theorem RcK.drew {w0 w : World} {v : Value} {l : List Smp} (h : RcK w0 v l w) : RcK w0 v l w.drew :=
  h.step (w' := w.drew) (show Below w.heap.size w w.drew from ⟨rfl, rfl, rfl, Nat.le_refl _, fun _ _ => rfl⟩)
theorem RcK.drewN {w0 w : World} {v : Value} {l : List Smp} (h : RcK w0 v l w) (n : Nat) : RcK w0 v l (w.drewN n) :=
  h.step (w' := w.drewN n) (show Below w.heap.size w (w.drewN n) from ⟨rfl, rfl, rfl, Nat.le_refl _, fun _ _ => rfl⟩)
theorem RcK.start (w : World) (v : Value) (l : List Smp) (h : RdS w 57 v l) :
    RcK w v l (w.alloc (.cells #[.int .i64 0, .int .i64 0] 35)) :=
  ⟨Blk.new w _ _, Rd.alloc h _, (Below.refl _ w).alloc (Nat.le_refl _) _⟩
theorem RcK.stored {w0 w : World} {v : Value} {l : List Smp} (h : RcK w0 v l w) (u u' : Value) : RdS ((w.setCell ⟨w0.heap.size, 0, none⟩ u).setCell ⟨w0.heap.size, 1, none⟩ u') 57 v l := by
  obtain ⟨cs, h3⟩ := h.b2.setSame (i := 0) u
  exact Rd.setCell (Rd.setCell h.rd _ _ (h.b2.no (by decide))) _ _ (h3.no (by decide))
/-- What holds of the place of a moment. -/
theorem pos_around (l : List Smp) (t : Int) (h : Rise none l) : (∀ i, i < posF l t → i < l.length → (atS l i).t < t) ∧ (posF l t < l.length → t ≤ (atS l (posF l t)).t) := by
  refine ⟨fun i h1 h2 => ?_, fun h1 => (posF_iff l t none h _ h1).2 (Nat.le_refl _)⟩
  have := posF_iff l t none h i h2
  omega

set_option maxRecDepth 100000 in
set_option maxHeartbeats 4000000 in
theorem reconstructed_any (v : Value) (l : List Smp) (t : Int) (w : World) (hR : RdS w 57 v l) (hS : Rise none l) (hlong : l.length ≤ 5000) (hr : ∀ i, i < l.length → Right (atS l i)) :
    Calls Try.prog 74 #[v, .int .i64 t] w fun e w' => e = .returned (.tuple #[.agg #[.int .i64 (reconV l t).1, .int .i64 (reconV l t).2], .bool (reconB l t)]) ∧ Below w.heap.size w w' := by
  obtain ⟨pa, ca, rfl⟩ := hR.lenv
  have hdef : reconOf l t = if posF l t = l.length ∨ (atS l (posF l t)).q = 2 then none
    else if (atS l (posF l t)).t = t then some ((atS l (posF l t)).v, 1)
    else if posF l t = 0 ∨ (atS l (posF l t - 1)).q = 2 then none
    else some (lineAt (atS l (posF l t - 1)) (atS l (posF l t)) t) := rfl
  have hv : reconV l t = (reconOf l t).getD (0, 0) := rfl
  have hb : reconB l t = (reconOf l t).isSome := rfl
  have hk0 := RcK.start w (.slice pa l.length ca) l hR
  have hse := position_any (.slice pa l.length ca) l t _ hk0.rd hS hlong
  have hpl := posF_le l t
  have hpa := pos_around l t hS
  generalize reconV l t = V at *
  generalize reconB l t = B at *
  generalize reconOf l t = O at *
  generalize posF l t = p at *
  have HDEF := Lib.hid hdef
  have HV := Lib.hid hv
  have HB := Lib.hid hb
  have HSE := Lib.hid hse
  have HK0 := Lib.hid hk0
  have HPA := Lib.hid hpa
  have HRR := Lib.hid hr
  clear hdef hv hb hse hk0 hpa hr hR hS
  go_enter Try.func74, Try.ntmps74
  go_wp2_with fail
  refine HSE.out.mono ?_
  rintro e w1 ⟨rfl, hb1⟩
  have hk := RcK.step hb1 HK0.out
  clear HK0 HSE hb1
  have r0 : w1.cell? ⟨w.heap.size, 0, none⟩ = some (.int .i64 0) := hk.b2.cell 0
  have r1 : w1.cell? ⟨w.heap.size, 1, none⟩ = some (.int .i64 0) := hk.b2.cell 1
  have g0 : w1.frozen? ⟨w.heap.size, 0, none⟩ = false := hk.b2.frozen 0
  have g1 : w1.frozen? ⟨w.heap.size, 1, none⟩ = false := hk.b2.frozen 1
  have hz := hk.b2.lt
  have hbl := hk.bl
  by_cases hpn : p = l.length
  · have hpn' : ((p : Int) == (l.length : Int)) = true := by simp; omega
    have hO : O = none := by rw [HDEF.out, if_pos (.inl hpn)]
    have hV : V = (0, 0) := by rw [HV.out, hO]; rfl
    have hB : B = false := by rw [HB.out, hO]; rfl
    subst hV hB
    clear hpn hO HDEF
    go_wp2_with fail
    refine bodyPost_ret (v := .tuple #[.agg #[.int .i64 0, .int .i64 0], .bool false]) (by simp [results, Try.results74, go_sem, r0, r1]) rfl ⟨rfl, ?_⟩
    exact hbl.trans (by (repeat (refine Below.setCell ?_ (by exact Nat.le_refl _) _)); exact Below.refl _ _)
  · have hpn' : ((p : Int) == (l.length : Int)) = false := by simp; omega
    have hplt : p < l.length := by omega
    obtain ⟨b, off, c, hv, hc1, hc2, hblt, hcell⟩ := RdS.at_ hk.rd (by omega)
    cases hv
    unfold maxLen at hc2
    obtain ⟨c0, c1, c2⟩ := hcell p hplt
    have hge := HPA.out.2 hplt
    have hrp := HRR.out p hplt
    have i1 : (0 : Int) ≤ (p : Int) := by omega
    have i2 : (p : Int) < (l.length : Int) := by omega
    clear hpn
    by_cases hq : (atS l p).q = 2
    · have hO : O = none := by rw [HDEF.out, if_pos (.inr hq)]
      have hV : V = (0, 0) := by rw [HV.out, hO]; rfl
      have hB : B = false := by rw [HB.out, hO]; rfl
      have hq' : ((atS l p).q == 2) = true := by simpa using hq
      subst hV hB
      generalize atS l p = y at *
      clear hq hO HDEF hcell hk
      go_wp2_with fail
      refine bodyPost_ret (v := .tuple #[.agg #[.int .i64 0, .int .i64 0], .bool false]) (by simp [results, Try.results74, go_sem, r0, r1]) rfl ⟨rfl, ?_⟩
      exact hbl.trans (by (repeat (refine Below.setCell ?_ (by exact Nat.le_refl _) _)); exact Below.refl _ _)
    · have hq' : ((atS l p).q == 2) = false := by simpa using hq
      by_cases ht : (atS l p).t = t
      · have hO : O = some ((atS l p).v, 1) := by rw [HDEF.out, if_neg (by omega), if_pos ht]
        have hV : V = ((atS l p).v, 1) := by rw [HV.out, hO]; rfl
        have hB : B = true := by rw [HB.out, hO]; rfl
        have ht' : ((atS l p).t == t) = true := by simpa using ht
        subst hB
        generalize atS l p = y at *
        have HVV := Lib.hid hV
        clear hq ht hO hV HV HDEF hcell hk
        go_wp2_with fail
        refine bodyPost_ret (v := .tuple #[.agg #[.int .i64 y.v, .int .i64 1], .bool true]) (by simp [results, Try.results74, go_sem, r0, r1]) rfl ⟨by rw [HVV.out], ?_⟩
        exact hbl.trans (by (repeat (refine Below.setCell ?_ (by exact Nat.le_refl _) _)); exact Below.refl _ _)
      · have ht' : ((atS l p).t == t) = false := by simpa using ht
        by_cases hp0 : p = 0
        · have hO : O = none := by rw [HDEF.out, if_neg (by omega), if_neg ht, if_pos (.inl hp0)]
          have hV : V = (0, 0) := by rw [HV.out, hO]; rfl
          have hB : B = false := by rw [HB.out, hO]; rfl
          have hp0' : ((p : Int) == 0) = true := by simp; omega
          subst hV hB
          generalize atS l p = y at *
          clear hq ht hO HDEF hcell hk hp0
          go_wp2_with fail
          refine bodyPost_ret (v := .tuple #[.agg #[.int .i64 0, .int .i64 0], .bool false]) (by simp [results, Try.results74, go_sem, r0, r1]) rfl ⟨rfl, ?_⟩
          exact hbl.trans (by (repeat (refine Below.setCell ?_ (by exact Nat.le_refl _) _)); exact Below.refl _ _)
        · have hp0' : ((p : Int) == 0) = false := by simp; omega
          have hgt := HPA.out.1 (p - 1) (by omega) (by omega)
          have hrx := HRR.out (p - 1) (by omega)
          obtain ⟨d0, d1, d2⟩ := hcell (p - 1) (by omega)
          have j1 : (0 : Int) ≤ (p : Int) - 1 := by omega
          have j2 : (p : Int) - 1 < (l.length : Int) := by omega
          have j3 : ((p : Int) - 1).toNat = p - 1 := by omega
          have j4 : IntKind.i64.wrap ((p : Int) - 1) = (p : Int) - 1 := IntWalk.i64_in _ (by omega)
          by_cases hqq : (atS l (p - 1)).q = 2
          · have hO : O = none := by rw [HDEF.out, if_neg (by omega), if_neg ht, if_pos (.inr hqq)]
            have hV : V = (0, 0) := by rw [HV.out, hO]; rfl
            have hB : B = false := by rw [HB.out, hO]; rfl
            have hqq' : ((atS l (p - 1)).q == 2) = true := by simpa using hqq
            subst hV hB
            generalize atS l p = y at *
            generalize atS l (p - 1) = x at *
            clear hq ht hO HDEF hcell hk hp0 hqq
            go_wp2_with fail
            refine bodyPost_ret (v := .tuple #[.agg #[.int .i64 0, .int .i64 0], .bool false]) (by simp [results, Try.results74, go_sem, r0, r1]) rfl ⟨rfl, ?_⟩
            exact hbl.trans (by (repeat (refine Below.setCell ?_ (by exact Nat.le_refl _) _)); exact Below.refl _ _)
          · have hO : O = some (lineAt (atS l (p - 1)) (atS l p) t) := by rw [HDEF.out, if_neg (by omega), if_neg ht, if_neg (by omega)]
            have hV : V = lineAt (atS l (p - 1)) (atS l p) t := by rw [HV.out, hO]; rfl
            have hB : B = true := by rw [HB.out, hO]; rfl
            have hqq' : ((atS l (p - 1)).q == 2) = false := by simpa using hqq
            have hon := fun w => onLine_any (atS l (p - 1)) (atS l p) t w hrx hrp (by omega) (by omega)
            rw [← hV] at hon
            have hat : ∀ w', RdS w' 57 (.slice (some ⟨b, off, none⟩) l.length ca) l → w'.cell? ⟨b, off + (p - 1) * 3, none⟩ = some (.int .i64 (atS l (p - 1)).t) ∧ w'.cell? ⟨b, off + (p - 1) * 3 + 1, none⟩ = some (.int .i64 (atS l (p - 1)).v) ∧ w'.cell? ⟨b, off + (p - 1) * 3 + 2, none⟩ = some (.int .i64 (atS l (p - 1)).q) ∧ w'.cell? ⟨b, off + p * 3, none⟩ = some (.int .i64 (atS l p).t) ∧ w'.cell? ⟨b, off + p * 3 + 1, none⟩ = some (.int .i64 (atS l p).v) ∧ w'.cell? ⟨b, off + p * 3 + 2, none⟩ = some (.int .i64 (atS l p).q) := fun w' h => by
              obtain ⟨k0, k1, k2, _⟩ := h.atv (p - 1) (by omega)
              obtain ⟨l0, l1, l2, _⟩ := h.atv p (by omega)
              exact ⟨k0, k1, k2, l0, l1, l2⟩
            subst hB
            generalize atS l p = y at *
            generalize atS l (p - 1) = x at *
            have HAT := Lib.hid hat
            have HON := Lib.hid hon
            clear hq ht hO hV HDEF hcell hp0 hqq hat hon HV HB
            go_wp2_with fail
            obtain ⟨s2, s3, s4, s5, s6, s7⟩ := HAT.out _ hk.rd
            have k1 : (1 : Int) ≤ (p : Int) := by omega
            have k2 : (p : Int) < (l.length : Int) + 1 := by omega
            go_region_held3 (fun w' => w'.cell? ⟨b, off + (p - 1) * 3, none⟩ = some (.int .i64 x.t) ∧ w'.cell? ⟨b, off + (p - 1) * 3 + 1, none⟩ = some (.int .i64 x.v) ∧ w'.cell? ⟨b, off + (p - 1) * 3 + 2, none⟩ = some (.int .i64 x.q) ∧ w'.cell? ⟨b, off + p * 3, none⟩ = some (.int .i64 y.t) ∧ w'.cell? ⟨b, off + p * 3 + 1, none⟩ = some (.int .i64 y.v) ∧ w'.cell? ⟨b, off + p * 3 + 2, none⟩ = some (.int .i64 y.q))
              (first | exact HAT.out _ hkk.rd | exact HAT.out _ hk.rd | exact HAT.out _ (hkk.stored _ _) | go_keep)
              (first | (go_at_call 101; refine (HON.out _).mono ?_; rintro e wk ⟨rfl, hbk⟩; have hkk := RcK.step hbk (by first | assumption | exact RcK.drew (by assumption)); have t0 : wk.frozen? ⟨w.heap.size, 0, none⟩ = false := hkk.b2.frozen 0; have t1 : wk.frozen? ⟨w.heap.size, 1, none⟩ = false := hkk.b2.frozen 1; have t2 : wk.cell? ⟨w.heap.size, 0, none⟩ = some (.int .i64 0) := hkk.b2.cell 0; have t3 : wk.cell? ⟨w.heap.size, 1, none⟩ = some (.int .i64 0) := hkk.b2.cell 1; clear hbk))
            have hblk := hkk.bl
            clear HAT HON
            go_wp2_with fail
            refine bodyPost_ret (v := .tuple #[.agg #[.int .i64 V.1, .int .i64 V.2], .bool true]) (by simp [results, Try.results74, go_sem, t2, t3]) rfl ⟨rfl, ?_⟩
            exact hblk.trans (by (repeat (refine Below.setCell ?_ (by exact Nat.le_refl _) _)); exact Below.refl _ _)

def rcE (l : List Smp) (t : Int) : Int := if serErr l ≠ 0 then serErr l else if inB t 0 345686399999 = false then 1 else 0
def rcV (l : List Smp) (t : Int) : Int × Int := if rcE l t = 0 then reconV l t else (0, 0)
def rcB (l : List Smp) (t : Int) : Bool := if rcE l t = 0 then reconB l t else false

set_option maxRecDepth 100000 in
set_option maxHeartbeats 4000000 in
theorem reconstruct_any (v : Value) (l : List Smp) (t : Int) (w : World) (hR : RdS w 57 v l) :
    Calls Try.prog 30 #[v, .int .i64 t] w fun e w' => e = .returned (.tuple #[.agg #[.int .i64 (rcV l t).1, .int .i64 (rcV l t).2], .bool (rcB l t), .int .i64 (rcE l t)]) ∧ Below w.heap.size w w' := by
  have hE : rcE l t = if serErr l ≠ 0 then serErr l else if inB t 0 345686399999 = false then 1 else 0 := rfl
  have hV : rcV l t = if rcE l t = 0 then reconV l t else (0, 0) := rfl
  have hB : rcB l t = if rcE l t = 0 then reconB l t else false := rfl
  generalize rcV l t = V at *
  generalize rcB l t = B at *
  generalize rcE l t = E at *
  have HE := Lib.hid hE
  have HV := Lib.hid hV
  have HB := Lib.hid hB
  have HR := Lib.hid hR
  have hB0 := Blk.new w 35 #[.int .i64 0, .int .i64 0]
  have HB0 := Lib.hid hB0
  clear hE hV hB hR hB0
  go_enter Try.func30, Try.ntmps30
  go_wp2_with fail
  refine (checkSeries_any v l _ (Rd.alloc HR.out _)).mono ?_
  rintro e w1 ⟨rfl, hb1⟩
  have hb01 : Below w.heap.size w w1 := ((Below.refl _ w).alloc (Nat.le_refl _) _).trans (hb1.mono (by simp))
  have hB1 := HB0.out.below hb1 (by simp)
  clear hb1
  have r0 : w1.cell? ⟨w.heap.size, 0, none⟩ = some (.int .i64 0) := hB1.cell 0
  have r1 : w1.cell? ⟨w.heap.size, 1, none⟩ = some (.int .i64 0) := hB1.cell 1
  have g0 : w1.frozen? ⟨w.heap.size, 0, none⟩ = false := hB1.frozen 0
  have g1 : w1.frozen? ⟨w.heap.size, 1, none⟩ = false := hB1.frozen 1
  by_cases hS : serErr l = 0
  · have hS' : (serErr l != 0) = false := by simpa using hS
    have HS := Lib.hid hS
    clear hS
    go_wp2_with fail
    refine (moment_any t _).mono ?_
    rintro e w2 ⟨rfl, rfl⟩
    by_cases hT : inB t 0 345686399999 = true
    · have hE0 : E = 0 := by rw [HE.out, if_neg (by rw [HS.out]; simp), if_neg (by rw [hT]; simp)]
      have HT := Lib.hid hT
      have HEE := Lib.hid hE0
      have hsz1 := hb01.size
      have hbl1 := hB1.lt
      have hrc := reconstructed_any v l t w1 (HR.out.below hb01 (Nat.le_refl _)) (serErr_rise HS.out) (serErr_good HS.out).1 (fun i _ => ⟨(serErr_vt HS.out i).2, (serErr_vt HS.out i).1⟩)
      have HRC := Lib.hid hrc
      rw [hT]
      clear hT hE0 hrc
      go_wp2_with fail
      refine HRC.out.mono ?_
      rintro e w2 ⟨rfl, hb2⟩
      have hB2 := hB1.below hb2 hbl1
      have r0' : w2.cell? ⟨w.heap.size, 0, none⟩ = some (.int .i64 0) := hB2.cell 0
      have r1' : w2.cell? ⟨w.heap.size, 1, none⟩ = some (.int .i64 0) := hB2.cell 1
      have g0' : w2.frozen? ⟨w.heap.size, 0, none⟩ = false := hB2.frozen 0
      have g1' : w2.frozen? ⟨w.heap.size, 1, none⟩ = false := hB2.frozen 1
      have hne : ¬ w2.heap.size = w.heap.size := by have := hB2.lt; omega
      have hne' : ¬ w.heap.size = w2.heap.size := by have := hB2.lt; omega
      have hb02 : Below w.heap.size w w2 := hb01.trans (hb2.mono hsz1)
      have hsz2 := hb02.size
      have hVV := HV.out
      rw [if_pos HEE.out] at hVV
      have hBB := HB.out
      rw [if_pos HEE.out] at hBB
      have HVV := Lib.hid hVV
      have HBB := Lib.hid hBB
      clear hB1 hb2 hVV hBB r0 r1 g0 g1
      generalize reconV l t = rv at *
      generalize reconB l t = rb at *
      have hB3 := hB2.alloc (.cells #[.int .i64 rv.1, .int .i64 rv.2] 35)
      have g0'' : (w2.alloc (.cells #[.int .i64 rv.1, .int .i64 rv.2] 35)).frozen? ⟨w.heap.size, 0, none⟩ = false := hB3.frozen 0
      have g1'' : (w2.alloc (.cells #[.int .i64 rv.1, .int .i64 rv.2] 35)).frozen? ⟨w.heap.size, 1, none⟩ = false := hB3.frozen 1
      have r0'' : (w2.alloc (.cells #[.int .i64 rv.1, .int .i64 rv.2] 35)).cell? ⟨w.heap.size, 0, none⟩ = some (.int .i64 0) := hB3.cell 0
      have r1'' : (w2.alloc (.cells #[.int .i64 rv.1, .int .i64 rv.2] 35)).cell? ⟨w.heap.size, 1, none⟩ = some (.int .i64 0) := hB3.cell 1
      have hlt2 := hB2.lt
      clear hB2 hB3
      go_wp2_with fail
      have x0 : (((w2.setCell ⟨w.heap.size, 0, none⟩ (.int .i64 rv.1)).setCell ⟨w.heap.size, 1, none⟩ (.int .i64 rv.2)).alloc (.cells #[.int .i64 rv.1, .int .i64 rv.2] 35)).cell? ⟨w.heap.size, 0, none⟩ = some (.int .i64 rv.1) := by
        rw [World.cell?_alloc_past _ _ _ (by simp [World.setCell]; exact hlt2)]
        simp [go_sem, r0', r1']
      have x1 : (((w2.setCell ⟨w.heap.size, 0, none⟩ (.int .i64 rv.1)).setCell ⟨w.heap.size, 1, none⟩ (.int .i64 rv.2)).alloc (.cells #[.int .i64 rv.1, .int .i64 rv.2] 35)).cell? ⟨w.heap.size, 1, none⟩ = some (.int .i64 rv.2) := by
        rw [World.cell?_alloc_past _ _ _ (by simp [World.setCell]; exact hlt2)]
        simp [go_sem, r0', r1']
      refine bodyPost_ret (v := .tuple #[.agg #[.int .i64 rv.1, .int .i64 rv.2], .bool rb, .int .i64 0]) (by simp [results, Try.results30, go_sem, x0, x1]) rfl ⟨by rw [HVV.out, HBB.out, HEE.out], ?_⟩
      exact Below.alloc (Below.setCell (Below.setCell hb02 (Nat.le_refl _) _) (Nat.le_refl _) _) (by simp [World.setCell]; exact hsz2) _
    · have hT' : inB t 0 345686399999 = false := by simpa using hT
      have hE0 : E = 1 := by rw [HE.out, if_neg (by rw [HS.out]; simp), if_pos hT']
      have hV0 : V = (0, 0) := by rw [HV.out, if_neg (by omega)]
      have hBe : B = false := by rw [HB.out, if_neg (by omega)]
      have H3 := Lib.hid (And.intro hE0 (And.intro hV0 hBe))
      rw [hT']
      clear hT hT' hE0 hV0 hBe
      go_wp2_with fail
      refine bodyPost_ret (v := .tuple #[.agg #[.int .i64 0, .int .i64 0], .bool false, .int .i64 1]) (by simp [results, Try.results30, go_sem, r0, r1]) rfl ⟨by rw [H3.out.1, H3.out.2.1, H3.out.2.2], ?_⟩
      exact hb01.trans (by (repeat (refine Below.setCell ?_ (by exact Nat.le_refl _) _)); exact Below.refl _ _)
  · have hS' : (serErr l != 0) = true := by simpa using hS
    have hE0 : E = serErr l := by rw [HE.out, if_pos hS]
    have hV0 : V = (0, 0) := by rw [HV.out, if_neg (by rw [hE0]; exact hS)]
    have hBe : B = false := by rw [HB.out, if_neg (by rw [hE0]; exact hS)]
    have H3 := Lib.hid (And.intro hE0 (And.intro hV0 hBe))
    clear hS hE0 hV0 hBe
    go_wp2_with fail
    refine bodyPost_ret (v := .tuple #[.agg #[.int .i64 0, .int .i64 0], .bool false, .int .i64 (serErr l)]) (by simp [results, Try.results30, go_sem, r0, r1]) rfl ⟨by rw [H3.out.1, H3.out.2.1, H3.out.2.2], ?_⟩
    exact hb01.trans (by (repeat (refine Below.setCell ?_ (by exact Nat.le_refl _) _)); exact Below.refl _ _)
end Go.Proofs.Ytmcojidaimeijaa
