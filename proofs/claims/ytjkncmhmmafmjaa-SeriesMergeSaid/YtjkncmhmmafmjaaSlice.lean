/- The contract of Slice (package sample). -/
import Derived.Test.YtjkncmhmmafmjaaPos
import Derived.Test.YtjkncmhmmafmjaaSlic
import Derived.Deep.RegionWith
namespace Go.Proofs.Ytjkncmhmmafmjaa
open Go.RowKit
set_option linter.unusedVariables false
set_option linter.unusedSimpArgs false

theorem serFrom_rise (p : Option Int) (l : List Smp) (h : serFrom p l = 0) : Rise p l := by
  induction l generalizing p with
  | nil => trivial
  | cons x r ih =>
    unfold serFrom at h
    by_cases h1 : smpErr x = 0
    · rw [if_neg (by simpa using h1)] at h
      by_cases h2 : notAfter p x.t = true
      · rw [if_pos h2] at h; omega
      · rw [if_neg h2] at h
        refine ⟨fun t ht => ?_, ih _ h⟩
        subst ht
        simp [notAfter] at h2
        omega
    · rw [if_pos h1] at h; exact absurd h h1
theorem serErr_rise {l : List Smp} (h : serErr l = 0) : Rise none l := by
  unfold serErr at h
  split at h
  · omega
  · exact serFrom_rise none l h

theorem posF_zero {s t : Int} {l : List Smp} (h : Rise (some s) l) (hs : t ≤ s + 1) : posF l t = 0 := by
  cases l with
  | nil => rfl
  | cons x r =>
    have := h.1 s rfl
    unfold posF
    rw [List.takeWhile_cons_of_neg (by simp; omega)]
    rfl
theorem posF_cons_lt {t : Int} {x : Smp} {l : List Smp} (h : x.t < t) : posF (x :: l) t = posF l t + 1 := by
  unfold posF
  rw [List.takeWhile_cons_of_pos (by simpa using h)]
  rfl
theorem posF_cons_ge {t : Int} {x : Smp} {l : List Smp} (h : ¬ x.t < t) : posF (x :: l) t = 0 := by
  unfold posF
  rw [List.takeWhile_cons_of_neg (by simpa using h)]
  rfl
theorem posF_mono (l : List Smp) {f t : Int} (h : f ≤ t) : posF l f ≤ posF l t := by
  induction l with
  | nil => simp [posF]
  | cons x r ih =>
    by_cases h1 : x.t < f
    · rw [posF_cons_lt h1, posF_cons_lt (by omega)]; omega
    · rw [posF_cons_ge h1]; omega
/-- What lies between two moments. -/
theorem slic_between (p : Option Int) (l : List Smp) (f t : Int) (h : Rise p l) (hft : f ≤ t) : (l.drop (posF l f)).take (posF l t - posF l f) = slicF f t l := by
  induction l generalizing p with
  | nil => simp [slicF]
  | cons x r ih =>
    have hr := ih (some x.t) h.2
    by_cases h1 : x.t < f
    · rw [posF_cons_lt h1, posF_cons_lt (by omega : x.t < t)]
      rw [List.drop_succ_cons, show posF r t + 1 - (posF r f + 1) = posF r t - posF r f from by omega, hr]
      unfold slicF
      rw [List.filter_cons_of_neg (by simp [outB]; omega)]
    · rw [posF_cons_ge h1]
      have h0 : posF r f = 0 := posF_zero h.2 (by omega)
      rw [h0] at hr
      simp only [List.drop_zero, Nat.sub_zero] at hr ⊢
      by_cases h2 : x.t < t
      · rw [posF_cons_lt h2, List.take_succ_cons, hr]
        unfold slicF
        rw [List.filter_cons_of_pos (by simp [outB]; omega)]
      · rw [posF_cons_ge h2]
        have h3 : posF r t = 0 := posF_zero h.2 (by omega)
        rw [h3] at hr
        unfold slicF at hr ⊢
        rw [List.filter_cons_of_neg (by simp [outB]; omega), ← hr]
        simp

/-- Part of a slice. -/
theorem RdS.part {w : World} {e : TypeId} {A : Option Addr} {c : Nat} {l : List Smp} (h : RdS w e (.slice A l.length c) l) (i j : Nat) (hij : i ≤ j) (hj : j ≤ l.length) (A' : Option Addr)
    (hA : i < l.length → ∀ b off, A = some ⟨b, off, none⟩ → A' = some ⟨b, off + i * 3, none⟩) : RdS w e (.slice A' (j - i) (c - i)) ((l.drop i).take (j - i)) := by
  obtain ⟨h1, a', c', hv, h2, h3, h4⟩ := h
  simp only [Value.slice.injEq, true_and] at hv
  obtain ⟨rfl, rfl⟩ := hv
  have hl : ((l.drop i).take (j - i)).length = j - i := by simp; omega
  refine ⟨by rw [cellsOf_length], A', c - i, by rw [hl], by rw [hl]; omega, by omega, fun h0 => ?_⟩
  rw [hl] at h0
  obtain ⟨b, off, cur, fr, hb, hh, hc⟩ := h4 (by omega)
  refine ⟨b, off + i * 3, cur, fr, hA (by omega) b off hb, hh, fun k hk => ?_⟩
  rw [hl] at hk
  have := hc (i * 3 + k) (by omega)
  rw [show off + i * 3 + k = off + (i * 3 + k) from by omega, this]
  have hq : cellsOf l = cellsOf (l.take i) ++ (cellsOf ((l.drop i).take (j - i)) ++ cellsOf ((l.drop i).drop (j - i))) := by
    rw [← cellsOf_append, List.take_append_drop, ← cellsOf_append, List.take_append_drop]
  have hti : (cellsOf (l.take i)).length = i * 3 := by rw [cellsOf_length]; simp; omega
  rw [hq, List.getElem?_append_right (by omega), hti, Nat.add_sub_cancel_left, List.getElem?_append_left (by rw [cellsOf_length, hl]; omega)]

def sliE (l : List Smp) (f t : Int) : Int := orE (serErr l) (winErr f t)
def sliR (l : List Smp) (f t : Int) : List Smp := if sliE l f t = 0 then slicF f t l else []

/-- What stays while Slice goes on. -/
structure KL (w0 : World) (v : Value) (l : List Smp) (f t : Int) (w : World) : Prop where
  rs : RdS w 27 v l
  bw : Blk w w0.heap.size 32 #[.int .i64 f, .int .i64 t]
  below : Below w0.heap.size w0 w
section
variable {w0 w w' : World} {v : Value} {l : List Smp} {f t : Int}
theorem KL.step (hb : Below w.heap.size w w') (h : KL w0 v l f t w) : KL w0 v l f t w' := ⟨Rd.below h.rs hb, h.bw.below hb h.bw.lt, h.below.trans (hb.mono h.below.size)⟩
theorem KL.drew (h : KL w0 v l f t w) : KL w0 v l f t w.drew := ⟨h.rs, h.bw, h.below.drew⟩
end

set_option maxRecDepth 100000 in
set_option maxHeartbeats 4000000 in
theorem slice_any (v : Value) (l : List Smp) (f t : Int) (w : World) (hR : RdS w 27 v l) :
    Calls Try.prog 10 #[v, .agg #[.int .i64 f, .int .i64 t]] w fun e w' => ∃ v', e = .returned (.tuple #[v', .int .i64 (sliE l f t)]) ∧ RdS w' 27 v' (sliR l f t) ∧ Below w.heap.size w w' := by
  have hEd : sliE l f t = orE (serErr l) (winErr f t) := rfl
  have hRd : sliR l f t = if sliE l f t = 0 then slicF f t l else [] := rfl
  have HED := Lib.hid hEd
  have HRD := Lib.hid hRd
  obtain ⟨pa, ca, rfl⟩ : ∃ pa ca, v = .slice pa l.length ca := by obtain ⟨_, pa, ca, rfl, _⟩ := hR; exact ⟨pa, ca, rfl⟩
  obtain ⟨hca, hcm⟩ : l.length ≤ ca ∧ ca ≤ 9223372036854775807 := by
    obtain ⟨_, pa', ca', hv, h1, h2, _⟩ := hR
    simp only [Value.slice.injEq, true_and] at hv
    obtain ⟨rfl, rfl⟩ := hv
    unfold maxLen at h2
    exact ⟨h1, by omega⟩
  have hB := Blk.new w 32 #[.int .i64 f, .int .i64 t]
  have HK := Lib.hid (show KL w (.slice pa l.length ca) l f t _ from ⟨Rd.alloc hR _, hB, (Below.refl _ w).alloc (Nat.le_refl _) _⟩)
  clear hEd hRd hR hB
  by_cases h0 : orE (serErr l) (winErr f t) = 0
  · have h0' : (orE (serErr l) (winErr f t) != 0) = false := by simpa using h0
    have hS : serErr l = 0 := by unfold orE at h0; split at h0 <;> omega
    have hW : winB f t = true := by
      unfold orE at h0; rw [if_neg (by rw [hS]; simp)] at h0
      unfold winErr at h0
      by_cases hw : winB f t = true
      · exact hw
      · rw [if_neg hw] at h0; omega
    obtain ⟨hw1, hw2, hw3⟩ := winB_true.1 hW
    have hlong := (serErr_good hS).1
    have hrise := serErr_rise hS
    have hsl := slic_between none l f t hrise hw2
    have hm := posF_mono l hw2
    have hle := posF_le l t
    have H0 := Lib.hid h0
    have HRISE := Lib.hid hrise
    have HSL := Lib.hid hsl
    clear h0 hS hW hrise hsl
    have hpf : ∀ w1 : World, RdS w1 27 (.slice pa l.length ca) l → _ := fun w1 h => position_any (.slice pa l.length ca) l f w1 h HRISE.out hlong
    have hpt : ∀ w1 : World, RdS w1 27 (.slice pa l.length ca) l → _ := fun w1 h => position_any (.slice pa l.length ca) l t w1 h HRISE.out hlong
    have hpart : ∀ w1 : World, RdS w1 27 (.slice pa l.length ca) l → RdS w1 27 (.slice (Option.map (fun x => x.add (posF l f * 3)) pa) (posF l t - posF l f) (ca - posF l f)) (slicF f t l) := fun w1 h => by
      have := RdS.part h (posF l f) (posF l t) hm hle (Option.map (fun x => x.add (posF l f * 3)) pa) (fun _ b off e => by subst e; simp [Addr.add])
      rwa [HSL.out] at this
    have hpart1 : ca = posF l f → ∀ w1 : World, RdS w1 27 (.slice pa l.length ca) l → RdS w1 27 (.slice pa (posF l t - posF l f) 0) (slicF f t l) := fun he w1 h => by
      have := RdS.part h (posF l f) (posF l t) hm hle pa (fun hi => by omega)
      rw [HSL.out, show ca - posF l f = 0 from by omega] at this
      exact this
    have hlen : (slicF f t l).length ≤ 100000000 := by unfold slicF; have := List.length_filter_le (fun x => !outB f t x) l; omega
    have HLEN := Lib.hid hlen
    clear hlen
    have HPF := Lib.hid hpf
    have HPT := Lib.hid hpt
    clear hpf hpt
    generalize posF l f = i at *
    generalize posF l t = j at *
    have k1 : (0 : Int) ≤ (i : Int) := by omega
    have k2 : (i : Int) ≤ (j : Int) := by omega
    have k3 : (j : Int) ≤ (ca : Int) := by omega
    go_enter Try.func10, Try.ntmps10
    go_wp2_with fail
    refine (checkWithin_any _ l f t _ HK.out.rs).mono ?_
    rintro e w1 ⟨rfl, hb1⟩
    have hk1 := HK.out.step hb1
    have e0 : w1.cell? ⟨w.heap.size, 0, none⟩ = some (.int .i64 f) := hk1.bw.cell 0
    have e1 : w1.cell? ⟨w.heap.size, 1, none⟩ = some (.int .i64 t) := hk1.bw.cell 1
    clear hb1
    go_wp2_with fail
    by_cases hci : ca = i
    · subst hci
      have HPART := Lib.hid (hpart1 rfl)
      clear hpart hpart1
      go_region_with (first
      | (go_at_call 50; refine (HPF.out _ (KL.rs (by first | assumption | exact KL.drew (by assumption)))).mono ?_; rintro e wk ⟨rfl, hbk⟩; have hkk := KL.step hbk (by first | assumption | exact KL.drew (by assumption)); have q0 : wk.cell? ⟨w.heap.size, 0, none⟩ = some (.int .i64 f) := hkk.bw.cell 0; have q1 : wk.cell? ⟨w.heap.size, 1, none⟩ = some (.int .i64 t) := hkk.bw.cell 1; clear hbk)
      | (go_at_call 50; refine (HPT.out _ (KL.rs (by first | assumption | exact KL.drew (by assumption)))).mono ?_; rintro e wk ⟨rfl, hbk⟩; have hkk := KL.step hbk (by first | assumption | exact KL.drew (by assumption)); have q0 : wk.cell? ⟨w.heap.size, 0, none⟩ = some (.int .i64 f) := hkk.bw.cell 0; have q1 : wk.cell? ⟨w.heap.size, 1, none⟩ = some (.int .i64 t) := hkk.bw.cell 1; clear hbk)
      | (go_at_call 49; refine (clone_any _ (slicF f t l) _ (HPART.out _ (KL.rs (by first | assumption | exact KL.drew (by assumption)))) HLEN.out).mono ?_; rintro e wz ⟨vz, rfl, hown, hbz⟩; have hkz := KL.step hbz (by first | assumption | exact KL.drew (by assumption)); have hrz : RdS wz 27 vz (slicF f t l) := Rd.of_own hown; clear hbz hown))
      all_goals
        go_wp2_with fail
        go_ret2
        refine ⟨_, by rw [HED.out, H0.out]; rfl, ?_, hkz.below⟩
        rw [HRD.out, HED.out, if_pos H0.out]; exact hrz
    · have HPART := Lib.hid hpart
      clear hpart hpart1
      go_region_with (first
      | (go_at_call 50; refine (HPF.out _ (KL.rs (by first | assumption | exact KL.drew (by assumption)))).mono ?_; rintro e wk ⟨rfl, hbk⟩; have hkk := KL.step hbk (by first | assumption | exact KL.drew (by assumption)); have q0 : wk.cell? ⟨w.heap.size, 0, none⟩ = some (.int .i64 f) := hkk.bw.cell 0; have q1 : wk.cell? ⟨w.heap.size, 1, none⟩ = some (.int .i64 t) := hkk.bw.cell 1; clear hbk)
      | (go_at_call 50; refine (HPT.out _ (KL.rs (by first | assumption | exact KL.drew (by assumption)))).mono ?_; rintro e wk ⟨rfl, hbk⟩; have hkk := KL.step hbk (by first | assumption | exact KL.drew (by assumption)); have q0 : wk.cell? ⟨w.heap.size, 0, none⟩ = some (.int .i64 f) := hkk.bw.cell 0; have q1 : wk.cell? ⟨w.heap.size, 1, none⟩ = some (.int .i64 t) := hkk.bw.cell 1; clear hbk)
      | (go_at_call 49; refine (clone_any _ (slicF f t l) _ (HPART.out _ (KL.rs (by first | assumption | exact KL.drew (by assumption)))) HLEN.out).mono ?_; rintro e wz ⟨vz, rfl, hown, hbz⟩; have hkz := KL.step hbz (by first | assumption | exact KL.drew (by assumption)); have hrz : RdS wz 27 vz (slicF f t l) := Rd.of_own hown; clear hbz hown))
      all_goals
        go_wp2_with fail
        go_ret2
        refine ⟨_, by rw [HED.out, H0.out]; rfl, ?_, hkz.below⟩
        rw [HRD.out, HED.out, if_pos H0.out]; exact hrz
  · have h0' : (orE (serErr l) (winErr f t) != 0) = true := by simpa using h0
    have H0 := Lib.hid h0
    clear h0
    go_enter Try.func10, Try.ntmps10
    go_wp2_with fail
    refine (checkWithin_any _ l f t _ HK.out.rs).mono ?_
    rintro e w1 ⟨rfl, hb1⟩
    have hk1 := HK.out.step hb1
    clear hb1
    go_wp2_with fail
    go_ret2
    refine ⟨_, by rw [HED.out]; rfl, ?_, hk1.below⟩
    rw [HRD.out, HED.out, if_neg H0.out]; exact Rd.nil _ _ _
end Go.Proofs.Ytjkncmhmmafmjaa
