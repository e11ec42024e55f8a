/- The contract of Slice (package sample). -/
import Derived.Test.YtblbfpokkpkcjaaPos
import Derived.Test.YtblbfpokkpkcjaaSlim
import Derived.Test.YtblbfpokkpkcjaaWinc
import Derived.Test.YtblbfpokkpkcjaaClone
import Derived.StillTailTactics
import Derived.Deep.RegionWith
namespace Go.Proofs.Ytblbfpokkpkcjaa
open Go.RowKit
set_option linter.unusedVariables false
set_option linter.unusedSimpArgs false

def sliE (l : List Smp) (f t : Int) : Int := orE (serErr l) (winErr f t)
def sliR (l : List Smp) (f t : Int) : List Smp := if sliE l f t = 0 then slicF f t l else []

/-- What stays while Slice goes on. -/
structure KL (w0 : World) (v : Value) (l : List Smp) (f t : Int) (w : World) : Prop where
  rs : RdS w 71 v l
  bw : Blk w w0.heap.size 82 #[.int .i64 f, .int .i64 t]
  below : Below w0.heap.size w0 w
section
variable {w0 w w' : World} {v : Value} {l : List Smp} {f t : Int}
theorem KL.step (hb : Below w.heap.size w w') (h : KL w0 v l f t w) : KL w0 v l f t w' := ⟨Rd.below h.rs hb, h.bw.below hb h.bw.lt, h.below.trans (hb.mono h.below.size)⟩
theorem KL.drew (h : KL w0 v l f t w) : KL w0 v l f t w.drew := ⟨h.rs, h.bw, h.below.drew⟩
end

set_option maxRecDepth 100000 in
set_option maxHeartbeats 4000000 in
theorem slice_any (v : Value) (l : List Smp) (f t : Int) (w : World) (hR : RdS w 71 v l) :
    Calls Try.prog 159 #[v, .agg #[.int .i64 f, .int .i64 t]] w fun e w' => ∃ v', e = .returned (.tuple #[v', .int .i64 (sliE l f t)]) ∧ RdS w' 71 v' (sliR l f t) ∧ Below w.heap.size w w' := by
  have hEd : sliE l f t = orE (serErr l) (winErr f t) := rfl
  have hRd : sliR l f t = if sliE l f t = 0 then slicF f t l else [] := rfl
  have HED := Lib.hid hEd
  have HRD := Lib.hid hRd
  obtain ⟨pa, ca, rfl⟩ : ∃ pa ca, v = .slice pa l.length ca := by obtain ⟨_, pa, ca, rfl, _⟩ := hR; exact ⟨pa, ca, rfl⟩
  obtain ⟨hca, hcm⟩ : l.length ≤ ca ∧ ca ≤ 9223372036854775807 := by
    obtain ⟨_, pa', ca', hv, h1, h2, _⟩ := hR
    simp only [Value.slice.injEq, true_and] at hv
    obtain ⟨rfl, rfl⟩ := hv
    unfold maxLen at h2
    exact ⟨h1, by omega⟩
  have hB := Blk.new w 82 #[.int .i64 f, .int .i64 t]
  have HK := Lib.hid (show KL w (.slice pa l.length ca) l f t _ from ⟨Rd.alloc hR _, hB, (Below.refl _ w).alloc (Nat.le_refl _) _⟩)
  clear hEd hRd hR hB
  by_cases h0 : orE (serErr l) (winErr f t) = 0
  · have h0' : (orE (serErr l) (winErr f t) != 0) = false := by simpa using h0
    have hS : serErr l = 0 := by unfold orE at h0; split at h0 <;> omega
    have hW : winB f t = true := by
      unfold orE at h0; rw [if_neg (by rw [hS]; simp)] at h0
      unfold winErr at h0
      by_cases hw : winB f t = true
      · exact hw
      · rw [if_neg hw] at h0; omega
    obtain ⟨hw1, hw2, hw3⟩ := winB_true.1 hW
    have hlong := (serErr_good hS).1
    have hrise := serErr_rise hS
    have hsl := slic_between none l f t hrise hw2
    have hm := posF_mono l hw2
    have hle := posF_le l t
    have H0 := Lib.hid h0
    have HRISE := Lib.hid hrise
    have HSL := Lib.hid hsl
    clear h0 hS hW hrise hsl
    have hpf : ∀ w1 : World, RdS w1 71 (.slice pa l.length ca) l → _ := fun w1 h => position_any (.slice pa l.length ca) l f w1 h HRISE.out hlong
    have hpt : ∀ w1 : World, RdS w1 71 (.slice pa l.length ca) l → _ := fun w1 h => position_any (.slice pa l.length ca) l t w1 h HRISE.out hlong
    have hpart : ∀ w1 : World, RdS w1 71 (.slice pa l.length ca) l → RdS w1 71 (.slice (Option.map (fun x => x.add (posF l f * 3)) pa) (posF l t - posF l f) (ca - posF l f)) (slicF f t l) := fun w1 h => by
      have := RdS.part h (posF l f) (posF l t) hm hle (Option.map (fun x => x.add (posF l f * 3)) pa) (fun _ b off e => by subst e; simp [Addr.add])
      rwa [HSL.out] at this
    have hpart1 : ca = posF l f → ∀ w1 : World, RdS w1 71 (.slice pa l.length ca) l → RdS w1 71 (.slice pa (posF l t - posF l f) 0) (slicF f t l) := fun he w1 h => by
      have := RdS.part h (posF l f) (posF l t) hm hle pa (fun hi => by omega)
      rw [HSL.out, show ca - posF l f = 0 from by omega] at this
      exact this
    have hlen : (slicF f t l).length ≤ 100000000 := by unfold slicF; have := List.length_filter_le (fun x => !outB f t x) l; omega
    have HLEN := Lib.hid hlen
    clear hlen
    have HPF := Lib.hid hpf
    have HPT := Lib.hid hpt
    clear hpf hpt
    generalize posF l f = i at *
    generalize posF l t = j at *
    have k1 : (0 : Int) ≤ (i : Int) := by omega
    have k2 : (i : Int) ≤ (j : Int) := by omega
    have k3 : (j : Int) ≤ (ca : Int) := by omega
    go_enter Try.func159, Try.ntmps159
    go_wp2_with fail
    refine (checkWithin_any _ l f t _ HK.out.rs).mono ?_
    rintro e w1 ⟨rfl, hb1⟩
    have hk1 := HK.out.step hb1
    have e0 : w1.cell? ⟨w.heap.size, 0, none⟩ = some (.int .i64 f) := hk1.bw.cell 0
    have e1 : w1.cell? ⟨w.heap.size, 1, none⟩ = some (.int .i64 t) := hk1.bw.cell 1
    clear hb1
    go_wp2_with fail
    by_cases hci : ca = i
    · subst hci
      have HPART := Lib.hid (hpart1 rfl)
      clear hpart hpart1
      go_region_with (first
      | (go_at_call 157; refine (HPF.out _ (KL.rs (by first | assumption | exact KL.drew (by assumption)))).mono ?_; rintro e wk ⟨rfl, hbk⟩; have hkk := KL.step hbk (by first | assumption | exact KL.drew (by assumption)); have q0 : wk.cell? ⟨w.heap.size, 0, none⟩ = some (.int .i64 f) := hkk.bw.cell 0; have q1 : wk.cell? ⟨w.heap.size, 1, none⟩ = some (.int .i64 t) := hkk.bw.cell 1; clear hbk)
      | (go_at_call 157; refine (HPT.out _ (KL.rs (by first | assumption | exact KL.drew (by assumption)))).mono ?_; rintro e wk ⟨rfl, hbk⟩; have hkk := KL.step hbk (by first | assumption | exact KL.drew (by assumption)); have q0 : wk.cell? ⟨w.heap.size, 0, none⟩ = some (.int .i64 f) := hkk.bw.cell 0; have q1 : wk.cell? ⟨w.heap.size, 1, none⟩ = some (.int .i64 t) := hkk.bw.cell 1; clear hbk)
      | (go_at_call 191; refine (clone_any _ (slicF f t l) _ (HPART.out _ (KL.rs (by first | assumption | exact KL.drew (by assumption)))) HLEN.out).mono ?_; rintro e wz ⟨vz, rfl, hown, hbz⟩; have hkz := KL.step hbz (by first | assumption | exact KL.drew (by assumption)); have hrz : RdS wz 71 vz (slicF f t l) := Rd.of_own hown; clear hbz hown))
      all_goals
        go_wp2_with fail
        go_ret2
        refine ⟨_, by rw [HED.out, H0.out]; rfl, ?_, hkz.below⟩
        rw [HRD.out, HED.out, if_pos H0.out]; exact hrz
    · have HPART := Lib.hid hpart
      clear hpart hpart1
      go_region_with (first
      | (go_at_call 157; refine (HPF.out _ (KL.rs (by first | assumption | exact KL.drew (by assumption)))).mono ?_; rintro e wk ⟨rfl, hbk⟩; have hkk := KL.step hbk (by first | assumption | exact KL.drew (by assumption)); have q0 : wk.cell? ⟨w.heap.size, 0, none⟩ = some (.int .i64 f) := hkk.bw.cell 0; have q1 : wk.cell? ⟨w.heap.size, 1, none⟩ = some (.int .i64 t) := hkk.bw.cell 1; clear hbk)
      | (go_at_call 157; refine (HPT.out _ (KL.rs (by first | assumption | exact KL.drew (by assumption)))).mono ?_; rintro e wk ⟨rfl, hbk⟩; have hkk := KL.step hbk (by first | assumption | exact KL.drew (by assumption)); have q0 : wk.cell? ⟨w.heap.size, 0, none⟩ = some (.int .i64 f) := hkk.bw.cell 0; have q1 : wk.cell? ⟨w.heap.size, 1, none⟩ = some (.int .i64 t) := hkk.bw.cell 1; clear hbk)
      | (go_at_call 191; refine (clone_any _ (slicF f t l) _ (HPART.out _ (KL.rs (by first | assumption | exact KL.drew (by assumption)))) HLEN.out).mono ?_; rintro e wz ⟨vz, rfl, hown, hbz⟩; have hkz := KL.step hbz (by first | assumption | exact KL.drew (by assumption)); have hrz : RdS wz 71 vz (slicF f t l) := Rd.of_own hown; clear hbz hown))
      all_goals
        go_wp2_with fail
        go_ret2
        refine ⟨_, by rw [HED.out, H0.out]; rfl, ?_, hkz.below⟩
        rw [HRD.out, HED.out, if_pos H0.out]; exact hrz
  · have h0' : (orE (serErr l) (winErr f t) != 0) = true := by simpa using h0
    have H0 := Lib.hid h0
    clear h0
    go_enter Try.func159, Try.ntmps159
    go_wp2_with fail
    refine (checkWithin_any _ l f t _ HK.out.rs).mono ?_
    rintro e w1 ⟨rfl, hb1⟩
    have hk1 := HK.out.step hb1
    clear hb1
    go_wp2_with fail
    go_ret2
    refine ⟨_, by rw [HED.out]; rfl, ?_, hk1.below⟩
    rw [HRD.out, HED.out, if_neg H0.out]; exact Rd.nil _ _ _
end Go.Proofs.Ytblbfpokkpkcjaa
