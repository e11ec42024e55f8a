/- The walk of the statement SeriesMerge: the call returns true, and what was there stays. -/
import Derived.Test.YtjkncmhmmafmjaaMrgr
import Derived.Test.YtjkncmhmmafmjaaScaledLaw
import Derived.Deep.DeepCutAuto
import Derived.Deep.RegionHeld3
namespace Go.Proofs.Ytjkncmhmmafmjaa
open Go.RowKit
set_option linter.unusedVariables false
set_option linter.unusedSimpArgs false

theorem merge_ok {a b : List Smp} (h : orErr2 (serErr a) (serErr b) = 0) (hl : a.length + b.length ≤ 5000) : mergeE a b = 0 ∧ mergeR a b = algn a b ∧ serErr a = 0 ∧ serErr b = 0 := by
  have h1 : serErr a = 0 := by unfold orErr2 at h; split at h <;> omega
  have h2 : serErr b = 0 := by unfold orErr2 at h; split at h <;> omega
  have hal := algn_len a b
  have he : mergeE a b = 0 := by unfold mergeE; rw [if_neg (by rw [h]; simp), if_neg (by omega)]
  exact ⟨he, by unfold mergeR; rw [if_pos he], h1, h2⟩
theorem merge_no {a b : List Smp} (h : orErr2 (serErr a) (serErr b) ≠ 0) : mergeE a b = orErr2 (serErr a) (serErr b) ∧ mergeR a b = [] := by
  have he : mergeE a b = orErr2 (serErr a) (serErr b) := by unfold mergeE; rw [if_pos h]
  exact ⟨he, by unfold mergeR; rw [if_neg (by rw [he]; exact h)]⟩
theorem sli_ok {a : List Smp} {f t : Int} (h : sliE a f t = 0) : sliR a f t = slicF f t a := by unfold sliR; rw [if_pos h]
theorem sli_no {a : List Smp} {f t : Int} (h : sliE a f t ≠ 0) : sliR a f t = [] := by unfold sliR; rw [if_neg h]

/-- What stays readable while the statement goes on. -/
structure KM (w0 : World) (va vb vm vp : Value) (a b m p : List Smp) (B4 B7 : Nat) (x : Smp) (f t : Int) (w : World) : Prop where
  ra : RdS w 27 va a
  rb : RdS w 27 vb b
  rm : RdS w 27 vm m
  rp : RdS w 27 vp p
  bx : Blk w B4 27 #[.int .i64 x.t, .int .i64 x.v, .int .i64 x.q]
  bw : Blk w B7 32 #[.int .i64 f, .int .i64 t]
  below : Below w0.heap.size w0 w
section
variable {w0 : World} {va vb vm vp : Value} {a b m p : List Smp} {B4 B7 : Nat} {x : Smp} {f t : Int} {w w' : World}
theorem KM.step (hb : Below w.heap.size w w') (h : KM w0 va vb vm vp a b m p B4 B7 x f t w) : KM w0 va vb vm vp a b m p B4 B7 x f t w' :=
  ⟨Rd.below h.ra hb, Rd.below h.rb hb, Rd.below h.rm hb, Rd.below h.rp hb, h.bx.below hb h.bx.lt, h.bw.below hb h.bw.lt, h.below.trans (hb.mono h.below.size)⟩
theorem KM.alloc (h : KM w0 va vb vm vp a b m p B4 B7 x f t w) (o : Obj) : KM w0 va vb vm vp a b m p B4 B7 x f t (w.alloc o) := h.step ((Below.refl _ w).alloc (Nat.le_refl _) o)
theorem KM.drew (h : KM w0 va vb vm vp a b m p B4 B7 x f t w) : KM w0 va vb vm vp a b m p B4 B7 x f t w.drew := ⟨h.ra, h.rb, h.rm, h.rp, h.bx, h.bw, h.below.drew⟩
theorem KM.drewN (h : KM w0 va vb vm vp a b m p B4 B7 x f t w) (k : Nat) : KM w0 va vb vm vp a b m p B4 B7 x f t (w.drewN k) := ⟨h.ra, h.rb, h.rm, h.rp, h.bx, h.bw, bdrewN h.below k⟩
end

/-- .. and what the reference gave. -/
structure KE (w0 : World) (va vb vm vp vm' vp' : Value) (a b m p : List Smp) (B4 B7 : Nat) (x : Smp) (f t : Int) (w : World) : Prop where
  k : KM w0 va vb vm vp a b m p B4 B7 x f t w
  rm' : RdS w 27 vm' m
  rp' : RdS w 27 vp' p
section
variable {w0 : World} {va vb vm vp vm' vp' : Value} {a b m p : List Smp} {B4 B7 : Nat} {x : Smp} {f t : Int} {w w' : World}
theorem KE.step (hb : Below w.heap.size w w') (h : KE w0 va vb vm vp vm' vp' a b m p B4 B7 x f t w) : KE w0 va vb vm vp vm' vp' a b m p B4 B7 x f t w' := ⟨h.k.step hb, Rd.below h.rm' hb, Rd.below h.rp' hb⟩
theorem KE.alloc (h : KE w0 va vb vm vp vm' vp' a b m p B4 B7 x f t w) (o : Obj) : KE w0 va vb vm vp vm' vp' a b m p B4 B7 x f t (w.alloc o) := h.step ((Below.refl _ w).alloc (Nat.le_refl _) o)
theorem KE.drew (h : KE w0 va vb vm vp vm' vp' a b m p B4 B7 x f t w) : KE w0 va vb vm vp vm' vp' a b m p B4 B7 x f t w.drew := ⟨h.k.drew, h.rm', h.rp'⟩
theorem KE.drewN (h : KE w0 va vb vm vp vm' vp' a b m p B4 B7 x f t w) (n : Nat) : KE w0 va vb vm vp vm' vp' a b m p B4 B7 x f t (w.drewN n) := ⟨h.k.drewN n, h.rm', h.rp'⟩
end

set_option maxRecDepth 100000 in
set_option maxHeartbeats 4000000 in
theorem seriesMerge_walk (w : World) (L : List Int) (A : Option Addr) (cap : Nat) (hc : ∀ i, i < L.length → ∃ ad : Addr, A = some ad ∧ ad.block < w.heap.size ∧ w.cell? (ad.add i) = some (.int .i64 (L.getD i 0)))
    (hl : L.length ≤ 9223372036854775807) (hwf : ∀ i, -9223372036854775808 ≤ L.getD i 0 ∧ L.getD i 0 ≤ 9223372036854775807) :
    Calls Try.prog 3 #[.slice A L.length cap] w fun e w' => e = .returned (.bool true) ∧ Below w.heap.size w w' := by
  have hS0 : Strm (w.alloc (.cells #[.slice A L.length cap, .int .i64 0] 25)) w.heap.size L A cap 0 :=
    ⟨heap_alloc_new w _, fun i hi => by
      obtain ⟨ad, e, hb, hcell⟩ := hc i hi
      exact ⟨ad, e, hb, by rw [World.cell?_alloc_lt _ _ _ (by rw [addr_add_block]; exact hb)]; exact hcell⟩, hl, hwf⟩
  have HS0 := Lib.hid hS0
  clear hS0 hc hwf
  go_enter Try.func3, Try.ntmps3
  go_wp2_with fail
  refine (one_went _ w.heap.size L A cap 0 HS0.out (by omega)).mono ?_
  rintro e w1 ⟨rfl, hw1⟩
  generalize oneSample L 0 = x at *
  unfold Smp.agg
  go_wp2_with fail
  refine (samples_went _ w.heap.size L A cap 3 8 hw1.1 (by omega) (by omega)).mono ?_
  rintro e w2 ⟨v2, rfl, hown2, hw2⟩
  have hk2 := samplesK_le L 3 8 (by omega)
  have hsl := samples_length L 3 8
  have hsn := rightN_le L 3 8 (by omega)
  generalize samples L 3 8 = a at *
  generalize samplesK L 3 8 = K2 at *
  have hlen2 : a.length ≤ 8 := by omega
  have hr2 : RdS w2 27 v2 a := Rd.of_own hown2
  clear hsl hsn hown2
  go_wp2_with fail
  refine (samples_went _ w.heap.size L A cap K2 6 hw2.1 (by omega) (by omega)).mono ?_
  rintro e w3 ⟨v3, rfl, hown3, hw3⟩
  have hk3 := samplesK_le L K2 6 (by omega)
  have hsl := samples_length L K2 6
  have hsn := rightN_le L K2 6 (by omega)
  generalize samples L K2 6 = b at *
  generalize samplesK L K2 6 = K3 at *
  have hlen3 : b.length ≤ 6 := by omega
  have hr3 : RdS w3 27 v3 b := Rd.of_own hown3
  have hr23 : RdS w3 27 v2 a := Rd.but hw2.1 (by decide) hr2 hw3.2
  clear hsl hsn hown3 hr2
  go_wp2_with fail
  refine (aWindow_went _ w.heap.size L A cap K3 hw3.1 (by omega)).mono ?_
  rintro e w4 ⟨rfl, hw4⟩
  generalize (aWin L K3).1 = f at *
  generalize (aWin L K3).2 = t at *
  have hr4a : RdS w4 27 v2 a := Rd.but hw3.1 (by decide) hr23 hw4.2
  have hr4b : RdS w4 27 v3 b := Rd.but hw3.1 (by decide) hr3 hw4.2
  have hb4 : Below w.heap.size w w4 := ((Below.refl _ w).alloc (Nat.le_refl _) _).trans (but_below (hw1.2.trans (hw2.2.trans (hw3.2.trans hw4.2))) (Nat.le_refl _) (by simp))
  clear hw1 hw2 hw3 hw4 hr23 hr3
  go_wp2_with fail
  have hBx := (Blk.new w4 27 #[.int .i64 x.t, .int .i64 x.v, .int .i64 x.q]).alloc (.cells #[.int .i64 f, .int .i64 t] 32)
  have hBw := Blk.new1 w4 (.cells #[.int .i64 x.t, .int .i64 x.v, .int .i64 x.q] 27) 32 #[.int .i64 f, .int .i64 t]
  have hra6 : RdS _ 27 v2 a := Rd.alloc (Rd.alloc hr4a (.cells #[.int .i64 x.t, .int .i64 x.v, .int .i64 x.q] 27)) (.cells #[.int .i64 f, .int .i64 t] 32)
  have hrb6 : RdS _ 27 v3 b := Rd.alloc (Rd.alloc hr4b (.cells #[.int .i64 x.t, .int .i64 x.v, .int .i64 x.q] 27)) (.cells #[.int .i64 f, .int .i64 t] 32)
  have hb6 : Below w.heap.size w ((w4.alloc (.cells #[.int .i64 x.t, .int .i64 x.v, .int .i64 x.q] 27)).alloc (.cells #[.int .i64 f, .int .i64 t] 32)) := (hb4.alloc hb4.size _).alloc (by have := hb4.size; simp; omega) _
  have HBX := Lib.hid hBx
  have HBW := Lib.hid hBw
  have HRA := Lib.hid hra6
  have HRB := Lib.hid hrb6
  clear hBx hBw hra6 hrb6 hr4a hr4b hb4
  refine (merge_any v2 v3 a b _ HRA.out HRB.out).mono ?_
  rintro e w7 ⟨vm, rfl, hm7, hbb7⟩
  have hA7 := Rd.below HRA.out hbb7
  have hB7 := Rd.below HRB.out hbb7
  have hX7 := HBX.out.below hbb7 HBX.out.lt
  have hW7 := HBW.out.below hbb7 HBW.out.lt
  have hb7 := hb6.trans (hbb7.mono hb6.size)
  have e0 : w7.cell? ⟨w4.heap.size + 1, 0, none⟩ = some (.int .i64 f) := hW7.cell 0
  have e1 : w7.cell? ⟨w4.heap.size + 1, 1, none⟩ = some (.int .i64 t) := hW7.cell 1
  clear HBX HBW HRA HRB hbb7 hb6
  go_wp2_with fail
  refine (slice_any v2 a f t _ hA7).mono ?_
  rintro e w8 ⟨vp, rfl, hp8, hbb8⟩
  have hk8 : KM w v2 v3 vm vp a b (mergeR a b) (sliR a f t) w4.heap.size (w4.heap.size + 1) x f t w8 :=
    ⟨Rd.below hA7 hbb8, Rd.below hB7 hbb8, Rd.below hm7 hbb8, hp8, hX7.below hbb8 hX7.lt, hW7.below hbb8 hW7.lt, hb7.trans (hbb8.mono hb7.size)⟩
  have HK8 := Lib.hid hk8
  clear hA7 hB7 hm7 hp8 hX7 hW7 hb7 hbb8 hk8 e0 e1
  go_wp2_with fail
  refine (seriesFault_any v2 a _ HK8.out.ra).mono ?_
  rintro e w9 ⟨rfl, hbb9⟩
  have hk9 := HK8.out.step hbb9
  have e0 : w9.cell? ⟨w4.heap.size + 1, 0, none⟩ = some (.int .i64 f) := hk9.bw.cell 0
  have e1 : w9.cell? ⟨w4.heap.size + 1, 1, none⟩ = some (.int .i64 t) := hk9.bw.cell 1
  have e2 : w4.heap.size + 1 < w9.heap.size := hk9.bw.lt
  have HK9 := Lib.hid hk9
  clear hbb9 HK8
  go_upto_region 6 with fail
  go_cut [13, 14] (fun s13 s14 wx => s13 = .int .i64 (orErr2 (serErr a) (serErr b)) ∧ s14 = .int .i64 (sliE a f t) ∧ KM w v2 v3 vm vp a b (mergeR a b) (sliR a f t) w4.heap.size (w4.heap.size + 1) x f t wx)
  case first =>
    have hE1 : orErr2 (serErr a) (serErr b) = if serErr a ≠ 0 then serErr a else serErr b := rfl
    have hE2 : sliE a f t = if serErr a ≠ 0 then serErr a else winErr f t := rfl
    have HE1 := Lib.hid hE1
    have HE2 := Lib.hid hE2
    clear hE1 hE2
    go_region_with (first
      | (go_at_call 11; refine (seriesFault_any v3 b _ (KM.rb (by first | assumption | exact KM.drew (by assumption) | exact KM.alloc (by assumption) _))).mono ?_; rintro e wk ⟨rfl, hbk⟩; have hkk := KM.step hbk (by first | assumption | exact KM.drew (by assumption) | exact KM.alloc (by assumption) _); have q0 : wk.cell? ⟨w4.heap.size + 1, 0, none⟩ = some (.int .i64 f) := hkk.bw.cell 0; have q1 : wk.cell? ⟨w4.heap.size + 1, 1, none⟩ = some (.int .i64 t) := hkk.bw.cell 1; have q2 : w4.heap.size + 1 < wk.heap.size := hkk.bw.lt; clear hbk)
      | (go_at_call 13; refine (windowFault_any f t _).mono ?_; rintro e wk ⟨rfl, hbk⟩; have hkk := KM.step hbk (by first | assumption | exact KM.drew (by assumption) | exact KM.alloc (by assumption) _); have q0 : wk.cell? ⟨w4.heap.size + 1, 0, none⟩ = some (.int .i64 f) := hkk.bw.cell 0; have q1 : wk.cell? ⟨w4.heap.size + 1, 1, none⟩ = some (.int .i64 t) := hkk.bw.cell 1; have q2 : w4.heap.size + 1 < wk.heap.size := hkk.bw.lt; clear hbk)
      | (go_at_call 12; refine (errs2o_any _ _ _ _ (by exact Blk.new _ _ _)).mono ?_; rintro e wk ⟨rfl, rfl⟩))
    all_goals
      go_wp2_with fail
      go_meet
      exact ⟨rfl, rfl, by first | assumption | exact KM.alloc (by assumption) _⟩
  case rest =>
    obtain ⟨rfl, rfl, hk⟩ := hcut
    have HKa := Lib.hid hk
    clear HK9 hk9 e0 e1 e2 hk
    go_upto_if 53 with fail
    go_cut [13, 15] (fun s13 s15 wx => s13 = .int .i64 (mergeE a b) ∧ RdS wx 27 s15 (mergeR a b) ∧ KM w v2 v3 vm vp a b (mergeR a b) (sliR a f t) w4.heap.size (w4.heap.size + 1) x f t wx)
    case first =>
      by_cases hz : orErr2 (serErr a) (serErr b) = 0
      · have hz' : (orErr2 (serErr a) (serErr b) == 0) = true := by simpa using hz
        have HZ := Lib.hid (merge_ok hz (by omega))
        clear hz
        go_wp2_with fail
        refine (mergedOf_any v2 v3 a b _ HKa.out.ra HKa.out.rb HZ.out.2.2.1 HZ.out.2.2.2 (by omega)).mono ?_
        rintro e wa ⟨vw, rfl, hrw, hba⟩
        have hka := HKa.out.step hba
        rw [← HZ.out.2.1] at hrw
        clear hba
        go_wp2_with fail
        go_meet
        exact ⟨by rw [HZ.out.1], hrw, hka⟩
      · have hz' : (orErr2 (serErr a) (serErr b) == 0) = false := by simpa using hz
        have HZ := Lib.hid (merge_no hz)
        clear hz
        go_wp2_with fail
        go_meet
        exact ⟨by rw [HZ.out.1], by rw [HZ.out.2]; exact Rd.nil _ _ _, HKa.out⟩
    case rest =>
      obtain ⟨rfl, hm, hk⟩ := hcut
      have HKb := Lib.hid hk
      have HM := Lib.hid hm
      have e0 : wc.cell? ⟨w4.heap.size + 1, 0, none⟩ = some (.int .i64 f) := hk.bw.cell 0
      have e1 : wc.cell? ⟨w4.heap.size + 1, 1, none⟩ = some (.int .i64 t) := hk.bw.cell 1
      clear HKa hm hk
      go_upto_if 61 with fail
      go_cut [16] (fun s16 wx => RdS wx 27 s16 (sliR a f t) ∧ RdS wx 27 u15 (mergeR a b) ∧ KM w v2 v3 vm vp a b (mergeR a b) (sliR a f t) w4.heap.size (w4.heap.size + 1) x f t wx)
      case first =>
        by_cases hz : sliE a f t = 0
        · have hz' : (sliE a f t == 0) = true := by simpa using hz
          have HZ := Lib.hid (sli_ok hz)
          clear hz
          go_wp2_with fail
          refine (sliceOf_any v2 a f t _ HKb.out.ra (by omega)).mono ?_
          rintro e wa ⟨vw, rfl, hrw, hba⟩
          have hka := HKb.out.step hba
          have hma := Rd.below HM.out hba
          rw [← HZ.out] at hrw
          clear hba
          go_wp2_with fail
          go_meet
          exact ⟨hrw, hma, hka⟩
        · have hz' : (sliE a f t == 0) = false := by simpa using hz
          have HZ := Lib.hid (sli_no hz)
          clear hz
          go_wp2_with fail
          go_meet
          exact ⟨by rw [HZ.out]; exact Rd.nil _ _ _, HM.out, HKb.out⟩
      case rest =>
        obtain ⟨hp, hm, hk⟩ := hcut
        clear HKb HM e0 e1
        have HP := Lib.hid hp
        have HM := Lib.hid hm
        have x0 : wc.cell? ⟨w4.heap.size, 0, none⟩ = some (.int .i64 x.t) := hk.bx.cell 0
        have x1 : wc.cell? ⟨w4.heap.size, 1, none⟩ = some (.int .i64 x.v) := hk.bx.cell 1
        have x2 : wc.cell? ⟨w4.heap.size, 2, none⟩ = some (.int .i64 x.q) := hk.bx.cell 2
        have x3 : w4.heap.size < wc.heap.size := hk.bx.lt
        have HKE := Lib.hid (show KE w v2 v3 vm vp u15 u16 a b (mergeR a b) (sliR a f t) w4.heap.size (w4.heap.size + 1) x f t wc from ⟨hk, hm, hp⟩)
        have hke := HKE.out
        clear hp hm hk HM HP HKE
        go_wp2_with fail
        go_region_held3 (fun w' => w'.cell? ⟨w4.heap.size, 0, none⟩ = some (.int .i64 x.t) ∧ w'.cell? ⟨w4.heap.size, 1, none⟩ = some (.int .i64 x.v) ∧ w'.cell? ⟨w4.heap.size, 2, none⟩ = some (.int .i64 x.q))
          (first | exact ⟨hkk.k.bx.cell 0, hkk.k.bx.cell 1, hkk.k.bx.cell 2⟩ | exact ⟨hke.k.bx.cell 0, hke.k.bx.cell 1, hke.k.bx.cell 2⟩ | go_keep)
          (first
          | (go_at_call 16; refine (checkSample_any x _).mono ?_; rintro e wk ⟨rfl, hwk⟩; have hkk : KE w v2 v3 vm vp u15 u16 a b (mergeR a b) (sliR a f t) w4.heap.size (w4.heap.size + 1) x f t wk := (by rw [hwk]; exact KE.alloc (by first | assumption | exact KE.drew (by assumption)) _); clear hwk)
          | (go_at_call 17; refine (sampleFault_any x _).mono ?_; rintro e wk ⟨rfl, hwk⟩; have hkk : KE w v2 v3 vm vp u15 u16 a b (mergeR a b) (sliR a f t) w4.heap.size (w4.heap.size + 1) x f t wk := (by rw [hwk]; exact KE.alloc (by first | assumption | exact KE.drew (by assumption)) _); clear hwk)
          | (go_at_call 18; refine (checkSeries_any v2 a _ (KE.k (by first | assumption | exact KE.drew (by assumption))).ra).mono ?_; rintro e wk ⟨rfl, hbk⟩; have hkk := KE.step hbk (by first | assumption | exact KE.drew (by assumption)); clear hbk)
          | (go_at_call 19; ((with_reducible refine (equal_same vm u15 (mergeR a b) _ (KE.k (by first | assumption | exact KE.drew (by assumption))).rm (KE.rm' (by first | assumption | exact KE.drew (by assumption)))).mono ?_); rintro e wk ⟨rfl, mk, hwk⟩; have hkk : KE w v2 v3 vm vp u15 u16 a b (mergeR a b) (sliR a f t) w4.heap.size (w4.heap.size + 1) x f t wk := (by rw [hwk]; exact KE.drewN (by first | assumption | exact KE.drew (by assumption)) _); clear hwk))
          | (go_at_call 19; ((with_reducible refine (equal_same vp u16 (sliR a f t) _ (KE.k (by first | assumption | exact KE.drew (by assumption))).rp (KE.rp' (by first | assumption | exact KE.drew (by assumption)))).mono ?_); rintro e wk ⟨rfl, mk, hwk⟩; have hkk : KE w v2 v3 vm vp u15 u16 a b (mergeR a b) (sliR a f t) w4.heap.size (w4.heap.size + 1) x f t wk := (by rw [hwk]; exact KE.drewN (by first | assumption | exact KE.drew (by assumption)) _); clear hwk))
          | (go_at_call 20; refine (sampled_any _).mono ?_; rintro e wk ⟨rfl, hbk⟩; have hkk := KE.step hbk (by first | assumption | exact KE.drew (by assumption)); clear hbk))
        all_goals
          go_wp2_with fail
          go_ret
          exact ⟨rfl, hkk.k.below⟩
end Go.Proofs.Ytjkncmhmmafmjaa
