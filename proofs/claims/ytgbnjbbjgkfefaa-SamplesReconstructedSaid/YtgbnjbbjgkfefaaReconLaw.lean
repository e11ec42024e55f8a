/- SamplesReconstructed: the walk of the law. No condition. -/
import Derived.Test.YtgbnjbbjgkfefaaOffw
import Derived.Test.YtgbnjbbjgkfefaaErro
import Derived.Test.YtgbnjbbjgkfefaaKList
import Derived.Test.YtgbnjbbjgkfefaaCurve
import Derived.Test.YtgbnjbbjgkfefaaPressed
import Derived.Deep.DeepCutAuto
namespace Go.Proofs.Ytgbnjbbjgkfefaa
open Go.RowKit
set_option linter.unusedVariables false
set_option linter.unusedSimpArgs false

theorem frac_neq (w : World) (x y : Int × Int) : (binOp .neq 57 (.agg #[.int .i64 x.1, .int .i64 x.2]) (.agg #[.int .i64 y.1, .int .i64 y.2])).run Try.prog w = .ok (.bool (!(decide (x = y)))) w := by
  rw [run_neq_struct, frac_eqIn]
  simp [Result.andThen]

/-- What stays readable: the series, the indices, boxes of fractions. -/
structure KC (w0 : World) (v vk : Value) (l : List Smp) (ks : List Int) (vr : Value) (lr : List Smp) (bs : List (Nat × Int × Int)) (w : World) : Prop where
  rd : RdS w 71 v l
  ri : RdI w vk ks
  rr : RdS w 71 vr lr
  bx : ∀ x ∈ bs, Blk w x.1 57 #[.int .i64 x.2.1, .int .i64 x.2.2]
  bl : Below w0.heap.size w0 w
theorem KC.step {w0 w w' : World} {v vk : Value} {l : List Smp} {ks : List Int} {vr : Value} {lr : List Smp} {bs : List (Nat × Int × Int)} (h : KC w0 v vk l ks vr lr bs w) (hb : Below w.heap.size w w') : KC w0 v vk l ks vr lr bs w' :=
  ⟨h.rd.below hb (Nat.le_refl _), h.ri.below hb (Nat.le_refl _), h.rr.below hb (Nat.le_refl _), fun x hx => (h.bx x hx).below hb (h.bx x hx).lt, h.bl.trans (hb.mono h.bl.size)⟩
theorem KC.add {w0 w : World} {v vk : Value} {l : List Smp} {ks : List Int} {vr : Value} {lr : List Smp} {bs : List (Nat × Int × Int)} (h : KC w0 v vk l ks vr lr bs w) (a b : Int) : KC w0 v vk l ks vr lr ((w.heap.size, a, b) :: bs) (w.alloc (.cells #[.int .i64 a, .int .i64 b] 57)) := by
  have h2 := h.step ((Below.refl _ w).alloc (Nat.le_refl _) (.cells #[.int .i64 a, .int .i64 b] 57))
  refine ⟨h2.rd, h2.ri, h2.rr, fun x hx => ?_, h2.bl⟩
  rcases List.mem_cons.1 hx with rfl | hx
  · exact Blk.new _ _ _
  · exact h2.bx x hx
theorem KC.set {w0 w : World} {v vk : Value} {l : List Smp} {ks : List Int} {vr : Value} {lr : List Smp} {bs : List (Nat × Int × Int)} {p : Nat} {a b : Int} (h : KC w0 v vk l ks vr lr ((p, a, b) :: bs) w) (hp : w0.heap.size ≤ p) (hne : ∀ x ∈ bs, x.1 ≠ p) (a' b' : Int) : KC w0 v vk l ks vr lr ((p, a', b') :: bs) ((w.setCell ⟨p, 0, none⟩ (.int .i64 a')).setCell ⟨p, 1, none⟩ (.int .i64 b')) := by
  have hb := h.bx _ List.mem_cons_self
  simp only at hb
  obtain ⟨cs, h3⟩ := hb.setSame (i := 0) (.int .i64 a')
  refine ⟨Rd.setCell (Rd.setCell h.rd _ _ (hb.no (by decide))) _ _ (h3.no (by decide)), ?_, Rd.setCell (Rd.setCell h.rr _ _ (hb.no (by decide))) _ _ (h3.no (by decide)), fun x hx => ?_, (h.bl.setCell hp _).setCell hp _⟩
  · exact Rd.setCell (Rd.setCell h.ri _ _ (hb.no (by decide))) _ _ (h3.no (by decide))
  · rcases List.mem_cons.1 hx with rfl | hx
    · exact hb.set2 _ _
    · exact ((h.bx x (List.mem_cons_of_mem _ hx)).setOther (by simpa using hne x hx) _).setOther (by simpa using hne x hx) _
theorem KC.swap {w0 w : World} {v vk : Value} {l : List Smp} {ks : List Int} {vr vr' : Value} {lr lr' : List Smp} {bs : List (Nat × Int × Int)} (h : KC w0 v vk l ks vr lr bs w) (h2 : RdS w 71 vr' lr') : KC w0 v vk l ks vr' lr' bs w := ⟨h.rd, h.ri, h2, h.bx, h.bl⟩
def lrOf (l : List Smp) (ks : List Int) : List Smp := if keptErr l ks = 0 then choOf l ks else []

theorem rcE_or (l : List Smp) (t : Int) : orOf [serErr l, spanErr t 0 345686399999] = rcE l t := by
  unfold rcE spanErr
  simp only [orOf]
  split
  · rfl
  · cases inB t 0 345686399999 <;> simp
theorem errE_good {l : List Smp} {ks : List Int} (h : keptErr l ks = 0) : errE l ks = (if (!eoB l (choOf l ks)) = true then 8 else 0) ∧ errF l ks = eoF l (choOf l ks) ∧ errI l ks = eoI l (choOf l ks) := by
  have h1 : errE l ks = if bst l (choOf l ks) l.length < 0 then 8 else 0 := by unfold errE; rw [if_neg (by rw [h]; simp)]
  by_cases hb : bst l (choOf l ks) l.length < 0
  · rw [if_pos hb] at h1
    refine ⟨?_, ?_, ?_⟩
    · rw [h1]; unfold eoB; rw [decide_eq_false (by omega)]; rfl
    · unfold errF eoF; rw [if_neg (by omega), if_pos hb]
    · unfold errI eoI; rw [if_neg (by omega), if_pos hb]
  · rw [if_neg hb] at h1
    refine ⟨?_, ?_, ?_⟩
    · rw [h1]; unfold eoB; rw [decide_eq_true (by omega)]; rfl
    · unfold errF eoF; rw [if_pos h1, if_neg hb]
    · unfold errI eoI; rw [if_pos h1, if_neg hb]
theorem errE_bad {l : List Smp} {ks : List Int} (h : keptErr l ks ≠ 0) : errE l ks = keptErr l ks ∧ errF l ks = (0, 0) ∧ errI l ks = 0 ∧ ratF l ks = (0, 0) ∧ ratB l ks = false := by
  have h1 : errE l ks = keptErr l ks := by unfold errE; rw [if_pos h]
  refine ⟨h1, ?_, ?_, ?_, ?_⟩
  · unfold errF; rw [if_neg (by rw [h1]; exact h)]
  · unfold errI; rw [if_neg (by rw [h1]; exact h)]
  · unfold ratF; rw [if_neg (fun q => h q.1)]
  · unfold ratB; exact decide_eq_false (fun q => h q.1)
theorem frac_same (w : World) (x : Int × Int) : (binOp .neq 57 (.agg #[.int .i64 x.1, .int .i64 x.2]) (.agg #[.int .i64 x.1, .int .i64 x.2])).run Try.prog w = .ok (.bool false) w := by
  rw [frac_neq]; simp

set_option maxRecDepth 100000 in
set_option maxHeartbeats 8000000 in
theorem samplesReconstructed_walk (w : World) (L : List Int) (A : Option Addr) (cap : Nat) (hc : ∀ i, i < L.length → ∃ ad : Addr, A = some ad ∧ ad.block < w.heap.size ∧ w.cell? (ad.add i) = some (.int .i64 (L.getD i 0)))
    (hl : L.length ≤ 9223372036854775807) (hwf : ∀ i, -9223372036854775808 ≤ L.getD i 0 ∧ L.getD i 0 ≤ 9223372036854775807) :
    Calls Try.prog 5 #[.slice A L.length cap] w fun e w' => e = .returned (.bool true) ∧ Below w.heap.size w w' := by
  have hS0 : Strm (w.alloc (.cells #[.slice A L.length cap, .int .i64 0] 25)) w.heap.size L A cap 0 :=
    ⟨heap_alloc_new w _, fun i hi => by
      obtain ⟨ad, e, hb, hcell⟩ := hc i hi
      exact ⟨ad, e, hb, by rw [World.cell?_alloc_lt _ _ _ (by rw [addr_add_block]; exact hb)]; exact hcell⟩, hl, hwf⟩
  have HS0 := Lib.hid hS0
  have hgd := frac_guard
  have heq := frac_eqIn
  have hneq := frac_neq
  clear hS0 hc hwf
  go_enter Try.func5, Try.ntmps5
  go_wp2_with fail
  refine (curve_went _ w.heap.size L A cap 0 12 HS0.out (by omega) (by omega)).mono ?_
  rintro e w1 ⟨v, rfl, l, k1, hown, hlen, hnear, hk1, hw1⟩
  go_wp2_with fail
  refine (aMoment_went _ w.heap.size L A cap k1 hw1.1 (by omega)).mono ?_
  rintro e w2 ⟨t, rfl, ht, hw2⟩
  have hrd2 : RdS w2 71 v l := Rd.but hw1.1 (by decide) (Rd.of_own hown) hw2.2
  go_wp2_with fail
  refine (keptList_went _ w.heap.size L A cap (k1 + 2) v l hw2.1 hrd2 (by omega) (by omega)).mono ?_
  rintro e w3 ⟨vk, rfl, ks, k3, hownk, hkl, hk3, hw3⟩
  have hk : KC w v vk l ks v l [] w3 := ⟨Rd.but hw2.1 (by decide) hrd2 hw3.2, Rd.of_own hownk, Rd.but hw2.1 (by decide) hrd2 hw3.2, fun x hx => by simp at hx, ((Below.refl _ w).alloc (Nat.le_refl _) _).trans ⟨(hw1.2.trans (hw2.2.trans hw3.2)).os, (hw1.2.trans (hw2.2.trans hw3.2)).tape, (hw1.2.trans (hw2.2.trans hw3.2)).output, (hw1.2.trans (hw2.2.trans hw3.2)).size, fun i hi => (hw1.2.trans (hw2.2.trans hw3.2)).block i (by simp; omega) (by omega)⟩⟩
  clear hw1 hw2 hw3 hown hownk hnear hrd2 hk1 hk3
  have hlks : ks.length ≤ 100000 := by omega
  go_wp2_with fail
  refine (seriesFault_any v l _ hk.rd).mono ?_
  rintro e w4 ⟨rfl, hb4⟩
  have hk4 := hk.step hb4
  go_wp2_with fail
  refine (seriesFault_any v l _ hk4.rd).mono ?_
  rintro e w5 ⟨rfl, hb5⟩
  have hk5 := hk4.step hb5
  have HK5 := Lib.hid hk5
  clear hb4 hb5 hk hk4 hk5
  have hke : keptErr l ks = if serErr l ≠ 0 then serErr l else idxErr l.length ks := rfl
  have HKE := Lib.hid hke
  clear hke
  go_upto_if 42 with fail
  go_cut [8] (fun s8 wx => s8 = .int .i64 (keptErr l ks) ∧ KC w v vk l ks v l [] wx)
  case first =>
    by_cases hS : serErr l = 0
    · have hS' : (serErr l == 0) = true := by simpa using hS
      have H1 := Lib.hid (show keptErr l ks = idxErr l.length ks by rw [HKE.out, if_neg (by rw [hS]; simp)])
      clear hS
      go_wp2_with fail
      refine (indicesFault_any v vk l ks _ HK5.out.rd HK5.out.ri hlks (by omega)).mono ?_
      rintro e w6 ⟨rfl, rfl⟩
      go_wp2_with fail
      go_meet
      exact ⟨by rw [H1.out], HK5.out⟩
    · have hS' : (serErr l == 0) = false := by simpa using hS
      have H1 := Lib.hid (show keptErr l ks = serErr l by rw [HKE.out, if_pos hS])
      clear hS
      go_wp2_with fail
      go_meet
      exact ⟨by rw [H1.out], HK5.out⟩
  case rest =>
    obtain ⟨rfl, hk⟩ := hcut
    go_wp2_with fail
    refine (keep_any v vk l ks _ hk.rd hk.ri hlks).mono ?_
    rintro e w6 ⟨vr, rfl, hok, hbad, hb6⟩
    have hlr : RdS w6 71 vr (lrOf l ks) := by
      unfold lrOf
      by_cases hK : keptErr l ks = 0
      · rw [if_pos hK]; exact hok hK
      · rw [if_neg hK, hbad hK]; exact Rd.nil _ _ _
    have hk6 := (hk.step hb6).swap hlr
    have HOK := Lib.hid hok
    have HBAD := Lib.hid hbad
    clear hok hbad
    go_wp2_with fail
    refine (reconstruct_any v l t _ hk6.rd).mono ?_
    rintro e w7 ⟨rfl, hb7⟩
    have hk7 := (hk6.step hb7).add (rcV l t).1 (rcV l t).2
    go_wp2_with fail
    refine (error_any v vk l ks _ hk7.rd hk7.ri hlks).mono ?_
    rintro e w8 ⟨rfl, hb8⟩
    have hk8 := (hk7.step hb8).add (errF l ks).1 (errF l ks).2
    go_wp2_with fail
    refine (ratio_any v vk l ks _ hk8.rd hk8.ri hlks (by omega)).mono ?_
    rintro e w9 ⟨rfl, hb9⟩
    have hk9 := (hk8.step hb9).add (ratF l ks).1 (ratF l ks).2
    go_wp2_with fail
    refine (momentFault_any t _).mono ?_
    rintro e wa ⟨rfl, rfl⟩
    go_wp2_with fail
    refine (or2_any _ _ (serErr l) (spanErr t 0 345686399999) (by exact Blk.new1 _ _ _ _)).mono ?_
    rintro e wb ⟨rfl, rfl⟩
    rw [rcE_or]
    have hkb := hk9.step ((Below.refl _ _).alloc (Nat.le_refl _) (.cells #[.int .i64 (serErr l), .int .i64 (spanErr t 0 345686399999)] 34))
    generalize (w9.alloc (.cells #[.int .i64 (ratF l ks).1, .int .i64 (ratF l ks).2] 57)).alloc (.cells #[.int .i64 (serErr l), .int .i64 (spanErr t 0 345686399999)] 34) = wb at *
    have hkc := hkb.add 0 0
    have hszb := hkb.bl.size
    have hneb : ∀ x ∈ [(w9.heap.size, (ratF l ks).1, (ratF l ks).2), (w8.heap.size, (errF l ks).1, (errF l ks).2), (w7.heap.size, (rcV l t).1, (rcV l t).2)], x.1 ≠ wb.heap.size := fun x hx => by have := (hkb.bx x hx).lt; omega
    have HNEB := Lib.hid hneb
    have HKC := Lib.hid hkc
    have HSZB := Lib.hid hszb
    clear hk hk6 hk7 hk8 hk9 hkb hb6 hb7 hb8 hb9 hkc hneb hszb
    go_upto_if 79 with fail
    go_cut [22] (fun s22 wx => s22 = .bool (rcB l t) ∧ KC w v vk l ks vr (lrOf l ks) [(wb.heap.size, (rcV l t).1, (rcV l t).2), (w9.heap.size, (ratF l ks).1, (ratF l ks).2), (w8.heap.size, (errF l ks).1, (errF l ks).2), (w7.heap.size, (rcV l t).1, (rcV l t).2)] wx)
    case first =>
      have hrcv : rcV l t = if rcE l t = 0 then reconV l t else (0, 0) := rfl
      have hrcb : rcB l t = if rcE l t = 0 then reconB l t else false := rfl
      by_cases hz : rcE l t = 0
      · have hz' : (rcE l t == 0) = true := by simpa using hz
        have hs0 : serErr l = 0 := by unfold rcE at hz; split at hz <;> omega
        rw [if_pos hz] at hrcv hrcb
        have hro := fun w hR => reconstructedOf_any v l t w hR (serErr_rise hs0) (serErr_good hs0).1 (fun i _ => ⟨(serErr_vt hs0 i).2, (serErr_vt hs0 i).1⟩)
        rw [← hrcv, ← hrcb] at hro
        have HRO := Lib.hid hro
        clear hz hs0 hrcv hrcb hro
        go_wp2_with fail
        refine (HRO.out _ HKC.out.rd).mono ?_
        rintro e wd ⟨rfl, hbd⟩
        have hkd := HKC.out.step hbd
        have q0 := (hkd.bx _ List.mem_cons_self).cell 0
        have q1 := (hkd.bx _ List.mem_cons_self).cell 1
        have g0 := (hkd.bx _ List.mem_cons_self).frozen 0
        have g1 := (hkd.bx _ List.mem_cons_self).frozen 1
        have hks := hkd.set HSZB.out HNEB.out (rcV l t).1 (rcV l t).2
        have HKS := Lib.hid hks
        clear hbd hkd hks
        go_wp2_with fail
        go_meet
        exact ⟨rfl, HKS.out⟩
      · have hz' : (rcE l t == 0) = false := by simpa using hz
        rw [if_neg hz] at hrcv hrcb
        have HV := Lib.hid hrcv
        have HBB := Lib.hid hrcb
        clear hz hrcv hrcb
        go_wp2_with fail
        go_meet
        refine ⟨by rw [HBB.out], ?_⟩
        have := HKC.out
        rw [HV.out] at this ⊢
        exact this
    case rest =>
      obtain ⟨rfl, hkr⟩ := hcut
      have HKR := Lib.hid hkr
      have c0 := (hkr.bx _ List.mem_cons_self).cell 0
      have c1 := (hkr.bx _ List.mem_cons_self).cell 1
      have d0 := (hkr.bx (w9.heap.size, (ratF l ks).1, (ratF l ks).2) (by simp)).cell 0
      have d1 := (hkr.bx (w9.heap.size, (ratF l ks).1, (ratF l ks).2) (by simp)).cell 1
      have e0 := (hkr.bx (w8.heap.size, (errF l ks).1, (errF l ks).2) (by simp)).cell 0
      have e1 := (hkr.bx (w8.heap.size, (errF l ks).1, (errF l ks).2) (by simp)).cell 1
      have f0 := (hkr.bx (w7.heap.size, (rcV l t).1, (rcV l t).2) (by simp)).cell 0
      have f1 := (hkr.bx (w7.heap.size, (rcV l t).1, (rcV l t).2) (by simp)).cell 1
      have hsame := fun w => frac_same w (rcV l t)
      have hrb : (rcB l t != rcB l t) = false := by simp
      by_cases hK : keptErr l ks = 0
      · obtain ⟨hE, hF, hI⟩ := errE_good hK
        obtain ⟨_, _, hin, _, _, _⟩ := kept_good hK
        have HK0 := Lib.hid hK
        have HIN := Lib.hid hin
        have HEE := Lib.hid hE
        have HEF := Lib.hid hF
        have hEs : (errE l ks == errE l ks) = true := by simp
        rw [hI]
        rw [hK]
        obtain ⟨pa, ca, rfl⟩ := hkr.rd.lenv
        obtain ⟨pk, ck, rfl⟩ := hkr.ri.lenv
        clear hE hF hI hin hkr
        by_cases hpos : 0 < ks.length
        · have HB := Lib.hid (show ratB l ks = true by unfold ratB; exact decide_eq_true (by exact ⟨hK, hpos⟩))
          have HRF := Lib.hid (show ratF l ks = fracOf l.length ks.length by unfold ratF; rw [if_pos (⟨hK, hpos⟩)])
          have hpos' : decide ((0 : Int) < (ks.length : Int)) = true := decide_eq_true (by omega)
          have hks1 : 0 < ks.length := hpos
          rw [HB.out]
          rw [HRF.out] at d0 d1
          clear hpos hK
          go_wp2_with fail
          refine (errorOf_any _ _ l ks _ HKR.out.rd HK0.out (fun w0 h1 h2 => offs_any _ _ l ks w0 h1 h2 HK0.out) HKR.out.ri).mono ?_
          rintro e wf ⟨rfl, hbf⟩
          have hkf := (HKR.out.step hbf).add (eoF l (choOf l ks)).1 (eoF l (choOf l ks)).2
          have hkf2 := hkf.add 0 0
          have hszF := hkf.bl.size
          have hneF := fun x hx => Nat.ne_of_lt (hkf.bx x hx).lt
          rw [World.size_alloc] at hkf2 hszF hneF
          clear hbf c0 c1 d0 d1 e0 e1 f0 f1
          have HKF2 := Lib.hid hkf2
          have HSZF := Lib.hid hszF
          have HNEF := Lib.hid hneF
          clear hkf hkf2 hszF hneF
          go_wp2_with fail
          refine (rlowest_any (l.length : Int) (ks.length : Int) _ (by omega) (by omega)).mono ?_
          rintro e wg ⟨rfl, hbg⟩
          have hkg := HKF2.out.step hbg
          have q0 := (hkg.bx _ List.mem_cons_self).cell 0
          have q1 := (hkg.bx _ List.mem_cons_self).cell 1
          have g0 := (hkg.bx _ List.mem_cons_self).frozen 0
          have g1 := (hkg.bx _ List.mem_cons_self).frozen 1
          have hkz := hkg.set HSZF.out HNEF.out (fracOf l.length ks.length).1 (fracOf l.length ks.length).2
          have HKZ := Lib.hid hkz
          clear hbg hkg hkz
          go_wp2_with fail
          refine (keptOf_any _ _ l ks _ HKZ.out.rd HKZ.out.ri hlks HIN.out).mono ?_
          rintro e wh ⟨vo, rfl, hovo, hbh⟩
          have hkh := HKZ.out.step hbh
          have hro : RdS wh 71 vo (choOf l ks) := by
            have := Rd.of_own hovo
            unfold RdS
            rw [choOf_length]
            exact this
          have hrv : RdS wh 71 vr (choOf l ks) := by
            have := hkh.rr
            unfold lrOf at this
            rwa [if_pos HK0.out] at this
          clear hovo hbh q0 q1 g0 g1
          go_wp2_with fail
          refine (equal_any vr vo (choOf l ks) (choOf l ks) _ hrv hro).mono ?_
          rintro e wi ⟨rfl, mi, rfl⟩
          rw [show decide (choOf l ks = choOf l ks) = true by simp]
          have hki := hkh.step (show Below wh.heap.size wh (wh.drewN mi) from ⟨rfl, rfl, rfl, Nat.le_refl _, fun _ _ => rfl⟩)
          generalize wh.drewN mi = wi at *
          have HKI := Lib.hid hki
          have x0 := (hki.bx _ List.mem_cons_self).cell 0
          have x1 := (hki.bx _ List.mem_cons_self).cell 1
          have y0 := (hki.bx (wf.heap.size, (eoF l (choOf l ks)).1, (eoF l (choOf l ks)).2) (by simp)).cell 0
          have y1 := (hki.bx (wf.heap.size, (eoF l (choOf l ks)).1, (eoF l (choOf l ks)).2) (by simp)).cell 1
          have e0 := (hki.bx (w8.heap.size, (errF l ks).1, (errF l ks).2) (by simp)).cell 0
          have e1 := (hki.bx (w8.heap.size, (errF l ks).1, (errF l ks).2) (by simp)).cell 1
          have d0 := (hki.bx (w9.heap.size, (ratF l ks).1, (ratF l ks).2) (by simp)).cell 0
          have d1 := (hki.bx (w9.heap.size, (ratF l ks).1, (ratF l ks).2) (by simp)).cell 1
          rw [HEF.out] at e0 e1
          rw [HRF.out] at d0 d1
          clear hki hkh hro hrv
          go_wp2_with fail
          refine (noneFault_any _ _).mono ?_
          rintro e wj ⟨rfl, rfl⟩
          rw [← HEE.out]
          go_wp2_with fail
          refine (pressed_any _).mono ?_
          rintro e wp ⟨rfl, hbp⟩
          have hkp := HKI.out.step hbp
          go_wp2_with fail
          go_ret
          exact ⟨rfl, hkp.bl⟩
        · have HB := Lib.hid (show ratB l ks = false by unfold ratB; exact decide_eq_false (by omega))
          have HRF := Lib.hid (show ratF l ks = (0, 0) by unfold ratF; rw [if_neg (by omega)])
          have hpos' : decide ((0 : Int) < (ks.length : Int)) = false := decide_eq_false (by omega)
          obtain rfl : ks = [] := List.eq_nil_of_length_eq_zero (by omega)
          rw [HB.out]
          rw [HRF.out] at d0 d1
          clear hpos hK
          go_wp2_with fail
          refine (errorOf_any _ _ l [] _ HKR.out.rd HK0.out (fun w0 h1 h2 => offs_any _ _ l [] w0 h1 h2 HK0.out) HKR.out.ri).mono ?_
          rintro e wf ⟨rfl, hbf⟩
          have hkf := (HKR.out.step hbf).add (eoF l (choOf l [])).1 (eoF l (choOf l [])).2
          have hkf2 := hkf.add 0 0
          have hszF := hkf.bl.size
          have hneF := fun x hx => Nat.ne_of_lt (hkf.bx x hx).lt
          rw [World.size_alloc] at hkf2 hszF hneF
          clear hbf c0 c1 d0 d1 e0 e1 f0 f1
          have HKZ := Lib.hid hkf2
          clear hkf hkf2 hszF hneF
          go_wp2_with fail
          refine (keptOf_any _ _ l [] _ HKZ.out.rd HKZ.out.ri hlks HIN.out).mono ?_
          rintro e wh ⟨vo, rfl, hovo, hbh⟩
          have hkh := HKZ.out.step hbh
          have hro : RdS wh 71 vo (choOf l []) := by
            have := Rd.of_own hovo
            unfold RdS
            rw [choOf_length]
            exact this
          have hrv : RdS wh 71 vr (choOf l []) := by
            have := hkh.rr
            unfold lrOf at this
            rwa [if_pos HK0.out] at this
          clear hovo hbh
          go_wp2_with fail
          refine (equal_any vr vo (choOf l []) (choOf l []) _ hrv hro).mono ?_
          rintro e wi ⟨rfl, mi, rfl⟩
          rw [show decide (choOf l [] = choOf l []) = true by simp]
          have hki := hkh.step (show Below wh.heap.size wh (wh.drewN mi) from ⟨rfl, rfl, rfl, Nat.le_refl _, fun _ _ => rfl⟩)
          generalize wh.drewN mi = wi at *
          have HKI := Lib.hid hki
          have x0 := (hki.bx _ List.mem_cons_self).cell 0
          have x1 := (hki.bx _ List.mem_cons_self).cell 1
          have y0 := (hki.bx (wf.heap.size, (eoF l (choOf l [])).1, (eoF l (choOf l [])).2) (by simp)).cell 0
          have y1 := (hki.bx (wf.heap.size, (eoF l (choOf l [])).1, (eoF l (choOf l [])).2) (by simp)).cell 1
          have e0 := (hki.bx (w8.heap.size, (errF l []).1, (errF l []).2) (by simp)).cell 0
          have e1 := (hki.bx (w8.heap.size, (errF l []).1, (errF l []).2) (by simp)).cell 1
          have d0 := (hki.bx (w9.heap.size, (ratF l []).1, (ratF l []).2) (by simp)).cell 0
          have d1 := (hki.bx (w9.heap.size, (ratF l []).1, (ratF l []).2) (by simp)).cell 1
          rw [HEF.out] at e0 e1
          rw [HRF.out] at d0 d1
          clear hki hkh hro hrv
          go_wp2_with fail
          refine (noneFault_any _ _).mono ?_
          rintro e wj ⟨rfl, rfl⟩
          rw [← HEE.out]
          go_wp2_with fail
          refine (pressed_any _).mono ?_
          rintro e wp ⟨rfl, hbp⟩
          have hkp := HKI.out.step hbp
          go_wp2_with fail
          go_ret
          exact ⟨rfl, hkp.bl⟩
      · obtain ⟨hE, hF, hI, hRF, hRB⟩ := errE_bad hK
        have hvr := HBAD.out hK
        subst hvr
        rw [hF] at e0 e1
        rw [hRF] at d0 d1
        rw [hE, hI, hRB]
        have hKn : (keptErr l ks != 0) = true := by simpa using hK
        have hKe : (keptErr l ks == keptErr l ks) = true := by simp
        simp only at d0 d1 e0 e1
        clear hK hE hF hI hRF hRB hkr
        go_wp2_with fail
        refine (pressed_any _).mono ?_
        rintro e wp ⟨rfl, hbp⟩
        have hkp := HKR.out.step hbp
        go_wp2_with fail
        go_ret
        exact ⟨rfl, hkp.bl⟩
end Go.Proofs.Ytgbnjbbjgkfefaa
