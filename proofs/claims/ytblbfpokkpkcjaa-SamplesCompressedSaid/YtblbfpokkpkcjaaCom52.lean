import Derived.Test.YtblbfpokkpkcjaaCom22
import Derived.Test.YtblbfpokkpkcjaaCom26
import Derived.Test.YtblbfpokkpkcjaaCom45
import Derived.Test.YtblbfpokkpkcjaaCom46
import Derived.Test.YtblbfpokkpkcjaaCom47
import Derived.Test.YtblbfpokkpkcjaaCom48
import Derived.Test.YtblbfpokkpkcjaaCom49
import Derived.Test.YtblbfpokkpkcjaaCom38
import Derived.Test.YtblbfpokkpkcjaaCom51
import Derived.Deep.DeepCutAuto
/- SamplesCompressed: the walk of the law. No condition. -/

namespace Go.Proofs.Ytblbfpokkpkcjaa
open Go.RowKit
set_option linter.unusedVariables false
set_option linter.unusedSimpArgs false

/-- What stays readable: the door, the series, the indices, the lists that were returned. -/
structure KL (w0 : World) (n : Nat) (d m : Int) (v vk : Value) (l : List Smp) (ks : List Int) (vs : List (Value × List Int)) (w : World) : Prop where
  bd : Blk w n 30 #[.int .i64 d, .int .i64 m]
  rd : RdS w 71 v l
  ri : RdI w vk ks
  rs : ∀ x ∈ vs, RdI w x.1 x.2
  bl : Below w0.heap.size w0 w
section
variable {w0 w w' : World} {n : Nat} {d m : Int} {v vk vr : Value} {l : List Smp} {ks lr : List Int} {vs : List (Value × List Int)}
theorem KL.step (h : KL w0 n d m v vk l ks vs w) (hb : Below w.heap.size w w') : KL w0 n d m v vk l ks vs w' :=
  ⟨h.bd.below hb h.bd.lt, h.rd.below hb (Nat.le_refl _), h.ri.below hb (Nat.le_refl _), fun x hx => (h.rs x hx).below hb (Nat.le_refl _), h.bl.trans (hb.mono h.bl.size)⟩
theorem KL.add (h : KL w0 n d m v vk l ks vs w) (hr : RdI w vr lr) : KL w0 n d m v vk l ks ((vr, lr) :: vs) w :=
  ⟨h.bd, h.rd, h.ri, fun x hx => by
    rcases List.mem_cons.1 hx with rfl | hx
    · exact hr
    · exact h.rs x hx, h.bl⟩
theorem KL.alloc (h : KL w0 n d m v vk l ks vs w) (o : Obj) : KL w0 n d m v vk l ks vs (w.alloc o) := h.step ((Below.refl _ w).alloc (Nat.le_refl _) o)
theorem KL.drewN (h : KL w0 n d m v vk l ks vs w) (k : Nat) : KL w0 n d m v vk l ks vs (w.drewN k) := h.step (show Below w.heap.size w (w.drewN k) from ⟨rfl, rfl, rfl, Nat.le_refl _, fun _ _ => rfl⟩)
end
theorem orOf_er (a b : Int) : orOf [a, b] = erE a b := by unfold orOf erE orOf orOf; split <;> simp_all
theorem orOf_cp (d m : Int) (l : List Smp) : orOf [doorErr d m, serErr l] = cprE d m l := orOf_er _ _
theorem fitE_er (d m : Int) (l : List Smp) (ks : List Int) : fitE d m l ks = erE (cprE d m l) (idxErr l.length ks) := by
  unfold fitE cprE keptErr erE
  by_cases h1 : doorErr d m = 0 <;> by_cases h2 : serErr l = 0 <;> simp [h1, h2]
theorem minE_er {d m : Int} {l : List Smp} (h : l.length ≤ 300) : minE d m l = cprE d m l := by
  unfold minE cprE
  by_cases h1 : erE (doorErr d m) (serErr l) = 0
  · rw [if_neg (by simp [h1]), if_neg (by omega), h1]
  · rw [if_pos h1]

set_option maxRecDepth 100000 in
set_option maxHeartbeats 8000000 in
theorem samplesCompressed_walk (w : World) (L : List Int) (A : Option Addr) (cap : Nat) (hc : ∀ i, i < L.length → ∃ ad : Addr, A = some ad ∧ ad.block < w.heap.size ∧ w.cell? (ad.add i) = some (.int .i64 (L.getD i 0)))
    (hl : L.length ≤ 9223372036854775807) (hwf : ∀ i, -9223372036854775808 ≤ L.getD i 0 ∧ L.getD i 0 ≤ 9223372036854775807) :
    Calls Try.prog 4 #[.slice A L.length cap] w fun e w' => e = .returned (.bool true) ∧ Below w.heap.size w w' := by
  have hS0 : Strm (w.alloc (.cells #[.slice A L.length cap, .int .i64 0] 25)) w.heap.size L A cap 0 :=
    ⟨heap_alloc_new w _, fun i hi => by
      obtain ⟨ad, e, hb, hcell⟩ := hc i hi
      exact ⟨ad, e, hb, by rw [World.cell?_alloc_lt _ _ _ (by rw [addr_add_block]; exact hb)]; exact hcell⟩, hl, hwf⟩
  have HS0 := Lib.hid hS0
  clear hS0 hc hwf
  go_enter Try.func4, Try.ntmps4
  go_wp2_with fail
  refine (doorOf_went _ w.heap.size L A cap 0 HS0.out (by omega)).mono ?_
  rintro e w2 ⟨d, m, k2, rfl, hd1, hd2, hk2, hw2⟩
  go_wp2_with fail
  refine (curve_went _ w.heap.size L A cap k2 9 hw2.1 (by omega) (by omega)).mono ?_
  rintro e w3 ⟨v, rfl, l, k3, hown, hlen, hnear, hk3, hw3⟩
  have hst3 := hw3.1
  have hlt3 : w.heap.size < w3.heap.size := hst3.lt
  have hb3 := hw2.2.trans hw3.2
  have hst4 := hst3.below (w' := w3.alloc (.cells #[.int .i64 d, .int .i64 m] 30)) ((Below.refl w3.heap.size _).alloc (Nat.le_refl _) _) hlt3
  have hrd : RdS (w3.alloc (.cells #[.int .i64 d, .int .i64 m] 30)) 71 v l := Rd.alloc (Rd.of_own hown) _
  have hbd := Blk.new w3 30 #[.int .i64 d, .int .i64 m]
  have hb4 := hb3.alloc (.cells #[.int .i64 d, .int .i64 m] 30)
  have hne : w3.heap.size ≠ w.heap.size := by omega
  clear hw2 hw3 hown hnear hst3 hb3 hd1 hd2
  go_upto_region 3 with fail
  generalize w3.alloc (.cells #[.int .i64 d, .int .i64 m] 30) = w4 at *
  generalize w3.heap.size = n at *
  go_wp2_with fail
  refine (keptList_went _ w.heap.size L A cap k3 v l hst4 hrd (by omega) (by omega)).mono ?_
  rintro e w5 ⟨vk, rfl, ks, k5, hownk, hkl, hk5, hw5⟩
  have hb5 := hb4.trans hw5.2
  have hk : KL w n d m v vk l ks [] w5 := ⟨hbd.but hw5.2 hne, Rd.but hst4 (by decide) hrd hw5.2, Rd.of_own hownk, fun x hx => by simp at hx,
    ((Below.refl _ w).alloc (Nat.le_refl _) _).trans ⟨hb5.os, hb5.tape, hb5.output, hb5.size, fun i hi => hb5.block i (by simp; omega) (by omega)⟩⟩
  have hlks : ks.length ≤ 100000 := by omega
  clear hst4 hrd hbd hb4 hne hownk hw5 hb5 hk2 hk3 hk5
  have e0 := hk.bd.cell 0
  have e1 := hk.bd.cell 1
  go_wp2_with fail
  refine (doorFault_any d m _).mono ?_
  rintro e w6 ⟨rfl, hb6⟩
  have hk6 := hk.step hb6
  clear e0 e1 hk hb6
  go_wp2_with fail
  refine (seriesFault_any v l _ hk6.rd).mono ?_
  rintro e w7 ⟨rfl, hb7⟩
  have hk7 := (hk6.step hb7).alloc (.cells #[.int .i64 (doorErr d m), .int .i64 (serErr l)] 34)
  clear hk6 hb7
  go_wp2_with fail
  refine (or2_any _ _ (doorErr d m) (serErr l) (by exact Blk.new _ _ _)).mono ?_
  rintro e w8 ⟨rfl, rfl⟩
  rw [orOf_cp]
  generalize w7.alloc (.cells #[.int .i64 (doorErr d m), .int .i64 (serErr l)] 34) = w8 at *
  go_wp2_with fail
  refine (seriesFault_any v l _ hk7.rd).mono ?_
  rintro e w9 ⟨rfl, hb9⟩
  have hk9 := hk7.step hb9
  clear hk7 hb9
  have e0 := hk9.bd.cell 0
  have e1 := hk9.bd.cell 1
  go_wp2_with fail
  refine (compress_any d m v l _ hk9.rd).mono ?_
  rintro e wa ⟨vx, rfl, hrx, hba⟩
  obtain ⟨px, cx, rfl⟩ := hrx.lenv
  have hka := (hk9.step hba).add hrx
  clear e0 e1 hk9 hba hrx
  have e0 := hka.bd.cell 0
  have e1 := hka.bd.cell 1
  go_wp2_with fail
  refine (fits_any d m v vk l ks _ hka.rd hka.ri hlks).mono ?_
  rintro e wb ⟨rfl, hbb⟩
  rw [fitE_er]
  have hkb := hka.step hbb
  clear e0 e1 hka hbb
  have e0 := hkb.bd.cell 0
  have e1 := hkb.bd.cell 1
  go_wp2_with fail
  refine (minimum_any d m v l _ hkb.rd (fun W h1 h2 h3 h4 => shortest_any d m v l W h1 h2 h3 h4)).mono ?_
  rintro e wc ⟨vm, rfl, hrm, hbc⟩
  obtain ⟨pm, cm, rfl⟩ := hrm.lenv
  rw [minE_er (by omega)]
  have hkc := (hkb.step hbc).add hrm
  clear e0 e1 hkb hbc hrm
  go_wp2_with fail
  refine (steps_any v l _ hkc.rd).mono ?_
  rintro e wd ⟨vt, rfl, hrt, hbd⟩
  obtain ⟨pt, ct, rfl⟩ := hrt.lenv
  have hkd := (hkc.step hbd).add hrt
  clear hkc hbd hrt
  have HKD := Lib.hid hkd
  clear hkd
  go_upto_region 9 with fail
  go_cut [82] (fun s82 wx => s82 = .bool false ∧ KL w n d m v vk l ks [(.slice pt (stpR l).length ct, stpR l), (.slice pm (minR d m l).length cm, minR d m l), (.slice px (cprR d m l).length cx, cprR d m l)] wx)
  case first =>
    have hSS : (serErr l != serErr l) = false := by simp
    have hstp : stpR l = if serErr l = 0 then stpTo l l.length else [] := rfl
    by_cases hS : serErr l = 0
    · have hS1 : (serErr l == 0) = true := by simpa using hS
      have hS2 : (serErr l != 0) = false := by simpa using hS
      rw [if_pos hS] at hstp
      have HST := Lib.hid hstp
      clear hS hstp
      go_wp2_with fail
      refine (stepsOf_any v l _ HKD.out.rd (by omega)).mono ?_
      rintro e we ⟨vr, rfl, hrr, hbe⟩
      have hke := HKD.out.step hbe
      have hrt := hke.rs (.slice pt (stpR l).length ct, stpR l) (by simp)
      have hrt2 : RdI we (.slice pt (stpR l).length ct) (stpTo l l.length) := by have h := hrt; simp only at h; rwa [show RdI we (.slice pt (stpR l).length ct) (stpR l) = RdI we (.slice pt (stpR l).length ct) (stpTo l l.length) by rw [← HST.out]] at h
      have HKE := Lib.hid hke
      clear hke
      go_wp2_with fail
      refine (equalI_same _ vr (stpTo l l.length) _ hrt2 hrr).mono ?_
      rintro e wf ⟨rfl, mf, rfl⟩
      clear hrt hrt2 hrr
      go_wp2_with fail
      go_meet
      exact ⟨rfl, HKE.out.drewN mf⟩
    · have hS1 : (serErr l == 0) = false := by simpa using hS
      have hS2 : (serErr l != 0) = true := by simpa using hS
      rw [if_neg hS] at hstp
      have hst1 : ¬ (0 : Int) < ((stpR l).length : Int) := by rw [hstp]; simp
      have hst2 : ¬ 0 < (stpR l).length := by omega
      clear hS hstp
      go_wp2_with fail
      go_meet
      exact ⟨rfl, HKD.out⟩
  case rest =>
  obtain ⟨rfl, hk⟩ := hcut
  clear HKD
  have hll : l.length ≤ 5000 := by omega
  go_wp2_with fail
  refine (indicesFault_any v vk l ks _ hk.rd hk.ri hlks hll).mono ?_
  rintro e wf ⟨rfl, rfl⟩
  have hkf := hk.alloc (.cells #[.int .i64 (cprE d m l), .int .i64 (idxErr l.length ks)] 34)
  clear hk
  go_wp2_with fail
  refine (or2_any _ _ (cprE d m l) (idxErr l.length ks) (by exact Blk.new _ _ _)).mono ?_
  rintro e wg ⟨rfl, rfl⟩
  rw [orOf_er]
  generalize wc.alloc (.cells #[.int .i64 (cprE d m l), .int .i64 (idxErr l.length ks)] 34) = wg at *
  have HTW := Lib.hid (show erE (cprE d m l) (idxErr l.length ks) = 0 → (0 ≤ d ∧ d ≤ 2000000) ∧ keptErr l ks = 0 ∧ fitR d m l ks = fitsB d m l ks from fun h => by
    obtain ⟨h1, h2⟩ := erE_zero h
    obtain ⟨h3, h4⟩ := erE_zero h1
    refine ⟨(doorErr_ok h3).1, ?_, ?_⟩
    · unfold keptErr; rw [if_neg (by simp [h4]), h2]
    · unfold fitR; rw [if_pos (by rw [fitE_er, h])])
  have HTN := Lib.hid (show erE (cprE d m l) (idxErr l.length ks) ≠ 0 → fitR d m l ks = false from fun h => by unfold fitR; rw [if_neg (by rw [fitE_er]; exact h)])
  have HCZ := Lib.hid (show cprE d m l = 0 → (0 ≤ d ∧ d ≤ 2000000) ∧ serErr l = 0 ∧ cprR d m l = compressed d m l ∧ minR d m l = intsN (minTo (fun c => fitsB d m l (intsN c)) l.length (2 ^ l.length)) from fun h => by
    obtain ⟨h3, h4⟩ := erE_zero h
    exact ⟨(doorErr_ok h3).1, h4, by unfold cprR; rw [if_pos h], by unfold minR; rw [if_pos (by rw [minE_er (by omega), h])]⟩)
  have HCN := Lib.hid (show cprE d m l ≠ 0 → cprR d m l = [] ∧ minR d m l = [] from fun h => ⟨by unfold cprR; rw [if_neg h], by unfold minR; rw [if_neg (by rw [minE_er (by omega)]; exact h)]⟩)
  have HKF := Lib.hid hkf
  clear hkf
  generalize stpR l = ST at *
  generalize minR d m l = MR at *
  generalize cprR d m l = CR at *
  generalize fitR d m l ks = FR at *
  generalize hTW : erE (cprE d m l) (idxErr l.length ks) = T at *
  generalize cprE d m l = C at *
  clear hTW
  have hTT : (T != T) = false := by simp
  go_upto_region 12 with fail
  go_cut [103] (fun s103 wx => s103 = .bool false ∧ KL w n d m v vk l ks [(.slice pt ST.length ct, ST), (.slice pm MR.length cm, MR), (.slice px CR.length cx, CR)] wx)
  case first =>
    by_cases hT : T = 0
    · have hT1 : (T == 0) = true := by simpa using hT
      obtain ⟨h1, h2, h3⟩ := HTW.out hT
      have HFO := Lib.hid (fitsOf_any d m v vk l ks _ HKF.out.rd HKF.out.ri h2 h1)
      have HFR := Lib.hid h3
      have e0 := HKF.out.bd.cell 0
      have e1 := HKF.out.bd.cell 1
      have hFF : (FR != FR) = false := by simp
      rw [← h3] at HFO
      clear hT h2 h3
      go_wp2_with fail
      refine HFO.out.mono ?_
      rintro e wh ⟨rfl, hbh⟩
      clear e0 e1
      go_wp2_with fail
      go_meet
      exact ⟨rfl, HKF.out.step hbh⟩
    · have hT1 : (T == 0) = false := by simpa using hT
      obtain rfl := HTN.out hT
      clear hT
      go_wp2_with fail
      go_meet
      exact ⟨rfl, HKF.out⟩
  case rest =>
  obtain ⟨rfl, hk⟩ := hcut
  clear HKF HTW HTN
  have HK := Lib.hid hk
  clear hk
  by_cases hC : C = 0
  · have hC1 : (C == 0) = true := by simpa using hC
    have hC2 : (C != 0) = false := by simpa using hC
    obtain ⟨h1, h2, rfl, rfl⟩ := HCZ.out hC
    have hfit := serErr_fit h2
    have HCO := Lib.hid (fun W hR => compressedOf_any d m v l W hR hll hfit h1)
    have HMO := Lib.hid (fun W hR => minimumOf_any d m v l W hR (by omega) h2 h1)
    have e0 := HK.out.bd.cell 0
    have e1 := HK.out.bd.cell 1
    clear hC h2 hfit HCZ HCN
    go_wp2_with fail
    refine (HCO.out _ HK.out.rd).mono ?_
    rintro e wi ⟨vi, rfl, hri, hbi⟩
    have hki := HK.out.step hbi
    clear e0 e1 hbi
    have HKI := Lib.hid hki
    have hrx := hki.rs (.slice px (compressed d m l).length cx, compressed d m l) (by simp)
    clear hki
    go_wp2_with fail
    refine (equalI_same _ vi (compressed d m l) _ hrx hri).mono ?_
    rintro e wj ⟨rfl, mj, rfl⟩
    have HKJ := Lib.hid (HKI.out.drewN mj)
    generalize wi.drewN mj = wj at *
    have e0 := HKJ.out.bd.cell 0
    have e1 := HKJ.out.bd.cell 1
    clear hrx hri
    go_wp2_with fail
    refine (HMO.out _ HKJ.out.rd).mono ?_
    rintro e wk ⟨vi2, rfl, hri, hbk⟩
    have hkk := HKJ.out.step hbk
    have HKK := Lib.hid hkk
    have hrx := hkk.rs (.slice pm (intsN (minTo (fun c => fitsB d m l (intsN c)) l.length (2 ^ l.length))).length cm, intsN (minTo (fun c => fitsB d m l (intsN c)) l.length (2 ^ l.length))) (by simp)
    clear hkk hbk e0 e1
    generalize intsN (minTo (fun c => fitsB d m l (intsN c)) l.length (2 ^ l.length)) = MR at *
    go_wp2_with fail
    refine (equalI_same _ vi2 MR _ hrx hri).mono ?_
    rintro e wl ⟨rfl, ml, rfl⟩
    have HKL := Lib.hid (HKK.out.drewN ml)
    clear hrx hri
    go_wp2_with fail
    refine (pressed_any _).mono ?_
    rintro e wp ⟨rfl, hbp⟩
    have hkp := HKL.out.step hbp
    go_wp2_with fail
    go_ret
    exact ⟨rfl, hkp.bl⟩
  · have hC1 : (C == 0) = false := by simpa using hC
    have hC2 : (C != 0) = true := by simpa using hC
    have hC3 : (C == C) = true := by simp
    obtain ⟨rfl, rfl⟩ := HCN.out hC
    clear hC HCZ HCN
    go_wp2_with fail
    refine (pressed_any _).mono ?_
    rintro e wp ⟨rfl, hbp⟩
    have hkp := HK.out.step hbp
    go_wp2_with fail
    go_ret
    exact ⟨rfl, hkp.bl⟩
end Go.Proofs.Ytblbfpokkpkcjaa
