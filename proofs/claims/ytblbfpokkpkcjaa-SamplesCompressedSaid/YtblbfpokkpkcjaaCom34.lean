import Derived.Test.YtblbfpokkpkcjaaCom33
/- The contract of Error (package compress). -/

namespace Go.Proofs.Ytblbfpokkpkcjaa
open Go.RowKit
set_option linter.unusedVariables false
set_option linter.unusedSimpArgs false

/-- Sample i of l against the archived samples K: is there a reconstruction, and by how much is it off. -/
def hasI (l K : List Smp) (i : Nat) : Bool := reconB K (atS l i).t && decide ((atS l i).q ≠ 2)
def offV (l K : List Smp) (i : Nat) : Int × Int := diffF (atS l i).v (reconV K (atS l i).t)
/-- The index of the greatest one among the first j; -1 for none. -/
def bst (l K : List Smp) : Nat → Int
  | 0 => -1
  | j + 1 => if hasI l K j = true ∧ (bst l K j < 0 ∨ lessF (offV l K (bst l K j).toNat) (offV l K j) = true) then (j : Int) else bst l K j
theorem bst_range (l K : List Smp) (j : Nat) : -1 ≤ bst l K j ∧ bst l K j < j := by
  induction j with
  | zero => simp [bst]
  | succ j ih =>
    simp only [bst]
    split <;> omega
theorem bst_has (l K : List Smp) (j : Nat) (h : 0 ≤ bst l K j) : hasI l K (bst l K j).toNat = true := by
  induction j with
  | zero => simp [bst] at h
  | succ j ih =>
    simp only [bst] at h ⊢
    split
    · rename_i h1; simpa using h1.1
    · rename_i h1
      rw [if_neg h1] at h
      exact ih h
/-- What Error returns: the fraction, the index, the error. -/
def errE (l : List Smp) (ks : List Int) : Int := if keptErr l ks ≠ 0 then keptErr l ks else if bst l (choOf l ks) l.length < 0 then 8 else 0
def errF (l : List Smp) (ks : List Int) : Int × Int := if errE l ks = 0 then offV l (choOf l ks) (bst l (choOf l ks) l.length).toNat else (0, 0)
def errI (l : List Smp) (ks : List Int) : Int := if errE l ks = 0 then bst l (choOf l ks) l.length else 0

/-- What the checks say of the samples and of those that are chosen. -/
theorem kept_good {l : List Smp} {ks : List Int} (h : keptErr l ks = 0) : serErr l = 0 ∧ idxErr l.length ks = 0 ∧ Inside l.length ks ∧ ks.length ≤ l.length ∧ Rise none (choOf l ks) ∧ (∀ i, i < (choOf l ks).length → Right (atS (choOf l ks) i)) := by
  unfold keptErr at h
  split at h
  · rename_i h1; exact absurd h h1
  · rename_i h1
    have hs : serErr l = 0 := by simpa using h1
    obtain ⟨hle, hin⟩ := idxErr_inside h
    have hfrom : idxFrom l.length none ks = 0 := by unfold idxErr at h; rw [if_neg (by omega)] at h; exact h
    refine ⟨hs, h, hin, hle, choOf_rise (serErr_rise hs) hfrom (fun t ht => by cases ht), fun i hi => ?_⟩
    rw [choOf_length] at hi
    have e : atS (choOf l ks) i = atS l (ks[i]).toNat := by simp [atS, List.getD_eq_getElem?_getD, choOf_get l ks i hi]
    rw [e]
    exact ⟨(serErr_vt hs _).2, (serErr_vt hs _).1⟩
theorem offV_good {l : List Smp} {ks : List Int} (h : keptErr l ks = 0) (i : Nat) (hh : hasI l (choOf l ks) i = true) : Sane (reconV (choOf l ks) (atS l i).t) ∧ (0 ≤ (offV l (choOf l ks) i).1 ∧ (offV l (choOf l ks) i).1 ≤ 4000000000000000000) ∧ (1 ≤ (offV l (choOf l ks) i).2 ∧ (offV l (choOf l ks) i).2 ≤ 345686400000) := by
  obtain ⟨hs, _, _, _, hr, hR⟩ := kept_good h
  simp only [hasI, Bool.and_eq_true] at hh
  have hsane := recon_sane _ _ hr hR hh.1
  exact ⟨hsane, (diffF_bounds hsane (serErr_vt hs i).1).2⟩

/-- What a round of Error keeps: the box of the greatest difference; the result's box; the series, the archived samples. -/
structure ErK (w0 : World) (bm : Nat) (v va : Value) (l K : List Smp) (m : Int × Int) (w : World) : Prop where
  br : Blk w w0.heap.size 57 #[.int .i64 0, .int .i64 0]
  bm : Blk w bm 57 #[.int .i64 m.1, .int .i64 m.2]
  rl : RdS w 71 v l
  ra : RdS w 71 va K
  bl : Below w0.heap.size w0 w
theorem ErK.step {w0 w w' : World} {bm : Nat} {v va : Value} {l K : List Smp} {m : Int × Int} (h : ErK w0 bm v va l K m w) (hb : Below w.heap.size w w') : ErK w0 bm v va l K m w' :=
  ⟨h.br.below hb h.br.lt, h.bm.below hb h.bm.lt, h.rl.below hb (Nat.le_refl _), h.ra.below hb (Nat.le_refl _), h.bl.trans (hb.mono h.bl.size)⟩
theorem ErK.alloc {w0 w : World} {bm : Nat} {v va : Value} {l K : List Smp} {m : Int × Int} (h : ErK w0 bm v va l K m w) (o : Obj) : ErK w0 bm v va l K m (w.alloc o) := h.step ((Below.refl _ w).alloc (Nat.le_refl _) o)
theorem Blk.set2 {w : World} {b : Nat} {t : TypeId} {x y : Value} (h : Blk w b t #[x, y]) (x' y' : Value) : Blk ((w.setCell ⟨b, 0, none⟩ x').setCell ⟨b, 1, none⟩ y') b t #[x', y'] := by
  unfold Blk at h ⊢
  simp [World.setCell, Array.getElem?_modify, h]
theorem ErK.setM {w0 w : World} {bm : Nat} {v va : Value} {l K : List Smp} {m : Int × Int} (h : ErK w0 bm v va l K m w) (hne : w0.heap.size < bm) (x : Int × Int) : ErK w0 bm v va l K x ((w.setCell ⟨bm, 0, none⟩ (.int .i64 x.1)).setCell ⟨bm, 1, none⟩ (.int .i64 x.2)) := by
  obtain ⟨cs, h3⟩ := h.bm.setSame (i := 0) (.int .i64 x.1)
  exact ⟨(h.br.setOther (by simp; omega) _).setOther (by simp; omega) _, h.bm.set2 _ _,
    Rd.setCell (Rd.setCell h.rl _ _ (h.bm.no (by decide))) _ _ (h3.no (by decide)), Rd.setCell (Rd.setCell h.ra _ _ (h.bm.no (by decide))) _ _ (h3.no (by decide)),
    (h.bl.setCell (by simp; omega) _).setCell (by simp; omega) _⟩

set_option maxRecDepth 100000 in
set_option maxHeartbeats 4000000 in
theorem error_any (v vk : Value) (l : List Smp) (ks : List Int) (w : World) (hR : RdS w 71 v l) (hK : RdI w vk ks) (hks : ks.length ≤ 100000) :
    Calls Try.prog 38 #[v, vk] w fun e w' => e = .returned (.tuple #[.agg #[.int .i64 (errF l ks).1, .int .i64 (errF l ks).2], .int .i64 (errI l ks), .int .i64 (errE l ks)]) ∧ Below w.heap.size w w' := by
  have hE : errE l ks = if keptErr l ks ≠ 0 then keptErr l ks else if bst l (choOf l ks) l.length < 0 then 8 else 0 := rfl
  have hF : errF l ks = if errE l ks = 0 then offV l (choOf l ks) (bst l (choOf l ks) l.length).toNat else (0, 0) := rfl
  have hI : errI l ks = if errE l ks = 0 then bst l (choOf l ks) l.length else 0 := rfl
  generalize errE l ks = E at *
  generalize errF l ks = F at *
  generalize errI l ks = I at *
  have HE := Lib.hid hE
  have HF := Lib.hid hF
  have HI := Lib.hid hI
  obtain ⟨pa, ca, rfl⟩ := hR.lenv
  have HR := Lib.hid hR
  have HK := Lib.hid hK
  have hB0 := Blk.new w 57 #[.int .i64 0, .int .i64 0]
  have hck := checkKept_any _ vk l ks (w.alloc (.cells #[.int .i64 0, .int .i64 0] 57)) (Rd.alloc hR _) (Rd.alloc hK _) hks
  have HB0 := Lib.hid hB0
  have HCK := Lib.hid hck
  clear hE hF hI hR hK hB0 hck
  go_enter Try.func38, Try.ntmps38
  go_wp2_with fail
  refine HCK.out.mono ?_
  rintro e w1 ⟨rfl, hb1⟩
  have hB1 := HB0.out.below hb1 (by simp)
  have hb01 : Below w.heap.size w w1 := ((Below.refl _ w).alloc (Nat.le_refl _) _).trans (hb1.mono (by simp))
  clear hb1
  by_cases hKE : keptErr l ks = 0
  · have hKE' : (keptErr l ks != 0) = false := by simpa using hKE
    have HKE := Lib.hid hKE
    obtain ⟨hs, hidx, hin, hle, hrise, hright⟩ := kept_good hKE
    have hlong := (serErr_good hs).1
    have hclen := choOf_length l ks
    have hsz := hb01.size
    have hlt1 := hB1.lt
    have HB1 := Lib.hid hB1
    have HB01 := Lib.hid hb01
    have HS := Lib.hid hs
    have HIN := Lib.hid hin
    have HRISE := Lib.hid hrise
    have HRIGHT := Lib.hid hright
    have HOG := Lib.hid (fun i hh => offV_good hKE i hh)
    clear hKE hs hidx hin hrise hright hB1 hb01
    go_wp2_with fail
    refine (chosen_any _ vk l ks _ (by exact Rd.alloc (HR.out.below HB01.out (Nat.le_refl _)) _) (by exact Rd.alloc (HK.out.below HB01.out (Nat.le_refl _)) _) hks HIN.out).mono ?_
    rintro e w2 ⟨va, rfl, hova, hb2⟩
    have hra : RdS w2 71 va (choOf l ks) := by
      have := Rd.of_own hova
      unfold RdS
      rw [hclen]
      exact this
    have hk2 : ErK w w1.heap.size (.slice pa l.length ca) va l (choOf l ks) (0, 0) w2 :=
      ⟨(HB1.out.alloc _).below hb2 (by simp; omega), (Blk.new w1 _ _).below hb2 (by simp), (RdS.below (Rd.alloc (HR.out.below HB01.out (Nat.le_refl _)) _) hb2 (Nat.le_refl _)), hra, (HB01.out.alloc hsz _).trans (hb2.mono (by simp; omega))⟩
    generalize choOf l ks = K at *
    have HK2 := Lib.hid hk2
    have hbr := bst_range l K
    have hbh := bst_has l K
    have hbs : ∀ j, bst l K (j + 1) = if hasI l K j = true ∧ (bst l K j < 0 ∨ lessF (offV l K (bst l K j).toNat) (offV l K j) = true) then (j : Int) else bst l K j := fun j => rfl
    have HBR := Lib.hid hbr
    have HBH := Lib.hid hbh
    have HBS := Lib.hid hbs
    clear hova hb2 hra hk2 hbr hbh hbs
    go_wp2_with fail
    go_loopw [9, 28] (fun si i wr => ∃ j : Nat, j ≤ l.length ∧ i = .int .i64 (j : Int) ∧ si = .int .i64 (bst l K j) ∧ ErK w w1.heap.size (.slice pa l.length ca) va l K (if bst l K j < 0 then (0, 0) else offV l K (bst l K j).toNat) wr) (fun _ i _ => l.length - (intOf i).toNat)
    case atStart => exact ⟨0, by omega, rfl, rfl, HK2.out⟩
    case round =>
      obtain ⟨j, hj, rfl, rfl, hk⟩ := hrel
      by_cases hlt : j < l.length
      · obtain ⟨b, off, c', hv, hc3, hc4, hblt, hcell⟩ := RdS.at_ hk.rl (by omega)
        cases hv
        unfold maxLen at hc4
        obtain ⟨z0, z1, z2⟩ := hcell j hlt
        have hst := HBS.out j
        have hhas : hasI l K j = (reconB K (atS l j).t && decide ((atS l j).q ≠ 2)) := rfl
        have hoff : offV l K j = diffF (atS l j).v (reconV K (atS l j).t) := rfl
        have hog := HOG.out j
        have hvt := (serErr_vt HS.out j).1
        have hre := reconstructed_any va K (atS l j).t _ (hk.alloc (.cells #[.int .i64 (atS l j).t, .int .i64 (atS l j).v, .int .i64 (atS l j).q] 71)).ra HRISE.out (by omega) HRIGHT.out
        have hks := hk.alloc (.cells #[.int .i64 (atS l j).t, .int .i64 (atS l j).v, .int .i64 (atS l j).q] 71)
        have hbs := Blk.new wr 71 #[.int .i64 (atS l j).t, .int .i64 (atS l j).v, .int .i64 (atS l j).q]
        have hbrj := HBR.out j
        have hbog : 0 ≤ bst l K j → hasI l K (bst l K j).toNat = true := HBH.out j
        have hog2 := HOG.out (bst l K j).toNat
        generalize hT : reconV K (atS l j).t = V at *
        generalize reconB K (atS l j).t = RB at *
        generalize atS l j = x at *
        generalize hOE : offV l K j = O at *
        generalize hasI l K j = HH at *
        generalize hB2E : bst l K (j + 1) = b2 at *
        generalize hasI l K (bst l K j).toNat = HB2 at *
        generalize hOBE : offV l K (bst l K j).toNat = OB at *
        generalize bst l K j = b1 at *
        have HOE := Lib.hid hOE
        have HB2E := Lib.hid hB2E
        have HOBE := Lib.hid hOBE
        have HST := Lib.hid hst
        have HHAS := Lib.hid hhas
        have HOFF := Lib.hid hoff
        have HOGJ := Lib.hid hog
        have HOGB := Lib.hid hog2
        have HBOG := Lib.hid hbog
        have HRE := Lib.hid hre
        have HKS := Lib.hid hks
        have HBSX := Lib.hid hbs
        clear hst hhas hoff hog hog2 hbog hre hks hbs hcell hk hT hOE hB2E hOBE
        go_wp2_with fail
        refine HRE.out.mono ?_
        rintro e w3 ⟨rfl, hb3⟩
        have hk3 := (HKS.out.step hb3).alloc (.cells #[.int .i64 V.1, .int .i64 V.2] 57)
        have hs3 := (HBSX.out.below hb3 (by simp)).alloc (.cells #[.int .i64 V.1, .int .i64 V.2] 57)
        have hv3 := Blk.new w3 57 #[.int .i64 V.1, .int .i64 V.2]
        have HK3 := Lib.hid hk3
        have HS3 := Lib.hid hs3
        have HV3 := Lib.hid hv3
        have s2 := hs3.cell 2
        clear hb3 hk3 hs3 hv3
        by_cases hRB : RB = true
        · subst hRB
          by_cases hq : x.q = 2
          · have hq' : (x.q == 2) = true := by simpa using hq
            have HB := Lib.hid (show b2 = b1 by rw [HST.out, HHAS.out, if_neg (by simp [hq])])
            clear hq
            go_wp2_with fail
            go_roundw
            case rel => exact ⟨j + 1, by omega, by go_num, by rw [HB2E.out, HB.out], by rw [HB2E.out, HB.out, HOBE.out]; exact HK3.out⟩
            case measure => simp [intOf]; omega
          · have hq' : (x.q == 2) = false := by simpa using hq
            have hHH : HH = true := by rw [HHAS.out]; simp [hq]
            obtain ⟨hsane, ho1, ho2⟩ := HOGJ.out hHH
            have hdf := fun w => difference_any x.v V w hsane hvt
            rw [← HOFF.out] at hdf
            have HDF := Lib.hid hdf
            have s1 := HS3.out.cell 1
            have v0 := HV3.out.cell 0
            have v1 := HV3.out.cell 1
            have HHT := Lib.hid hHH
            clear hq hHH hsane hdf
            go_wp2_with fail
            refine (HDF.out _).mono ?_
            rintro e w4 ⟨rfl, hb4⟩
            have hk4 := (HK3.out.step hb4).alloc (.cells #[.int .i64 O.1, .int .i64 O.2] 57)
            have ho4 := Blk.new w4 57 #[.int .i64 O.1, .int .i64 O.2]
            have HK4 := Lib.hid hk4
            have m0 := hk4.bm.cell 0
            have m1 := hk4.bm.cell 1
            have f0 := hk4.bm.frozen 0
            have f1 := hk4.bm.frozen 1
            have o0 := ho4.cell 0
            have o1 := ho4.cell 1
            clear hb4 hk4 s1 v0 v1 s2
            by_cases hneg : b1 < 0
            · have hneg' : decide (b1 < 0) = true := by simpa using hneg
              have HB := Lib.hid (show b2 = (j : Int) by rw [HST.out, if_pos ⟨HHT.out, .inl hneg⟩])
              have hko := HK4.out.setM hlt1 O
              have HKO := Lib.hid hko
              have HO4 := Lib.hid ho4
              rw [if_pos hneg] at m0 m1
              clear hneg hko ho4
              go_wp2_with fail
              go_roundw
              case rel => exact ⟨j + 1, by omega, by go_num, by rw [HB2E.out, HB.out], by rw [HB2E.out, HB.out, if_neg (by omega), Int.toNat_natCast, HOE.out]; exact HKO.out⟩
              case measure => simp [intOf]; omega
            · have hneg' : decide (b1 < 0) = false := by simpa using hneg
              obtain ⟨_, hp1, hp2⟩ := HOGB.out (HBOG.out (by omega))
              rw [if_neg hneg] at m0 m1
              have hn : ∃ a b c d : Nat, OB = ((a : Int), (b : Int)) ∧ O = ((c : Int), (d : Int)) := ⟨OB.1.toNat, OB.2.toNat, O.1.toNat, O.2.toNat, by ext <;> simp <;> omega, by ext <;> simp <;> omega⟩
              obtain ⟨na, nb, nc, nd, hOB, hO⟩ := hn
              have hls : ∀ w, Calls Try.prog 123 #[.agg #[.int .i64 OB.1, .int .i64 OB.2], .agg #[.int .i64 O.1, .int .i64 O.2]] w fun e w' => e = .returned (.bool (lessF OB O)) ∧ Below w.heap.size w w' := fun w => by
                have q1 : na ≤ 9223372036854775807 := by rw [hOB] at hp1; simp at hp1; omega
                have q2 : nb ≤ 9223372036854775807 := by rw [hOB] at hp2; simp at hp2; omega
                have q3 : nc ≤ 9223372036854775807 := by rw [hO] at ho1; simp at ho1; omega
                have q4 : nd ≤ 9223372036854775807 := by rw [hO] at ho2; simp at ho2; omega
                rw [hOB, hO, lessF_nat]
                exact less_any na nb nc nd w q1 q2 q3 q4
              have HLS := Lib.hid hls
              have hmm0 := m0
              have hmm1 := m1
              have HO4 := Lib.hid ho4
              have HNEG := Lib.hid hneg
              clear hls hOB hO hp1 hp2 ho1 ho2 hneg ho4
              go_wp2_with fail
              refine (HLS.out _).mono ?_
              rintro e w5 ⟨rfl, hb5⟩
              have hk5 := HK4.out.step hb5
              have ho5 := HO4.out.below hb5 (by simp)
              have HK5 := Lib.hid hk5
              have n0 := hk5.bm.cell 0
              have n1 := hk5.bm.cell 1
              have h0 := hk5.bm.frozen 0
              have h1 := hk5.bm.frozen 1
              have p0 := ho5.cell 0
              have p1 := ho5.cell 1
              rw [if_neg (show ¬ b1 < 0 by have := HNEG.out; omega)] at n0 n1
              have hbx : b2 = if lessF OB O = true then (j : Int) else b1 := by
                rw [HST.out]
                by_cases hlf : lessF OB O = true
                · rw [if_pos hlf, if_pos ⟨HHT.out, .inr hlf⟩]
                · rw [if_neg hlf, if_neg (fun h => h.2.elim (fun q => absurd q (by have := HNEG.out; omega)) hlf)]
              generalize lessF OB O = LB at *
              have HBX := Lib.hid hbx
              clear hb5 hk5 ho5 hbx m0 m1 f0 f1 o0 o1 hmm0 hmm1
              cases LB
              · have HB := Lib.hid (show b2 = b1 by rw [HBX.out, if_neg (by simp)])
                go_wp2_with fail
                go_roundw
                case rel => exact ⟨j + 1, by omega, by go_num, by rw [HB2E.out, HB.out], by rw [HB2E.out, HB.out, HOBE.out]; exact HK5.out⟩
                case measure => simp [intOf]; omega
              · have HB := Lib.hid (show b2 = (j : Int) by rw [HBX.out, if_pos rfl])
                have hko := HK5.out.setM hlt1 O
                have HKO := Lib.hid hko
                clear hko
                go_wp2_with fail
                go_roundw
                case rel => exact ⟨j + 1, by omega, by go_num, by rw [HB2E.out, HB.out], by rw [HB2E.out, HB.out, if_neg (by omega), Int.toNat_natCast, HOE.out]; exact HKO.out⟩
                case measure => simp [intOf]; omega
        · have hRB' : RB = false := by simpa using hRB
          subst hRB'
          have HB := Lib.hid (show b2 = b1 by rw [HST.out, HHAS.out, if_neg (by simp)])
          clear hRB
          go_wp2_with fail
          go_roundw
          case rel => exact ⟨j + 1, by omega, by go_num, by rw [HB2E.out, HB.out], by rw [HB2E.out, HB.out, HOBE.out]; exact HK3.out⟩
          case measure => simp [intOf]; omega
      · obtain rfl : j = l.length := by omega
        have r0 := hk.br.cell 0
        have r1 := hk.br.cell 1
        have g0 := hk.br.frozen 0
        have g1 := hk.br.frozen 1
        have b0 := hk.bm.cell 0
        have b1 := hk.bm.cell 1
        have hbl := hk.bl
        generalize bst l K l.length = bb at *
        by_cases hneg : bb < 0
        · have hneg' : decide (bb < 0) = true := by simpa using hneg
          have hE0 : E = 8 := by rw [HE.out, if_neg (by rw [HKE.out]; simp), if_pos hneg]
          have hF0 : F = (0, 0) := by rw [HF.out, if_neg (by omega)]
          have hI0 : I = 0 := by rw [HI.out, if_neg (by omega)]
          have H3 := Lib.hid (And.intro hE0 (And.intro hF0 hI0))
          clear hneg hE0 hF0 hI0 hk b0 b1
          go_wp2_with fail
          refine bodyPost_ret (v := .tuple #[.agg #[.int .i64 0, .int .i64 0], .int .i64 0, .int .i64 8]) (by simp [results, Try.results38, go_sem, r0, r1]) rfl ⟨by rw [H3.out.1, H3.out.2.1, H3.out.2.2], ?_⟩
          exact hbl.trans (by (repeat (refine Below.setCell ?_ (by exact Nat.le_refl _) _)); exact Below.refl _ _)
        · have hneg' : decide (bb < 0) = false := by simpa using hneg
          have hE0 : E = 0 := by rw [HE.out, if_neg (by rw [HKE.out]; simp), if_neg hneg]
          have hF0 : F = offV l K bb.toNat := by rw [HF.out, if_pos hE0]
          have hI0 : I = bb := by rw [HI.out, if_pos hE0]
          have H3 := Lib.hid (And.intro hE0 (And.intro hF0 hI0))
          rw [if_neg hneg] at b0 b1
          generalize offV l K bb.toNat = OF at *
          clear hneg hE0 hF0 hI0 hk
          go_wp2_with fail
          refine bodyPost_ret (v := .tuple #[.agg #[.int .i64 OF.1, .int .i64 OF.2], .int .i64 bb, .int .i64 0]) (by simp [results, Try.results38, go_sem, r0, r1]) rfl ⟨by rw [H3.out.1, H3.out.2.1, H3.out.2.2], ?_⟩
          exact hbl.trans (by (repeat (refine Below.setCell ?_ (by exact Nat.le_refl _) _)); exact Below.refl _ _)
  · have hKE' : (keptErr l ks != 0) = true := by simpa using hKE
    have hE0 : E = keptErr l ks := by rw [HE.out, if_pos hKE]
    have hF0 : F = (0, 0) := by rw [HF.out, if_neg (by rw [hE0]; exact hKE)]
    have hI0 : I = 0 := by rw [HI.out, if_neg (by rw [hE0]; exact hKE)]
    have H3 := Lib.hid (And.intro hE0 (And.intro hF0 hI0))
    have r0 := hB1.cell 0
    have r1 := hB1.cell 1
    have g0 := hB1.frozen 0
    have g1 := hB1.frozen 1
    clear hKE hE0 hF0 hI0 hB1
    go_wp2_with fail
    refine bodyPost_ret (v := .tuple #[.agg #[.int .i64 0, .int .i64 0], .int .i64 0, .int .i64 (keptErr l ks)]) (by simp [results, Try.results38, go_sem, r0, r1]) rfl ⟨by rw [H3.out.1, H3.out.2.1, H3.out.2.2], ?_⟩
    exact hb01.trans (by (repeat (refine Below.setCell ?_ (by exact Nat.le_refl _) _)); exact Below.refl _ _)
end Go.Proofs.Ytblbfpokkpkcjaa
