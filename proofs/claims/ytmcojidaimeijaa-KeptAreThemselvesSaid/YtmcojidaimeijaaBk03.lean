import Derived.Test.YtmcojidaimeijaaBk02
import Derived.Test.YtmcojidaimeijaaRecon
import Derived.Deep.RegionHeld3
import Derived.Test.YtmcojidaimeijaaApp
/- The contracts of difference and Error (package compress). -/

namespace Go.Proofs.Ytmcojidaimeijaa
open Go.RowKit
set_option linter.unusedVariables false
set_option linter.unusedSimpArgs false

/-- By how much an integer and a fraction differ. -/
def diffF (n : Int) (f : Int × Int) : Int × Int := (dist (n * f.2) f.1, f.2)
/-- Numbers of a reconstruction. -/
def Sane (f : Int × Int) : Prop := (-2000000000000000000 ≤ f.1 ∧ f.1 ≤ 2000000000000000000) ∧ (1 ≤ f.2 ∧ f.2 ≤ 345686400000) ∧ Int.gcd f.1 f.2 = 1

theorem fracOf_gcd (n d : Int) (hd : 0 < d) : Int.gcd (fracOf n d).1 (fracOf n d).2 = 1 := by
  have h0 : 0 < Int.gcd n d := Int.gcd_pos_of_ne_zero_right _ (by omega)
  exact Int.gcd_ediv_gcd_ediv_gcd h0
theorem lineAt_sane (p n : Smp) (t : Int) (hp : Right p) (hn : Right n) (hpn : p.t < n.t) (ht : p.t ≤ t ∧ t ≤ n.t) : Sane (lineAt p n t) := by
  obtain ⟨⟨p1, p2⟩, p3, p4⟩ := hp
  obtain ⟨⟨n1, n2⟩, n3, n4⟩ := hn
  have hm1 := mul_bound p.v (n.t - p.t) 1000000 345686400000 (by omega) (by omega)
  have hm2 := mul_bound (n.v - p.v) (t - p.t) 2000000 345686400000 (by omega) (by omega)
  unfold lineAt
  obtain ⟨hg0, hg1, hg2⟩ := frac_parts (p.v * (n.t - p.t) + (n.v - p.v) * (t - p.t)) (n.t - p.t) (by omega)
  have hb1 := tdiv_bound (p.v * (n.t - p.t) + (n.v - p.v) * (t - p.t)) _ hg0
  have hb2 := tdiv_bound (n.t - p.t) _ hg0
  have hgg := fracOf_gcd (p.v * (n.t - p.t) + (n.v - p.v) * (t - p.t)) (n.t - p.t) (by omega)
  have hpos : 0 < (fracOf (p.v * (n.t - p.t) + (n.v - p.v) * (t - p.t)) (n.t - p.t)).2 := by
    unfold fracOf
    exact Int.ediv_pos_of_pos_of_dvd (by omega) (by omega) (Int.gcd_dvd_right ..)
  rw [hg1] at hb1
  rw [hg2] at hb2
  exact ⟨by omega, by omega, hgg⟩
theorem recon_sane (l : List Smp) (t : Int) (h : Rise none l) (hr : ∀ i, i < l.length → Right (atS l i)) (hb : reconB l t = true) : Sane (reconV l t) := by
  have hpa := pos_around l t h
  unfold reconB reconV reconOf at *
  have hql := posF_le l t
  generalize posF l t = q at *
  split at hb
  · simp at hb
  · rename_i h1
    rw [if_neg h1]
    have hq : q < l.length := by omega
    split at hb
    · rename_i h2
      rw [if_pos h2]
      have := hr q hq
      obtain ⟨_, h3, h4⟩ := this
      refine ⟨by simp; omega, by simp, by simp [Int.gcd]⟩
    · rename_i h2
      rw [if_neg h2]
      split at hb
      · simp at hb
      · rename_i h3
        rw [if_neg h3]
        have h4 := hpa.1 (q - 1) (by omega) (by omega)
        have h5 := hpa.2 hq
        exact lineAt_sane _ _ _ (hr _ (by omega)) (hr _ hq) (by omega) (by omega)
theorem diffF_bounds {n : Int} {f : Int × Int} (hf : Sane f) (hn : -1000000 ≤ n ∧ n ≤ 1000000) : (-1000000000000000000 ≤ n * f.2 ∧ n * f.2 ≤ 1000000000000000000) ∧ (0 ≤ (diffF n f).1 ∧ (diffF n f).1 ≤ 4000000000000000000) ∧ (1 ≤ (diffF n f).2 ∧ (diffF n f).2 ≤ 345686400000) := by
  obtain ⟨h1, h2, _⟩ := hf
  have hm := mul_bound n f.2 1000000 345686400000 (by omega) (by omega)
  unfold diffF dist
  simp only
  refine ⟨by omega, ?_, h2⟩
  split <;> omega

set_option maxRecDepth 100000 in
set_option maxHeartbeats 2000000 in
theorem difference_walk (n a b M D : Int) (w : World) (hM : IntKind.i64.wrap (n * b) = M) (hd : ∀ w, Calls Try.prog 109 #[.int .i64 M, .int .i64 a] w fun e w' => e = .returned (.int .i64 D) ∧ w = w') :
    Calls Try.prog 75 #[.int .i64 n, .agg #[.int .i64 a, .int .i64 b]] w fun e w' => e = .returned (.agg #[.int .i64 D, .int .i64 b]) ∧ Below w.heap.size w w' := by
  have c0 : ((w.alloc (.cells #[.int .i64 a, .int .i64 b] 35)).alloc (.cells #[.int .i64 0, .int .i64 0] 35)).cell? ⟨w.heap.size, 0, none⟩ = some (.int .i64 a) := ((Blk.new w 35 #[.int .i64 a, .int .i64 b]).alloc (.cells #[.int .i64 0, .int .i64 0] 35)).cell 0
  have c1 : ((w.alloc (.cells #[.int .i64 a, .int .i64 b] 35)).alloc (.cells #[.int .i64 0, .int .i64 0] 35)).cell? ⟨w.heap.size, 1, none⟩ = some (.int .i64 b) := ((Blk.new w 35 #[.int .i64 a, .int .i64 b]).alloc (.cells #[.int .i64 0, .int .i64 0] 35)).cell 1
  have hbw : Below w.heap.size w ((w.alloc (.cells #[.int .i64 a, .int .i64 b] 35)).alloc (.cells #[.int .i64 0, .int .i64 0] 35)) := ((Below.refl _ w).alloc (Nat.le_refl _) _).alloc (by simp) _
  have HBW := Lib.hid hbw
  have HDD := Lib.hid hd
  clear hd hbw
  go_enter Try.func75, Try.ntmps75
  go_wp2_with fail
  go_region_with (first | (go_at_call 109; refine (HDD.out _).mono ?_; rintro e wk ⟨rfl, rfl⟩))
  all_goals
    go_wp2_with fail
    refine bodyPost_ret (v := .agg #[.int .i64 D, .int .i64 b]) (by simp [results, Try.results75, go_sem]) rfl ⟨rfl, ?_⟩
    exact bdrewN (((Below.refl _ w).alloc (Nat.le_refl _) _).alloc (by simp) _) 1
theorem difference_any (n : Int) (f : Int × Int) (w : World) (hf : Sane f) (hn : -1000000 ≤ n ∧ n ≤ 1000000) :
    Calls Try.prog 75 #[.int .i64 n, .agg #[.int .i64 f.1, .int .i64 f.2]] w fun e w' => e = .returned (.agg #[.int .i64 (diffF n f).1, .int .i64 (diffF n f).2]) ∧ Below w.heap.size w w' := by
  have hb := diffF_bounds hf hn
  have h1 := hf.1
  exact difference_walk n f.1 f.2 (n * f.2) (diffF n f).1 w (IntWalk.i64_in _ (by omega)) (fun w => distance_any (n * f.2) f.1 w (by omega) (by omega))
end Go.Proofs.Ytmcojidaimeijaa

/- The contract of Error (package compress). -/

namespace Go.Proofs.Ytmcojidaimeijaa
open Go.RowKit
set_option linter.unusedVariables false
set_option linter.unusedSimpArgs false

/-- Sample i of l against the archived samples K: is there a reconstruction, and by how much is it off. -/
def hasI (l K : List Smp) (i : Nat) : Bool := reconB K (atS l i).t && decide ((atS l i).q ≠ 2)
def offV (l K : List Smp) (i : Nat) : Int × Int := diffF (atS l i).v (reconV K (atS l i).t)
/-- The index of the greatest one among the first j; -1 for none. -/
def bst (l K : List Smp) : Nat → Int
  | 0 => -1
  | j + 1 => if hasI l K j = true ∧ (bst l K j < 0 ∨ lessF (offV l K (bst l K j).toNat) (offV l K j) = true) then (j : Int) else bst l K j
theorem bst_range (l K : List Smp) (j : Nat) : -1 ≤ bst l K j ∧ bst l K j < j := by
  induction j with
  | zero => simp [bst]
  | succ j ih =>
    simp only [bst]
    split <;> omega
theorem bst_has (l K : List Smp) (j : Nat) (h : 0 ≤ bst l K j) : hasI l K (bst l K j).toNat = true := by
  induction j with
  | zero => simp [bst] at h
  | succ j ih =>
    simp only [bst] at h ⊢
    split
    · rename_i h1; simpa using h1.1
    · rename_i h1
      rw [if_neg h1] at h
      exact ih h
/-- What Error returns: the fraction, the index, the error. -/
def errE (l : List Smp) (ks : List Int) : Int := if keptErr l ks ≠ 0 then keptErr l ks else if bst l (choOf l ks) l.length < 0 then 8 else 0
def errF (l : List Smp) (ks : List Int) : Int × Int := if errE l ks = 0 then offV l (choOf l ks) (bst l (choOf l ks) l.length).toNat else (0, 0)
def errI (l : List Smp) (ks : List Int) : Int := if errE l ks = 0 then bst l (choOf l ks) l.length else 0

/-- What the checks say of the samples and of those that are chosen. -/
theorem kept_good {l : List Smp} {ks : List Int} (h : keptErr l ks = 0) : serErr l = 0 ∧ idxErr l.length ks = 0 ∧ Inside l.length ks ∧ ks.length ≤ l.length ∧ Rise none (choOf l ks) ∧ (∀ i, i < (choOf l ks).length → Right (atS (choOf l ks) i)) := by
  unfold keptErr at h
  split at h
  · rename_i h1; exact absurd h h1
  · rename_i h1
    have hs : serErr l = 0 := by simpa using h1
    obtain ⟨hle, hin⟩ := idxErr_inside h
    have hfrom : idxFrom l.length none ks = 0 := by unfold idxErr at h; rw [if_neg (by omega)] at h; exact h
    refine ⟨hs, h, hin, hle, choOf_rise (serErr_rise hs) hfrom (fun t ht => by cases ht), fun i hi => ?_⟩
    rw [choOf_length] at hi
    have e : atS (choOf l ks) i = atS l (ks[i]).toNat := by simp [atS, List.getD_eq_getElem?_getD, choOf_get l ks i hi]
    rw [e]
    exact ⟨(serErr_vt hs _).2, (serErr_vt hs _).1⟩
theorem offV_good {l : List Smp} {ks : List Int} (h : keptErr l ks = 0) (i : Nat) (hh : hasI l (choOf l ks) i = true) : Sane (reconV (choOf l ks) (atS l i).t) ∧ (0 ≤ (offV l (choOf l ks) i).1 ∧ (offV l (choOf l ks) i).1 ≤ 4000000000000000000) ∧ (1 ≤ (offV l (choOf l ks) i).2 ∧ (offV l (choOf l ks) i).2 ≤ 345686400000) := by
  obtain ⟨hs, _, _, _, hr, hR⟩ := kept_good h
  simp only [hasI, Bool.and_eq_true] at hh
  have hsane := recon_sane _ _ hr hR hh.1
  exact ⟨hsane, (diffF_bounds hsane (serErr_vt hs i).1).2⟩

/-- What a round of Error keeps: the box of the greatest difference; the result's box; the series, the archived samples. -/
structure ErK (w0 : World) (bm : Nat) (v va : Value) (l K : List Smp) (m : Int × Int) (w : World) : Prop where
  br : Blk w w0.heap.size 35 #[.int .i64 0, .int .i64 0]
  bm : Blk w bm 35 #[.int .i64 m.1, .int .i64 m.2]
  rl : RdS w 57 v l
  ra : RdS w 57 va K
  bl : Below w0.heap.size w0 w
theorem ErK.step {w0 w w' : World} {bm : Nat} {v va : Value} {l K : List Smp} {m : Int × Int} (h : ErK w0 bm v va l K m w) (hb : Below w.heap.size w w') : ErK w0 bm v va l K m w' :=
  ⟨h.br.below hb h.br.lt, h.bm.below hb h.bm.lt, h.rl.below hb (Nat.le_refl _), h.ra.below hb (Nat.le_refl _), h.bl.trans (hb.mono h.bl.size)⟩
theorem ErK.alloc {w0 w : World} {bm : Nat} {v va : Value} {l K : List Smp} {m : Int × Int} (h : ErK w0 bm v va l K m w) (o : Obj) : ErK w0 bm v va l K m (w.alloc o) := h.step ((Below.refl _ w).alloc (Nat.le_refl _) o)
theorem Blk.set2 {w : World} {b : Nat} {t : TypeId} {x y : Value} (h : Blk w b t #[x, y]) (x' y' : Value) : Blk ((w.setCell ⟨b, 0, none⟩ x').setCell ⟨b, 1, none⟩ y') b t #[x', y'] := by
  unfold Blk at h ⊢
  simp [World.setCell, Array.getElem?_modify, h]
theorem ErK.setM {w0 w : World} {bm : Nat} {v va : Value} {l K : List Smp} {m : Int × Int} (h : ErK w0 bm v va l K m w) (hne : w0.heap.size < bm) (x : Int × Int) : ErK w0 bm v va l K x ((w.setCell ⟨bm, 0, none⟩ (.int .i64 x.1)).setCell ⟨bm, 1, none⟩ (.int .i64 x.2)) := by
  obtain ⟨cs, h3⟩ := h.bm.setSame (i := 0) (.int .i64 x.1)
  exact ⟨(h.br.setOther (by simp; omega) _).setOther (by simp; omega) _, h.bm.set2 _ _,
    Rd.setCell (Rd.setCell h.rl _ _ (h.bm.no (by decide))) _ _ (h3.no (by decide)), Rd.setCell (Rd.setCell h.ra _ _ (h.bm.no (by decide))) _ _ (h3.no (by decide)),
    (h.bl.setCell (by simp; omega) _).setCell (by simp; omega) _⟩

set_option maxRecDepth 100000 in
set_option maxHeartbeats 4000000 in
theorem error_any (v vk : Value) (l : List Smp) (ks : List Int) (w : World) (hR : RdS w 57 v l) (hK : RdI w vk ks) (hks : ks.length ≤ 100000) :
    Calls Try.prog 31 #[v, vk] w fun e w' => e = .returned (.tuple #[.agg #[.int .i64 (errF l ks).1, .int .i64 (errF l ks).2], .int .i64 (errI l ks), .int .i64 (errE l ks)]) ∧ Below w.heap.size w w' := by
  have hE : errE l ks = if keptErr l ks ≠ 0 then keptErr l ks else if bst l (choOf l ks) l.length < 0 then 8 else 0 := rfl
  have hF : errF l ks = if errE l ks = 0 then offV l (choOf l ks) (bst l (choOf l ks) l.length).toNat else (0, 0) := rfl
  have hI : errI l ks = if errE l ks = 0 then bst l (choOf l ks) l.length else 0 := rfl
  generalize errE l ks = E at *
  generalize errF l ks = F at *
  generalize errI l ks = I at *
  have HE := Lib.hid hE
  have HF := Lib.hid hF
  have HI := Lib.hid hI
  obtain ⟨pa, ca, rfl⟩ := hR.lenv
  have HR := Lib.hid hR
  have HK := Lib.hid hK
  have hB0 := Blk.new w 35 #[.int .i64 0, .int .i64 0]
  have hck := checkKept_any _ vk l ks (w.alloc (.cells #[.int .i64 0, .int .i64 0] 35)) (Rd.alloc hR _) (Rd.alloc hK _) hks
  have HB0 := Lib.hid hB0
  have HCK := Lib.hid hck
  clear hE hF hI hR hK hB0 hck
  go_enter Try.func31, Try.ntmps31
  go_wp2_with fail
  refine HCK.out.mono ?_
  rintro e w1 ⟨rfl, hb1⟩
  have hB1 := HB0.out.below hb1 (by simp)
  have hb01 : Below w.heap.size w w1 := ((Below.refl _ w).alloc (Nat.le_refl _) _).trans (hb1.mono (by simp))
  clear hb1
  by_cases hKE : keptErr l ks = 0
  · have hKE' : (keptErr l ks != 0) = false := by simpa using hKE
    have HKE := Lib.hid hKE
    obtain ⟨hs, hidx, hin, hle, hrise, hright⟩ := kept_good hKE
    have hlong := (serErr_good hs).1
    have hclen := choOf_length l ks
    have hsz := hb01.size
    have hlt1 := hB1.lt
    have HB1 := Lib.hid hB1
    have HB01 := Lib.hid hb01
    have HS := Lib.hid hs
    have HIN := Lib.hid hin
    have HRISE := Lib.hid hrise
    have HRIGHT := Lib.hid hright
    have HOG := Lib.hid (fun i hh => offV_good hKE i hh)
    clear hKE hs hidx hin hrise hright hB1 hb01
    go_wp2_with fail
    refine (chosen_any _ vk l ks _ (by exact Rd.alloc (HR.out.below HB01.out (Nat.le_refl _)) _) (by exact Rd.alloc (HK.out.below HB01.out (Nat.le_refl _)) _) hks HIN.out).mono ?_
    rintro e w2 ⟨va, rfl, hova, hb2⟩
    have hra : RdS w2 57 va (choOf l ks) := by
      have := Rd.of_own hova
      unfold RdS
      rw [hclen]
      exact this
    have hk2 : ErK w w1.heap.size (.slice pa l.length ca) va l (choOf l ks) (0, 0) w2 :=
      ⟨(HB1.out.alloc _).below hb2 (by simp; omega), (Blk.new w1 _ _).below hb2 (by simp), (RdS.below (Rd.alloc (HR.out.below HB01.out (Nat.le_refl _)) _) hb2 (Nat.le_refl _)), hra, (HB01.out.alloc hsz _).trans (hb2.mono (by simp; omega))⟩
    generalize choOf l ks = K at *
    have HK2 := Lib.hid hk2
    have hbr := bst_range l K
    have hbh := bst_has l K
    have hbs : ∀ j, bst l K (j + 1) = if hasI l K j = true ∧ (bst l K j < 0 ∨ lessF (offV l K (bst l K j).toNat) (offV l K j) = true) then (j : Int) else bst l K j := fun j => rfl
    have HBR := Lib.hid hbr
    have HBH := Lib.hid hbh
    have HBS := Lib.hid hbs
    clear hova hb2 hra hk2 hbr hbh hbs
    go_wp2_with fail
    go_loopw [9, 28] (fun si i wr => ∃ j : Nat, j ≤ l.length ∧ i = .int .i64 (j : Int) ∧ si = .int .i64 (bst l K j) ∧ ErK w w1.heap.size (.slice pa l.length ca) va l K (if bst l K j < 0 then (0, 0) else offV l K (bst l K j).toNat) wr) (fun _ i _ => l.length - (intOf i).toNat)
    case atStart => exact ⟨0, by omega, rfl, rfl, HK2.out⟩
    case round =>
      obtain ⟨j, hj, rfl, rfl, hk⟩ := hrel
      by_cases hlt : j < l.length
      · obtain ⟨b, off, c', hv, hc3, hc4, hblt, hcell⟩ := RdS.at_ hk.rl (by omega)
        cases hv
        unfold maxLen at hc4
        obtain ⟨z0, z1, z2⟩ := hcell j hlt
        have hst := HBS.out j
        have hhas : hasI l K j = (reconB K (atS l j).t && decide ((atS l j).q ≠ 2)) := rfl
        have hoff : offV l K j = diffF (atS l j).v (reconV K (atS l j).t) := rfl
        have hog := HOG.out j
        have hvt := (serErr_vt HS.out j).1
        have hre := reconstructed_any va K (atS l j).t _ (hk.alloc (.cells #[.int .i64 (atS l j).t, .int .i64 (atS l j).v, .int .i64 (atS l j).q] 57)).ra HRISE.out (by omega) HRIGHT.out
        have hks := hk.alloc (.cells #[.int .i64 (atS l j).t, .int .i64 (atS l j).v, .int .i64 (atS l j).q] 57)
        have hbs := Blk.new wr 57 #[.int .i64 (atS l j).t, .int .i64 (atS l j).v, .int .i64 (atS l j).q]
        have hbrj := HBR.out j
        have hbog : 0 ≤ bst l K j → hasI l K (bst l K j).toNat = true := HBH.out j
        have hog2 := HOG.out (bst l K j).toNat
        generalize hT : reconV K (atS l j).t = V at *
        generalize reconB K (atS l j).t = RB at *
        generalize atS l j = x at *
        generalize hOE : offV l K j = O at *
        generalize hasI l K j = HH at *
        generalize hB2E : bst l K (j + 1) = b2 at *
        generalize hasI l K (bst l K j).toNat = HB2 at *
        generalize hOBE : offV l K (bst l K j).toNat = OB at *
        generalize bst l K j = b1 at *
        have HOE := Lib.hid hOE
        have HB2E := Lib.hid hB2E
        have HOBE := Lib.hid hOBE
        have HST := Lib.hid hst
        have HHAS := Lib.hid hhas
        have HOFF := Lib.hid hoff
        have HOGJ := Lib.hid hog
        have HOGB := Lib.hid hog2
        have HBOG := Lib.hid hbog
        have HRE := Lib.hid hre
        have HKS := Lib.hid hks
        have HBSX := Lib.hid hbs
        clear hst hhas hoff hog hog2 hbog hre hks hbs hcell hk hT hOE hB2E hOBE
        go_wp2_with fail
        refine HRE.out.mono ?_
        rintro e w3 ⟨rfl, hb3⟩
        have hk3 := (HKS.out.step hb3).alloc (.cells #[.int .i64 V.1, .int .i64 V.2] 35)
        have hs3 := (HBSX.out.below hb3 (by simp)).alloc (.cells #[.int .i64 V.1, .int .i64 V.2] 35)
        have hv3 := Blk.new w3 35 #[.int .i64 V.1, .int .i64 V.2]
        have HK3 := Lib.hid hk3
        have HS3 := Lib.hid hs3
        have HV3 := Lib.hid hv3
        have s2 := hs3.cell 2
        clear hb3 hk3 hs3 hv3
        by_cases hRB : RB = true
        · subst hRB
          by_cases hq : x.q = 2
          · have hq' : (x.q == 2) = true := by simpa using hq
            have HB := Lib.hid (show b2 = b1 by rw [HST.out, HHAS.out, if_neg (by simp [hq])])
            clear hq
            go_wp2_with fail
            go_roundw
            case rel => exact ⟨j + 1, by omega, by go_num, by rw [HB2E.out, HB.out], by rw [HB2E.out, HB.out, HOBE.out]; exact HK3.out⟩
            case measure => simp [intOf]; omega
          · have hq' : (x.q == 2) = false := by simpa using hq
            have hHH : HH = true := by rw [HHAS.out]; simp [hq]
            obtain ⟨hsane, ho1, ho2⟩ := HOGJ.out hHH
            have hdf := fun w => difference_any x.v V w hsane hvt
            rw [← HOFF.out] at hdf
            have HDF := Lib.hid hdf
            have s1 := HS3.out.cell 1
            have v0 := HV3.out.cell 0
            have v1 := HV3.out.cell 1
            have HHT := Lib.hid hHH
            clear hq hHH hsane hdf
            go_wp2_with fail
            refine (HDF.out _).mono ?_
            rintro e w4 ⟨rfl, hb4⟩
            have hk4 := (HK3.out.step hb4).alloc (.cells #[.int .i64 O.1, .int .i64 O.2] 35)
            have ho4 := Blk.new w4 35 #[.int .i64 O.1, .int .i64 O.2]
            have HK4 := Lib.hid hk4
            have m0 := hk4.bm.cell 0
            have m1 := hk4.bm.cell 1
            have f0 := hk4.bm.frozen 0
            have f1 := hk4.bm.frozen 1
            have o0 := ho4.cell 0
            have o1 := ho4.cell 1
            clear hb4 hk4 s1 v0 v1 s2
            by_cases hneg : b1 < 0
            · have hneg' : decide (b1 < 0) = true := by simpa using hneg
              have HB := Lib.hid (show b2 = (j : Int) by rw [HST.out, if_pos ⟨HHT.out, .inl hneg⟩])
              have hko := HK4.out.setM hlt1 O
              have HKO := Lib.hid hko
              have HO4 := Lib.hid ho4
              rw [if_pos hneg] at m0 m1
              clear hneg hko ho4
              go_wp2_with fail
              go_roundw
              case rel => exact ⟨j + 1, by omega, by go_num, by rw [HB2E.out, HB.out], by rw [HB2E.out, HB.out, if_neg (by omega), Int.toNat_natCast, HOE.out]; exact HKO.out⟩
              case measure => simp [intOf]; omega
            · have hneg' : decide (b1 < 0) = false := by simpa using hneg
              obtain ⟨_, hp1, hp2⟩ := HOGB.out (HBOG.out (by omega))
              rw [if_neg hneg] at m0 m1
              have hn : ∃ a b c d : Nat, OB = ((a : Int), (b : Int)) ∧ O = ((c : Int), (d : Int)) := ⟨OB.1.toNat, OB.2.toNat, O.1.toNat, O.2.toNat, by ext <;> simp <;> omega, by ext <;> simp <;> omega⟩
              obtain ⟨na, nb, nc, nd, hOB, hO⟩ := hn
              have hls : ∀ w, Calls Try.prog 76 #[.agg #[.int .i64 OB.1, .int .i64 OB.2], .agg #[.int .i64 O.1, .int .i64 O.2]] w fun e w' => e = .returned (.bool (lessF OB O)) ∧ Below w.heap.size w w' := fun w => by
                have q1 : na ≤ 9223372036854775807 := by rw [hOB] at hp1; simp at hp1; omega
                have q2 : nb ≤ 9223372036854775807 := by rw [hOB] at hp2; simp at hp2; omega
                have q3 : nc ≤ 9223372036854775807 := by rw [hO] at ho1; simp at ho1; omega
                have q4 : nd ≤ 9223372036854775807 := by rw [hO] at ho2; simp at ho2; omega
                rw [hOB, hO, lessF_nat]
                exact less_any na nb nc nd w q1 q2 q3 q4
              have HLS := Lib.hid hls
              have hmm0 := m0
              have hmm1 := m1
              have HO4 := Lib.hid ho4
              have HNEG := Lib.hid hneg
              clear hls hOB hO hp1 hp2 ho1 ho2 hneg ho4
              go_wp2_with fail
              refine (HLS.out _).mono ?_
              rintro e w5 ⟨rfl, hb5⟩
              have hk5 := HK4.out.step hb5
              have ho5 := HO4.out.below hb5 (by simp)
              have HK5 := Lib.hid hk5
              have n0 := hk5.bm.cell 0
              have n1 := hk5.bm.cell 1
              have h0 := hk5.bm.frozen 0
              have h1 := hk5.bm.frozen 1
              have p0 := ho5.cell 0
              have p1 := ho5.cell 1
              rw [if_neg (show ¬ b1 < 0 by have := HNEG.out; omega)] at n0 n1
              have hbx : b2 = if lessF OB O = true then (j : Int) else b1 := by
                rw [HST.out]
                by_cases hlf : lessF OB O = true
                · rw [if_pos hlf, if_pos ⟨HHT.out, .inr hlf⟩]
                · rw [if_neg hlf, if_neg (fun h => h.2.elim (fun q => absurd q (by have := HNEG.out; omega)) hlf)]
              generalize lessF OB O = LB at *
              have HBX := Lib.hid hbx
              clear hb5 hk5 ho5 hbx m0 m1 f0 f1 o0 o1 hmm0 hmm1
              cases LB
              · have HB := Lib.hid (show b2 = b1 by rw [HBX.out, if_neg (by simp)])
                go_wp2_with fail
                go_roundw
                case rel => exact ⟨j + 1, by omega, by go_num, by rw [HB2E.out, HB.out], by rw [HB2E.out, HB.out, HOBE.out]; exact HK5.out⟩
                case measure => simp [intOf]; omega
              · have HB := Lib.hid (show b2 = (j : Int) by rw [HBX.out, if_pos rfl])
                have hko := HK5.out.setM hlt1 O
                have HKO := Lib.hid hko
                clear hko
                go_wp2_with fail
                go_roundw
                case rel => exact ⟨j + 1, by omega, by go_num, by rw [HB2E.out, HB.out], by rw [HB2E.out, HB.out, if_neg (by omega), Int.toNat_natCast, HOE.out]; exact HKO.out⟩
                case measure => simp [intOf]; omega
        · have hRB' : RB = false := by simpa using hRB
          subst hRB'
          have HB := Lib.hid (show b2 = b1 by rw [HST.out, HHAS.out, if_neg (by simp)])
          clear hRB
          go_wp2_with fail
          go_roundw
          case rel => exact ⟨j + 1, by omega, by go_num, by rw [HB2E.out, HB.out], by rw [HB2E.out, HB.out, HOBE.out]; exact HK3.out⟩
          case measure => simp [intOf]; omega
      · obtain rfl : j = l.length := by omega
        have r0 := hk.br.cell 0
        have r1 := hk.br.cell 1
        have g0 := hk.br.frozen 0
        have g1 := hk.br.frozen 1
        have b0 := hk.bm.cell 0
        have b1 := hk.bm.cell 1
        have hbl := hk.bl
        generalize bst l K l.length = bb at *
        by_cases hneg : bb < 0
        · have hneg' : decide (bb < 0) = true := by simpa using hneg
          have hE0 : E = 8 := by rw [HE.out, if_neg (by rw [HKE.out]; simp), if_pos hneg]
          have hF0 : F = (0, 0) := by rw [HF.out, if_neg (by omega)]
          have hI0 : I = 0 := by rw [HI.out, if_neg (by omega)]
          have H3 := Lib.hid (And.intro hE0 (And.intro hF0 hI0))
          clear hneg hE0 hF0 hI0 hk b0 b1
          go_wp2_with fail
          refine bodyPost_ret (v := .tuple #[.agg #[.int .i64 0, .int .i64 0], .int .i64 0, .int .i64 8]) (by simp [results, Try.results31, go_sem, r0, r1]) rfl ⟨by rw [H3.out.1, H3.out.2.1, H3.out.2.2], ?_⟩
          exact hbl.trans (by (repeat (refine Below.setCell ?_ (by exact Nat.le_refl _) _)); exact Below.refl _ _)
        · have hneg' : decide (bb < 0) = false := by simpa using hneg
          have hE0 : E = 0 := by rw [HE.out, if_neg (by rw [HKE.out]; simp), if_neg hneg]
          have hF0 : F = offV l K bb.toNat := by rw [HF.out, if_pos hE0]
          have hI0 : I = bb := by rw [HI.out, if_pos hE0]
          have H3 := Lib.hid (And.intro hE0 (And.intro hF0 hI0))
          rw [if_neg hneg] at b0 b1
          generalize offV l K bb.toNat = OF at *
          clear hneg hE0 hF0 hI0 hk
          go_wp2_with fail
          refine bodyPost_ret (v := .tuple #[.agg #[.int .i64 OF.1, .int .i64 OF.2], .int .i64 bb, .int .i64 0]) (by simp [results, Try.results31, go_sem, r0, r1]) rfl ⟨by rw [H3.out.1, H3.out.2.1, H3.out.2.2], ?_⟩
          exact hbl.trans (by (repeat (refine Below.setCell ?_ (by exact Nat.le_refl _) _)); exact Below.refl _ _)
  · have hKE' : (keptErr l ks != 0) = true := by simpa using hKE
    have hE0 : E = keptErr l ks := by rw [HE.out, if_pos hKE]
    have hF0 : F = (0, 0) := by rw [HF.out, if_neg (by rw [hE0]; exact hKE)]
    have hI0 : I = 0 := by rw [HI.out, if_neg (by rw [hE0]; exact hKE)]
    have H3 := Lib.hid (And.intro hE0 (And.intro hF0 hI0))
    have r0 := hB1.cell 0
    have r1 := hB1.cell 1
    have g0 := hB1.frozen 0
    have g1 := hB1.frozen 1
    clear hKE hE0 hF0 hI0 hB1
    go_wp2_with fail
    refine bodyPost_ret (v := .tuple #[.agg #[.int .i64 0, .int .i64 0], .int .i64 0, .int .i64 (keptErr l ks)]) (by simp [results, Try.results31, go_sem, r0, r1]) rfl ⟨by rw [H3.out.1, H3.out.2.1, H3.out.2.2], ?_⟩
    exact hb01.trans (by (repeat (refine Below.setCell ?_ (by exact Nat.le_refl _) _)); exact Below.refl _ _)
end Go.Proofs.Ytmcojidaimeijaa

/- Mathematics: a reconstruction at the moment of a kept sample is its value; when all is kept there is no error. -/

namespace Go.Proofs.Ytmcojidaimeijaa
open Go.RowKit
set_option linter.unusedVariables false
set_option linter.unusedSimpArgs false

theorem posF_at {K : List Smp} (h : Rise none K) (i : Nat) (hi : i < K.length) : posF K (atS K i).t = i := by
  have h1 := (posF_iff K (atS K i).t none h i hi).1 (Int.le_refl _)
  rcases Nat.lt_or_ge (posF K (atS K i).t) i with hlt | hge
  · have h2 := (posF_iff K (atS K i).t none h _ (show posF K (atS K i).t < K.length by omega)).2 (Nat.le_refl _)
    have h3 := rise_ltA h _ i hlt hi
    omega
  · omega
theorem recon_at {K : List Smp} (h : Rise none K) (i : Nat) (hi : i < K.length) : reconOf K (atS K i).t = if (atS K i).q = 2 then none else some ((atS K i).v, 1) := by
  unfold reconOf
  rw [posF_at h i hi]
  by_cases hq : (atS K i).q = 2
  · rw [if_pos (Or.inr hq), if_pos hq]
  · rw [if_neg (by rintro (h1 | h1); · omega
                   · exact hq h1), if_pos rfl, if_neg hq]
theorem kept_rc {K : List Smp} (hS : serErr K = 0) (i : Nat) (hi : i < K.length) :
    rcE K (atS K i).t = 0 ∧ rcB K (atS K i).t = decide ((atS K i).q ≠ 2) ∧ rcV K (atS K i).t = if (atS K i).q = 2 then (0, 0) else ((atS K i).v, 1) := by
  have hr := recon_at (serErr_rise hS) i hi
  have hvt := (serErr_vt hS i).2
  have hE : rcE K (atS K i).t = 0 := by unfold rcE; rw [if_neg (by simp [hS]), inB_true.2 ⟨by omega, by omega⟩]; rfl
  refine ⟨hE, ?_, ?_⟩
  · unfold rcB reconB; rw [if_pos hE, hr]
    by_cases hq : (atS K i).q = 2
    · rw [if_pos hq]; simp [hq]
    · rw [if_neg hq]; simp [hq]
  · unfold rcV reconV; rw [if_pos hE, hr]
    by_cases hq : (atS K i).q = 2
    · rw [if_pos hq, if_pos hq]; rfl
    · rw [if_neg hq, if_neg hq]; rfl
/-- The first n indices. -/
def upI : Nat → List Int
  | 0 => []
  | j + 1 => upI j ++ [(j : Int)]
theorem upI_long (n : Nat) : (upI n).length = n := by
  induction n with
  | zero => rfl
  | succ n ih => simp [upI, ih]
theorem upI_mem (n : Nat) : ∀ k ∈ upI n, 0 ≤ k ∧ k < (n : Int) := by
  induction n with
  | zero => intro k hk; cases hk
  | succ n ih =>
    intro k hk
    rcases List.mem_append.1 hk with h | h
    · have := ih k h; omega
    · simp only [List.mem_singleton] at h; omega
theorem upI_rise (n : Nat) : (upI n).Pairwise (· < ·) := by
  induction n with
  | zero => exact List.Pairwise.nil
  | succ n ih => exact List.pairwise_append.2 ⟨ih, by simp, fun x hx y hy => by simp only [List.mem_singleton] at hy; subst hy; exact (upI_mem n x hx).2⟩
theorem upI_cho (l : List Smp) (n : Nat) (hn : n ≤ l.length) : choOf l (upI n) = l.take n := by
  induction n with
  | zero => rfl
  | succ n ih =>
    have h := ih (by omega)
    rw [List.take_add_one, ← h, List.getElem?_eq_getElem (by omega), atS_eq l n (by omega)]
    simp [choOf, upI]
theorem upI_kept {l : List Smp} (hS : serErr l = 0) : keptErr l (upI l.length) = 0 := by
  unfold keptErr idxErr
  rw [if_neg (by simp [hS]), if_neg (by rw [upI_long]; omega)]
  exact idxFrom_zero _ _ none (upI_rise _) (upI_mem _) (fun q hq => by cases hq)
theorem all_kept {l : List Smp} (hS : serErr l = 0) (hE : errE l (upI l.length) = 0) : (errF l (upI l.length)).1 = 0 := by
  have hk := upI_kept hS
  have hc : choOf l (upI l.length) = l := by rw [upI_cho l _ (Nat.le_refl _), List.take_length]
  unfold errF
  rw [if_pos hE, hc]
  unfold errE at hE
  rw [if_neg (by simp [hk]), hc] at hE
  have hb : 0 ≤ bst l l l.length := by
    by_cases h : bst l l l.length < 0
    · rw [if_pos h] at hE; omega
    · omega
  have hh := bst_has l l l.length hb
  have hr := (bst_range l l l.length).2
  generalize hi : (bst l l l.length).toNat = i at *
  have hrec := recon_at (serErr_rise hS) i (by omega)
  unfold hasI at hh
  simp only [Bool.and_eq_true, decide_eq_true_eq] at hh
  rw [if_neg hh.2] at hrec
  unfold offV diffF reconV
  rw [hrec]
  simp [dist]
end Go.Proofs.Ytmcojidaimeijaa

/- The contract of Odd (package logmake). -/

namespace Go.Proofs.Ytmcojidaimeijaa
open Go.RowKit
set_option linter.unusedVariables false
set_option linter.unusedSimpArgs false

set_option maxRecDepth 100000 in
set_option maxHeartbeats 1000000 in
theorem odd_went (w : World) (g : Nat) (L : List Int) (A : Option Addr) (cap k : Nat) (lo hi : Int) (hS : Strm w g L A cap k) (hk : k ≤ 900000000) (hl : -1000000000 ≤ lo) (hlh : lo ≤ hi) (hh : hi ≤ 100000000000) :
    Calls Try.prog 65 #[.pointer (some ⟨g, 0, none⟩), .int .i64 lo, .int .i64 hi] w fun e w' =>
      ∃ r : Int, e = .returned (.int .i64 r) ∧ (-1099511627776 ≤ r ∧ r ≤ 1099511627776) ∧ Went w g L A cap (k + 2) w' := by
  have hr := nxt_range L (k + 1) (hi - lo + 1) (by omega)
  go_enter Try.func65, Try.ntmps65
  go_wp2_with fail
  refine (flip_went _ g L A cap k 12 hS (by omega) (by omega)).mono ?_
  rintro e w1 ⟨rfl, hw1, hz1⟩
  by_cases hN : nxt L k 12 = 0
  · have hN' : (nxt L k 12 == 0) = true := by simpa using hN
    clear hN
    go_wp2_with fail
    refine (pick_new _ _ g L A cap (k + 1) [lo - 1, hi + 1, lo, hi, -1099511627776, 1099511627776] hw1.1 hz1.symm (by omega) (by simp)).mono ?_
    rintro e w2 ⟨rfl, hw2⟩
    have hm := pk_mem [lo - 1, hi + 1, lo, hi, -1099511627776, 1099511627776] L (k + 1) (by simp)
    simp only [List.mem_cons, List.not_mem_nil, or_false] at hm
    go_wp2_with fail
    go_ret
    exact ⟨_, rfl, by omega, hw2.1, hw1.2.trans hw2.2⟩
  · have hN' : (nxt L k 12 == 0) = false := by simpa using hN
    clear hN
    go_wp2_with fail
    refine (range_went _ g L A cap (k + 1) lo hi hw1.1 (by omega) (by omega) (by omega) (by omega)).mono ?_
    rintro e w2 ⟨rfl, hw2, _⟩
    go_wp2_with fail
    go_ret
    exact ⟨_, rfl, by omega, hw2.1, hw1.2.trans hw2.2⟩
end Go.Proofs.Ytmcojidaimeijaa
