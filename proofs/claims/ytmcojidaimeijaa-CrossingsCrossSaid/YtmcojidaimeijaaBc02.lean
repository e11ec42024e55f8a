import Derived.Test.YtmcojidaimeijaaBc01
import Derived.Test.YtmcojidaimeijaaWinb
import Derived.Deep.QuietTactic
import Derived.BigQuiet
/- The contract of Crossings (package query). -/

namespace Go.Proofs.Ytmcojidaimeijaa
open Go.RowKit
set_option linter.unusedVariables false
set_option linter.unusedSimpArgs false

def lastI (L : Int) (l : List Smp) (m : Nat) : Int := match lastF L l m with
  | some j => (j : Int)
  | none => -1
theorem atS_part {l : List Smp} {j n i : Nat} (h : i < n) : atS ((l.drop j).take n) i = atS l (j + i) := by
  unfold atS
  rw [List.getD_eq_getElem?_getD, List.getD_eq_getElem?_getD, List.getElem?_take_of_lt h, List.getElem?_drop]
theorem croT_eq {L : Int} {l : List Smp} {j m : Nat} (hj : j < m) (hm : m < l.length) : croT L ((l.drop j).take (m + 1 - j)) = crT L l j m := by
  have hlen : ((l.drop j).take (m + 1 - j)).length = m + 1 - j := by simp; omega
  unfold croT crT
  rw [hlen, atS_part (by omega), atS_part (by omega), Nat.add_zero]
  by_cases h : m = j + 1
  · subst h; rw [if_neg (by omega), if_pos rfl]; rfl
  · rw [if_pos (by omega), if_neg h]
theorem fracOf_bound {n d : Int} (hd : 0 < d) : (-(n.natAbs : Int) ≤ (fracOf n d).1 ∧ (fracOf n d).1 ≤ (n.natAbs : Int)) ∧ (0 < (fracOf n d).2 ∧ (fracOf n d).2 ≤ d) := by
  obtain ⟨hg, h1, h2⟩ := frac_parts n d hd
  have e2 : d / ((Int.gcd n d : Nat) : Int) * ((Int.gcd n d : Nat) : Int) = d := Int.ediv_mul_cancel (Int.gcd_dvd_right ..)
  refine ⟨by rw [← h1]; exact tdiv_bound n _ hg, ?_⟩
  unfold fracOf
  simp only
  generalize ((Int.gcd n d : Nat) : Int) = g at *
  generalize d / g = b at *
  have hb : 0 < b := by
    rcases Int.lt_or_le 0 b with h3 | h3
    · exact h3
    · have := Int.mul_le_mul_of_nonneg_right h3 (Int.le_of_lt hg); omega
  refine ⟨hb, ?_⟩
  have := Int.mul_le_mul_of_nonneg_left (show 1 ≤ g by omega) (Int.le_of_lt hb)
  omega
theorem crT_fit {L : Int} {l : List Smp} {j m : Nat} (hj : j < m) (hm : m < l.length) (hr : ∀ i, i < l.length → Right (atS l i)) (hL : -1000000 ≤ L ∧ L ≤ 1000000) (hv : (atS l j).v ≠ (atS l m).v) : FitT (crT L l j m) := by
  have ha := hr j (by omega)
  have hb := hr m hm
  have hc := hr (j + 1) (by omega)
  unfold crT
  unfold Right at ha hb hc
  split
  · have hD : 1 ≤ dif (atS l j).v (atS l m).v ∧ dif (atS l j).v (atS l m).v ≤ 2000000 := by unfold dif; split <;> omega
    have hF : 0 ≤ dif (atS l j).v L ∧ dif (atS l j).v L ≤ 2000000 := by unfold dif; split <;> omega
    generalize dif (atS l j).v (atS l m).v = D at *
    generalize dif (atS l j).v L = F at *
    have hm1 := mul_bound (atS l j).t D 345686400000 2000000 (by omega) (by omega)
    have hm2 := mul_bound F ((atS l m).t - (atS l j).t) 2000000 345686400000 (by omega) (by omega)
    have := fracOf_bound (n := (atS l j).t * D + F * ((atS l m).t - (atS l j).t)) (d := D) (by omega)
    generalize fracOf ((atS l j).t * D + F * ((atS l m).t - (atS l j).t)) D = V at *
    unfold FitT; omega
  · unfold FitT; simp only; omega
/-- What one more sample adds. -/
theorem new_bad {L f t : Int} {l : List Smp} {m : Nat} (h : (atS l m).q = 2) : lastF L l (m + 1) = none ∧ newF L f t l m = [] := by
  refine ⟨by unfold lastF; rw [if_pos h], ?_⟩
  unfold newF
  split
  · unfold crs; rw [if_neg]; rintro ⟨h1, _⟩; unfold crC at h1; simp [h] at h1
  · rfl
theorem new_equal {L f t : Int} {l : List Smp} {m : Nat} (hq : (atS l m).q ≠ 2) (h : (atS l m).v = L) : lastF L l (m + 1) = lastF L l m ∧ newF L f t l m = [] := by
  refine ⟨by conv => lhs; unfold lastF
             rw [if_neg hq, if_pos h], ?_⟩
  unfold newF
  split
  · unfold crs; rw [if_neg]; rintro ⟨h1, _⟩
    unfold crC at h1
    simp only [Bool.and_eq_true] at h1
    exact (opp_ne h1.2).2 h
  · rfl
theorem last_other {L : Int} {l : List Smp} {m : Nat} (hq : (atS l m).q ≠ 2) (h : (atS l m).v ≠ L) : lastF L l (m + 1) = some m := by
  unfold lastF; rw [if_neg hq, if_neg h]
theorem new_none {L f t : Int} {l : List Smp} {m : Nat} (h : lastF L l m = none) : newF L f t l m = [] := by unfold newF; rw [h]
theorem new_some {L f t : Int} {l : List Smp} {m j : Nat} (hm : m < l.length) (hl : lastF L l m = some j) (hq : (atS l m).q ≠ 2) (h : (atS l m).v ≠ L) :
    newF L f t l m = if (decide ((atS l j).v < L) != decide ((atS l m).v < L)) = true ∧ insB f t (crT L l j m) = true then [crT L l j m] else [] := by
  obtain ⟨a, b, c, d⟩ := lastF_some hl
  have hb : btw L l j m = true := (btw_iff (by omega)).2 d
  have hcc : crC L l j m = (decide ((atS l j).v < L) != decide ((atS l m).v < L)) := by
    unfold crC opp
    rw [hb]
    simp only [Bool.true_and]
    rw [show decide ((atS l j).q ≠ 2) = true from by simpa using b, show decide ((atS l m).q ≠ 2) = true from by simpa using hq]
    simp only [Bool.true_and]
    by_cases h1 : (atS l j).v < L <;> by_cases h2 : (atS l m).v < L <;> simp [h1, h2] <;> omega
  unfold newF
  rw [hl]
  simp only
  unfold crs
  rw [hcc]

def crE (l : List Smp) (f t L : Int) : Int := orE (orE (serErr l) (winErr f t)) (if inB L (-1000000) 1000000 = false then 1 else 0)
def crR (l : List Smp) (f t L : Int) : List (Int × Int) := if crE l f t L = 0 then outF L f t l l.length else []

set_option maxRecDepth 100000 in
set_option maxHeartbeats 4000000 in
theorem crossings_any (v : Value) (l : List Smp) (f t L : Int) (w : World) (hR : RdS w 57 v l) (hLL : -2000000000 ≤ L ∧ L ≤ 2000000000) :
    Calls Try.prog 38 #[v, .agg #[.int .i64 f, .int .i64 t], .int .i64 L] w fun e w' => ∃ vr, e = .returned (.tuple #[vr, .int .i64 (crE l f t L)]) ∧ RdF w' vr (crR l f t L) ∧ Below w.heap.size w w' := by
  have hE : crE l f t L = orE (orE (serErr l) (winErr f t)) (if inB L (-1000000) 1000000 = false then 1 else 0) := rfl
  have hV : crR l f t L = if crE l f t L = 0 then outF L f t l l.length else [] := rfl
  generalize crR l f t L = V at *
  generalize crE l f t L = E at *
  have HE := Lib.hid hE
  have HV := Lib.hid hV
  obtain ⟨pa, ca, rfl⟩ := hR.lenv
  obtain ⟨hca, hcm⟩ : l.length ≤ ca ∧ ca ≤ 9223372036854775807 := by
    obtain ⟨_, pa', ca', hv, h1, h2, _⟩ := hR
    simp only [Value.slice.injEq, true_and] at hv
    obtain ⟨rfl, rfl⟩ := hv
    unfold maxLen at h2
    exact ⟨h1, by omega⟩
  have hk0 := KW.start (f := f) (t := t) hR
  have HK0 := Lib.hid hk0
  have hbq := Blk.new1 w (.cells #[.int .i64 f, .int .i64 t] 43) 26 #[.slice pa l.length ca]
  have hqc := qcheck1_any (w.heap.size + 1) (.slice pa l.length ca) l f t _ hbq (hk0.alloc (.cells #[.slice pa l.length ca] 26)).rs
  have HQC := Lib.hid hqc
  clear hE hV hR hk0 hbq hqc
  go_enter Try.func38, Try.ntmps38
  go_wp2_with fail
  refine HQC.out.mono ?_
  rintro e w1 ⟨rfl, hb1⟩
  have hk1 := KW.step hb1 (HK0.out.alloc _)
  clear hb1 HQC
  by_cases h0 : orE (serErr l) (winErr f t) = 0
  · have h0' : (orE (serErr l) (winErr f t) != 0) = false := by simpa using h0
    have hS : serErr l = 0 := by unfold orE at h0; split at h0 <;> omega
    have hW : 0 ≤ f ∧ f ≤ t ∧ t ≤ 345686400000 := by
      unfold orE at h0; rw [if_neg (by rw [hS]; simp)] at h0
      unfold winErr at h0
      by_cases hw : winB f t = true
      · exact winB_true.1 hw
      · rw [if_neg hw] at h0; omega
    have H0 := Lib.hid h0
    have HS := Lib.hid hS
    clear h0 hS
    go_wp2_with fail
    refine (isValue_any L _).mono ?_
    rintro e w2 ⟨rfl, rfl⟩
    by_cases hro : inB L (-1000000) 1000000 = true
    · have hrr := inB_true.1 hro
      have hE1 : E = 0 := by rw [HE.out, H0.out, hro]; rfl
      have HE1 := Lib.hid hE1
      have hlong := (serErr_good HS.out).1
      have hright : ∀ i, i < l.length → Right (atS l i) := fun i _ => ⟨(serErr_vt HS.out i).2, (serErr_vt HS.out i).1⟩
      have HRT := Lib.hid hright
      have HRISE := Lib.hid (serErr_rise HS.out)
      rw [hro]
      clear hro hright hE1
      go_wp2_with fail
      go_loopw [9, 10, 28] (fun st sl si wr => ∃ (m : Nat) (vt : Value), vt = st ∧ m ≤ l.length ∧ si = .int .i64 (m : Int) ∧ sl = .int .i64 (lastI L l m) ∧ wr.ownsRow w1.heap.size 35 2 vt (outF L f t l m).length (fracCells (outF L f t l m)) ∧ Below w1.heap.size w1 wr) (fun _ _ i _ => l.length - (intOf i).toNat)
      case atStart => exact ⟨0, _, rfl, by omega, rfl, rfl, World.ownsRow_nil _ _ _ _, Below.refl _ _⟩
      case round =>
        obtain ⟨m, vt, rfl, hm, rfl, rfl, hown, hbr⟩ := hrel
        have hkr := KW.step hbr hk1
        have hszr := hbr.size
        have hol := outF_length (L := L) (f := f) (t := t) (l := l) m
        by_cases hlt : m < l.length
        · obtain ⟨b, off, c, hv, hc1, hc2, hblt, hcell⟩ := RdS.at_ hkr.rs (by omega)
          cases hv
          unfold maxLen at hc2
          obtain ⟨c0, c1, c2⟩ := hcell m hlt
          have hbx := hbr.alloc hszr (.cells #[.int .i64 (atS l m).t, .int .i64 (atS l m).v, .int .i64 (atS l m).q] 57)
          have hos : outF L f t l (m + 1) = outF L f t l m ++ newF L f t l m := rfl
          have HOS := Lib.hid hos
          have i1 : (0 : Int) ≤ (m : Int) := by omega
          have i2 : (m : Int) < (l.length : Int) := by omega
          clear hos
          by_cases hq : (atS l m).q = 2
          · obtain ⟨hn1, hn2⟩ := new_bad (L := L) (f := f) (t := t) hq
            have HN := Lib.hid (show lastI L l (m + 1) = -1 ∧ outF L f t l (m + 1) = outF L f t l m by rw [HOS.out, hn2]; unfold lastI; rw [hn1]; simp)
            have hq' : ((atS l m).q == 2) = true := by simpa using hq
            clear hcell hq hn1 hn2
            generalize lastI L l m = la at *
            generalize outF L f t l m = O at *
            generalize atS l m = x at *
            go_wp2_with fail
            go_roundw
            case rel => exact ⟨m + 1, _, rfl, by omega, by go_num, by rw [HN.out.1], by rw [HN.out.2]; exact hown.alloc _, hbx⟩
            case measure => simp [intOf]; omega
          · have hq' : ((atS l m).q == 2) = false := by simpa using hq
            by_cases hvL : (atS l m).v = L
            · obtain ⟨hn1, hn2⟩ := new_equal (L := L) (f := f) (t := t) hq hvL
              have HN := Lib.hid (show lastI L l (m + 1) = lastI L l m ∧ outF L f t l (m + 1) = outF L f t l m by rw [HOS.out, hn2]; unfold lastI; rw [hn1]; simp)
              have hv' : ((atS l m).v == L) = true := by simpa using hvL
              clear hcell hq hn1 hn2 hvL
              generalize lastI L l m = la at *
              generalize outF L f t l m = O at *
              generalize atS l m = x at *
              go_wp2_with fail
              go_roundw
              case rel => exact ⟨m + 1, _, rfl, by omega, by go_num, by rw [HN.out.1], by rw [HN.out.2]; exact hown.alloc _, hbx⟩
              case measure => simp [intOf]; omega
            · have hv' : ((atS l m).v == L) = false := by simpa using hvL
              have hl1 := last_other (L := L) hq hvL
              have HL1 := Lib.hid (show lastI L l (m + 1) = (m : Int) by unfold lastI; rw [hl1])
              cases hla : lastF L l m with
              | none =>
                have HN := Lib.hid (show outF L f t l (m + 1) = outF L f t l m by rw [HOS.out, new_none hla]; simp)
                have hlm : lastI L l m = -1 := by unfold lastI; rw [hla]
                rw [hlm]
                clear hcell hq hvL hl1 hla hlm
                generalize outF L f t l m = O at *
                generalize atS l m = x at *
                go_wp2_with fail
                go_quiet (fail)
                go_wp2_with fail
                go_roundw
                case rel => exact ⟨m + 1, _, rfl, by omega, by go_num, by rw [HL1.out], by rw [HN.out]; exact hown.alloc _, bdrewN hbx _⟩
                case measure => simp [intOf]; omega
              | some j =>
                have hjm := (lastF_some hla).1
                have HNS := Lib.hid (new_some (f := f) (t := t) hlt hla hq hvL)
                have hlm : lastI L l m = (j : Int) := by unfold lastI; rw [hla]
                obtain ⟨a0, a1, a2⟩ := hcell j (by omega)
                rw [hlm]
                clear hcell hq hvL hl1 hla hlm
                have hv2 : True := trivial
                have j1 : (0 : Int) ≤ (j : Int) := by omega
                have j2 : (j : Int) < (l.length : Int) := by omega
                generalize hxe : atS l m = x at *
                generalize hae : atS l j = a at *
                have HX := Lib.hid hxe
                have HA := Lib.hid hae
                clear hxe hae
                cases hb1 : decide (a.v < L) <;> cases hb2 : decide (x.v < L)
                · skip
                  have HN := Lib.hid (show outF L f t l (m + 1) = outF L f t l m by rw [HOS.out, HNS.out, hb1, hb2]; simp)
                  clear hv2
                  generalize outF L f t l m = O at *
                  go_wp2_with fail
                  go_quiet (fail)
                  go_wp2_with fail
                  go_roundw
                  case rel => exact ⟨m + 1, _, rfl, by omega, by go_num, by rw [HL1.out], by rw [HN.out]; exact hown.alloc _, bdrewN hbx _⟩
                  case measure => simp [intOf]; omega
                · skip
                  have HN := Lib.hid (show outF L f t l (m + 1) = outF L f t l m ++ (if insB f t (crT L l j m) = true then [crT L l j m] else []) by rw [HOS.out, HNS.out, hb1, hb2]; simp)
                  have hfit := crT_fit (L := L) hjm hlt HRT.out hrr (by rw [HX.out, HA.out]; intro he; rw [he, hb2] at hb1; cases hb1)
                  have hpart : ∀ W, RdS W 57 (.slice (some ⟨b, off, none⟩) l.length ca) l → RdS W 57 (.slice (some ⟨b, off + j * 3, none⟩) (m + 1 - j) (ca - j)) ((l.drop j).take (m + 1 - j)) := fun W h => RdS.part h j (m + 1) (by omega) (by omega) (some ⟨b, off + j * 3, none⟩) (fun _ b' off' e => by cases e; rfl)
                  have hcro := fun W (h : RdS W 57 (.slice (some ⟨b, off, none⟩) l.length ca) l) => crossing_any _ ((l.drop j).take (m + 1 - j)) L W (hpart W h) (by simp; omega) (by simp; omega) hrr (by rw [atS_part (by omega)]; exact HRT.out _ (by omega)) (by rw [atS_part (by omega)]; exact HRT.out _ (by omega)) (by
                    by_cases h : m = j + 1
                    · right; rw [atS_part (by omega), atS_part (by omega), Nat.add_zero, ← h, HX.out, HA.out]; intro he; rw [he, hb2] at hb1; cases hb1
                    · left; simp; omega)
                  rw [croT_eq hjm hlt] at hcro
                  have HCRO := Lib.hid hcro
                  have HFIT := Lib.hid hfit
                  clear hv2 hfit hpart hcro
                  generalize outF L f t l m = O at *
                  generalize crT L l j m = T at *
                  have k1 : (0 : Int) ≤ (j : Int) := by omega
                  have k2 : (j : Int) ≤ (m : Int) + 1 := by omega
                  have k3 : (m : Int) + 1 ≤ (ca : Int) := by omega
                  have hcj : ¬ ca = j := by omega
                  go_wp2_with fail
                  go_quiet (fail)
                  have hk3 := KW.step (show Below wr.heap.size wr ((wr.alloc (.cells #[.int .i64 x.t, .int .i64 x.v, .int .i64 x.q] 57)).drewN nq) from bdrewN ((Below.refl _ wr).alloc (Nat.le_refl _) _) _) hkr
                  have hb3 : Below wr.heap.size wr ((wr.alloc (.cells #[.int .i64 x.t, .int .i64 x.v, .int .i64 x.q] 57)).drewN nq) := bdrewN ((Below.refl _ wr).alloc (Nat.le_refl _) _) _
                  generalize (wr.alloc (.cells #[.int .i64 x.t, .int .i64 x.v, .int .i64 x.q] 57)).drewN nq = w3 at *
                  go_wp2_with fail
                  refine (HCRO.out _ hk3.rs).mono ?_
                  rintro e w4 ⟨rfl, hb4⟩
                  have hk4 := KW.step hb4 hk3
                  have hb04 := hb3.trans (hb4.mono hb3.size)
                  have hk5 := hk4.alloc (.cells #[.int .i64 T.1, .int .i64 T.2] 35)
                  have hbT := Blk.new w4 35 #[.int .i64 T.1, .int .i64 T.2]
                  have hb05 := hb04.alloc hb04.size (.cells #[.int .i64 T.1, .int .i64 T.2] 35)
                  clear hb4 hb3 hk3 hb04 hk4
                  go_upto_region 16 with fail
                  generalize w4.alloc (.cells #[.int .i64 T.1, .int .i64 T.2] 35) = w5 at *
                  generalize w4.heap.size = n5 at *
                  have t0 : w5.cell? ⟨n5, 0, none⟩ = some (.int .i64 T.1) := hbT.cell 0
                  have t1 : w5.cell? ⟨n5, 1, none⟩ = some (.int .i64 T.2) := hbT.cell 1
                  have e0 : w5.cell? ⟨w.heap.size, 0, none⟩ = some (.int .i64 f) := hk5.bw.cell 0
                  have e1 : w5.cell? ⟨w.heap.size, 1, none⟩ = some (.int .i64 t) := hk5.bw.cell 1
                  go_wp2_with fail
                  refine (inside_any T f t _ HFIT.out (by omega) (by omega)).mono ?_
                  rintro e w6 ⟨rfl, hb6⟩
                  have hbT6 := hbT.below hb6 hbT.lt
                  have hb06 := hb05.trans (hb6.mono hb05.size)
                  have hown6 := own_keep hown fun b _ _ hh => hb06.block b (lt_of_heap hh)
                  have hbw6 := hbr.trans (hb06.mono hszr)
                  have hsz6 := hbw6.size
                  clear t0 t1 e0 e1 hb6 hbT hk5 hb05 hown hb06
                  have t0 : w6.cell? ⟨n5, 0, none⟩ = some (.int .i64 T.1) := hbT6.cell 0
                  have t1 : w6.cell? ⟨n5, 1, none⟩ = some (.int .i64 T.2) := hbT6.cell 1
                  cases hin : insB f t T
                  · have HN2 := Lib.hid (show outF L f t l (m + 1) = O by rw [HN.out, hin]; simp)
                    clear hin
                    go_wp2_with fail
                    go_roundw
                    case rel => exact ⟨m + 1, _, rfl, by omega, by go_num, by rw [HL1.out], by rw [HN2.out]; exact hown6, hbw6⟩
                    case measure => simp [intOf]; omega
                  · have HN2 := Lib.hid (show outF L f t l (m + 1) = O ++ [T] by rw [HN.out, hin]; simp)
                    clear hin
                    go_wp2_with (at_builtin; refine wpList_append_frac rfl (.tmp 69) (.tmp 71) rfl w1.heap.size vt O.length O rfl (by exact hown6.alloc _) w6.heap.size rfl T (by exact Blk.new _ _ _) (by omega) (by simp; omega) ?_; intro v1 w7 hown7 hgrow7; have hb7 := (hbw6.alloc hsz6 _).trans (below_grown (hown6.alloc _) (by simp; omega) hgrow7); clear hgrow7)
                    go_roundw
                    case rel => exact ⟨m + 1, _, rfl, by omega, by go_num, by rw [HL1.out], by rw [HN2.out, List.length_append, List.length_singleton]; exact hown7, hb7⟩
                    case measure => simp [intOf]; omega
                · skip
                  have HN := Lib.hid (show outF L f t l (m + 1) = outF L f t l m ++ (if insB f t (crT L l j m) = true then [crT L l j m] else []) by rw [HOS.out, HNS.out, hb1, hb2]; simp)
                  have hfit := crT_fit (L := L) hjm hlt HRT.out hrr (by rw [HX.out, HA.out]; intro he; rw [he, hb2] at hb1; cases hb1)
                  have hpart : ∀ W, RdS W 57 (.slice (some ⟨b, off, none⟩) l.length ca) l → RdS W 57 (.slice (some ⟨b, off + j * 3, none⟩) (m + 1 - j) (ca - j)) ((l.drop j).take (m + 1 - j)) := fun W h => RdS.part h j (m + 1) (by omega) (by omega) (some ⟨b, off + j * 3, none⟩) (fun _ b' off' e => by cases e; rfl)
                  have hcro := fun W (h : RdS W 57 (.slice (some ⟨b, off, none⟩) l.length ca) l) => crossing_any _ ((l.drop j).take (m + 1 - j)) L W (hpart W h) (by simp; omega) (by simp; omega) hrr (by rw [atS_part (by omega)]; exact HRT.out _ (by omega)) (by rw [atS_part (by omega)]; exact HRT.out _ (by omega)) (by
                    by_cases h : m = j + 1
                    · right; rw [atS_part (by omega), atS_part (by omega), Nat.add_zero, ← h, HX.out, HA.out]; intro he; rw [he, hb2] at hb1; cases hb1
                    · left; simp; omega)
                  rw [croT_eq hjm hlt] at hcro
                  have HCRO := Lib.hid hcro
                  have HFIT := Lib.hid hfit
                  clear hv2 hfit hpart hcro
                  generalize outF L f t l m = O at *
                  generalize crT L l j m = T at *
                  have k1 : (0 : Int) ≤ (j : Int) := by omega
                  have k2 : (j : Int) ≤ (m : Int) + 1 := by omega
                  have k3 : (m : Int) + 1 ≤ (ca : Int) := by omega
                  have hcj : ¬ ca = j := by omega
                  go_wp2_with fail
                  go_quiet (fail)
                  have hk3 := KW.step (show Below wr.heap.size wr ((wr.alloc (.cells #[.int .i64 x.t, .int .i64 x.v, .int .i64 x.q] 57)).drewN nq) from bdrewN ((Below.refl _ wr).alloc (Nat.le_refl _) _) _) hkr
                  have hb3 : Below wr.heap.size wr ((wr.alloc (.cells #[.int .i64 x.t, .int .i64 x.v, .int .i64 x.q] 57)).drewN nq) := bdrewN ((Below.refl _ wr).alloc (Nat.le_refl _) _) _
                  generalize (wr.alloc (.cells #[.int .i64 x.t, .int .i64 x.v, .int .i64 x.q] 57)).drewN nq = w3 at *
                  go_wp2_with fail
                  refine (HCRO.out _ hk3.rs).mono ?_
                  rintro e w4 ⟨rfl, hb4⟩
                  have hk4 := KW.step hb4 hk3
                  have hb04 := hb3.trans (hb4.mono hb3.size)
                  have hk5 := hk4.alloc (.cells #[.int .i64 T.1, .int .i64 T.2] 35)
                  have hbT := Blk.new w4 35 #[.int .i64 T.1, .int .i64 T.2]
                  have hb05 := hb04.alloc hb04.size (.cells #[.int .i64 T.1, .int .i64 T.2] 35)
                  clear hb4 hb3 hk3 hb04 hk4
                  go_upto_region 16 with fail
                  generalize w4.alloc (.cells #[.int .i64 T.1, .int .i64 T.2] 35) = w5 at *
                  generalize w4.heap.size = n5 at *
                  have t0 : w5.cell? ⟨n5, 0, none⟩ = some (.int .i64 T.1) := hbT.cell 0
                  have t1 : w5.cell? ⟨n5, 1, none⟩ = some (.int .i64 T.2) := hbT.cell 1
                  have e0 : w5.cell? ⟨w.heap.size, 0, none⟩ = some (.int .i64 f) := hk5.bw.cell 0
                  have e1 : w5.cell? ⟨w.heap.size, 1, none⟩ = some (.int .i64 t) := hk5.bw.cell 1
                  go_wp2_with fail
                  refine (inside_any T f t _ HFIT.out (by omega) (by omega)).mono ?_
                  rintro e w6 ⟨rfl, hb6⟩
                  have hbT6 := hbT.below hb6 hbT.lt
                  have hb06 := hb05.trans (hb6.mono hb05.size)
                  have hown6 := own_keep hown fun b _ _ hh => hb06.block b (lt_of_heap hh)
                  have hbw6 := hbr.trans (hb06.mono hszr)
                  have hsz6 := hbw6.size
                  clear t0 t1 e0 e1 hb6 hbT hk5 hb05 hown hb06
                  have t0 : w6.cell? ⟨n5, 0, none⟩ = some (.int .i64 T.1) := hbT6.cell 0
                  have t1 : w6.cell? ⟨n5, 1, none⟩ = some (.int .i64 T.2) := hbT6.cell 1
                  cases hin : insB f t T
                  · have HN2 := Lib.hid (show outF L f t l (m + 1) = O by rw [HN.out, hin]; simp)
                    clear hin
                    go_wp2_with fail
                    go_roundw
                    case rel => exact ⟨m + 1, _, rfl, by omega, by go_num, by rw [HL1.out], by rw [HN2.out]; exact hown6, hbw6⟩
                    case measure => simp [intOf]; omega
                  · have HN2 := Lib.hid (show outF L f t l (m + 1) = O ++ [T] by rw [HN.out, hin]; simp)
                    clear hin
                    go_wp2_with (at_builtin; refine wpList_append_frac rfl (.tmp 69) (.tmp 71) rfl w1.heap.size vt O.length O rfl (by exact hown6.alloc _) w6.heap.size rfl T (by exact Blk.new _ _ _) (by omega) (by simp; omega) ?_; intro v1 w7 hown7 hgrow7; have hb7 := (hbw6.alloc hsz6 _).trans (below_grown (hown6.alloc _) (by simp; omega) hgrow7); clear hgrow7)
                    go_roundw
                    case rel => exact ⟨m + 1, _, rfl, by omega, by go_num, by rw [HL1.out], by rw [HN2.out, List.length_append, List.length_singleton]; exact hown7, hb7⟩
                    case measure => simp [intOf]; omega
                · skip
                  have HN := Lib.hid (show outF L f t l (m + 1) = outF L f t l m by rw [HOS.out, HNS.out, hb1, hb2]; simp)
                  clear hv2
                  generalize outF L f t l m = O at *
                  go_wp2_with fail
                  go_quiet (fail)
                  go_wp2_with fail
                  go_roundw
                  case rel => exact ⟨m + 1, _, rfl, by omega, by go_num, by rw [HL1.out], by rw [HN.out]; exact hown.alloc _, bdrewN hbx _⟩
                  case measure => simp [intOf]; omega
        · obtain rfl : m = l.length := by omega
          have HO := Lib.hid hown
          clear hown
          go_wp2_with fail
          go_ret2
          exact ⟨_, by rw [HE1.out]; rfl, by rw [HV.out, if_pos HE1.out]; exact Rd.of_own HO.out, hkr.be⟩
    · have hro' : inB L (-1000000) 1000000 = false := by simpa using hro
      have HRO := Lib.hid hro'
      rw [hro']
      clear hro hro'
      go_wp2_with fail
      go_ret2
      have hE1 : E = 1 := by rw [HE.out, H0.out, if_pos HRO.out]; rfl
      exact ⟨_, by rw [hE1]; rfl, by rw [HV.out, if_neg (by omega)]; exact Rd.nil _ _ _, hk1.be⟩
  · have h0' : (orE (serErr l) (winErr f t) != 0) = true := by simpa using h0
    have H0 := Lib.hid h0
    clear h0
    go_wp2_with fail
    go_ret2
    have hE1 : E = orE (serErr l) (winErr f t) := by rw [HE.out, orE, if_pos H0.out]
    exact ⟨_, by rw [hE1]; rfl, by rw [HV.out, if_neg (by rw [hE1]; exact H0.out)]; exact Rd.nil _ _ _, hk1.be⟩
end Go.Proofs.Ytmcojidaimeijaa
