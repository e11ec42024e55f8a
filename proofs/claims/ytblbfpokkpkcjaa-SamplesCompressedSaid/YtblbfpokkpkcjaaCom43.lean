import Derived.Test.YtblbfpokkpkcjaaCom40
import Derived.Test.YtblbfpokkpkcjaaCom41
import Derived.Test.YtblbfpokkpkcjaaCom42
import Derived.Deep.QuietTactic
import Derived.BigQuiet
import Derived.Deep.RegionWith
/- The contract of FitsOf (the reference), for a right door, a right series and right indices. -/

namespace Go.Proofs.Ytblbfpokkpkcjaa
open Go.RowKit
set_option linter.unusedVariables false
set_option linter.unusedSimpArgs false

theorem RdBool.at_ {w : World} {v : Value} {l : List Bool} (h : Rd w 4 1 v l.length (l.map Value.bool)) (hn : 0 < l.length) :
    ∃ b off c, v = .slice (some ⟨b, off, none⟩) l.length c ∧ l.length ≤ c ∧ c ≤ maxLen ∧ b < w.heap.size ∧ ∀ i, i < l.length → w.cell? ⟨b, off + i, none⟩ = some (.bool (l.getD i false)) := by
  obtain ⟨b, off, c, hv, h2, h3, hlt, hc⟩ := Rd.cell h hn
  refine ⟨b, off, c, hv, h2, h3, hlt, fun i hi => ?_⟩
  rw [hc i (by omega)]
  simp [hi, List.getD_eq_getElem?_getD]
theorem hasL_at (l K : List Smp) (n i : Nat) (h : i < n) : (hasL l K n).getD i false = hasI l K i := by
  simp [hasL, List.getD_eq_getElem?_getD, h]
theorem offL_at (l K : List Smp) (n i : Nat) (h : i < n) : (offL l K n)[i]'(by simp [offL]; exact h) = offR l K i := by simp [offL]

theorem belowN {B : Nat} {w w' : World} (h : RowKit.Below B w w') (n : Nat) : RowKit.Below B w (w'.drewN n) := ⟨h.os, h.tape, h.output, h.size, h.block⟩
theorem RdI.drewN {w : World} {v : Value} {l : List Int} (h : RdI w v l) (n : Nat) : RdI (w.drewN n) v l := Rd.drewN h n
theorem RdI.drew {w : World} {v : Value} {l : List Int} (h : RdI w v l) : RdI w.drew v l := Rd.drew h

set_option maxRecDepth 100000 in
set_option maxHeartbeats 4000000 in
theorem fitsOf_any (d m : Int) (v vk : Value) (l : List Smp) (ks : List Int) (w : World) (hR : RdS w 71 v l) (hK : RdI w vk ks) (hgood : keptErr l ks = 0) (hd : 0 ≤ d ∧ d ≤ 2000000) :
    Calls Try.prog 32 #[.agg #[.int .i64 d, .int .i64 m], v, vk] w fun e w' => e = .returned (.bool (fitsB d m l ks)) ∧ Below w.heap.size w w' := by
  obtain ⟨pa, ca, rfl⟩ := hR.lenv
  obtain ⟨pk, ck, rfl⟩ := hK.lenv
  obtain ⟨hS, hI, _, hle, _, _⟩ := kept_good hgood
  have hlong := (serErr_good hS).1
  have hix := idxErr_ok hI
  have hmx : Try.prog.follows .mixedOrders = true := by kernel_rfl
  have hbw : Below w.heap.size w (w.alloc (.cells #[.int .i64 d, .int .i64 m] 30)) := (Below.refl _ w).alloc (Nat.le_refl _) _
  have bd0 : Blk (w.alloc (.cells #[.int .i64 d, .int .i64 m] 30)) w.heap.size 30 #[.int .i64 d, .int .i64 m] := Blk.new w _ _
  have hR1 : RdS _ 71 (.slice pa l.length ca) l := Rd.below hR hbw
  have hK1 : RdI _ (.slice pk ks.length ck) ks := RdI.below hK hbw (Nat.le_refl _)
  have HRF := Lib.hid (fun hn : 0 < l.length => ref_fits (m := m) hgood hd hn)
  have HF0 := Lib.hid (show fitsB d m l ks = if l.length = 0 then true else decide (ks.head? = some 0) && decide (ks.getLast? = some ((l.length : Int) - 1)) && pairsB d m l ks from rfl)
  generalize fitsB d m l ks = FB at *
  go_enter Try.func32, Try.ntmps32
  go_upto_region 1 with fail
  generalize w.alloc (.cells #[.int .i64 d, .int .i64 m] 30) = W at *
  by_cases hn : l.length = 0
  · have hn' : ((l.length : Int) == 0) = true := by simp [hn]
    have HX := Lib.hid (show FB = true by rw [HF0.out, if_pos hn])
    clear hn
    go_wp2_with fail
    go_ret
    exact ⟨by rw [HX.out]; rfl, hbw⟩
  · have hn' : ((l.length : Int) == 0) = false := by simpa using hn
    have hn0 : 0 < l.length := Nat.pos_of_ne_zero hn
    have HREF := Lib.hid (HRF.out hn0)
    have HNO := Lib.hid (fun h : ¬ RefP d m l ks => show FB = false by cases hF : FB; rfl; exact absurd ((HREF.out).2 hF) h)
    have HYES := Lib.hid (fun h : RefP d m l ks => show FB = true from (HREF.out).1 h)
    have HC := Lib.hid (fun (W' : World) (y : Int) (h : RdI W' (.slice pk ks.length ck) ks) => contains_any (.slice pk ks.length ck) ks y W' h)
    have hwl : IntKind.i64.wrap ((l.length : Int) - 1) = (l.length : Int) - 1 := IntWalk.i64_in _ (by omega)
    have HK1 := Lib.hid hK1
    have HR1 := Lib.hid hR1
    clear hn HRF HF0 hR hK
    by_cases hz : (0 : Int) ∈ ks
    · have hz' : decide ((0 : Int) ∈ ks) = true := by simpa using hz
      by_cases hl : (l.length : Int) - 1 ∈ ks
      · have hl' : decide ((l.length : Int) - 1 ∈ ks) = true := by simpa using hl
        have HZL := Lib.hid (And.intro hz hl)
        clear hz hl
        go_wp2_with (first
          | (go_at_call 104; refine (HC.out _ 0 HK1.out).mono ?_; rintro e wa ⟨rfl, k1, rfl⟩; rw [hz'])
          | (go_at_call 104; refine (HC.out _ ((l.length : Int) - 1) (Rd.drewN HK1.out _)).mono ?_; rintro e wb ⟨rfl, k2, rfl⟩; rw [hl']))
        go_loopw [7] (fun ii wr => ∃ (j k : Nat), j + 1 ≤ l.length ∧ ii = .int .i64 ((j : Int) + 1) ∧ wr = W.drewN k ∧ ∀ i, 1 ≤ i → i < j + 1 → refQ l ks i) (fun ii _ => l.length - (intOf ii).toNat)
        case atStart => exact ⟨0, k1 + k2, by omega, by go_num, by simp, fun i h1 h2 => by omega⟩
        case round =>
          obtain ⟨j, k, hj, rfl, rfl, hQ⟩ := hrel
          have HQ := Lib.hid hQ
          clear hQ
          by_cases hjl : j + 1 < l.length
          · have hRr := HR1.out
            obtain ⟨b, off, cc, hv, hc1, hc2, hblt, hcell⟩ := RdS.at_ hRr hn0
            cases hv
            unfold maxLen at hc2
            obtain ⟨_, _, q0⟩ := hcell j (by omega)
            obtain ⟨_, _, q1⟩ := hcell (j + 1) hjl
            have hkk : RdI (W.drewN k) _ ks := Rd.drewN HK1.out k
            have HCJ := Lib.hid (fun (W' : World) (h : RdI W' (.slice pk ks.length ck) ks) => HC.out W' (j : Int) h)
            have HCI := Lib.hid (fun (W' : World) (h : RdI W' (.slice pk ks.length ck) ks) => HC.out W' ((j : Int) + 1) h)
            have HN := Lib.hid (fun h : refQ l ks (j + 1) => show ∀ i, 1 ≤ i → i < j + 1 + 1 → refQ l ks i from fun i h1 h2 => by by_cases h3 : i = j + 1; rw [h3]; exact h; exact HQ.out i h1 (by omega))
            have hR0 : refQ l ks (j + 1) ↔ ((atS l (j + 1)).q ≠ (atS l j).q → ((j : Int) ∈ ks ∧ (j : Int) + 1 ∈ ks)) := by
              unfold refQ
              rw [show ((j + 1 : Nat) : Int) - 1 = (j : Int) by omega, show ((j + 1 : Nat) : Int) = (j : Int) + 1 by omega, Nat.add_sub_cancel]
            have HR0 := Lib.hid hR0
            have HNX := Lib.hid (fun h : ¬ refQ l ks (j + 1) => HNO.out (fun h2 => h (h2.2.1 (j + 1) (by omega) hjl)))
            generalize (atS l (j + 1)).q = qi at *
            generalize (atS l j).q = qj at *
            have hmj : ((j : Int) ∈ ks) ↔ decide ((j : Int) ∈ ks) = true := by simp
            have hmi : ((j : Int) + 1 ∈ ks) ↔ decide ((j : Int) + 1 ∈ ks) = true := by simp
            generalize decide ((j : Int) ∈ ks) = mj at *
            generalize decide ((j : Int) + 1 ∈ ks) = mi at *
            have HMJ := Lib.hid hmj
            have HMI := Lib.hid hmi
            have hb0 : (0 : Int) ≤ (j : Int) + 1 := by omega
            have hb1 : (j : Int) + 1 < (l.length : Int) := by omega
            have hb2 : (j : Int) < (l.length : Int) := by omega
            have hb3 : ((j : Int) + 1).toNat = j + 1 := by omega
            have hb4 : IntKind.i64.wrap ((j : Int) + 1 - 1) = (j : Int) := by rw [Int.add_sub_cancel]; exact IntWalk.i64_in _ (by omega)
            have hb5 : IntKind.i64.wrap (j : Int) = (j : Int) := IntWalk.i64_in _ (by omega)
            clear hcell hRr hkk hR0 hmj hmi
            by_cases hqq : qi = qj
            · have hq' : (qi != qj) = false := by simpa using hqq
              have HG := Lib.hid (HN.out (HR0.out.2 (fun h => absurd hqq h)))
              clear hqq
              go_wp2_with fail
              go_quiet (fail)
              go_wp2_with fail
              go_roundw
              case rel => exact ⟨j + 1, _, by omega, by go_num, rfl, HG.out⟩
              case measure => simp [intOf]; omega
            · have hq' : (qi != qj) = true := by simpa using hqq
              have HNE := Lib.hid hqq
              clear hqq
              go_upto_region 8 with fail
              go_cut [59] (fun s59 wx => ∃ B : Bool, s59 = .bool B ∧ (B = true ↔ ¬ (mj = true ∧ mi = true)) ∧ ∃ k', wx = W.drewN k')
              case first =>
                cases mj
                · first | (go_region_with (go_at_call 104; (with_reducible refine (HCJ.out _ ?_).mono ?_); (focus ((repeat (first | (with_reducible exact HK1.out) | with_reducible apply RdI.drewN | with_reducible apply RdI.drew)); done)); rintro e wc ⟨rfl, n1, rfl⟩)) | fail
                  all_goals go_wp2_with fail
                  all_goals go_meet
                  all_goals exact ⟨_, rfl, by simp, _, rfl⟩
                · cases mi
                  all_goals first | (go_region_with (first
                    | (go_at_call 104; (with_reducible refine (HCJ.out _ ?_).mono ?_); (focus ((repeat (first | (with_reducible exact HK1.out) | with_reducible apply RdI.drewN | with_reducible apply RdI.drew)); done)); rintro e wc ⟨rfl, n1, rfl⟩)
                    | (go_at_call 104; (with_reducible refine (HCI.out _ ?_).mono ?_); (focus ((repeat (first | (with_reducible exact HK1.out) | with_reducible apply RdI.drewN | with_reducible apply RdI.drew)); done)); rintro e wc ⟨rfl, n2, rfl⟩))) | fail
                  all_goals go_wp2_with fail
                  all_goals go_meet
                  all_goals exact ⟨_, rfl, by simp, _, rfl⟩
              case rest =>
                obtain ⟨B, rfl, hB, k', rfl⟩ := hcut
                have HB := Lib.hid hB
                clear hB
                cases B
                · have HG := Lib.hid (HN.out (HR0.out.2 (fun _ => by
                    have h := Classical.not_not.1 (fun h => by have := HB.out.2 h; simp at this)
                    exact ⟨HMJ.out.2 h.1, HMI.out.2 h.2⟩)))
                  go_wp2_with fail
                  go_roundw
                  case rel => exact ⟨j + 1, _, by omega, by go_num, rfl, HG.out⟩
                  case measure => simp [intOf]; omega
                · have HX := Lib.hid (HNX.out (fun h => by
                    have h2 := HR0.out.1 h HNE.out
                    exact HB.out.1 rfl ⟨HMJ.out.1 h2.1, HMI.out.1 h2.2⟩))
                  go_wp2_with fail
                  go_ret
                  exact ⟨by rw [HX.out]; rfl, hbw.trans ⟨rfl, rfl, rfl, Nat.le_refl _, fun _ _ => rfl⟩⟩
          · have hje : l.length = j + 1 := by omega
            have HQA := Lib.hid (show ∀ i, 1 ≤ i → i < l.length → refQ l ks i from fun i h1 h2 => HQ.out i h1 (by omega))
            have hkl0 : 0 < ks.length := List.length_pos_of_mem HZL.out.1
            have hji : ¬ ((j : Int) + 1 < (l.length : Int)) := by omega
            clear HQ hje hj hjl
            go_wp2_with fail
            clear hji
            go_loopw [8] (fun ii wr => ∃ (p k : Nat), p + 1 ≤ ks.length ∧ ii = .int .i64 ((p : Int) + 1) ∧ wr = W.drewN k ∧ ∀ i, 1 ≤ i → i < p + 1 → refG m l ks i) (fun ii _ => ks.length - (intOf ii).toNat)
            case atStart => exact ⟨0, k, by omega, by go_num, rfl, fun i h1 h2 => by omega⟩
            case round =>
              obtain ⟨p, k3, hp, rfl, rfl, hG⟩ := hrel
              have HGG := Lib.hid hG
              clear hG
              by_cases hpl : p + 1 < ks.length
              · obtain ⟨b, off, cc, hv, hc1, hc2, hblt, hcell⟩ := RdS.at_ HR1.out hn0
                cases hv
                unfold maxLen at hc2
                obtain ⟨bk, ok, ck', hvk, hk1, hk2, hbk, hkc⟩ := RdI.kAt_ HK1.out hkl0
                cases hvk
                unfold maxLen at hk2
                have q0 := hkc p (by omega)
                have q1 := hkc (p + 1) hpl
                obtain ⟨ra1, ra2⟩ := hix.at_ p (by omega)
                obtain ⟨rb1, rb2⟩ := hix.at_ (p + 1) hpl
                have rab := hix.lt_ p (p + 1) (by omega) hpl
                have HR0 := Lib.hid (show refG m l ks (p + 1) ↔ (kAt ks p + 1 < kAt ks (p + 1) → (atS l (kAt ks (p + 1)).toNat).t - (atS l (kAt ks p).toNat).t ≤ m) by unfold refG; rw [Nat.add_sub_cancel])
                have HN := Lib.hid (fun h : refG m l ks (p + 1) => show ∀ i, 1 ≤ i → i < p + 1 + 1 → refG m l ks i from fun i h1 h2 => by by_cases h3 : i = p + 1; rw [h3]; exact h; exact HGG.out i h1 (by omega))
                have HNX := Lib.hid (fun h : ¬ refG m l ks (p + 1) => HNO.out (fun h2 => h (h2.2.2.1 (p + 1) (by omega) hpl)))
                generalize kAt ks p = a at *
                generalize kAt ks (p + 1) = bb at *
                obtain ⟨aN, rfl⟩ : ∃ aN : Nat, a = (aN : Int) := ⟨a.toNat, by omega⟩
                obtain ⟨bN, rfl⟩ : ∃ bN : Nat, bb = (bN : Int) := ⟨bb.toNat, by omega⟩
                rw [Int.toNat_natCast, Int.toNat_natCast] at HR0
                obtain ⟨t0, _, _⟩ := hcell aN (by omega)
                obtain ⟨t1, _, _⟩ := hcell bN (by omega)
                have hbt := (serErr_vt hS aN).2
                have hbu := (serErr_vt hS bN).2
                generalize (atS l aN).t = ta at *
                generalize (atS l bN).t = tb at *
                have d1 : W.cell? ⟨w.heap.size, 1, none⟩ = some (.int .i64 m) := bd0.cell 1
                have hb0 : (0 : Int) ≤ (p : Int) + 1 := by omega
                have hb1 : (p : Int) + 1 < (ks.length : Int) := by omega
                have hb2 : (p : Int) < (ks.length : Int) := by omega
                have hb3 : ((p : Int) + 1).toNat = p + 1 := by omega
                have hb4 : IntKind.i64.wrap ((p : Int) + 1 - 1) = (p : Int) := by rw [Int.add_sub_cancel]; exact IntWalk.i64_in _ (by omega)
                have hb5 : IntKind.i64.wrap (p : Int) = (p : Int) := IntWalk.i64_in _ (by omega)
                have hb6 : IntKind.i64.wrap ((aN : Int) + 1) = (aN : Int) + 1 := IntWalk.i64_in _ (by omega)
                have hb7 : IntKind.i64.wrap (tb - ta) = tb - ta := IntWalk.i64_in _ (by omega)
                clear hcell hkc
                go_upto_region 13 with fail
                go_quiet (fail)
                go_upto_region 14 with fail
                by_cases hgt : (aN : Int) + 1 < (bN : Int)
                · have hgt' : ((bN : Int) > (aN : Int) + 1) := hgt
                  by_cases hgm : tb - ta ≤ m
                  · have hgm' : ¬ (tb - ta > m) := by omega
                    have HG := Lib.hid (HN.out (HR0.out.2 (fun _ => hgm)))
                    clear hgt hgm
                    go_quiet (fail)
                    go_wp2_with fail
                    go_roundw
                    case rel => exact ⟨p + 1, _, by omega, by go_num, rfl, HG.out⟩
                    case measure => simp [intOf]; omega
                  · have hgm' : tb - ta > m := by omega
                    have HX := Lib.hid (HNX.out (fun h => hgm (HR0.out.1 h hgt)))
                    clear hgt hgm
                    go_quiet (fail)
                    go_wp2_with fail
                    go_ret
                    exact ⟨by rw [HX.out]; rfl, hbw.trans ⟨rfl, rfl, rfl, Nat.le_refl _, fun _ _ => rfl⟩⟩
                · have hgt' : ¬ ((bN : Int) > (aN : Int) + 1) := by omega
                  have HG := Lib.hid (HN.out (HR0.out.2 (fun h => absurd h hgt)))
                  clear hgt
                  go_quiet (fail)
                  go_wp2_with fail
                  go_roundw
                  case rel => exact ⟨p + 1, _, by omega, by go_num, rfl, HG.out⟩
                  case measure => simp [intOf]; omega
              · have HGA := Lib.hid (show ∀ i, 1 ≤ i → i < ks.length → refG m l ks i from fun i h1 h2 => HGG.out i h1 (by omega))
                have hpi : ¬ ((p : Int) + 1 < (ks.length : Int)) := by omega
                have HOF := Lib.hid (offs_any (.slice pa l.length ca) (.slice pk ks.length ck) l ks (W.drewN k3) (Rd.drewN HR1.out k3) (Rd.drewN HK1.out k3) hgood)
                have HOG := Lib.hid (fun i => offV_good (i := i) hgood)
                have hbk : Below w.heap.size w (W.drewN k3) := hbw.trans ⟨rfl, rfl, rfl, Nat.le_refl _, fun _ _ => rfl⟩
                have bdk : Blk (W.drewN k3) w.heap.size 30 #[.int .i64 d, .int .i64 m] := bd0
                have HLT := Lib.hid (fun (a b c e : Nat) (w : World) h1 h2 h3 h4 => lessThan_any a b c e w h1 h2 h3 h4)
                have HRR := Lib.hid (show RdS (W.drewN k3) 71 (.slice pa l.length ca) l from Rd.drewN HR1.out k3)
                clear HGG hp hpl
                go_wp2_with (go_at_call 112; refine HOF.out.mono ?_; rintro e w5 ⟨fv, hv, rfl, hof, hoh, hb5⟩)
                clear hpi
                have hlo : (offL l (choOf l ks) l.length).length = l.length := by simp [offL]
                have hlh : (hasL l (choOf l ks) l.length).length = l.length := by simp [hasL]
                have hrf : RdF w5 fv (offL l (choOf l ks) l.length) := by unfold RdF; rw [hlo]; exact Rd.of_own hof
                have hrh : Rd w5 4 1 hv (hasL l (choOf l ks) l.length).length ((hasL l (choOf l ks) l.length).map Value.bool) := by rw [hlh]; exact Rd.of_own hoh
                obtain ⟨b1, o1, k5, rfl, g1, g2, g3, hfc⟩ := RdF.cells hrf (by omega)
                obtain ⟨b2, o2, k6, rfl, g4, g5, g6, hhc⟩ := RdBool.at_ hrh (by omega)
                have HFC := Lib.hid (fun (i : Nat) (hi : i < l.length) => show w5.cell? ⟨b1, o1 + i * 2, none⟩ = some (.int .i64 (offR l (choOf l ks) i).1) ∧ w5.cell? ⟨b1, o1 + i * 2 + 1, none⟩ = some (.int .i64 (offR l (choOf l ks) i).2) by
                  have := hfc i (by omega)
                  rw [offL_at l (choOf l ks) l.length i hi] at this
                  exact this)
                have HHC := Lib.hid (fun (i : Nat) (hi : i < l.length) => show w5.cell? ⟨b2, o2 + i, none⟩ = some (.bool (hasI l (choOf l ks) i)) by
                  have := hhc i (by omega)
                  rw [hasL_at l (choOf l ks) l.length i hi] at this
                  exact this)
                have hb5' := hbk.trans (hb5.mono hbk.size)
                have bd5 := bdk.below hb5 bdk.lt
                have HR5 := Lib.hid (Rd.below HRR.out hb5 : RdS w5 71 (.slice pa l.length ca) l)
                rw [hlo, hlh]
                unfold maxLen at g2 g5
                rw [hlo] at g1
                rw [hlh] at g4
                clear hfc hhc hrf hrh hof hoh hb5 HOF hbk bdk HRR
                go_wp2_with fail
                go_loopw [103] (fun ii wr => ∃ i : Nat, i ≤ l.length ∧ ii = .int .i64 (i : Int) ∧ Below w5.heap.size w5 wr ∧ ∀ j, j < i → refV d l (choOf l ks) j) (fun ii _ => l.length - (intOf ii).toNat)
                case atStart => exact ⟨0, by omega, rfl, Below.refl _ _, fun j h => by omega⟩
                case round =>
                  obtain ⟨i, hi, rfl, hbr, hV⟩ := hrel
                  have HV := Lib.hid hV
                  clear hV
                  by_cases hil : i < l.length
                  · obtain ⟨b, off, cc, hv, hc1, hc2, hblt, hcell⟩ := RdS.at_ (Rd.below HR5.out hbr : RdS wr 71 (.slice pa l.length ca) l) hn0
                    cases hv
                    unfold maxLen at hc2
                    obtain ⟨c0, c1, c2⟩ := hcell i hil
                    obtain ⟨f0, f1⟩ := HFC.out i hil
                    have h0 := HHC.out i hil
                    have HOI := Lib.hid (HOG.out i)
                    have HRV := Lib.hid (show refV d l (choOf l ks) i ↔ ((atS l i).q ≠ 2 → hasI l (choOf l ks) i = true ∧ ¬ (d * (offR l (choOf l ks) i).2 < (offR l (choOf l ks) i).1)) from Iff.rfl)
                    have HRO := Lib.hid (show hasI l (choOf l ks) i = true → offR l (choOf l ks) i = offV l (choOf l ks) i from fun h => by unfold offR; rw [if_pos h])
                    have HN := Lib.hid (fun h : refV d l (choOf l ks) i => show ∀ j, j < i + 1 → refV d l (choOf l ks) j from fun j hj => by by_cases h3 : j = i; rw [h3]; exact h; exact HV.out j (by omega))
                    have HNX := Lib.hid (fun h : ¬ refV d l (choOf l ks) i => HNO.out (fun h2 => h (h2.2.2.2 i hil)))
                    generalize refV d l (choOf l ks) i = RV at *
                    generalize hasI l (choOf l ks) i = HB at *
                    generalize offR l (choOf l ks) i = O at *
                    generalize offV l (choOf l ks) i = OV at *
                    generalize atS l i = x at *
                    have hbx := Blk.new wr 71 #[.int .i64 x.t, .int .i64 x.v, .int .i64 x.q]
                    have hbrx := hbr.alloc hbr.size (.cells #[.int .i64 x.t, .int .i64 x.v, .int .i64 x.q] 71)
                    clear hcell
                    go_upto_region 20 with fail
                    generalize wr.alloc (.cells #[.int .i64 x.t, .int .i64 x.v, .int .i64 x.q] 71) = wx at *
                    generalize wr.heap.size = nx at *
                    have a2 := hbx.cell 2
                    have d0 := (bd5.below hbrx bd5.lt).cell 0
                    have y0 : wx.cell? ⟨b1, o1 + i * 2, none⟩ = some (.int .i64 O.1) := (below_cells' hbrx g3 _).trans f0
                    have y1 : wx.cell? ⟨b1, o1 + i * 2 + 1, none⟩ = some (.int .i64 O.2) := (below_cells' hbrx g3 _).trans f1
                    have y2 : wx.cell? ⟨b2, o2 + i, none⟩ = some (.bool HB) := (below_cells' hbrx g6 _).trans h0
                    have hi1 : (i : Int) < (l.length : Int) := by omega
                    clear f0 f1 h0 c0 c1 c2
                    by_cases hq : x.q = 2
                    · have hq' : (x.q != 2) = false := by simpa using hq
                      have HG := Lib.hid (HN.out (HRV.out.2 (fun h => absurd hq h)))
                      clear hq
                      go_quiet (fail)
                      go_wp2_with fail
                      go_roundw
                      case rel => exact ⟨i + 1, by omega, by go_num, belowN hbrx _, HG.out⟩
                      case measure => simp [intOf]; omega
                    · have hq' : (x.q != 2) = true := by simpa using hq
                      have HQ2 := Lib.hid hq
                      clear hq
                      cases HB
                      · have HX := Lib.hid (HNX.out (fun h => by have := (HRV.out.1 h HQ2.out).1; simp at this))
                        go_quiet (fail)
                        go_wp2_with fail
                        go_ret
                        exact ⟨by rw [HX.out]; rfl, hb5'.trans ((belowN hbrx _).mono hb5'.size)⟩
                      · obtain ⟨_, s1, s2⟩ := HOI.out rfl
                        have hOV := HRO.out rfl
                        subst hOV
                        obtain ⟨n1, e1⟩ : ∃ n1 : Nat, O.1 = (n1 : Int) := ⟨O.1.toNat, by omega⟩
                        obtain ⟨n2, e2⟩ : ∃ n2 : Nat, O.2 = (n2 : Int) := ⟨O.2.toNat, by omega⟩
                        obtain ⟨n3, e3⟩ : ∃ n3 : Nat, d = (n3 : Int) := ⟨d.toNat, by omega⟩
                        rw [e1] at y0
                        rw [e2] at y1
                        have hlt := fun w => (show Calls Try.prog 113 #[.agg #[.int .i64 (n3 : Int), .int .i64 1], .agg #[.int .i64 (n1 : Int), .int .i64 (n2 : Int)]] w fun e w' => e = .returned (.bool (decide (n3 * n2 < n1 * 1))) ∧ Below w.heap.size w w' from HLT.out n3 1 n1 n2 w (by omega) (by omega) (by omega) (by omega))
                        have hde : (decide (n3 * n2 < n1 * 1) = true) ↔ (d * O.2 < O.1) := by
                          rw [decide_eq_true_eq, e1, e2, e3, Nat.mul_one]
                          exact ⟨fun h => by exact_mod_cast h, fun h => by exact_mod_cast h⟩
                        have HDE := Lib.hid hde
                        generalize decide (n3 * n2 < n1 * 1) = DL at *
                        have HLL := Lib.hid hlt
                        have d0' : wx.cell? ⟨w.heap.size, 0, none⟩ = some (.int .i64 (n3 : Int)) := by rw [← e3]; exact d0
                        clear hlt hde e1 e2 e3 s1 s2 d0
                        go_cut [127] (fun s127 wy => s127 = .bool DL ∧ Below w5.heap.size w5 wy)
                        case first =>
                          first | (go_region_with (go_at_call 113; (with_reducible refine (HLL.out _).mono ?_); rintro e wc ⟨rfl, hbc⟩)) | fail
                          all_goals go_wp2_with fail
                          all_goals go_meet
                          all_goals exact ⟨rfl, hbrx.drew.trans (hbc.mono hbrx.drew.size)⟩
                        case rest =>
                          obtain ⟨rfl, hby⟩ := hcut
                          cases DL
                          · have HG := Lib.hid (HN.out (HRV.out.2 (fun _ => ⟨rfl, fun h => by have := HDE.out.2 h; simp at this⟩)))
                            go_wp2_with fail
                            go_roundw
                            case rel => exact ⟨i + 1, by omega, by go_num, hby, HG.out⟩
                            case measure => simp [intOf]; omega
                          · have HX := Lib.hid (HNX.out (fun h => (HRV.out.1 h HQ2.out).2 (HDE.out.1 rfl)))
                            go_wp2_with fail
                            go_ret
                            exact ⟨by rw [HX.out]; rfl, hb5'.trans (hby.mono hb5'.size)⟩
                  · have HX := Lib.hid (HYES.out ⟨HZL.out, HQA.out, HGA.out, fun j hj => HV.out j (by omega)⟩)
                    go_wp2_with fail
                    go_ret
                    exact ⟨by rw [HX.out]; rfl, hb5'.trans (hbr.mono hb5'.size)⟩
      · have hl' : decide ((l.length : Int) - 1 ∈ ks) = false := by simpa using hl
        have HX := Lib.hid (HNO.out (fun h => hl h.1.2))
        clear hz hl
        go_wp2_with (first
          | (go_at_call 104; refine (HC.out _ 0 HK1.out).mono ?_; rintro e wa ⟨rfl, k1, rfl⟩; rw [hz'])
          | (go_at_call 104; refine (HC.out _ ((l.length : Int) - 1) (Rd.drewN HK1.out _)).mono ?_; rintro e wb ⟨rfl, k2, rfl⟩; rw [hl']))
        go_ret
        exact ⟨by rw [HX.out]; rfl, hbw.trans ⟨rfl, rfl, rfl, Nat.le_refl _, fun _ _ => rfl⟩⟩
    · have hz' : decide ((0 : Int) ∈ ks) = false := by simpa using hz
      have HX := Lib.hid (HNO.out (fun h => hz h.1.1))
      clear hz
      go_wp2_with (go_at_call 104; refine (HC.out _ 0 HK1.out).mono ?_; rintro e wa ⟨rfl, k1, rfl⟩; rw [hz'])
      go_ret
      exact ⟨by rw [HX.out]; rfl, hbw.trans ⟨rfl, rfl, rfl, Nat.le_refl _, fun _ _ => rfl⟩⟩
end Go.Proofs.Ytblbfpokkpkcjaa
