/- TopAlarmsAreTimeAbove: the walk of the law. No condition. -/
import Derived.Test.YtjoknaglhahbaaaHfac
import Derived.Test.YtjoknaglhahbaaaRcv
import Derived.Test.YtjoknaglhahbaaaEqw
namespace Go.Proofs.Ytjoknaglhahbaaa
open Go.RowKit
set_option linter.unusedVariables false
set_option linter.unusedSimpArgs false

theorem jnF_in {l : List (Int × Int)} {a b : Int} {P : Int × Int → Prop} (h : ∀ w ∈ l, P w) (hab : P (a, b)) (hb : ∀ w, P w → P (w.1, b)) : ∀ w ∈ jnF l a b, P w := by
  intro w hw
  unfold jnF at hw
  by_cases hc : l = [] ∨ (l.getD (l.length - 1) (0, 0)).2 < a
  · rw [if_pos hc, List.mem_append] at hw
    rcases hw with hw | hw
    · exact h w hw
    · simp only [List.mem_singleton] at hw; subst hw; exact hab
  · rw [if_neg hc] at hw
    rcases List.mem_or_eq_of_mem_set hw with hw | hw
    · exact h w hw
    · subst hw
      have hne : l ≠ [] := fun e => hc (.inl e)
      have hm : l.length - 1 < l.length := by have := List.length_pos_iff.2 hne; omega
      rw [List.getD_eq_getElem?_getD, List.getElem?_eq_getElem hm]
      exact hb _ (h _ (List.getElem_mem hm))
theorem abS_in (L : Int) {f t : Int} (r : List Str) : (∀ x ∈ r, StrOk f t x) → ∀ w ∈ (abS L r).1, f ≤ w.1 ∧ w.1 ≤ t ∧ f ≤ w.2 ∧ w.2 ≤ t := by
  refine snocI (P := fun r => (∀ x ∈ r, StrOk f t x) → ∀ w ∈ (abS L r).1, f ≤ w.1 ∧ w.1 ≤ t ∧ f ≤ w.2 ∧ w.2 ≤ t) (fun _ w hw => by simp [abS] at hw) (fun r x ih hr => ?_) r
  have ih := ih (fun y hy => hr y (by simp [hy]))
  have hx := hr x (by simp)
  unfold StrOk at hx
  rw [abS_snoc]
  unfold abT
  split
  · exact jnF_in ih ⟨by omega, by omega, by omega, by omega⟩ (fun w hw => ⟨hw.1, hw.2.1, by omega, by omega⟩)
  · exact ih
theorem aboV_in {l : List Smp} {t L : Int} (hS : serErr l = 0) : ∀ w ∈ (aboV l 0 t L).1, 0 ≤ w.1 ∧ w.1 ≤ t ∧ 0 ≤ w.2 ∧ w.2 ≤ t :=
  abS_in L _ (fun x hx => strL_ok hS x (List.mem_filter.1 hx).1)
theorem aboV_long {l : List Smp} {t L : Int} (hS : serErr l = 0) (ht : t ≤ 345686400000) : (aboV l 0 t L).1.length ≤ l.length := by
  have h1 := (abS_long L (Int.le_refl 0) ht (valL l 0 t) (fun x hx => strL_ok hS x (List.mem_filter.1 hx).1)).1
  have h2 : (valL l 0 t).length ≤ (strL l 0 t).length := List.length_filter_le _ _
  have h3 := strL_long l 0 t
  unfold aboV
  omega
theorem sumW_take {W : List (Int × Int)} {j : Nat} (hj : j < W.length) : sumW (W.take (j + 1)) = sumW (W.take j) + ((W[j]).2 - (W[j]).1) := by
  rw [List.take_succ_eq_append_getElem hj, sumW_snoc]
theorem sumW_bound {W : List (Int × Int)} {t : Int} (h : ∀ w ∈ W, 0 ≤ w.1 ∧ w.1 ≤ t ∧ 0 ≤ w.2 ∧ w.2 ≤ t) (j : Nat) (hj : j ≤ W.length) (ht : t ≤ 1000) : -(j * 1000 : Int) ≤ sumW (W.take j) ∧ sumW (W.take j) ≤ j * 1000 := by
  induction j with
  | zero => simp [sumW]
  | succ j ih =>
    have h1 := h _ (List.getElem_mem (show j < W.length by omega))
    have h2 := ih (by omega)
    rw [sumW_take (by omega)]
    omega

set_option maxRecDepth 100000 in
set_option maxHeartbeats 4000000 in
theorem topAlarms_walk (w : World) (L : List Int) (A : Option Addr) (cap : Nat) (hc : ∀ i, i < L.length → ∃ ad : Addr, A = some ad ∧ ad.block < w.heap.size ∧ w.cell? (ad.add i) = some (.int .i64 (L.getD i 0)))
    (hl : L.length ≤ 9223372036854775807) (hwf : ∀ i, -9223372036854775808 ≤ L.getD i 0 ∧ L.getD i 0 ≤ 9223372036854775807) :
    Calls Try.prog 4 #[.slice A L.length cap] w fun e w' => e = .returned (.bool true) ∧ Below w.heap.size w w' := by
  have hS0 : Strm (w.alloc (.cells #[.slice A L.length cap, .int .i64 0] 25)) w.heap.size L A cap 0 :=
    ⟨heap_alloc_new w _, fun i hi => by
      obtain ⟨ad, e, hb, hcell⟩ := hc i hi
      exact ⟨ad, e, hb, by rw [World.cell?_alloc_lt _ _ _ (by rw [addr_add_block]; exact hb)]; exact hcell⟩, hl, hwf⟩
  have HS0 := Lib.hid hS0
  clear hS0 hc hwf
  go_enter Try.func4, Try.ntmps4
  go_wp2_with fail
  refine (rightCurve_went _ w.heap.size L A cap 0 14 HS0.out (by omega) (by omega)).mono ?_
  rintro e w1 ⟨v, rfl, l, k1, hrd, hlen, hser, hk1, hw1⟩
  go_wp2_with fail
  refine (range_went _ w.heap.size L A cap k1 (-2) 8 hw1.1 (by omega) (by omega) (by omega) (by omega)).mono ?_
  rintro e w2 ⟨rfl, hw2, _⟩
  have hr1 := nxt_range L k1 (8 - -2 + 1) (by omega)
  have hlim : -2 ≤ -2 + nxt L k1 (8 - -2 + 1) ∧ -2 + nxt L k1 (8 - -2 + 1) ≤ 8 := by omega
  generalize -2 + nxt L k1 (8 - -2 + 1) = lim at *
  clear hr1
  go_wp2_with fail
  refine (range_went _ w.heap.size L A cap (k1 + 1) 1 200 hw2.1 (by omega) (by omega) (by omega) (by omega)).mono ?_
  rintro e w3 ⟨rfl, hw3, _⟩
  have hr2 := nxt_range L (k1 + 1) (200 - 1 + 1) (by omega)
  have hu : 1 ≤ 1 + nxt L (k1 + 1) (200 - 1 + 1) ∧ 1 + nxt L (k1 + 1) (200 - 1 + 1) ≤ 200 := by omega
  generalize 1 + nxt L (k1 + 1) (200 - 1 + 1) = u at *
  clear hr2
  have hrd3 : RdS w3 45 v l := Rd.but hw2.1 (by decide) (Rd.but hw1.1 (by decide) hrd hw2.2) hw3.2
  have hb3 := hw1.2.trans (hw2.2.trans hw3.2)
  have hlow : Below w.heap.size w w3 := ((Below.refl _ w).alloc (Nat.le_refl _) _).trans ⟨hb3.os, hb3.tape, hb3.output, hb3.size, fun i hi => hb3.block i (by simp; omega) (by omega)⟩
  obtain ⟨pa, ca, rfl⟩ := hrd3.lenv
  have HRD := Lib.hid hrd3
  have HSER := Lib.hid hser
  have hll : l.length ≤ 5000 := by omega
  clear hrd hw1 hw2 hw3 hb3 hrd3 hk1 hser
  go_wp2_with fail
  refine (containsBad_any (.slice pa l.length ca) l _ HRD.out hll).mono ?_
  rintro e w4 ⟨B, rfl, hB, hb4⟩
  have hlow4 := hlow.trans (hb4.mono hlow.size)
  have HR4 := Lib.hid (Rd.below HRD.out hb4)
  have HB := Lib.hid hB
  clear hB hb4 hlow HRD
  cases B
  · have HQ := Lib.hid (HB.out rfl)
    go_wp2_with fail
    refine (active_hi lim 0 _ (.slice pa l.length ca) l u _ HR4.out (by omega) (by omega)).mono ?_
    rintro e w5 ⟨vr, rfl, hrr, hb5⟩
    have hz : actE l u = 0 := by
      unfold actE
      rw [if_neg (by simp [HSER.out]), inB_true.2 ⟨by omega, by omega⟩]
      rfl
    have hac := act_above (L := lim) (u := u) { data := #[] } HSER.out HQ.out
    have hrw : RdWdw w5 vr (aboV l 0 u lim).1 := by
      unfold actR at hrr
      rw [if_pos hz, hac.1] at hrr
      exact hrr
    rw [hz]
    have hlow5 := hlow4.trans (hb5.mono hlow4.size)
    have HR5 := Lib.hid (Rd.below HR4.out hb5)
    have HAC := Lib.hid hac.2
    obtain ⟨pr, cr, rfl⟩ := hrw.lenv
    have HRW := Lib.hid hrw
    clear hrr hrw hz hac hb5 hlow4 HR4
    go_wp2_with fail
    refine (above_any (.slice pa l.length ca) l 0 u lim _ HR5.out (by omega)).mono ?_
    rintro e w6 ⟨va, rfl, hra, hb6⟩
    have hE : aboE l 0 u lim = 0 := by
      unfold aboE
      have h1 : winErr 0 u = 0 := by unfold winErr; rw [if_pos (winB_true.2 ⟨by omega, by omega, by omega⟩)]
      rw [h1, HSER.out, inB_true.2 ⟨by omega, by omega⟩]
      rfl
    have hRR : aboR l 0 u lim = aboV l 0 u lim := by unfold aboR; rw [if_pos hE]
    rw [hE, hRR]
    rw [hRR] at hra
    have hlow6 := hlow5.trans (hb6.mono hlow5.size)
    have hrw6 : RdWdw w6 (.slice pr (aboV l 0 u lim).1.length cr) (aboV l 0 u lim).1 := Rd.below HRW.out hb6
    have hin := aboV_in (t := u) (L := lim) HSER.out
    have hwl := aboV_long (t := u) (L := lim) HSER.out (by omega)
    generalize aboV l 0 u lim = V at *
    have HIN := Lib.hid hin
    have HRW6 := Lib.hid hrw6
    have HRA := Lib.hid hra
    clear hE hRR hra hb6 hrw6 hin HRW HR5 hlow5
    go_wp2_with fail
    go_loopw [12, 46] (fun sn si wr => ∃ j : Nat, j ≤ V.1.length ∧ si = .int .i64 (j : Int) ∧ sn = .int .i64 (sumW (V.1.take j)) ∧ Below w6.heap.size w6 wr) (fun _ si _ => V.1.length - (intOf si).toNat)
    case atStart => exact ⟨0, by omega, rfl, by simp [sumW], Below.refl _ _⟩
    case round =>
      obtain ⟨j, hj, rfl, rfl, hbr⟩ := hrel
      by_cases hlt : j < V.1.length
      · obtain ⟨b, off, c, hv, hc1, hc2, hblt, hcell⟩ := RdWdw.cells (Rd.below HRW6.out hbr : RdWdw wr _ V.1) (by omega)
        cases hv
        unfold maxLen at hc2
        obtain ⟨c0, c1⟩ := hcell j hlt
        have hxb := HIN.out _ (List.getElem_mem hlt)
        have hsn := sumW_take hlt
        have hsb := sumW_bound HIN.out j hj (by omega)
        have hjl : j ≤ 14 := by omega
        generalize V.1[j] = x at *
        generalize sumW (V.1.take j) = S at *
        have HSN := Lib.hid hsn
        have hbx := hbr.alloc hbr.size (.cells #[.int .i64 x.1, .int .i64 x.2] 40)
        clear hcell hsn
        go_wp2_with fail
        go_roundw
        case rel => exact ⟨j + 1, by omega, by go_num, by rw [HSN.out], hbx⟩
        case measure => simp [intOf]; omega
      · obtain rfl : j = V.1.length := by omega
        have hs : sumW (V.1.take V.1.length) = V.2 := by rw [List.take_length]; exact HAC.out
        rw [hs]
        have hlow7 := hlow6.trans (hbr.mono hlow6.size)
        have hra7 : RdWdw wr va V.1 := Rd.below HRA.out hbr
        have hrw7 : RdWdw wr _ V.1 := Rd.below HRW6.out hbr
        have HQE := Lib.hid (equalW_same _ va V.1 _ hrw7 hra7)
        have hvv : (V.2 == V.2) = true := by simp
        clear hs hbr hra7 hrw7
        go_wp2_with fail
        refine HQE.out.mono ?_
        rintro e w7 ⟨rfl, m7, rfl⟩
        have hlow8 : Below w.heap.size w (wr.drewN m7) := hlow7.trans ⟨rfl, rfl, rfl, Nat.le_refl _, fun _ _ => rfl⟩
        generalize wr.drewN m7 = w8 at *
        go_wp2_with fail
        refine (h06_any _).mono ?_
        rintro e w9 ⟨rfl, hb9⟩
        go_wp2_with fail
        go_ret
        exact ⟨rfl, hlow8.trans (hb9.mono hlow8.size)⟩
  · go_wp2_with fail
    refine (h06_any _).mono ?_
    rintro e w5 ⟨rfl, hb5⟩
    go_wp2_with fail
    go_ret
    exact ⟨rfl, hlow4.trans (hb5.mono hlow4.size)⟩
end Go.Proofs.Ytjoknaglhahbaaa
