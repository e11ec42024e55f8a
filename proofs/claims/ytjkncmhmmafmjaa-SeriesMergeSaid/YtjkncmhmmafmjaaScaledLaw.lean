/- The walk of the statement ValuesScaled: the call returns true, and what was there stays. -/
import Derived.Test.YtjkncmhmmafmjaaSampled
import Derived.Test.YtjkncmhmmafmjaaScaled
import Derived.Test.YtjkncmhmmafmjaaFactor
import Derived.Deep.RegionWith
namespace Go.Proofs.Ytjkncmhmmafmjaa
open Go.RowKit
set_option linter.unusedVariables false
set_option linter.unusedSimpArgs false

/-- What stays readable while the statement goes on. -/
structure KS (w0 : World) (va vx vy : Value) (a X Y : List Smp) (F : Nat) (n d : Int) (w : World) : Prop where
  ra : RdS w 27 va a
  rx : RdS w 27 vx X
  ry : RdS w 27 vy Y
  bf : Blk w F 48 #[.int .i64 n, .int .i64 d]
  below : Below w0.heap.size w0 w

section
variable {w0 : World} {va vx vy : Value} {a X Y : List Smp} {F : Nat} {n d : Int} {w w' : World}
theorem KS.step (hb : Below w.heap.size w w') (h : KS w0 va vx vy a X Y F n d w) : KS w0 va vx vy a X Y F n d w' :=
  ⟨Rd.below h.ra hb, Rd.below h.rx hb, Rd.below h.ry hb, h.bf.below hb h.bf.lt, h.below.trans (hb.mono h.below.size)⟩
theorem KS.alloc (h : KS w0 va vx vy a X Y F n d w) (o : Obj) : KS w0 va vx vy a X Y F n d (w.alloc o) := h.step ((Below.refl _ w).alloc (Nat.le_refl _) o)
theorem KS.drew (h : KS w0 va vx vy a X Y F n d w) : KS w0 va vx vy a X Y F n d w.drew := ⟨h.ra, h.rx, h.ry, h.bf, h.below.drew⟩
theorem KS.drewN (h : KS w0 va vx vy a X Y F n d w) (m : Nat) : KS w0 va vx vy a X Y F n d (w.drewN m) := ⟨h.ra, h.rx, h.ry, h.bf, bdrewN h.below m⟩
end

theorem facOf_range (L : List Int) (k : Nat) : (-9223372036854775808 ≤ (facOf L k).1 ∧ (facOf L k).1 ≤ 9223372036854775807) ∧ (-9223372036854775808 ≤ (facOf L k).2 ∧ (facOf L k).2 ≤ 9223372036854775807) := by
  have key : ∀ (l : List (Int × Int)) (i : Nat), (∀ p ∈ l, (-9223372036854775808 ≤ p.1 ∧ p.1 ≤ 9223372036854775807) ∧ (-9223372036854775808 ≤ p.2 ∧ p.2 ≤ 9223372036854775807)) →
      (-9223372036854775808 ≤ (l.getD i (0, 0)).1 ∧ (l.getD i (0, 0)).1 ≤ 9223372036854775807) ∧ (-9223372036854775808 ≤ (l.getD i (0, 0)).2 ∧ (l.getD i (0, 0)).2 ≤ 9223372036854775807) := by
    intro l i h
    rw [List.getD_eq_getElem?_getD]
    rcases Nat.lt_or_ge i l.length with hi | hi
    · rw [List.getElem?_eq_getElem hi]; exact h _ (List.getElem_mem hi)
    · rw [List.getElem?_eq_none hi]; simp
  unfold facOf
  split
  · exact key _ _ (by simp [facB])
  · exact key _ _ (by simp [facA])
theorem facK_le (L : List Int) (k : Nat) : facK L k ≤ k + 3 := by unfold facK; split <;> omega

theorem errs2o_any (w : World) (b : Nat) (x y : Int) (hB : Blk w b 34 #[.int .i64 x, .int .i64 y]) :
    Calls Try.prog 12 #[.slice (some ⟨b, 0, none⟩) 2 2] w fun e w' => e = .returned (.int .i64 (orErr x y)) ∧ w = w' := errs2_any w b x y hB

theorem bundrewN {B m : Nat} {w w' : World} (h : Below B (w.drewN m) w') : Below B w w' := ⟨h.os, h.tape, h.output, h.size, h.block⟩
theorem equal_same (v v' : Value) (l : List Smp) (w : World) (hR : RdS w 27 v l) (hR' : RdS w 27 v' l) :
    Calls Try.prog 19 #[v, v'] w fun e w' => e = .returned (.bool true) ∧ ∃ m, w' = w.drewN m :=
  (equal_any v v' l l w hR hR').mono fun e w' h => ⟨by rw [h.1]; simp, h.2⟩
theorem scaleR_ok {S : List Smp} {n d o : Int} (h : orErr (serErr S) (facErr n d o) = 0) : scaleR S n d o = S.map (good (scaleF n d o)) ∧ S.length ≤ 5000 ∧ (∀ x ∈ S, -1000000 ≤ x.v ∧ x.v ≤ 1000000) ∧
    (-1000000 ≤ n ∧ n ≤ 1000000) ∧ (1 ≤ d ∧ d ≤ 1000000) ∧ (-1000000 ≤ o ∧ o ≤ 1000000) := by
  have h1 : serErr S = 0 := by unfold orErr at h; split at h <;> omega
  have h2 : facErr n d o = 0 := by unfold orErr at h; split at h <;> omega
  obtain ⟨a1, a2⟩ := serErr_good h1
  obtain ⟨_, _, b1, b2, _, b3⟩ := facErr_good h2
  exact ⟨by unfold scaleR; rw [if_pos h], a1, fun x hx => (smpErr_good (a2 x hx)).2.2.1, b1, b2, b3⟩
theorem scaleR_no {S : List Smp} {n d o : Int} (h : orErr (serErr S) (facErr n d o) ≠ 0) : scaleR S n d o = [] := by unfold scaleR; rw [if_neg h]
theorem limitR_ok {S : List Smp} {lo hi : Int} (h : orErr (serErr S) (limErr lo hi) = 0) : limitR S lo hi = S.map (good (limitF lo hi)) ∧ S.length ≤ 5000 ∧ lo ≤ hi := by
  have h1 : serErr S = 0 := by unfold orErr at h; split at h <;> omega
  have h2 : limErr lo hi = 0 := by unfold orErr at h; split at h <;> omega
  obtain ⟨a1, a2⟩ := serErr_good h1
  refine ⟨by unfold limitR; rw [if_pos h], a1, ?_⟩
  unfold limErr at h2
  split at h2 <;> omega
theorem limitR_no {S : List Smp} {lo hi : Int} (h : orErr (serErr S) (limErr lo hi) ≠ 0) : limitR S lo hi = [] := by unfold limitR; rw [if_neg h]

theorem but_below {g B : Nat} {a b : World} (h : But g a b) (hB : B ≤ g) (hs : B ≤ a.heap.size) : Below B a b :=
  ⟨h.os, h.tape, h.output, h.size, fun i hi => h.block i (by omega) (by omega)⟩

set_option maxRecDepth 100000 in
set_option maxHeartbeats 4000000 in
theorem valuesScaled_walk (w : World) (L : List Int) (A : Option Addr) (cap : Nat) (hc : ∀ i, i < L.length → ∃ ad : Addr, A = some ad ∧ ad.block < w.heap.size ∧ w.cell? (ad.add i) = some (.int .i64 (L.getD i 0)))
    (hl : L.length ≤ 9223372036854775807) (hwf : ∀ i, -9223372036854775808 ≤ L.getD i 0 ∧ L.getD i 0 ≤ 9223372036854775807) :
    Calls Try.prog 5 #[.slice A L.length cap] w fun e w' => e = .returned (.bool true) ∧ Below w.heap.size w w' := by
  have hS0 : Strm (w.alloc (.cells #[.slice A L.length cap, .int .i64 0] 25)) w.heap.size L A cap 0 :=
    ⟨heap_alloc_new w _, fun i hi => by
      obtain ⟨ad, e, hb, hcell⟩ := hc i hi
      exact ⟨ad, e, hb, by rw [World.cell?_alloc_lt _ _ _ (by rw [addr_add_block]; exact hb)]; exact hcell⟩, hl, hwf⟩
  have HS0 := Lib.hid hS0
  clear hS0 hc hwf
  go_enter Try.func5, Try.ntmps5
  go_wp2_with fail
  refine (samples_went _ w.heap.size L A cap 0 8 HS0.out (by omega) (by omega)).mono ?_
  rintro e w1 ⟨v1, rfl, hown1, hw1⟩
  have hk1 := samplesK_le L 0 8 (by omega)
  have hsl := samples_length L 0 8
  have hsn := rightN_le L 0 8 (by omega)
  generalize samples L 0 8 = S at *
  generalize samplesK L 0 8 = K1 at *
  have hlen : S.length ≤ 8 := by omega
  have hr1 : RdS w1 27 v1 S := Rd.of_own hown1
  clear hsl hsn hown1
  go_wp2_with fail
  refine (factor_went _ w.heap.size L A cap K1 hw1.1 (by omega)).mono ?_
  rintro e w2 ⟨rfl, hw2⟩
  have hk2 := facK_le L K1
  have hfr := facOf_range L K1
  generalize (facOf L K1).1 = n at *
  generalize (facOf L K1).2 = d at *
  generalize facK L K1 = K2 at *
  have hr2 : RdS w2 27 v1 S := Rd.but hw1.1 (by decide) hr1 hw2.2
  go_wp2_with fail
  refine (pick_new _ _ w.heap.size L A cap K2 [0, 0, 7, -3, 1000000, -1000000, 1000001, -9223372036854775808] hw2.1 rfl (by omega) (by simp)).mono ?_
  rintro e w3 ⟨rfl, hw3⟩
  generalize pk [0, 0, 7, -3, 1000000, -1000000, 1000001, -9223372036854775808] L K2 = o at *
  have hr3 : RdS w3 27 v1 S := Rd.but hw2.1 (by decide) hr2 hw3.2
  have hf3 := Blk.new w3 48 #[.int .i64 n, .int .i64 d]
  have hs3 := hw3.1.alloc (.cells #[.int .i64 n, .int .i64 d] 48)
  have hr3' := Rd.alloc hr3 (.cells #[.int .i64 n, .int .i64 d] 48)
  have HF3 := Lib.hid hf3
  have hb3 : Below w.heap.size w w3 := ((Below.refl _ w).alloc (Nat.le_refl _) _).trans (but_below (hw1.2.trans (hw2.2.trans hw3.2)) (Nat.le_refl _) (by simp))
  have hg3 : w.heap.size < w3.heap.size := hw3.1.lt
  clear hf3 hr1 hr2 hr3 hw1 hw2 hw3
  go_wp2_with fail
  refine (pick_new _ _ w.heap.size L A cap (K2 + 1) [0, 5, -10, -1000000, 6, -1000001] hs3 (by simp) (by omega) (by simp)).mono ?_
  rintro e w5 ⟨rfl, hw5⟩
  generalize pk [0, 5, -10, -1000000, 6, -1000001] L (K2 + 1) = lo at *
  go_wp2_with fail
  refine (pick_new _ _ w.heap.size L A cap (K2 + 2) [5, 6, 50, 1000000, -20, 1000001] hw5.1 rfl (by omega) (by simp)).mono ?_
  rintro e w6 ⟨rfl, hw6⟩
  generalize pk [5, 6, 50, 1000000, -20, 1000001] L (K2 + 2) = hi at *
  have hr6 : RdS w6 27 v1 S := Rd.but hw5.1 (by decide) (Rd.but hs3 (by decide) hr3' hw5.2) hw6.2
  have hf6 : Blk w6 w3.heap.size 48 #[.int .i64 n, .int .i64 d] := (HF3.out.but hw5.2 (by omega)).but hw6.2 (by omega)
  have hb6 : Below w.heap.size w w6 := (hb3.alloc (by omega) _).trans (but_below (hw5.2.trans hw6.2) (Nat.le_refl _) (by simp; omega))
  have hs6 := hw6.1
  have c0 : w6.cell? ⟨w3.heap.size, 0, none⟩ = some (.int .i64 n) := hf6.cell 0
  have c1 : w6.cell? ⟨w3.heap.size, 1, none⟩ = some (.int .i64 d) := hf6.cell 1
  clear hw5 hw6 hs3 hr3'
  go_wp2_with fail
  refine (scale_any v1 S n d o _ hr6 hfr.1 hfr.2).mono ?_
  rintro e w7 ⟨vx, rfl, hx7, hb67⟩
  go_wp2_with fail
  refine (limit_any v1 S lo hi _ (Rd.below hr6 hb67)).mono ?_
  rintro e w8 ⟨vy, rfl, hy8, hb78⟩
  have hr7 : RdS w7 27 v1 S := Rd.below hr6 hb67
  have hf7 := hf6.below hb67 hf6.lt
  have hb7 : Below w.heap.size w w7 := hb6.trans (hb67.mono hb6.size)
  have hk8 : KS w v1 vx vy S (scaleR S n d o) (limitR S lo hi) w3.heap.size n d w8 :=
    ⟨Rd.below hr7 hb78, Rd.below hx7 hb78, hy8, hf7.below hb78 hf7.lt, hb7.trans (hb78.mono hb7.size)⟩
  have e0 : w8.cell? ⟨w3.heap.size, 0, none⟩ = some (.int .i64 n) := hk8.bf.cell 0
  have e1 : w8.cell? ⟨w3.heap.size, 1, none⟩ = some (.int .i64 d) := hk8.bf.cell 1
  clear hr6 hr7 hf6 hf7 hb6 hb7 hb67 hb78 hx7 hy8 c0 c1 hb3 hs6
  go_wp2_with fail
  go_region_with (first
    | (go_at_call 11; refine (seriesFault_any v1 S _ (KS.ra (by first | assumption | exact KS.drew (by assumption) | exact KS.alloc (by assumption) _))).mono ?_; rintro e wk ⟨rfl, hbk⟩; have hkk := KS.step hbk (by first | assumption | exact KS.drew (by assumption) | exact KS.alloc (by assumption) _); have q0 : wk.cell? ⟨w3.heap.size, 0, none⟩ = some (.int .i64 n) := hkk.bf.cell 0; have q1 : wk.cell? ⟨w3.heap.size, 1, none⟩ = some (.int .i64 d) := hkk.bf.cell 1; clear hbk)
    | (go_at_call 35; refine (factorFault_any n d o _ hfr.1 hfr.2).mono ?_; rintro e wk ⟨rfl, hbk⟩; have hkk := KS.step hbk (by first | assumption | exact KS.drew (by assumption) | exact KS.alloc (by assumption) _); clear hbk)
    | (go_at_call 36; refine (limitFault_any lo hi _).mono ?_; rintro e wk ⟨rfl, rfl⟩)
    | (go_at_call 12; refine (errs2o_any _ _ _ _ (by exact Blk.new _ _ _)).mono ?_; rintro e wk ⟨rfl, rfl⟩))
  all_goals
    by_cases h1 : orErr (serErr S) (facErr n d o) = 0
    · have h1' : (orErr (serErr S) (facErr n d o) == 0) = true := by simpa using h1
      have H1 := Lib.hid (scaleR_ok h1)
      clear h1
      by_cases h2 : orErr (serErr S) (limErr lo hi) = 0
      · have h2' : (orErr (serErr S) (limErr lo hi) == 0) = true := by simpa using h2
        have H2 := Lib.hid (limitR_ok h2)
        clear h2
        have hk9 := KS.alloc hkk (.cells #[.int .i64 (serErr S), .int .i64 (limErr lo hi)] 34)
        have HK9 := Lib.hid hk9
        have g0 : (wk.alloc (.cells #[.int .i64 (serErr S), .int .i64 (limErr lo hi)] 34)).cell? ⟨w3.heap.size, 0, none⟩ = some (.int .i64 n) := hk9.bf.cell 0
        have g1 : (wk.alloc (.cells #[.int .i64 (serErr S), .int .i64 (limErr lo hi)] 34)).cell? ⟨w3.heap.size, 1, none⟩ = some (.int .i64 d) := hk9.bf.cell 1
        clear hk9 hkk hk8 e0 e1 q0 q1
        go_wp2_with fail
        refine (scaledOf_any v1 S n d o _ HK9.out.ra H1.out.2.1 H1.out.2.2.1 H1.out.2.2.2.1 H1.out.2.2.2.2.1 H1.out.2.2.2.2.2).mono ?_
        rintro e wa ⟨vwx, rfl, hwx, hba⟩
        have hka := KS.step hba HK9.out
        rw [← H1.out.1] at hwx
        clear hba
        go_wp2_with fail
        refine (limitedOf_any v1 S lo hi _ hka.ra H2.out.2.1 H2.out.2.2).mono ?_
        rintro e wb ⟨vwy, rfl, hwy, hbb⟩
        have hkb := KS.step hbb hka
        have hwx' := Rd.below hwx hbb
        rw [← H2.out.1] at hwy
        clear hbb hka hwx
        go_wp2_with fail
        refine (equal_same vx _ (scaleR S n d o) _ hkb.rx hwx').mono ?_
        rintro e wd ⟨rfl, md, rfl⟩
        go_wp2_with fail
        refine (equal_same vy _ (limitR S lo hi) _ (Rd.drewN hkb.ry _) (Rd.drewN hwy _)).mono ?_
        rintro e wf ⟨rfl, mf, rfl⟩
        go_wp2_with fail
        refine (sampled_any _).mono ?_
        rintro e wg ⟨rfl, hbg⟩
        have hend := hkb.below
        go_wp2_with fail
        go_ret
        exact ⟨rfl, hend.trans (Below.mono (bundrewN hbg) hend.size)⟩
      · have h2' : (orErr (serErr S) (limErr lo hi) == 0) = false := by simpa using h2
        have H2 := Lib.hid (limitR_no h2)
        clear h2
        have hk9 := KS.alloc hkk (.cells #[.int .i64 (serErr S), .int .i64 (limErr lo hi)] 34)
        have HK9 := Lib.hid hk9
        have g0 : (wk.alloc (.cells #[.int .i64 (serErr S), .int .i64 (limErr lo hi)] 34)).cell? ⟨w3.heap.size, 0, none⟩ = some (.int .i64 n) := hk9.bf.cell 0
        have g1 : (wk.alloc (.cells #[.int .i64 (serErr S), .int .i64 (limErr lo hi)] 34)).cell? ⟨w3.heap.size, 1, none⟩ = some (.int .i64 d) := hk9.bf.cell 1
        clear hk9 hkk hk8 e0 e1 q0 q1
        go_wp2_with fail
        refine (scaledOf_any v1 S n d o _ HK9.out.ra H1.out.2.1 H1.out.2.2.1 H1.out.2.2.2.1 H1.out.2.2.2.2.1 H1.out.2.2.2.2.2).mono ?_
        rintro e wa ⟨vwx, rfl, hwx, hba⟩
        have hka := KS.step hba HK9.out
        rw [← H1.out.1] at hwx
        clear hba
        go_wp2_with fail
        refine (equal_same vx _ (scaleR S n d o) _ hka.rx hwx).mono ?_
        rintro e wd ⟨rfl, md, rfl⟩
        go_wp2_with fail
        refine (equal_same vy _ (limitR S lo hi) _ (Rd.drewN hka.ry _) (by rw [H2.out]; exact Rd.nil _ _ _)).mono ?_
        rintro e wf ⟨rfl, mf, rfl⟩
        go_wp2_with fail
        refine (sampled_any _).mono ?_
        rintro e wg ⟨rfl, hbg⟩
        have hend := hka.below
        go_wp2_with fail
        go_ret
        exact ⟨rfl, hend.trans (Below.mono (bundrewN hbg) hend.size)⟩
    · have h1' : (orErr (serErr S) (facErr n d o) == 0) = false := by simpa using h1
      have H1 := Lib.hid (scaleR_no h1)
      clear h1
      by_cases h2 : orErr (serErr S) (limErr lo hi) = 0
      · have h2' : (orErr (serErr S) (limErr lo hi) == 0) = true := by simpa using h2
        have H2 := Lib.hid (limitR_ok h2)
        clear h2
        have hk9 := KS.alloc hkk (.cells #[.int .i64 (serErr S), .int .i64 (limErr lo hi)] 34)
        have HK9 := Lib.hid hk9
        clear hk9 hkk hk8 e0 e1 q0 q1
        go_wp2_with fail
        refine (limitedOf_any v1 S lo hi _ HK9.out.ra H2.out.2.1 H2.out.2.2).mono ?_
        rintro e wb ⟨vwy, rfl, hwy, hbb⟩
        have hkb := KS.step hbb HK9.out
        rw [← H2.out.1] at hwy
        clear hbb
        go_wp2_with fail
        refine (equal_same vx _ (scaleR S n d o) _ hkb.rx (by rw [H1.out]; exact Rd.nil _ _ _)).mono ?_
        rintro e wd ⟨rfl, md, rfl⟩
        go_wp2_with fail
        refine (equal_same vy _ (limitR S lo hi) _ (Rd.drewN hkb.ry _) (Rd.drewN hwy _)).mono ?_
        rintro e wf ⟨rfl, mf, rfl⟩
        go_wp2_with fail
        refine (sampled_any _).mono ?_
        rintro e wg ⟨rfl, hbg⟩
        have hend := hkb.below
        go_wp2_with fail
        go_ret
        exact ⟨rfl, hend.trans (Below.mono (bundrewN hbg) hend.size)⟩
      · have h2' : (orErr (serErr S) (limErr lo hi) == 0) = false := by simpa using h2
        have H2 := Lib.hid (limitR_no h2)
        clear h2
        have hk9 := KS.alloc hkk (.cells #[.int .i64 (serErr S), .int .i64 (limErr lo hi)] 34)
        have HK9 := Lib.hid hk9
        clear hk9 hkk hk8 e0 e1 q0 q1
        go_wp2_with fail
        refine (equal_same vx _ (scaleR S n d o) _ HK9.out.rx (by rw [H1.out]; exact Rd.nil _ _ _)).mono ?_
        rintro e wd ⟨rfl, md, rfl⟩
        go_wp2_with fail
        refine (equal_same vy _ (limitR S lo hi) _ (Rd.drewN HK9.out.ry _) (by rw [H2.out]; exact Rd.nil _ _ _)).mono ?_
        rintro e wf ⟨rfl, mf, rfl⟩
        go_wp2_with fail
        refine (sampled_any _).mono ?_
        rintro e wg ⟨rfl, hbg⟩
        have hend := HK9.out.below
        go_wp2_with fail
        go_ret
        exact ⟨rfl, hend.trans (Below.mono (bundrewN hbg) hend.size)⟩
end Go.Proofs.Ytjkncmhmmafmjaa
