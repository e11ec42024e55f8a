import Derived.Test.YtblbfpokkpkcjaaCom15
import Derived.Deep.RegionWith
/- The contract of eachNext (package compress), over a function that is called for each sample that can be kept next. -/

namespace Go.Proofs.Ytblbfpokkpkcjaa
open Go.RowKit
set_option linter.unusedVariables false
set_option linter.unusedSimpArgs false

/-- All of the samples p to i have the quality of sample p. -/
def sameQ (l : List Smp) (p i : Nat) : Bool := (List.range (i + 1)).all fun j => decide (j < p) || decide ((atS l j).q = (atS l p).q)
theorem sameQ_iff {l : List Smp} {p i : Nat} : sameQ l p i = true ↔ ∀ j, p ≤ j → j ≤ i → (atS l j).q = (atS l p).q := by
  simp only [sameQ, List.all_eq_true, List.mem_range, Bool.or_eq_true, decide_eq_true_eq]
  exact ⟨fun h j h1 h2 => (h j (by omega)).resolve_left (by omega), fun h j h1 => by by_cases h2 : j < p; exact .inl h2; exact .inr (h j (by omega) (by omega))⟩
theorem sameQ_step {l : List Smp} {p i : Nat} (hp : p ≤ i + 1) : sameQ l p (i + 1) = (sameQ l p i && decide ((atS l (i + 1)).q = (atS l p).q)) := by
  rw [Bool.eq_iff_iff, Bool.and_eq_true, decide_eq_true_eq, sameQ_iff, sameQ_iff]
  exact ⟨fun h => ⟨fun j h1 h2 => h j h1 (by omega), h (i + 1) hp (Nat.le_refl _)⟩, fun h j h1 h2 => by by_cases h3 : j = i + 1; rw [h3]; exact h.2; exact h.1 j h1 (by omega)⟩
theorem sameQ_self (l : List Smp) (p : Nat) : sameQ l p p = true := sameQ_iff.2 fun j h1 h2 => by rw [show j = p by omega]
/-- Sample b can be kept next to sample a. -/
def nextB (d m : Int) (l : List Smp) (a b : Nat) : Bool := decide (a < b) && (decide (b = a + 1) || (sameQ l a b && !shut d m l a b))

/-- A span that began at sample 0 and has seen those before i. -/
def EachSt (d m : Int) (l : List Smp) (i : Nat) (b mx : Bool) (lo hi : Int × Int) : Prop :=
  FitS lo ∧ FitS hi ∧ ((i ≤ 1 ∧ b = false ∧ mx = false) ∨ (1 < i ∧ b = true ∧ mx = !sameQ l 0 (i - 1) ∧ IsLow d l 0 i lo ∧ IsHigh d l 0 i hi))
theorem EachSt.next {d m : Int} {l : List Smp} {i : Nat} {b mx : Bool} {lo hi : Int × Int} (h : EachSt d m l i b mx lo hi) (hl : FitL l) (h0 : 0 < i) (hi' : i < l.length) (hd : 0 ≤ d ∧ d ≤ 2000000) :
    EachSt d m l (i + 1) true (mx || decide ((atS l i).q ≠ (atS l 0).q)) (lowN b lo ((atS l i).v + -d - (atS l 0).v, (atS l i).t - (atS l 0).t)) (highN b hi ((atS l i).v + d - (atS l 0).v, (atS l i).t - (atS l 0).t)) ∧
      (nextB d m l 0 i = if (mx || decide ((atS l i).q ≠ (atS l 0).q)) = true then !b else (!b || accI m (atS l 0) (atS l i) lo hi)) := by
  have hlt := hl.ok.lt
  have f1 : FitS (slopeI l 0 i (-d)) := slope_fit hl (by omega) hi' (by omega)
  have f2 : FitS (slopeI l 0 i d) := slope_fit hl (by omega) hi' (by omega)
  obtain ⟨g1, g2, h⟩ := h
  rcases h with ⟨h1, rfl, rfl⟩ | ⟨h1, rfl, hm, h2, h3⟩
  · obtain rfl : i = 1 := by omega
    refine ⟨⟨?_, ?_, .inr ⟨by omega, rfl, ?_, ?_, ?_⟩⟩, ?_⟩
    · simp only [lowN, true_or, if_true]; exact f1
    · simp only [highN, true_or, if_true]; exact f2
    · have e := sameQ_step (l := l) (p := 0) (i := 0) (by omega)
      rw [sameQ_self] at e
      simp only [Nat.add_sub_cancel] at *
      rw [show (0 : Nat) + 1 = 1 from rfl] at e
      rw [e]
      by_cases hq : (atS l 1).q = (atS l 0).q <;> simp [hq]
    · simp only [lowN, true_or, if_true]; exact low_first d l 0
    · simp only [highN, true_or, if_true]; exact high_first d l 0
    · simp [nextB]
  · have e := sameQ_step (l := l) (p := 0) (i := i - 1) (by omega)
    rw [show i - 1 + 1 = i by omega] at e
    have hmx : (mx || decide ((atS l i).q ≠ (atS l 0).q)) = !sameQ l 0 i := by
      rw [e, hm]
      by_cases hq : (atS l i).q = (atS l 0).q <;> simp [hq]
    refine ⟨⟨?_, ?_, .inr ⟨by omega, rfl, ?_, ?_, ?_⟩⟩, ?_⟩
    · unfold lowN; split; exact f1; exact g1
    · unfold highN; split; exact f2; exact g2
    · rw [hmx, Nat.add_sub_cancel]
    · have := low_next (d := d) hlt hi' h0 h2
      unfold lowN
      simp only [Bool.true_eq_false, false_or]
      exact this
    · have := high_next (d := d) hlt hi' h0 h3
      unfold highN
      simp only [Bool.true_eq_false, false_or]
      exact this
    · rw [hmx]
      cases hsq : sameQ l 0 i
      · simp [nextB, hsq]; omega
      · have ha := acc_shut (m := m) hl.ok hd.1 hi' (by omega) h2 h3 (fun j hj hk => sameQ_iff.1 hsq j hj hk)
        simp only [nextB, hsq, Bool.true_and, Bool.not_true, Bool.false_or, Bool.false_eq_true, if_false, ← ha]
        have e2 : accI m (atS l 0) (atS l i) lo hi = accB m l 0 i lo hi := by simp [accI, accB, slopeI]
        rw [e2]
        simp [h0, show ¬ (i = 1) by omega]

theorem spanAddG_any (s : Nat) (d m : Int) (P x : Smp) (b mx : Bool) (lo hi : Int × Int) (w : World) (hs : Blk w s 206 (spanCells d m P b mx lo hi)) (hP : FitP P) (hx : FitP x) (hd : 0 ≤ d ∧ d ≤ 2000000) (hlo : FitS lo) (hhi : FitS hi) :
    Calls Try.prog 168 #[.pointer (some ⟨s, 0, none⟩), .agg #[.int .i64 x.t, .int .i64 x.v, .int .i64 x.q]] w fun e w' => e = .returned (.bool (if (mx || decide (x.q ≠ P.q)) = true then !b else (!b || accI m P x lo hi))) ∧
      Blk w' s 206 (spanCells d m P true (mx || decide (x.q ≠ P.q)) (lowN b lo (x.v + -d - P.v, x.t - P.t)) (highN b hi (x.v + d - P.v, x.t - P.t))) ∧ But s w w' := by
  by_cases h : mx = true ∨ x.q ≠ P.q
  · have e : (mx || decide (x.q ≠ P.q)) = true := by simpa using h
    rw [e]
    exact spanAddT_any s d m P x b mx lo hi w hs hP hx h hd hlo hhi
  · have h1 : mx = false := by cases mx; rfl; exact absurd (.inl rfl) h
    have h2 : x.q = P.q := Classical.byContradiction fun h3 => h (.inr h3)
    have e : (mx || decide (x.q ≠ P.q)) = false := by simp [h1, h2]
    rw [e]
    subst h1
    exact spanAdd_any s d m P x b lo hi w hs hP hx h2 hd hlo hhi

theorem drew_belowW (W : World) : Below W.heap.size W W.drew := ⟨rfl, rfl, rfl, Nat.le_refl _, fun _ _ => rfl⟩
/-- What the called function keeps: what lies from B on. -/
def KeepUp (B : Nat) (W W' : World) : Prop := W.heap.size ≤ W'.heap.size ∧ ∀ b, B ≤ b → b < W.heap.size → W'.heap[b]? = W.heap[b]?

set_option maxRecDepth 100000 in
set_option maxHeartbeats 4000000 in
theorem eachNext_any (fn : FuncId) (caps : Array Value) (d m : Int) (v : Value) (l : List Smp) (w : World) (J : Nat → World → Prop)
    (hl : 0 < l.length) (hlong : l.length ≤ 5000) (hfit : FitL l) (hd : 0 ≤ d ∧ d ≤ 2000000)
    (hcf : ∀ (args : Array Value) (w : World), (callFunc fn args).run Try.prog w = .ok (.enter fn args) w)
    (hJr : ∀ i W, J i W → RdS W 71 v l)
    (hJb : ∀ i W W' s, w.heap.size ≤ s → But s W W' → J i W → J i W')
    (h1 : ∀ i W, 0 < i → i < l.length → nextB d m l 0 i = true → w.heap.size ≤ W.heap.size → J i W → Calls Try.prog fn (#[.int .i64 (i : Int)] ++ caps) W fun e W' => e = .returned (.tuple #[]) ∧ J (i + 1) W' ∧ KeepUp w.heap.size W W')
    (h0 : ∀ i W, i < l.length → nextB d m l 0 i = false → J i W → J (i + 1) W)
    (hJ : J 0 w) :
    Calls Try.prog 169 #[.agg #[.int .i64 d, .int .i64 m], v, .func (.func fn) #[] caps] w fun e w' => e = .returned (.tuple #[]) ∧ J l.length w' := by
  obtain ⟨pa, ca, rfl⟩ := (hJr 0 w hJ).lenv
  have hmx : Try.prog.follows .mixedOrders = true := by kernel_rfl
  have bd0 : Blk (w.alloc (.cells #[.int .i64 d, .int .i64 m] 30)) w.heap.size 30 #[.int .i64 d, .int .i64 m] := Blk.new w _ _
  have hJ1 := hJb 0 w _ w.heap.size (Nat.le_refl _) ((But.refl _ w).alloc (.cells #[.int .i64 d, .int .i64 m] 30)) hJ
  have hsz1 : w.heap.size + 1 = (w.alloc (.cells #[.int .i64 d, .int .i64 m] 30)).heap.size := by simp
  have hRd := hJr 0 _ hJ1
  obtain ⟨b, off, cc, hv, hc1, hc2, hblt, hcell⟩ := RdS.at_ hRd hl
  cases hv
  unfold maxLen at hc2
  have HJ := Lib.hid (And.intro hJr (And.intro hJb (And.intro h1 h0)))
  have HFIT := Lib.hid hfit
  obtain ⟨c0, c1, c2⟩ := hcell 0 hl
  simp only [Nat.zero_mul, Nat.add_zero] at c0 c1 c2
  have hns := fun w => newSpan_any d m (atS l 0) w
  have HP := Lib.hid (hfit.fit 0 hl)
  clear hJr hJb h1 h0 hJ hRd hcell hfit
  go_enter Try.func169, Try.ntmps169
  go_upto_region 1 with fail
  generalize hw1 : w.alloc (.cells #[.int .i64 d, .int .i64 m] 30) = w1 at *
  have e0 := bd0.cell 0
  have e1 := bd0.cell 1
  have hsw : w.heap.size ≤ w1.heap.size := by omega
  have HJ1 := Lib.hid hJ1
  clear hw1 hsz1 hJ1 bd0
  go_cut [6] (fun s6 wx => ∃ (g : Nat) (W : World), s6 = .pointer (some ⟨g, 0, none⟩) ∧ W = wx ∧ w.heap.size ≤ g ∧ Blk W g 206 (spanCells d m (atS l 0) false false (0, 0) (0, 0)) ∧ J 0 W)
  case first =>
    go_region_with (go_at_call 167; refine (hns _).mono ?_; rintro e w2 ⟨g, rfl, hg, hsp, hb2⟩)
    all_goals go_wp2_with fail
    all_goals go_meet
    all_goals exact ⟨g, _, rfl, rfl, by simp at hg; omega, hsp, HJ.out.2.1 0 _ _ (g + w.heap.size) (by omega) (((But.refl _ w1).below (drew_belowW w1)).below hb2) HJ1.out⟩
  case rest =>
  obtain ⟨g, W, rfl, rfl, hg, hsp, hJW⟩ := hcut
  have hszW : w.heap.size ≤ W.heap.size := by have := hsp.lt; omega
  have hE0 : EachSt d m l 0 false false (0, 0) (0, 0) := ⟨⟨by omega, by omega⟩, ⟨by omega, by omega⟩, .inl ⟨by omega, rfl, rfl⟩⟩
  have HP0 := Lib.hid HP.out
  clear c0 c1 c2 e0 e1 HJ1 hns HP
  go_wp2_with fail
  go_loopw [16] (fun ii wr => ∃ (i : Nat) (b mx : Bool) (lo hi : Int × Int), i ≤ l.length ∧ ii = .int .i64 (i : Int) ∧ J i wr ∧ Blk wr g 206 (spanCells d m (atS l 0) b mx lo hi) ∧ EachSt d m l i b mx lo hi ∧ w.heap.size ≤ wr.heap.size) (fun ii _ => l.length - (intOf ii).toNat)
  case atStart => exact ⟨0, _, _, _, _, by omega, rfl, hJW, hsp, hE0, hszW⟩
  case round =>
    clear hJW hsp hE0 hszW
    obtain ⟨i, bb, mx, lo, hi, hil, rfl, hJi, hsp, hEi, hszr⟩ := hrel
    by_cases hlt : i < l.length
    · have hRr := HJ.out.1 i wr hJi
      obtain ⟨b', off', cc', hv, hc1', hc2', hblt', hcell⟩ := RdS.at_ hRr hl
      cases hv
      obtain ⟨c0, c1, c2⟩ := hcell i hlt
      have hspx := hsp.alloc (.cells #[.int .i64 (atS l i).t, .int .i64 (atS l i).v, .int .i64 (atS l i).q] 71)
      have hJx := HJ.out.2.1 i _ _ g hg ((But.refl g wr).alloc (.cells #[.int .i64 (atS l i).t, .int .i64 (atS l i).v, .int .i64 (atS l i).q] 71)) hJi
      have hszx : w.heap.size ≤ (wr.alloc (.cells #[.int .i64 (atS l i).t, .int .i64 (atS l i).v, .int .i64 (atS l i).q] 71)).heap.size := by simp; omega
      have hbx := Blk.new wr 71 #[.int .i64 (atS l i).t, .int .i64 (atS l i).v, .int .i64 (atS l i).q]
      by_cases hi0 : i = 0
      · subst hi0
        have HN := Lib.hid (HJ.out.2.2.2 0 _ hlt (by simp [nextB]) hJx)
        have HE1 : EachSt d m l 1 bb mx lo hi := ⟨hEi.1, hEi.2.1, .inl ⟨Nat.le_refl _, (hEi.2.2.resolve_right (by omega)).2⟩⟩
        have HSX := Lib.hid hspx
        simp only [Nat.zero_mul, Nat.add_zero] at c0 c1 c2
        clear hcell hRr hJi hJx hsp hEi hbx hspx
        go_wp2_with fail
        go_roundw
        case rel => exact ⟨1, bb, mx, lo, hi, by omega, by go_num, HN.out, HSX.out, HE1, hszx⟩
        case measure => simp [intOf]; omega
      · have hn := hEi.next HFIT.out (by omega) hlt hd
        have had := spanAddG_any g d m (atS l 0) (atS l i) bb mx lo hi _ hspx HP0.out (HFIT.out.fit i hlt) hd hEi.1 hEi.2.1
        rw [← hn.2] at had
        have HEN := Lib.hid hn.1
        have HH1 := Lib.hid (HJ.out.2.2.1 i)
        have HH0 := Lib.hid (HJ.out.2.2.2 i)
        have HHb := Lib.hid (HJ.out.2.1 i)
        have HJX := Lib.hid hJx
        have hi1 : 1 ≤ i := by omega
        generalize (mx || decide ((atS l i).q ≠ (atS l 0).q)) = mx' at *
        generalize lowN bb lo ((atS l i).v + -d - (atS l 0).v, (atS l i).t - (atS l 0).t) = lo' at *
        generalize highN bb hi ((atS l i).v + d - (atS l 0).v, (atS l i).t - (atS l 0).t) = hi' at *
        generalize hnx : nextB d m l 0 i = nx at *
        generalize atS l i = x at *
        have HNX := Lib.hid hnx
        have HAD := Lib.hid had
        clear hcell hRr hJi hsp hEi hn had hJx hi0 hnx hspx
        go_upto_region 5 with fail
        generalize hwx : wr.alloc (.cells #[.int .i64 x.t, .int .i64 x.v, .int .i64 x.q] 71) = wx at *
        have a0 := hbx.cell 0
        have a1 := hbx.cell 1
        have a2 := hbx.cell 2
        clear hwx c0 c1 c2 hbx
        have hgt : (i : Int) > 0 := by omega
        go_wp2_with fail
        refine HAD.out.mono ?_
        rintro e w3 ⟨rfl, hsp3, hbt3⟩
        have hJ3 := HHb.out _ _ g hg hbt3 HJX.out
        have hsz3 : w.heap.size ≤ w3.heap.size := Nat.le_trans hszx hbt3.size
        clear a0 a1 a2 hbt3
        cases nx
        · have HJ3 := Lib.hid (HH0.out w3 hlt rfl hJ3)
          have HS3 := Lib.hid hsp3
          clear hJ3 hsp3
          go_wp2_with fail
          go_roundw
          case rel => exact ⟨i + 1, _, _, _, _, by omega, by go_num, HJ3.out, HS3.out, HEN.out, hsz3⟩
          case measure => simp [intOf]; omega
        · have HCL := Lib.hid (HH1.out w3 hi1 hlt rfl hsz3 hJ3)
          have HS3 := Lib.hid hsp3
          clear hJ3
          go_wp2_with fail
          refine HCL.out.mono ?_
          rintro e w4 ⟨rfl, hJ4, hku⟩
          have HS4 := Lib.hid (show Blk w4 g 206 _ from (hku.2 g hg hsp3.lt).trans HS3.out)
          have hsz4 : w.heap.size ≤ w4.heap.size := Nat.le_trans hsz3 hku.1
          clear hku hsp3
          go_wp2_with fail
          go_roundw
          case rel => exact ⟨i + 1, _, _, _, _, by omega, by go_num, hJ4, HS4.out, HEN.out, hsz4⟩
          case measure => simp [intOf]; omega
    · obtain rfl : i = l.length := by omega
      go_wp2_with fail
      go_end0
      exact ⟨rfl, hJi⟩
end Go.Proofs.Ytblbfpokkpkcjaa
