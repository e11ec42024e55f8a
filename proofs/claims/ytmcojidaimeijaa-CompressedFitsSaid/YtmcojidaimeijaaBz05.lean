import Derived.Test.YtmcojidaimeijaaBz04
import Derived.Deep.RegionWith
import Derived.Test.YtmcojidaimeijaaBz01
import Derived.Test.YtmcojidaimeijaaBz02
import Derived.StillTailTactics
import Derived.Deep.QuietTactic
import Derived.BigQuiet
import Derived.Test.YtmcojidaimeijaaSerr
/- Plain mathematics of the compression: which indices one more sample archives. -/

namespace Go.Proofs.Ytmcojidaimeijaa
set_option linter.unusedVariables false
set_option linter.unusedSimpArgs false

theorem choI_inj {l : List Smp} (ho : Okl l) {a b : List Int} (ha : ∀ x ∈ a, 0 ≤ x ∧ x < (l.length : Int)) (hb : ∀ x ∈ b, 0 ≤ x ∧ x < (l.length : Int)) (h : choI l a = choI l b) : a = b := by
  induction a generalizing b with
  | nil =>
    cases b with
    | nil => rfl
    | cons y r => simp [choI] at h
  | cons x r ih =>
    cases b with
    | nil => simp [choI] at h
    | cons y s =>
      simp only [choI, List.map_cons, List.cons.injEq] at h
      obtain ⟨h1, h2⟩ := h
      have hx := ha x (by simp)
      have hy := hb y (by simp)
      have e : x.toNat = y.toNat := by
        rcases Nat.lt_trichotomy x.toNat y.toNat with h3 | h3 | h3
        · have := ho.lt x.toNat y.toNat h3 (by omega); rw [h1] at this; omega
        · exact h3
        · have := ho.lt y.toNat x.toNat h3 (by omega); rw [h1] at this; omega
      have e2 : x = y := by omega
      rw [e2, ih (fun z hz => ha z (by simp [hz])) (fun z hz => hb z (by simp [hz])) h2]
theorem atS_take (l : List Smp) (k i : Nat) (h : i < k) : atS (l.take k) i = atS l i := by
  unfold atS
  rw [List.getD_eq_getElem?_getD, List.getD_eq_getElem?_getD, List.getElem?_take_of_lt h]
theorem choI_take (l : List Smp) (k : Nat) (X : List Int) (h : ∀ x ∈ X, 0 ≤ x ∧ x < (k : Int)) : choI (l.take k) X = choI l X := by
  unfold choI
  refine List.map_congr_left fun x hx => ?_
  have := h x hx
  exact atS_take l k x.toNat (by omega)
theorem compTo_take (d m : Int) (l : List Smp) (k : Nat) (hk : k ≤ l.length) : compTo d m (l.take k) k = compTo d m l k := by
  have h := compTo_snoc d m (l.take k) (l.drop k) k (by simp; omega)
  rw [List.take_append_drop] at h
  exact h.symm
theorem compTo_range (d m : Int) (l : List Smp) (k : Nat) : ∀ x ∈ (compTo d m l k).1, 0 ≤ x ∧ x < (k : Int) := by
  rcases Nat.eq_zero_or_pos k with rfl | hk
  · intro x hx; simp [compTo] at hx
  · exact (compTo_inv d m l k hk).2.2.1
theorem arch_take (d m : Int) (l : List Smp) (k : Nat) (hk : k ≤ l.length) : arch d m (l.take k) = choI l (compTo d m l k).1 := by
  unfold arch
  rw [List.length_take, Nat.min_eq_left hk, compTo_take d m l k hk, choI_take l k _ (compTo_range d m l k)]
theorem take_more (l : List Smp) (k : Nat) (hk : k < l.length) : l.take k ++ [atS l k] = l.take (k + 1) := by
  rw [List.take_succ_eq_append_getElem hk]
  simp [atS, hk]
theorem idx_step {d m : Int} {l : List Smp} (ho : Okl l) {k : Nat} (hk : k < l.length) {bf nw : Bool}
    (h : arch d m (l.take k ++ [atS l k]) = arch d m (l.take k) ++ ((if bf = true then [atS (l.take k) ((l.take k).length - 1)] else []) ++ (if nw = true then [atS l k] else []))) (hb : bf = true → 0 < (l.take k).length) :
    (compTo d m l (k + 1)).1 = (compTo d m l k).1 ++ ((if bf = true then [((k : Int) - 1)] else []) ++ (if nw = true then [(k : Int)] else [])) := by
  have hl : (l.take k).length = k := by simp; omega
  rw [take_more l k hk, arch_take d m l (k + 1) hk, arch_take d m l k (by omega), hl] at h
  rw [hl] at hb
  refine choI_inj ho ?_ ?_ ?_
  · intro x hx; have := compTo_range d m l (k + 1) x hx; omega
  · intro x hx
    rcases List.mem_append.1 hx with h1 | h1
    · have := compTo_range d m l k x h1; omega
    · rcases List.mem_append.1 h1 with h2 | h2
      · cases bf <;> simp at h2
        have := hb rfl; omega
      · cases nw <;> simp at h2
        omega
  · rw [h, choI_app, choI_app]
    congr 1
    congr 1
    · cases bf
      · rfl
      · have h0 := hb rfl
        simp only [if_true, choI, List.map_cons, List.map_nil]
        rw [atS_take l k (k - 1) (by omega), show ((k : Int) - 1).toNat = k - 1 by omega]
    · cases nw
      · rfl
      · simp [choI]
theorem idx_end {d m : Int} {l : List Smp} (ho : Okl l) (hx : choI l (compressed d m l) = arch d m l ++ (if 0 < l.length ∧ beg d m l = true then [atS l (l.length - 1)] else [])) (hr : ∀ x ∈ compressed d m l, 0 ≤ x ∧ x < (l.length : Int)) :
    compressed d m l = (compTo d m l l.length).1 ++ (if 0 < l.length ∧ beg d m l = true then [((l.length : Int) - 1)] else []) := by
  refine choI_inj ho hr ?_ ?_
  · intro x hx
    rcases List.mem_append.1 hx with h1 | h1
    · exact compTo_range d m l l.length x h1
    · split at h1
      · rename_i h; simp at h1; omega
      · simp at h1
  · rw [hx, choI_app]
    congr 1
    split
    · rename_i h
      simp only [choI, List.map_cons, List.map_nil]
      rw [show ((l.length : Int) - 1).toNat = l.length - 1 by omega]
    · rfl
theorem compressed_range (d m : Int) (l : List Smp) : ∀ x ∈ compressed d m l, 0 ≤ x ∧ x < (l.length : Int) := by
  intro x hx
  unfold compressed at hx
  split at hx
  · simp at hx
  · unfold keepI at hx
    have hr := compTo_range d m l l.length
    simp only at hx
    split at hx
    · exact hr x hx
    · rcases List.mem_append.1 hx with h1 | h1
      · exact hr x h1
      · simp at h1; omega
end Go.Proofs.Ytmcojidaimeijaa

/- The contract of add of a span (package compress), of samples of any quality. -/

namespace Go.Proofs.Ytmcojidaimeijaa
open Go.RowKit
set_option linter.unusedVariables false
set_option linter.unusedSimpArgs false

set_option maxRecDepth 100000 in
set_option maxHeartbeats 2000000 in
theorem acceptsT_any (s : Nat) (d m : Int) (P x : Smp) (b : Bool) (lo hi : Int × Int) (w : World) (hs : Blk w s 162 (spanCells d m P b true lo hi)) (hP : FitP P) (hx : FitP x) :
    Calls Try.prog 126 #[.pointer (some ⟨s, 0, none⟩), .agg #[.int .i64 x.t, .int .i64 x.v, .int .i64 x.q]] w fun e w' => e = .returned (.bool false) ∧ Below w.heap.size w w' := by
  have hbw : Below w.heap.size w (w.alloc (.cells #[.int .i64 x.t, .int .i64 x.v, .int .i64 x.q] 57)) := (Below.refl _ w).alloc (Nat.le_refl _) _
  have hbx : Blk (w.alloc (.cells #[.int .i64 x.t, .int .i64 x.v, .int .i64 x.q] 57)) w.heap.size 57 #[.int .i64 x.t, .int .i64 x.v, .int .i64 x.q] := Blk.new _ _ _
  have hsp := hs.alloc (.cells #[.int .i64 x.t, .int .i64 x.v, .int .i64 x.q] 57)
  have hst := slopeTo_any s d m P x b true lo hi 0 _ hsp hP hx (by omega)
  clear hs
  have HST := Lib.hid hst
  clear hst hP hx
  go_enter Try.func126, Try.ntmps126
  go_upto_region 1 with fail
  generalize w.alloc (.cells #[.int .i64 x.t, .int .i64 x.v, .int .i64 x.q] 57) = w1 at *
  have a0 := hbx.cell 0
  have a1 := hbx.cell 1
  have a2 := hbx.cell 2
  go_wp2_with fail
  refine HST.out.mono ?_
  rintro e w2 ⟨rfl, hb2⟩
  have hsp2 := (hsp.below hb2 hsp.lt).alloc (.cells #[.int .i64 (x.v - P.v), .int .i64 (x.t - P.t)] 160)
  have hbe := (hbw.trans (hb2.mono hbw.size)).alloc (by have := hbw.size; have := hb2.size; omega) (.cells #[.int .i64 (x.v - P.v), .int .i64 (x.t - P.t)] 160)
  go_upto_region 2 with fail
  generalize w2.alloc (.cells #[.int .i64 (x.v - P.v), .int .i64 (x.t - P.t)] 160) = w3 at *
  have c6 : w3.cell? ⟨s, 6, none⟩ = some (.bool true) := hsp2.cell 6
  clear a0 a1 a2 hbx hsp
  go_region
  all_goals go_wp2_with fail
  all_goals go_ret
  all_goals exact ⟨rfl, hbe.drew⟩

set_option maxRecDepth 100000 in
set_option maxHeartbeats 2000000 in
theorem spanAddT_any (s : Nat) (d m : Int) (P x : Smp) (b mx : Bool) (lo hi : Int × Int) (w : World) (hs : Blk w s 162 (spanCells d m P b mx lo hi)) (hP : FitP P) (hx : FitP x) (hq : mx = true ∨ x.q ≠ P.q) (hd : 0 ≤ d ∧ d ≤ 2000000) (hlo : FitS lo) (hhi : FitS hi) :
    Calls Try.prog 108 #[.pointer (some ⟨s, 0, none⟩), .agg #[.int .i64 x.t, .int .i64 x.v, .int .i64 x.q]] w fun e w' => e = .returned (.bool (!b)) ∧
      Blk w' s 162 (spanCells d m P true true (lowN b lo (x.v + -d - P.v, x.t - P.t)) (highN b hi (x.v + d - P.v, x.t - P.t))) ∧ But s w w' := by
  have hk : KN w s w.heap.size (spanCells d m P b mx lo hi) x (w.alloc (.cells #[.int .i64 x.t, .int .i64 x.v, .int .i64 x.q] 57)) :=
    ⟨hs.alloc _, Blk.new _ _ _, (Below.refl _ w).alloc (Nat.le_refl _) _⟩
  have hsw : s < w.heap.size := hs.lt
  clear hs
  go_enter Try.func108, Try.ntmps108
  go_wp2_with fail
  generalize w.alloc (.cells #[.int .i64 x.t, .int .i64 x.v, .int .i64 x.q] 57) = wa at *
  have c4 : wa.cell? ⟨s, 4, none⟩ = some (.int .i64 P.q) := hk.sp.cell 4
  have c6 : wa.cell? ⟨s, 6, none⟩ = some (.bool mx) := hk.sp.cell 6
  have f6 : wa.frozen? ⟨s, 6, none⟩ = false := hk.sp.frozen 6
  have a2 : wa.cell? ⟨w.heap.size, 2, none⟩ = some (.int .i64 x.q) := hk.bx.cell 2
  have hne : w.heap.size ≠ s := by omega
  have hsp2 : Blk ((wa.setCell ⟨s, 6, none⟩ (.bool true)).drew) s 162 (spanCells d m P b true lo hi) := (hk.sp.set_ 6 (.bool true)).drew
  have hbx2 : Blk ((wa.setCell ⟨s, 6, none⟩ (.bool true)).drew) w.heap.size 57 #[.int .i64 x.t, .int .i64 x.v, .int .i64 x.q] := (hk.bx.setOther hne _).drew
  have hbt2 : But s w ((wa.setCell ⟨s, 6, none⟩ (.bool true)).drew) := (((But.refl s w).below hk.bl).setCell (.inl rfl) _).drew
  go_cut [] from 6 (fun wx => ∃ W, W = wx ∧ Blk W s 162 (spanCells d m P b true lo hi) ∧ Blk W w.heap.size 57 #[.int .i64 x.t, .int .i64 x.v, .int .i64 x.q] ∧ But s w W)
  case first =>
    cases mx
    · have hqq : (x.q != P.q) = true := by simpa using hq.resolve_left (by simp)
      clear hq
      go_region
      all_goals go_wp2_with fail
      all_goals go_meet
      all_goals exact ⟨_, rfl, hsp2, hbx2, hbt2⟩
    · clear hq
      go_region
      all_goals go_wp2_with fail
      all_goals go_meet
      all_goals exact ⟨_, rfl, hsp2, hbx2, hbt2⟩
  case rest =>
  obtain ⟨wb, rfl, hsp2, hbx2, hbt2⟩ := hcut
  clear hk c4 c6 f6 a2
  have c5 : wb.cell? ⟨s, 5, none⟩ = some (.bool b) := hsp2.cell 5
  have a0 : wb.cell? ⟨w.heap.size, 0, none⟩ = some (.int .i64 x.t) := hbx2.cell 0
  have a1 : wb.cell? ⟨w.heap.size, 1, none⟩ = some (.int .i64 x.v) := hbx2.cell 1
  have a2 : wb.cell? ⟨w.heap.size, 2, none⟩ = some (.int .i64 x.q) := hbx2.cell 2
  cases b
  · have hnr := fun (w : World) (h : Blk w s 162 (spanCells d m P false true lo hi)) => narrow_any s d m P x false true lo hi w h hP hx hd hlo hhi
    have HP := Lib.hid (And.intro hP (And.intro hx (And.intro hlo hhi)))
    clear hP hx hlo hhi
    go_wp2_with fail
    refine (hnr _ hsp2).mono ?_
    rintro e wc ⟨rfl, hsp3, hbt3⟩
    clear hnr
    go_wp2_with fail
    go_ret
    exact ⟨rfl, hsp3, hbt2.trans hbt3⟩
  · have hac := fun (w : World) (h : Blk w s 162 (spanCells d m P true true lo hi)) => acceptsT_any s d m P x true lo hi w h hP hx
    have hnr := fun (w : World) (h : Blk w s 162 (spanCells d m P true true lo hi)) => narrow_any s d m P x true true lo hi w h hP hx hd hlo hhi
    have HP := Lib.hid (And.intro hP (And.intro hx (And.intro hlo hhi)))
    clear hP hx hlo hhi
    go_wp2_with fail
    refine (hac _ hsp2).mono ?_
    rintro e wc ⟨rfl, hbc⟩
    have hsp3 := hsp2.below hbc hsp2.lt
    have hbx3 := hbx2.below hbc hbx2.lt
    have b0 : wc.cell? ⟨w.heap.size, 0, none⟩ = some (.int .i64 x.t) := hbx3.cell 0
    have b1 : wc.cell? ⟨w.heap.size, 1, none⟩ = some (.int .i64 x.v) := hbx3.cell 1
    have b2 : wc.cell? ⟨w.heap.size, 2, none⟩ = some (.int .i64 x.q) := hbx3.cell 2
    have hbt3 := hbt2.below hbc
    clear hac hbc a0 a1 a2 c5 hsp2 hbx2 hbt2
    go_wp2_with fail
    refine (hnr _ hsp3).mono ?_
    rintro e wd ⟨rfl, hsp4, hbt4⟩
    clear hnr
    go_wp2_with fail
    go_ret
    exact ⟨rfl, hsp4, hbt3.trans hbt4⟩
end Go.Proofs.Ytmcojidaimeijaa

/- The contract of eachNext (package compress), over a function that is called for each sample that can be kept next. -/

namespace Go.Proofs.Ytmcojidaimeijaa
open Go.RowKit
set_option linter.unusedVariables false
set_option linter.unusedSimpArgs false

/-- All of the samples p to i have the quality of sample p. -/
def sameQ (l : List Smp) (p i : Nat) : Bool := (List.range (i + 1)).all fun j => decide (j < p) || decide ((atS l j).q = (atS l p).q)
theorem sameQ_iff {l : List Smp} {p i : Nat} : sameQ l p i = true ↔ ∀ j, p ≤ j → j ≤ i → (atS l j).q = (atS l p).q := by
  simp only [sameQ, List.all_eq_true, List.mem_range, Bool.or_eq_true, decide_eq_true_eq]
  exact ⟨fun h j h1 h2 => (h j (by omega)).resolve_left (by omega), fun h j h1 => by by_cases h2 : j < p; exact .inl h2; exact .inr (h j (by omega) (by omega))⟩
theorem sameQ_step {l : List Smp} {p i : Nat} (hp : p ≤ i + 1) : sameQ l p (i + 1) = (sameQ l p i && decide ((atS l (i + 1)).q = (atS l p).q)) := by
  rw [Bool.eq_iff_iff, Bool.and_eq_true, decide_eq_true_eq, sameQ_iff, sameQ_iff]
  exact ⟨fun h => ⟨fun j h1 h2 => h j h1 (by omega), h (i + 1) hp (Nat.le_refl _)⟩, fun h j h1 h2 => by by_cases h3 : j = i + 1; rw [h3]; exact h.2; exact h.1 j h1 (by omega)⟩
theorem sameQ_self (l : List Smp) (p : Nat) : sameQ l p p = true := sameQ_iff.2 fun j h1 h2 => by rw [show j = p by omega]
/-- Sample b can be kept next to sample a. -/
def nextB (d m : Int) (l : List Smp) (a b : Nat) : Bool := decide (a < b) && (decide (b = a + 1) || (sameQ l a b && !shut d m l a b))

/-- A span that began at sample 0 and has seen those before i. -/
def EachSt (d m : Int) (l : List Smp) (i : Nat) (b mx : Bool) (lo hi : Int × Int) : Prop :=
  FitS lo ∧ FitS hi ∧ ((i ≤ 1 ∧ b = false ∧ mx = false) ∨ (1 < i ∧ b = true ∧ mx = !sameQ l 0 (i - 1) ∧ IsLow d l 0 i lo ∧ IsHigh d l 0 i hi))
theorem EachSt.next {d m : Int} {l : List Smp} {i : Nat} {b mx : Bool} {lo hi : Int × Int} (h : EachSt d m l i b mx lo hi) (hl : FitL l) (h0 : 0 < i) (hi' : i < l.length) (hd : 0 ≤ d ∧ d ≤ 2000000) :
    EachSt d m l (i + 1) true (mx || decide ((atS l i).q ≠ (atS l 0).q)) (lowN b lo ((atS l i).v + -d - (atS l 0).v, (atS l i).t - (atS l 0).t)) (highN b hi ((atS l i).v + d - (atS l 0).v, (atS l i).t - (atS l 0).t)) ∧
      (nextB d m l 0 i = if (mx || decide ((atS l i).q ≠ (atS l 0).q)) = true then !b else (!b || accI m (atS l 0) (atS l i) lo hi)) := by
  have hlt := hl.ok.lt
  have f1 : FitS (slopeI l 0 i (-d)) := slope_fit hl (by omega) hi' (by omega)
  have f2 : FitS (slopeI l 0 i d) := slope_fit hl (by omega) hi' (by omega)
  obtain ⟨g1, g2, h⟩ := h
  rcases h with ⟨h1, rfl, rfl⟩ | ⟨h1, rfl, hm, h2, h3⟩
  · obtain rfl : i = 1 := by omega
    refine ⟨⟨?_, ?_, .inr ⟨by omega, rfl, ?_, ?_, ?_⟩⟩, ?_⟩
    · simp only [lowN, true_or, if_true]; exact f1
    · simp only [highN, true_or, if_true]; exact f2
    · have e := sameQ_step (l := l) (p := 0) (i := 0) (by omega)
      rw [sameQ_self] at e
      simp only [Nat.add_sub_cancel] at *
      rw [show (0 : Nat) + 1 = 1 from rfl] at e
      rw [e]
      by_cases hq : (atS l 1).q = (atS l 0).q <;> simp [hq]
    · simp only [lowN, true_or, if_true]; exact low_first d l 0
    · simp only [highN, true_or, if_true]; exact high_first d l 0
    · simp [nextB]
  · have e := sameQ_step (l := l) (p := 0) (i := i - 1) (by omega)
    rw [show i - 1 + 1 = i by omega] at e
    have hmx : (mx || decide ((atS l i).q ≠ (atS l 0).q)) = !sameQ l 0 i := by
      rw [e, hm]
      by_cases hq : (atS l i).q = (atS l 0).q <;> simp [hq]
    refine ⟨⟨?_, ?_, .inr ⟨by omega, rfl, ?_, ?_, ?_⟩⟩, ?_⟩
    · unfold lowN; split; exact f1; exact g1
    · unfold highN; split; exact f2; exact g2
    · rw [hmx, Nat.add_sub_cancel]
    · have := low_next (d := d) hlt hi' h0 h2
      unfold lowN
      simp only [Bool.true_eq_false, false_or]
      exact this
    · have := high_next (d := d) hlt hi' h0 h3
      unfold highN
      simp only [Bool.true_eq_false, false_or]
      exact this
    · rw [hmx]
      cases hsq : sameQ l 0 i
      · simp [nextB, hsq]; omega
      · have ha := acc_shut (m := m) hl.ok hd.1 hi' (by omega) h2 h3 (fun j hj hk => sameQ_iff.1 hsq j hj hk)
        simp only [nextB, hsq, Bool.true_and, Bool.not_true, Bool.false_or, Bool.false_eq_true, if_false, ← ha]
        have e2 : accI m (atS l 0) (atS l i) lo hi = accB m l 0 i lo hi := by simp [accI, accB, slopeI]
        rw [e2]
        simp [h0, show ¬ (i = 1) by omega]

theorem spanAddG_any (s : Nat) (d m : Int) (P x : Smp) (b mx : Bool) (lo hi : Int × Int) (w : World) (hs : Blk w s 162 (spanCells d m P b mx lo hi)) (hP : FitP P) (hx : FitP x) (hd : 0 ≤ d ∧ d ≤ 2000000) (hlo : FitS lo) (hhi : FitS hi) :
    Calls Try.prog 108 #[.pointer (some ⟨s, 0, none⟩), .agg #[.int .i64 x.t, .int .i64 x.v, .int .i64 x.q]] w fun e w' => e = .returned (.bool (if (mx || decide (x.q ≠ P.q)) = true then !b else (!b || accI m P x lo hi))) ∧
      Blk w' s 162 (spanCells d m P true (mx || decide (x.q ≠ P.q)) (lowN b lo (x.v + -d - P.v, x.t - P.t)) (highN b hi (x.v + d - P.v, x.t - P.t))) ∧ But s w w' := by
  by_cases h : mx = true ∨ x.q ≠ P.q
  · have e : (mx || decide (x.q ≠ P.q)) = true := by simpa using h
    rw [e]
    exact spanAddT_any s d m P x b mx lo hi w hs hP hx h hd hlo hhi
  · have h1 : mx = false := by cases mx; rfl; exact absurd (.inl rfl) h
    have h2 : x.q = P.q := Classical.byContradiction fun h3 => h (.inr h3)
    have e : (mx || decide (x.q ≠ P.q)) = false := by simp [h1, h2]
    rw [e]
    subst h1
    exact spanAdd_any s d m P x b lo hi w hs hP hx h2 hd hlo hhi

theorem drew_belowW (W : World) : Below W.heap.size W W.drew := ⟨rfl, rfl, rfl, Nat.le_refl _, fun _ _ => rfl⟩
/-- What the called function keeps: what lies from B on. -/
def KeepUp (B : Nat) (W W' : World) : Prop := W.heap.size ≤ W'.heap.size ∧ ∀ b, B ≤ b → b < W.heap.size → W'.heap[b]? = W.heap[b]?

set_option maxRecDepth 100000 in
set_option maxHeartbeats 4000000 in
theorem eachNext_any (fn : FuncId) (caps : Array Value) (d m : Int) (v : Value) (l : List Smp) (w : World) (J : Nat → World → Prop)
    (hl : 0 < l.length) (hlong : l.length ≤ 5000) (hfit : FitL l) (hd : 0 ≤ d ∧ d ≤ 2000000)
    (hcf : ∀ (args : Array Value) (w : World), (callFunc fn args).run Try.prog w = .ok (.enter fn args) w)
    (hJr : ∀ i W, J i W → RdS W 57 v l)
    (hJb : ∀ i W W' s, w.heap.size ≤ s → But s W W' → J i W → J i W')
    (h1 : ∀ i W, 0 < i → i < l.length → nextB d m l 0 i = true → w.heap.size ≤ W.heap.size → J i W → Calls Try.prog fn (#[.int .i64 (i : Int)] ++ caps) W fun e W' => e = .returned (.tuple #[]) ∧ J (i + 1) W' ∧ KeepUp w.heap.size W W')
    (h0 : ∀ i W, i < l.length → nextB d m l 0 i = false → J i W → J (i + 1) W)
    (hJ : J 0 w) :
    Calls Try.prog 113 #[.agg #[.int .i64 d, .int .i64 m], v, .func (.func fn) #[] caps] w fun e w' => e = .returned (.tuple #[]) ∧ J l.length w' := by
  obtain ⟨pa, ca, rfl⟩ := (hJr 0 w hJ).lenv
  have hmx : Try.prog.follows .mixedOrders = true := by kernel_rfl
  have bd0 : Blk (w.alloc (.cells #[.int .i64 d, .int .i64 m] 50)) w.heap.size 50 #[.int .i64 d, .int .i64 m] := Blk.new w _ _
  have hJ1 := hJb 0 w _ w.heap.size (Nat.le_refl _) ((But.refl _ w).alloc (.cells #[.int .i64 d, .int .i64 m] 50)) hJ
  have hsz1 : w.heap.size + 1 = (w.alloc (.cells #[.int .i64 d, .int .i64 m] 50)).heap.size := by simp
  have hRd := hJr 0 _ hJ1
  obtain ⟨b, off, cc, hv, hc1, hc2, hblt, hcell⟩ := RdS.at_ hRd hl
  cases hv
  unfold maxLen at hc2
  have HJ := Lib.hid (And.intro hJr (And.intro hJb (And.intro h1 h0)))
  have HFIT := Lib.hid hfit
  obtain ⟨c0, c1, c2⟩ := hcell 0 hl
  simp only [Nat.zero_mul, Nat.add_zero] at c0 c1 c2
  have hns := fun w => newSpan_any d m (atS l 0) w
  have HP := Lib.hid (hfit.fit 0 hl)
  clear hJr hJb h1 h0 hJ hRd hcell hfit
  go_enter Try.func113, Try.ntmps113
  go_upto_region 1 with fail
  generalize hw1 : w.alloc (.cells #[.int .i64 d, .int .i64 m] 50) = w1 at *
  have e0 := bd0.cell 0
  have e1 := bd0.cell 1
  have hsw : w.heap.size ≤ w1.heap.size := by omega
  have HJ1 := Lib.hid hJ1
  clear hw1 hsz1 hJ1 bd0
  go_cut [6] (fun s6 wx => ∃ (g : Nat) (W : World), s6 = .pointer (some ⟨g, 0, none⟩) ∧ W = wx ∧ w.heap.size ≤ g ∧ Blk W g 162 (spanCells d m (atS l 0) false false (0, 0) (0, 0)) ∧ J 0 W)
  case first =>
    go_region_with (go_at_call 107; refine (hns _).mono ?_; rintro e w2 ⟨g, rfl, hg, hsp, hb2⟩)
    all_goals go_wp2_with fail
    all_goals go_meet
    all_goals exact ⟨g, _, rfl, rfl, by simp at hg; omega, hsp, HJ.out.2.1 0 _ _ (g + w.heap.size) (by omega) (((But.refl _ w1).below (drew_belowW w1)).below hb2) HJ1.out⟩
  case rest =>
  obtain ⟨g, W, rfl, rfl, hg, hsp, hJW⟩ := hcut
  have hszW : w.heap.size ≤ W.heap.size := by have := hsp.lt; omega
  have hE0 : EachSt d m l 0 false false (0, 0) (0, 0) := ⟨⟨by omega, by omega⟩, ⟨by omega, by omega⟩, .inl ⟨by omega, rfl, rfl⟩⟩
  have HP0 := Lib.hid HP.out
  clear c0 c1 c2 e0 e1 HJ1 hns HP
  go_wp2_with fail
  go_loopw [16] (fun ii wr => ∃ (i : Nat) (b mx : Bool) (lo hi : Int × Int), i ≤ l.length ∧ ii = .int .i64 (i : Int) ∧ J i wr ∧ Blk wr g 162 (spanCells d m (atS l 0) b mx lo hi) ∧ EachSt d m l i b mx lo hi ∧ w.heap.size ≤ wr.heap.size) (fun ii _ => l.length - (intOf ii).toNat)
  case atStart => exact ⟨0, _, _, _, _, by omega, rfl, hJW, hsp, hE0, hszW⟩
  case round =>
    clear hJW hsp hE0 hszW
    obtain ⟨i, bb, mx, lo, hi, hil, rfl, hJi, hsp, hEi, hszr⟩ := hrel
    by_cases hlt : i < l.length
    · have hRr := HJ.out.1 i wr hJi
      obtain ⟨b', off', cc', hv, hc1', hc2', hblt', hcell⟩ := RdS.at_ hRr hl
      cases hv
      obtain ⟨c0, c1, c2⟩ := hcell i hlt
      have hspx := hsp.alloc (.cells #[.int .i64 (atS l i).t, .int .i64 (atS l i).v, .int .i64 (atS l i).q] 57)
      have hJx := HJ.out.2.1 i _ _ g hg ((But.refl g wr).alloc (.cells #[.int .i64 (atS l i).t, .int .i64 (atS l i).v, .int .i64 (atS l i).q] 57)) hJi
      have hszx : w.heap.size ≤ (wr.alloc (.cells #[.int .i64 (atS l i).t, .int .i64 (atS l i).v, .int .i64 (atS l i).q] 57)).heap.size := by simp; omega
      have hbx := Blk.new wr 57 #[.int .i64 (atS l i).t, .int .i64 (atS l i).v, .int .i64 (atS l i).q]
      by_cases hi0 : i = 0
      · subst hi0
        have HN := Lib.hid (HJ.out.2.2.2 0 _ hlt (by simp [nextB]) hJx)
        have HE1 : EachSt d m l 1 bb mx lo hi := ⟨hEi.1, hEi.2.1, .inl ⟨Nat.le_refl _, (hEi.2.2.resolve_right (by omega)).2⟩⟩
        have HSX := Lib.hid hspx
        simp only [Nat.zero_mul, Nat.add_zero] at c0 c1 c2
        clear hcell hRr hJi hJx hsp hEi hbx hspx
        go_wp2_with fail
        go_roundw
        case rel => exact ⟨1, bb, mx, lo, hi, by omega, by go_num, HN.out, HSX.out, HE1, hszx⟩
        case measure => simp [intOf]; omega
      · have hn := hEi.next HFIT.out (by omega) hlt hd
        have had := spanAddG_any g d m (atS l 0) (atS l i) bb mx lo hi _ hspx HP0.out (HFIT.out.fit i hlt) hd hEi.1 hEi.2.1
        rw [← hn.2] at had
        have HEN := Lib.hid hn.1
        have HH1 := Lib.hid (HJ.out.2.2.1 i)
        have HH0 := Lib.hid (HJ.out.2.2.2 i)
        have HHb := Lib.hid (HJ.out.2.1 i)
        have HJX := Lib.hid hJx
        have hi1 : 1 ≤ i := by omega
        generalize (mx || decide ((atS l i).q ≠ (atS l 0).q)) = mx' at *
        generalize lowN bb lo ((atS l i).v + -d - (atS l 0).v, (atS l i).t - (atS l 0).t) = lo' at *
        generalize highN bb hi ((atS l i).v + d - (atS l 0).v, (atS l i).t - (atS l 0).t) = hi' at *
        generalize hnx : nextB d m l 0 i = nx at *
        generalize atS l i = x at *
        have HNX := Lib.hid hnx
        have HAD := Lib.hid had
        clear hcell hRr hJi hsp hEi hn had hJx hi0 hnx hspx
        go_upto_region 5 with fail
        generalize hwx : wr.alloc (.cells #[.int .i64 x.t, .int .i64 x.v, .int .i64 x.q] 57) = wx at *
        have a0 := hbx.cell 0
        have a1 := hbx.cell 1
        have a2 := hbx.cell 2
        clear hwx c0 c1 c2 hbx
        have hgt : (i : Int) > 0 := by omega
        go_wp2_with fail
        refine HAD.out.mono ?_
        rintro e w3 ⟨rfl, hsp3, hbt3⟩
        have hJ3 := HHb.out _ _ g hg hbt3 HJX.out
        have hsz3 : w.heap.size ≤ w3.heap.size := Nat.le_trans hszx hbt3.size
        clear a0 a1 a2 hbt3
        cases nx
        · have HJ3 := Lib.hid (HH0.out w3 hlt rfl hJ3)
          have HS3 := Lib.hid hsp3
          clear hJ3 hsp3
          go_wp2_with fail
          go_roundw
          case rel => exact ⟨i + 1, _, _, _, _, by omega, by go_num, HJ3.out, HS3.out, HEN.out, hsz3⟩
          case measure => simp [intOf]; omega
        · have HCL := Lib.hid (HH1.out w3 hi1 hlt rfl hsz3 hJ3)
          have HS3 := Lib.hid hsp3
          clear hJ3
          go_wp2_with fail
          refine HCL.out.mono ?_
          rintro e w4 ⟨rfl, hJ4, hku⟩
          have HS4 := Lib.hid (show Blk w4 g 162 _ from (hku.2 g hg hsp3.lt).trans HS3.out)
          have hsz4 : w.heap.size ≤ w4.heap.size := Nat.le_trans hsz3 hku.1
          clear hku hsp3
          go_wp2_with fail
          go_roundw
          case rel => exact ⟨i + 1, _, _, _, _, by omega, by go_num, hJ4, HS4.out, HEN.out, hsz4⟩
          case measure => simp [intOf]; omega
    · obtain rfl : i = l.length := by omega
      go_wp2_with fail
      go_end0
      exact ⟨rfl, hJi⟩
end Go.Proofs.Ytmcojidaimeijaa

/- When kept samples fit: mathematics. -/

namespace Go.Proofs.Ytmcojidaimeijaa
set_option linter.unusedVariables false
set_option linter.unusedSimpArgs false

/-- Each of the indices can be kept next to the one before. -/
def pairsB (d m : Int) (l : List Smp) : List Int → Bool
  | a :: b :: r => nextB d m l a.toNat b.toNat && pairsB d m l (b :: r)
  | _ => true
def fitsB (d m : Int) (l : List Smp) (ks : List Int) : Bool :=
  if l.length = 0 then true else decide (ks.head? = some 0) && decide (ks.getLast? = some ((l.length : Int) - 1)) && pairsB d m l ks
theorem pairsB_drop (d m : Int) (l : List Smp) (ks : List Int) (j : Nat) (h : j + 1 < ks.length) : pairsB d m l (ks.drop j) = (nextB d m l (ks[j]).toNat (ks[j + 1]).toNat && pairsB d m l (ks.drop (j + 1))) := by
  rw [List.drop_eq_getElem_cons (by omega : j < ks.length), List.drop_eq_getElem_cons h]
  rfl
theorem pairsB_end (d m : Int) (l : List Smp) (ks : List Int) (j : Nat) (h : ks.length ≤ j + 1) : pairsB d m l (ks.drop j) = true := by
  have hl : (ks.drop j).length ≤ 1 := by simp; omega
  match hk : ks.drop j with
  | [] => rfl
  | [_] => rfl
  | _ :: _ :: _ => rw [hk] at hl; simp at hl

/-- Part of a list of samples. -/
theorem atS_part (l : List Smp) (a b j : Nat) (hb : b < l.length) (hj : a + j ≤ b) : atS ((l.drop a).take (b + 1 - a)) j = atS l (a + j) := by
  unfold atS
  rw [List.getD_eq_getElem?_getD, List.getD_eq_getElem?_getD, List.getElem?_take_of_lt (by omega), List.getElem?_drop]
theorem part_long (l : List Smp) (a b : Nat) (hb : b < l.length) (hab : a ≤ b) : ((l.drop a).take (b + 1 - a)).length = b + 1 - a := by simp; omega
theorem FitL.part {l : List Smp} (h : FitL l) {a b : Nat} (hb : b < l.length) (hab : a ≤ b) : FitL ((l.drop a).take (b + 1 - a)) := by
  have e := part_long l a b hb hab
  refine ⟨⟨fun i j hij hj => ?_, fun j hj hq => ?_⟩, fun i hi => ?_⟩
  · rw [atS_part l a b i hb (by omega), atS_part l a b j hb (by omega)]; exact h.ok.lt _ _ (by omega) (by omega)
  · rw [atS_part l a b j hb (by omega)] at hq ⊢; exact h.ok.bad _ (by omega) hq
  · rw [atS_part l a b i hb (by omega)]; exact h.fit _ (by omega)
theorem cov_part (d : Int) (l : List Smp) (a b : Nat) (hb : b < l.length) (hab : a ≤ b) : cov d ((l.drop a).take (b + 1 - a)) 0 (b - a) = cov d l a b := by
  rw [Bool.eq_iff_iff, cov_true, cov_true]
  have e0 := atS_part l a b 0 hb (by omega)
  have e1 := atS_part l a b (b - a) hb (by omega)
  rw [Nat.add_zero] at e0
  rw [show a + (b - a) = b by omega] at e1
  unfold Cov
  rw [e0, e1]
  constructor
  · intro h j h1 h2
    have := h (j - a) (by omega) (by omega)
    rw [atS_part l a b (j - a) hb (by omega), show a + (j - a) = j by omega] at this
    exact this
  · intro h j h1 h2
    rw [atS_part l a b j hb (by omega)]
    exact h (a + j) (by omega) (by omega)
theorem sameQ_part (l : List Smp) (a b : Nat) (hb : b < l.length) (hab : a ≤ b) : sameQ ((l.drop a).take (b + 1 - a)) 0 (b - a) = sameQ l a b := by
  rw [Bool.eq_iff_iff, sameQ_iff, sameQ_iff]
  have e0 := atS_part l a b 0 hb (by omega)
  rw [Nat.add_zero] at e0
  rw [e0]
  constructor
  · intro h j h1 h2
    have := h (j - a) (by omega) (by omega)
    rwa [atS_part l a b (j - a) hb (by omega), show a + (j - a) = j by omega] at this
  · intro h j h1 h2
    rw [atS_part l a b j hb (by omega)]
    exact h (a + j) (by omega) (by omega)
theorem nextB_part (d m : Int) (l : List Smp) (a b : Nat) (hb : b < l.length) (hab : a ≤ b) : nextB d m ((l.drop a).take (b + 1 - a)) 0 (b - a) = nextB d m l a b := by
  have e0 := atS_part l a b 0 hb (by omega)
  have e1 := atS_part l a b (b - a) hb (by omega)
  rw [Nat.add_zero] at e0
  rw [show a + (b - a) = b by omega] at e1
  unfold nextB shut
  rw [sameQ_part l a b hb hab, cov_part d l a b hb hab, e0, e1]
  congr 1
  · rw [Bool.eq_iff_iff, decide_eq_true_eq, decide_eq_true_eq]; omega
  · congr 1
    rw [Bool.eq_iff_iff, decide_eq_true_eq, decide_eq_true_eq]; omega

/-- What right indices are. -/
structure IdxOk (n : Nat) (ks : List Int) : Prop where
  long : ks.length ≤ n
  rng : ∀ k ∈ ks, 0 ≤ k ∧ k < (n : Int)
  rise : ks.Pairwise (· < ·)
theorem idxFrom_ok (n : Nat) (p : Option Int) (ks : List Int) (h : idxFrom n p ks = 0) : (∀ k ∈ ks, 0 ≤ k ∧ k < (n : Int)) ∧ ks.Pairwise (· < ·) ∧ (∀ q, p = some q → ∀ k ∈ ks, q < k) := by
  induction ks generalizing p with
  | nil => simp
  | cons k r ih =>
    unfold idxFrom at h
    by_cases h1 : inB k 0 ((n : Int) - 1) = false
    · rw [if_pos h1] at h; omega
    · rw [if_neg h1] at h
      by_cases h2 : notAfter p k = true
      · rw [if_pos h2] at h; omega
      · rw [if_neg h2] at h
        obtain ⟨i1, i2, i3⟩ := ih (some k) h
        have hk := inB_true.1 (by simpa using h1)
        refine ⟨fun x hx => ?_, List.pairwise_cons.2 ⟨fun x hx => i3 k rfl x hx, i2⟩, fun q hq x hx => ?_⟩
        · rcases List.mem_cons.1 hx with rfl | hx
          · omega
          · exact i1 x hx
        · subst hq
          have hqk : q < k := by simpa [notAfter] using h2
          rcases List.mem_cons.1 hx with rfl | hx
          · exact hqk
          · have := i3 k rfl x hx; omega
theorem idxErr_ok {n : Nat} {ks : List Int} (h : idxErr n ks = 0) : IdxOk n ks := by
  unfold idxErr at h
  by_cases h1 : n < ks.length
  · rw [if_pos h1] at h; omega
  · rw [if_neg h1] at h
    obtain ⟨a, b, _⟩ := idxFrom_ok n none ks h
    exact ⟨by omega, a, b⟩
end Go.Proofs.Ytmcojidaimeijaa

/- Mathematics of fitting: a list fits exactly if it is a way from the first sample to the last. -/

namespace Go.Proofs.Ytmcojidaimeijaa
set_option linter.unusedVariables false
set_option linter.unusedSimpArgs false

/-- Naturals as indices. -/
def intsN (c : List Nat) : List Int := c.map fun (x : Nat) => (x : Int)
theorem pairs_way (d m : Int) (l : List Smp) (r : List Nat) (x : Nat) :
    Way (nextB d m l) l.length (x :: r) ↔ (intsN (x :: r)).getLast? = some ((l.length : Int) - 1) ∧ pairsB d m l (intsN (x :: r)) = true := by
  induction r generalizing x with
  | nil =>
    simp only [Way, intsN, List.map_cons, List.map_nil, pairsB, List.getLast?_singleton, Option.some.injEq, and_true]
    omega
  | cons y r ih =>
    have h1 : Way (nextB d m l) l.length (x :: y :: r) ↔ nextB d m l x y = true ∧ Way (nextB d m l) l.length (y :: r) := Iff.rfl
    have h2 : (intsN (x :: y :: r)).getLast? = (intsN (y :: r)).getLast? := by
      simp only [intsN, List.map_cons, List.getLast?_cons_cons]
    have h3 : pairsB d m l (intsN (x :: y :: r)) = (nextB d m l x y && pairsB d m l (intsN (y :: r))) := by
      simp only [intsN, List.map_cons, pairsB, Int.toNat_natCast]
    rw [h1, h2, h3, ih y, Bool.and_eq_true]
    constructor
    · rintro ⟨a, b, c⟩; exact ⟨b, a, c⟩
    · rintro ⟨b, a, c⟩; exact ⟨a, b, c⟩
theorem fits_way (d m : Int) (l : List Smp) (hl : 0 < l.length) (c : List Nat) :
    fitsB d m l (intsN c) = true ↔ ∃ r, c = 0 :: r ∧ Way (nextB d m l) l.length c := by
  unfold fitsB
  rw [if_neg (by omega)]
  cases c with
  | nil =>
    simp [intsN]
  | cons x r =>
    rw [Bool.and_eq_true, Bool.and_eq_true, decide_eq_true_eq, decide_eq_true_eq, pairs_way]
    have h0 : (intsN (x :: r)).head? = some 0 ↔ x = 0 := by
      simp only [intsN, List.map_cons, List.head?_cons, Option.some.injEq]; omega
    rw [h0]
    constructor
    · rintro ⟨⟨a, b⟩, c⟩; exact ⟨r, by rw [a], b, c⟩
    · rintro ⟨r', e, b, c⟩; exact ⟨⟨(List.cons.inj e).1, b⟩, c⟩
/-- What shortest makes is a table of the fewest steps. -/
theorem tab_next {d m : Int} {l : List Smp} {f nx : Nat → Nat} (h : ∀ i, i < l.length → (nx i, f i) = bestTo (nextB d m l i) f l.length l.length) : Tab (nextB d m l) l.length f nx where
  up := fun a b h => by
    unfold nextB at h
    rw [Bool.and_eq_true, decide_eq_true_eq] at h
    exact h.1
  one := fun a _ => by
    unfold nextB
    simp
  eq := h
/-- The way that Minimum goes is the one that MinimumOf finds. -/
theorem min_way {d m : Int} {l : List Smp} {f nx : Nat → Nat} (hl : 0 < l.length) (h : ∀ i, i < l.length → (nx i, f i) = bestTo (nextB d m l i) f l.length l.length) :
    minTo (fun c => fitsB d m l (intsN c)) l.length (2 ^ l.length) = pathN nx l.length l.length 0 :=
  minTo_way (tab_next h) hl _ fun c _ _ => fits_way d m l hl c
/-- Places before i + 1 hold no step from i: the best next step is the best of those from i + 1 on. -/
theorem bestTo_skip (d m : Int) (l : List Smp) (f : Nat → Nat) (n i k : Nat) (hk : k ≤ i + 1) : bestTo (nextB d m l i) f n k = (n, 0) := by
  induction k with
  | zero => rfl
  | succ k ih =>
    simp only [bestTo]
    rw [if_neg, ih (by omega)]
    rintro ⟨h, _⟩
    unfold nextB at h
    rw [Bool.and_eq_true, decide_eq_true_eq] at h
    omega
theorem bestTo_congr (E : Nat → Bool) (f g : Nat → Nat) (n k : Nat) (h : ∀ j, j < k → E j = true → f j = g j) : bestTo E f n k = bestTo E g n k := by
  induction k with
  | zero => rfl
  | succ k ih =>
    simp only [bestTo]
    rw [ih (fun j hj => h j (by omega))]
    by_cases hE : E k = true
    · rw [h k (by omega) hE]
    · rw [if_neg (fun x => hE x.1), if_neg (fun x => hE x.1)]
end Go.Proofs.Ytmcojidaimeijaa

/- The contract of spans (package compress). -/

namespace Go.Proofs.Ytmcojidaimeijaa
open Go.RowKit
set_option linter.unusedVariables false
set_option linter.unusedSimpArgs false

theorem But.after {g s : Nat} {w a b : World} (h : But g w a) (hs : w.heap.size ≤ s) (k : But s a b) : But g w b :=
  ⟨k.os.trans h.os, k.tape.trans h.tape, k.output.trans h.output, Nat.le_trans h.size k.size, fun i hi hne => (k.block i (Nat.lt_of_lt_of_le hi h.size) (by omega)).trans (h.block i hi hne)⟩
theorem But.rdS {g : Nat} {w a : World} {v : Value} {l : List Smp} {t : TypeId} {cs : Array Value} (h : But g w a) (hR : RdS w 57 v l) (hg : Blk w g t cs) (ht : t ≠ 57) : RdS a 57 v l :=
  Rd.keep hR fun b cur fr hb => h.block b (lt_of_heap hb) (fun e => by subst e; rw [show w.heap[b]? = _ from hg] at hb; cases hb; exact ht rfl)

theorem enter_spans1 (args : Array Value) (w : World) : (callFunc 115 args).run Try.prog w = .ok (.enter 115 args) w := by kernel_rfl
theorem spans1_any (i : Nat) (bl bf n c : Nat) (pa : Option Addr) (u : Value) (w : World) (hl : Blk w bl 26 #[.slice pa n c]) (hf : Blk w bf 4 #[u]) (hn : n ≤ 5000) (hi : i ≤ 5000) :
    Calls Try.prog 115 (#[.int .i64 (i : Int)] ++ #[.pointer (some ⟨bl, 0, none⟩), .pointer (some ⟨bf, 0, none⟩)]) w fun e w' => e = .returned (.tuple #[]) ∧ w' = w.setCell ⟨bf, 0, none⟩ (.bool (decide (i + 1 = n))) := by
  have c0 := hl.cell 0
  have c1 := hf.cell 0
  have c2 := hf.frozen 0
  have hw : IntKind.i64.wrap ((n : Int) - 1) = (n : Int) - 1 := IntWalk.i64_in _ (by omega)
  have hd : ((i : Int) == (n : Int) - 1) = decide (i + 1 = n) := by
    rw [Bool.eq_iff_iff, beq_iff_eq, decide_eq_true_eq]; omega
  generalize decide (i + 1 = n) = D at *
  show Calls _ _ #[.int .i64 (i : Int), .pointer (some ⟨bl, 0, none⟩), .pointer (some ⟨bf, 0, none⟩)] _ _
  go_enter Try.func115, Try.ntmps115
  go_wp2_with fail
  go_end0
  exact ⟨rfl, rfl⟩

set_option maxRecDepth 100000 in
set_option maxHeartbeats 4000000 in
theorem spans_any (d m : Int) (v : Value) (l : List Smp) (w : World) (hR : RdS w 57 v l) (hl : 2 ≤ l.length) (hlong : l.length ≤ 5000) (hfit : FitL l) (hd : 0 ≤ d ∧ d ≤ 2000000) :
    Calls Try.prog 85 #[.agg #[.int .i64 d, .int .i64 m], v] w fun e w' => e = .returned (.bool (nextB d m l 0 (l.length - 1))) ∧ Below w.heap.size w w' := by
  obtain ⟨pa, ca, rfl⟩ := hR.lenv
  have hbw : Below w.heap.size w (((w.alloc (.cells #[.int .i64 d, .int .i64 m] 50)).alloc (.cells #[.slice pa l.length ca] 26)).alloc (.cells #[.bool false] 4)) := (((Below.refl _ w).alloc (Nat.le_refl _) _).alloc (by simp) _).alloc (by simp; omega) _
  have bd0 : Blk (((w.alloc (.cells #[.int .i64 d, .int .i64 m] 50)).alloc (.cells #[.slice pa l.length ca] 26)).alloc (.cells #[.bool false] 4)) w.heap.size 50 #[.int .i64 d, .int .i64 m] := ((Blk.new w _ _).alloc _).alloc _
  have bl0 : Blk (((w.alloc (.cells #[.int .i64 d, .int .i64 m] 50)).alloc (.cells #[.slice pa l.length ca] 26)).alloc (.cells #[.bool false] 4)) (w.heap.size + 1) 26 #[.slice pa l.length ca] := (Blk.new1 _ _ _ _).alloc _
  have bf0 : Blk (((w.alloc (.cells #[.int .i64 d, .int .i64 m] 50)).alloc (.cells #[.slice pa l.length ca] 26)).alloc (.cells #[.bool false] 4)) (w.heap.size + 1 + 1) 4 #[.bool false] := by
    have := Blk.new ((w.alloc (.cells #[.int .i64 d, .int .i64 m] 50)).alloc (.cells #[.slice pa l.length ca] 26)) 4 #[.bool false]
    simpa using this
  have hRb := Rd.below hR hbw
  go_enter Try.func85, Try.ntmps85
  go_upto_region 2 with fail
  generalize ((w.alloc (.cells #[.int .i64 d, .int .i64 m] 50)).alloc (.cells #[.slice pa l.length ca] 26)).alloc (.cells #[.bool false] 4) = W at *
  have e0 := bd0.cell 0
  have e1 := bd0.cell 1
  have e2 := bl0.cell 0
  have hlb := bl0.lt
  have hfb := bf0.lt
  have HE := Lib.hid (eachNext_any 115 #[.pointer (some ⟨w.heap.size + 1, 0, none⟩), .pointer (some ⟨w.heap.size + 1 + 1, 0, none⟩)] d m (.slice pa l.length ca) l W
    (fun i W' => But (w.heap.size + 1 + 1) W W' ∧ Blk W' (w.heap.size + 1 + 1) 4 #[.bool (decide (i = l.length) && nextB d m l 0 (l.length - 1))])
    (by omega) hlong hfit hd enter_spans1
    (fun i W' h => h.1.rdS hRb bf0 (by decide))
    (fun i A B s hs hb h => ⟨h.1.after hs hb, (hb.block _ (by have := h.2.lt; omega) (by omega)).trans h.2⟩)
    (fun i A h0 hi hn hsz h => by
      have hl2 : Blk A (w.heap.size + 1) 26 #[.slice pa l.length ca] := (h.1.block _ hlb (by omega)).trans bl0
      refine (spans1_any i (w.heap.size + 1) (w.heap.size + 1 + 1) l.length ca pa _ A hl2 h.2 hlong (by omega)).mono ?_
      rintro e w' ⟨rfl, rfl⟩
      refine ⟨rfl, ⟨h.1.setCell (.inl rfl) _, ?_⟩, ⟨by simp, fun b hb hlt => Below.heap_setCell _ _ _ _ (by simp; omega)⟩⟩
      have h3 := h.2.set_ 0 (.bool (decide (i + 1 = l.length)))
      by_cases he : i + 1 = l.length
      · rw [show l.length - 1 = i by omega, hn]
        simpa [he] using h3
      · simpa [he] using h3)
    (fun i A hi hn h => ⟨h.1, by
      by_cases he : i + 1 = l.length
      · have h3 := h.2
        rw [show decide (i = l.length) = false by simp; omega, Bool.false_and] at h3
        rw [show l.length - 1 = i by omega, hn, Bool.and_false]; exact h3
      · have h3 := h.2
        rw [show decide (i = l.length) = false by simp; omega, Bool.false_and] at h3
        rw [show decide (i + 1 = l.length) = false by simp [he], Bool.false_and]; exact h3⟩)
    ⟨But.refl _ _, by rw [show decide (0 = l.length) = false by simp; omega, Bool.false_and]; exact bf0⟩)
  clear bd0 bl0 hlb hR
  go_wp2_with fail
  refine HE.out.mono ?_
  rintro e w2 ⟨rfl, hbt, hbf⟩
  have f0 : w2.cell? ⟨w.heap.size + 1 + 1, 0, none⟩ = some (.bool (nextB d m l 0 (l.length - 1))) := by
    have := hbf.cell 0
    simpa using this
  clear e0 e1 e2 hbf
  go_wp2_with fail
  go_ret
  exact ⟨rfl, hbw.trans ⟨hbt.os, hbt.tape, hbt.output, hbt.size, fun i hi => hbt.block i (by have := hbw.size; omega) (by omega)⟩⟩
end Go.Proofs.Ytmcojidaimeijaa

/- The contract of what shortest does with each sample that can be kept next (package compress). -/

namespace Go.Proofs.Ytmcojidaimeijaa
open Go.RowKit
set_option linter.unusedVariables false
set_option linter.unusedSimpArgs false

theorem nextB_shift {d m : Int} {seg l : List Smp} {a k : Nat} (h : ∀ j, j ≤ k → atS seg j = atS l (a + j)) : nextB d m seg 0 k = nextB d m l a (a + k) := by
  have e0 := h 0 (Nat.zero_le _)
  have e1 := h k (Nat.le_refl _)
  rw [Nat.add_zero] at e0
  have hs : sameQ seg 0 k = sameQ l a (a + k) := by
    rw [Bool.eq_iff_iff, sameQ_iff, sameQ_iff, e0]
    constructor
    · intro g j h1 h2
      have := g (j - a) (by omega) (by omega)
      rwa [h (j - a) (by omega), show a + (j - a) = j by omega] at this
    · intro g j h1 h2
      rw [h j h2]
      exact g (a + j) (by omega) (by omega)
  have hc : cov d seg 0 k = cov d l a (a + k) := by
    rw [Bool.eq_iff_iff, cov_true, cov_true]
    unfold Cov
    rw [e0, e1]
    constructor
    · intro g j h1 h2
      have := g (j - a) (by omega) (by omega)
      rw [h (j - a) (by omega), show a + (j - a) = j by omega] at this
      exact this
    · intro g j h1 h2
      rw [h j (by omega)]
      exact g (a + j) (by omega) (by omega)
  unfold nextB shut
  rw [hs, hc, e0, e1]
  congr 1
  · rw [Bool.eq_iff_iff, decide_eq_true_eq, decide_eq_true_eq]; omega
  · congr 1
    rw [Bool.eq_iff_iff, decide_eq_true_eq, decide_eq_true_eq]; omega

/-- A row of numbers, whole, in a block of its own. -/
def cellsN (r : List Nat) : Array Value := (r.map fun (x : Nat) => Value.int .i64 (x : Int)).toArray
theorem cellsN_at (r : List Nat) (i : Nat) (h : i < r.length) : (cellsN r)[i]? = some (.int .i64 ((r.getD i 0 : Nat) : Int)) := by
  simp [cellsN, List.getD_eq_getElem?_getD, h]
theorem cellsN_set (r : List Nat) (i x : Nat) : (cellsN r).setIfInBounds i (.int .i64 (x : Int)) = cellsN (r.set i x) := by
  simp [cellsN, List.map_set]

theorem enter_shortest1 (args : Array Value) (w : World) : (callFunc 114 args).run Try.prog w = .ok (.enter 114 args) w := by kernel_rfl

def ShortEnd (gn gf n i k : Nat) (N F : List Nat) (w : World) (e : Ending) (w' : World) : Prop :=
  e = .returned (.tuple #[]) ∧ ∃ N' F' : List Nat,
      N' = (if N.getD i 0 = n ∨ F.getD (i + k) 0 + 1 < F.getD i 0 then N.set i (i + k) else N) ∧ F' = (if N.getD i 0 = n ∨ F.getD (i + k) 0 + 1 < F.getD i 0 then F.set i (F.getD (i + k) 0 + 1) else F) ∧
      Blk w' gn 3 (cellsN N') ∧ Blk w' gf 3 (cellsN F') ∧ w'.os = w.os ∧ w'.tape = w.tape ∧ w'.output = w.output ∧ w.heap.size ≤ w'.heap.size ∧ ∀ b, b < w.heap.size → b ≠ gn → b ≠ gf → w'.heap[b]? = w.heap[b]?

set_option maxRecDepth 100000 in
set_option maxHeartbeats 4000000 in
theorem shortest1_any (bi bn bl bf gn gf n i k : Nat) (c : Nat) (pa : Option Addr) (N F : List Nat) (w : World)
    (hi : Blk w bi 3 #[.int .i64 (i : Int)]) (hbn : Blk w bn 22 #[.slice (some ⟨gn, 0, none⟩) n n]) (hbl : Blk w bl 26 #[.slice pa n c]) (hbf : Blk w bf 22 #[.slice (some ⟨gf, 0, none⟩) n n])
    (hgn : Blk w gn 3 (cellsN N)) (hgf : Blk w gf 3 (cellsN F)) (hN : N.length = n) (hF : F.length = n) (hn : n ≤ 5000) (hk : i + k < n) (hb : ∀ x ∈ F, x ≤ 5000) (hne : gn ≠ gf) (hbne : bi ≠ gn ∧ bi ≠ gf) :
    Calls Try.prog 114 (#[.int .i64 (k : Int)] ++ #[.pointer (some ⟨bi, 0, none⟩), .pointer (some ⟨bn, 0, none⟩), .pointer (some ⟨bl, 0, none⟩), .pointer (some ⟨bf, 0, none⟩)]) w (ShortEnd gn gf n i k N F w) := by
  have HEND := Lib.hid (show ∀ e w', (e = .returned (.tuple #[]) ∧ ∃ N' F' : List Nat,
      N' = (if N.getD i 0 = n ∨ F.getD (i + k) 0 + 1 < F.getD i 0 then N.set i (i + k) else N) ∧ F' = (if N.getD i 0 = n ∨ F.getD (i + k) 0 + 1 < F.getD i 0 then F.set i (F.getD (i + k) 0 + 1) else F) ∧
      Blk w' gn 3 (cellsN N') ∧ Blk w' gf 3 (cellsN F') ∧ w'.os = w.os ∧ w'.tape = w.tape ∧ w'.output = w.output ∧ w.heap.size ≤ w'.heap.size ∧ ∀ b, b < w.heap.size → b ≠ gn → b ≠ gf → w'.heap[b]? = w.heap[b]?) → ShortEnd gn gf n i k N F w e w' from fun e w' h => h)
  generalize ShortEnd gn gf n i k N F w = EE at *
  show Calls _ _ #[.int .i64 (k : Int), .pointer (some ⟨bi, 0, none⟩), .pointer (some ⟨bn, 0, none⟩), .pointer (some ⟨bl, 0, none⟩), .pointer (some ⟨bf, 0, none⟩)] _ _
  have c0 := hi.cell 0
  have c1 := hbn.cell 0
  have c2 := hbl.cell 0
  have c3 := hbf.cell 0
  have n0 : w.cell? ⟨gn, i, none⟩ = some (.int .i64 ((N.getD i 0 : Nat) : Int)) := (hgn.cell i).trans (cellsN_at N i (by omega))
  have f0 : w.cell? ⟨gf, i, none⟩ = some (.int .i64 ((F.getD i 0 : Nat) : Int)) := (hgf.cell i).trans (cellsN_at F i (by omega))
  have f1 : w.cell? ⟨gf, i + k, none⟩ = some (.int .i64 ((F.getD (i + k) 0 : Nat) : Int)) := (hgf.cell (i + k)).trans (cellsN_at F (i + k) (by omega))
  have z0 := hgn.frozen i
  have z1 := hgf.frozen i
  have hfb : F.getD (i + k) 0 ≤ 5000 := by
    rw [List.getD_eq_getElem?_getD, List.getElem?_eq_getElem (by omega)]
    exact hb _ (List.getElem_mem (by omega))
  have HN1 := Lib.hid (show ∀ x : Nat, (cellsN N).setIfInBounds i (.int .i64 (x : Int)) = cellsN (N.set i x) from fun x => cellsN_set N i x)
  have HF1 := Lib.hid (show ∀ x : Nat, (cellsN F).setIfInBounds i (.int .i64 (x : Int)) = cellsN (F.set i x) from fun x => cellsN_set F i x)
  generalize N.getD i 0 = a at *
  generalize F.getD i 0 = b at *
  generalize F.getD (i + k) 0 = y at *
  have w1 : IntKind.i64.wrap ((k : Int) + (i : Int)) = ((i + k : Nat) : Int) := by rw [show (k : Int) + (i : Int) = ((i + k : Nat) : Int) by omega]; exact IntWalk.i64_in _ (by omega)
  have w2 : IntKind.i64.wrap ((y : Int) + 1) = (y : Int) + 1 := IntWalk.i64_in _ (by omega)
  have hx1 : (i : Int) < (n : Int) := by omega
  have hx2 : ((i + k : Nat) : Int) < (n : Int) := by omega
  have hx3 : (0 : Int) ≤ ((i + k : Nat) : Int) := by omega
  have hik : ((i + k : Nat) : Int) = (i : Int) + (k : Int) := by omega
  have ne : ∀ {b g : Nat} {cs : Array Value} {r : List Nat} {t : TypeId}, Blk w b t cs → Blk w g 3 (cellsN r) → t ≠ 3 → b ≠ g ∧ g ≠ b := fun h1 h2 ht =>
    have : ∀ x y, x = y → Blk w x _ _ → Blk w y 3 _ → False := fun x y e h3 h4 => by
      subst e
      have h5 := (show w.heap[x]? = _ from h3).symm.trans (show w.heap[x]? = _ from h4)
      simp at h5
      exact ht h5.2
    ⟨fun e => this _ _ e h1 h2, fun e => this _ _ e.symm h1 h2⟩
  obtain ⟨m1, m2⟩ := ne hbf hgn (by decide)
  obtain ⟨m3, m4⟩ := ne hbf hgf (by decide)
  obtain ⟨m5, m6⟩ := ne hbn hgn (by decide)
  obtain ⟨m7, m8⟩ := ne hbn hgf (by decide)
  have m9 := Ne.symm hne
  have m10 := hbne.1
  have m11 := hbne.2
  have m12 := Ne.symm m10
  have m13 := Ne.symm m11
  clear ne
  have hw9 : IntKind.i64.wrap ((i : Int) + (k : Int)) = (i : Int) + (k : Int) := IntWalk.i64_in _ (by omega)
  have HFIN := Lib.hid (show ∀ nq : Nat, Blk (((w.drewN nq).setCell ⟨gn, i, none⟩ (.int .i64 ((i : Int) + (k : Int)))).setCell ⟨gf, i, none⟩ (.int .i64 ((y : Int) + 1))) gn 3 (cellsN (N.set i (i + k))) ∧
      Blk (((w.drewN nq).setCell ⟨gn, i, none⟩ (.int .i64 ((i : Int) + (k : Int)))).setCell ⟨gf, i, none⟩ (.int .i64 ((y : Int) + 1))) gf 3 (cellsN (F.set i (y + 1))) ∧
      (w.heap.size ≤ (((w.drewN nq).setCell ⟨gn, i, none⟩ (.int .i64 ((i : Int) + (k : Int)))).setCell ⟨gf, i, none⟩ (.int .i64 ((y : Int) + 1))).heap.size ∧ ∀ b, b < w.heap.size → b ≠ gn → b ≠ gf → (((w.drewN nq).setCell ⟨gn, i, none⟩ (.int .i64 ((i : Int) + (k : Int)))).setCell ⟨gf, i, none⟩ (.int .i64 ((y : Int) + 1))).heap[b]? = w.heap[b]?) from fun nq => by
    have a1 := (show Blk (w.drewN nq) gn _ _ from hgn).set_ i (.int .i64 ((i : Int) + (k : Int)))
    rw [← hik, HN1.out] at a1
    have a2 := (show Blk (w.drewN nq) gf _ _ from hgf).setOther (p := ⟨gn, i, none⟩) (by simpa using m9) (.int .i64 ((i : Int) + (k : Int)))
    have a3 := a2.set_ i (.int .i64 ((y : Int) + 1))
    rw [show (y : Int) + 1 = ((y + 1 : Nat) : Int) by omega, HF1.out] at a3
    refine ⟨by rw [← hik]; exact a1.setOther (by simpa using hne) _, by rw [show (y : Int) + 1 = ((y + 1 : Nat) : Int) by omega]; exact a3, by simp, fun b hb h1 h2 => ?_⟩
    exact (Below.heap_setCell _ _ _ _ (by simpa using h2)).trans (Below.heap_setCell _ _ _ _ (by simpa using h1)))
  clear hi hbn hbl hbf HN1 HF1
  by_cases ha : a = n
  · have ha' : ((a : Int) == (n : Int)) = true := by simp [ha]
    have HP := Lib.hid (show (a = n ∨ y + 1 < b) from .inl ha)
    clear ha
    go_enter Try.func114, Try.ntmps114
    go_wp2_with fail
    go_quiet (fail)
    go_wp2_with fail
    go_region
    all_goals
      go_end0
      obtain ⟨r1, r2, r3, r4⟩ := HFIN.out (nq + 1)
      exact HEND.out _ _ ⟨rfl, _, _, by rw [if_pos HP.out], by rw [if_pos HP.out], r1, r2, rfl, rfl, rfl, r3, r4⟩
  · have ha' : ((a : Int) == (n : Int)) = false := by simp; omega
    by_cases hy : y + 1 < b
    · have hy' : (y : Int) + 1 < (b : Int) := by omega
      have HP := Lib.hid (show (a = n ∨ y + 1 < b) from .inr hy)
      clear ha hy
      go_enter Try.func114, Try.ntmps114
      go_wp2_with fail
      go_quiet (fail)
      go_wp2_with fail
      go_region
      all_goals
        go_end0
        obtain ⟨r1, r2, r3, r4⟩ := HFIN.out (nq + 1)
        exact HEND.out _ _ ⟨rfl, _, _, by rw [if_pos HP.out], by rw [if_pos HP.out], r1, r2, rfl, rfl, rfl, r3, r4⟩
    · have hy' : ¬ ((y : Int) + 1 < (b : Int)) := by omega
      have HP := Lib.hid (show ¬ (a = n ∨ y + 1 < b) from fun h => h.elim ha hy)
      clear ha hy
      go_enter Try.func114, Try.ntmps114
      go_wp2_with fail
      go_quiet (fail)
      go_wp2_with fail
      go_end0
      exact HEND.out _ _ ⟨rfl, _, _, by rw [if_neg HP.out], by rw [if_neg HP.out], hgn, hgf, rfl, rfl, rfl, Nat.le_refl _, fun _ _ _ _ => rfl⟩
end Go.Proofs.Ytmcojidaimeijaa

/- The contract of a compressor's Add (package compress). -/

namespace Go.Proofs.Ytmcojidaimeijaa
open Go.RowKit
set_option linter.unusedVariables false
set_option linter.unusedSimpArgs false

/-- The error of Add. -/
def addErr (l : List Smp) (x : Smp) : Int := if smpErr x ≠ 0 then smpErr x else if 0 < l.length ∧ x.t ≤ (atS l (l.length - 1)).t then 7 else 0
theorem FitL.snoc {l : List Smp} {x : Smp} (h : FitL l) (hx : addErr l x = 0) : FitL (l ++ [x]) := by
  have h0 : smpErr x = 0 := by
    by_cases h0 : smpErr x = 0
    · exact h0
    · unfold addErr at hx; rw [if_pos h0] at hx; exact absurd hx h0
  have h1 : ¬ (0 < l.length ∧ x.t ≤ (atS l (l.length - 1)).t) := by
    intro h1
    unfold addErr at hx
    rw [if_neg (by simpa using h0), if_pos h1] at hx
    omega
  obtain ⟨g1, g2, g3, g4⟩ := smpErr_good h0
  have e := fun i (hi : i < l.length) => atS_snoc l x i hi
  refine ⟨⟨fun i k hik hk => ?_, fun j hj hq => ?_⟩, fun i hi => ?_⟩
  · by_cases hkl : k = l.length
    · subst hkl
      rw [atS_last, e i hik]
      by_cases hil : i = l.length - 1
      · subst hil
        have : ¬ x.t ≤ (atS l (l.length - 1)).t := fun h => h1 ⟨by omega, h⟩
        omega
      · have := h.ok.lt i (l.length - 1) (by omega) (by omega)
        have : ¬ x.t ≤ (atS l (l.length - 1)).t := fun h => h1 ⟨by omega, h⟩
        omega
    · have hkl2 : k < l.length := by simp at hk; omega
      rw [e i (by omega), e k hkl2]; exact h.ok.lt i k hik hkl2
  · by_cases hjl : j = l.length
    · subst hjl; rw [atS_last] at hq ⊢; exact g4 hq
    · have : j < l.length := by simp at hj; omega
      rw [e j this] at hq ⊢; exact h.ok.bad j this hq
  · by_cases hil : i = l.length
    · subst hil; rw [atS_last]; exact ⟨g3, g1⟩
    · have : i < l.length := by simp at hi; omega
      rw [e i this]; exact h.fit i this
theorem addErr_zero {l : List Smp} {x : Smp} (hx : addErr l x = 0) : smpErr x = 0 ∧ ¬ (0 < l.length ∧ x.t ≤ (atS l (l.length - 1)).t) := by
  have h0 : smpErr x = 0 := by
    by_cases h0 : smpErr x = 0
    · exact h0
    · unfold addErr at hx; rw [if_pos h0] at hx; exact absurd hx h0
  refine ⟨h0, fun h1 => ?_⟩
  unfold addErr at hx
  rw [if_neg (by simpa using h0), if_pos h1] at hx
  omega

/-- The compressor's two cells that Add reads first. -/
theorem CompSt.held {B c : Nat} {w : World} {d m : Int} {l : List Smp} (h : CompSt B w c d m l) : ∃ sp H, Blk w c 119 (compCells d m sp H) ∧ (l = [] → sp = none) ∧ (0 < l.length → (∃ s, sp = some ⟨s, 0, none⟩) ∧ H = atS l (l.length - 1)) := by
  obtain ⟨_, ⟨rfl, H, hc⟩ | ⟨hl, s, lo, hi, _, hc, _⟩⟩ := h
  · exact ⟨none, H, hc, fun _ => rfl, fun h => by simp at h⟩
  · exact ⟨_, _, hc, fun h => by subst h; simp at hl, fun _ => ⟨⟨s, rfl⟩, rfl⟩⟩

set_option maxRecDepth 100000 in
set_option maxHeartbeats 1000000 in
theorem add_err (B c : Nat) (d m : Int) (l : List Smp) (x : Smp) (w : World) (hS : CompSt B w c d m l) (hE : addErr l x ≠ 0) :
    Calls Try.prog 24 #[.pointer (some ⟨c, 0, none⟩), .agg #[.int .i64 x.t, .int .i64 x.v, .int .i64 x.q]] w fun e w' => e = .returned (.tuple #[.slice none 0 0, .int .i64 (addErr l x)]) ∧ Below w.heap.size w w' := by
  obtain ⟨sp, H, hc, hsp0, hsp1⟩ := hS.held
  have hcs := fun w => checkSample_any x w
  unfold Smp.agg at hcs
  by_cases h0 : smpErr x = 0
  · have h1 : 0 < l.length ∧ x.t ≤ (atS l (l.length - 1)).t := by
      by_cases h1 : 0 < l.length ∧ x.t ≤ (atS l (l.length - 1)).t
      · exact h1
      · unfold addErr at hE; rw [if_neg (by simpa using h0), if_neg h1] at hE; exact absurd rfl hE
    have he : addErr l x = 7 := by unfold addErr; rw [if_neg (by simpa using h0), if_pos h1]
    obtain ⟨⟨s, rfl⟩, rfl⟩ := hsp1 h1.1
    rw [he]
    rw [h0] at hcs
    have hle : x.t ≤ (atS l (l.length - 1)).t := h1.2
    generalize atS l (l.length - 1) = H at *
    have hlt := hc.lt
    have hlt1 : c < w.heap.size + 1 := by omega
    have hlt2 : c < w.heap.size + 1 + 1 := by omega
    have c2 : w.cell? ⟨c, 2, none⟩ = some (.pointer (some ⟨s, 0, none⟩)) := hc.cell 2
    have c3 : w.cell? ⟨c, 3, none⟩ = some (.int .i64 H.t) := hc.cell 3
    have c4 : w.cell? ⟨c, 4, none⟩ = some (.int .i64 H.v) := hc.cell 4
    have c5 : w.cell? ⟨c, 5, none⟩ = some (.int .i64 H.q) := hc.cell 5
    clear hc hsp0 hsp1 hE he h0 h1 hS
    go_enter Try.func24, Try.ntmps24
    go_wp2_with (go_at_call 69; refine (hcs _).mono ?_; rintro e w' ⟨rfl, rfl⟩)
    go_ret2
    exact ⟨rfl, (((Below.refl _ w).alloc (Nat.le_refl _) _).alloc (by simp) _).alloc (by simp; omega) _⟩
  · have he : addErr l x = smpErr x := by unfold addErr; rw [if_pos h0]
    rw [he]
    have hne : (smpErr x != 0) = true := by simpa using h0
    generalize smpErr x = E at *
    clear hE he h0 hsp0 hsp1 hc hS
    go_enter Try.func24, Try.ntmps24
    go_wp2_with (go_at_call 69; refine (hcs _).mono ?_; rintro e w' ⟨rfl, rfl⟩)
    go_ret2
    exact ⟨rfl, ((Below.refl _ w).alloc (Nat.le_refl _) _).alloc (by simp) _⟩

theorem CompSt.grown {B c base size n : Nat} {w w' : World} {d m : Int} {l : List Smp} {v : Value} {e : TypeId} {xs : List Value} (h : CompSt B w c d m l) (ho : w.ownsRow base e size v n xs) (h1 : e ≠ 119) (h2 : e ≠ 162) (hg : w.grownBy w' v.ownBlock) : CompSt B w' c d m l := by
  refine h.keep fun b _ hlt cur t fr hh ht => hg.block b hlt ?_
  intro hb
  rcases ho.2 with ⟨rfl, _⟩ | ⟨g, cap, cur', rfl, _, hh', _⟩
  · simp [Value.ownBlock] at hb
  · simp [Value.ownBlock] at hb
    subst hb
    rw [hh'] at hh
    injection hh with hh
    injection hh with _ hh
    rcases ht with rfl | rfl
    · exact h1 hh
    · exact h2 hh
/-- What Add returns of a sample that is right, and what it leaves. -/
def AddEnd (B c : Nat) (d m : Int) (l : List Smp) (x : Smp) (w : World) (e : Ending) (w' : World) : Prop :=
  ∃ (v : Value) (out : List Smp), e = .returned (.tuple #[v, .int .i64 0]) ∧ arch d m (l ++ [x]) = arch d m l ++ out ∧ out.length ≤ 2 ∧ w'.ownsRow w.heap.size 57 3 v out.length (cellsOf out) ∧ CompSt B w' c d m (l ++ [x]) ∧ Cg B w w'

set_option maxRecDepth 100000 in
set_option maxHeartbeats 2000000 in
theorem add_ok (B c : Nat) (d m : Int) (l : List Smp) (x : Smp) (w : World) (hS : CompSt B w c d m l) (hl : FitL l) (hd : 0 ≤ d ∧ d ≤ 2000000) (hBw : B ≤ w.heap.size) (hE : addErr l x = 0) :
    Calls Try.prog 24 #[.pointer (some ⟨c, 0, none⟩), .agg #[.int .i64 x.t, .int .i64 x.v, .int .i64 x.q]] w (AddEnd B c d m l x w) := by
  obtain ⟨sp, H, hc, hsp0, hsp1⟩ := hS.held
  obtain ⟨h0, h1⟩ := addErr_zero hE
  have hcs := fun w => checkSample_any x w
  unfold Smp.agg at hcs
  rw [h0] at hcs
  have hlt := hc.lt
  have hlt1 : c < w.heap.size + 1 := by omega
  have hlt2 : c < w.heap.size + 1 + 1 := by omega
  have c2 : w.cell? ⟨c, 2, none⟩ = some (.pointer sp) := hc.cell 2
  have c3 : w.cell? ⟨c, 3, none⟩ = some (.int .i64 H.t) := hc.cell 3
  have c4 : w.cell? ⟨c, 4, none⟩ = some (.int .i64 H.v) := hc.cell 4
  have c5 : w.cell? ⟨c, 5, none⟩ = some (.int .i64 H.q) := hc.cell 5
  have hb3 : Below w.heap.size w (((w.alloc (.cells #[.int .i64 x.t, .int .i64 x.v, .int .i64 x.q] 57)).alloc (.cells #[.int .i64 x.t, .int .i64 x.v, .int .i64 x.q] 57)).alloc (.cells #[.int .i64 H.t, .int .i64 H.v, .int .i64 H.q] 57)) :=
    (((Below.refl _ w).alloc (Nat.le_refl _) _).alloc (by simp) _).alloc (by simp; omega) _
  have hbx : Blk (((w.alloc (.cells #[.int .i64 x.t, .int .i64 x.v, .int .i64 x.q] 57)).alloc (.cells #[.int .i64 x.t, .int .i64 x.v, .int .i64 x.q] 57)).alloc (.cells #[.int .i64 H.t, .int .i64 H.v, .int .i64 H.q] 57)) w.heap.size 57 #[.int .i64 x.t, .int .i64 x.v, .int .i64 x.q] := ((Blk.new _ _ _).alloc _).alloc _
  have hbh : Blk (((w.alloc (.cells #[.int .i64 x.t, .int .i64 x.v, .int .i64 x.q] 57)).alloc (.cells #[.int .i64 x.t, .int .i64 x.v, .int .i64 x.q] 57)).alloc (.cells #[.int .i64 H.t, .int .i64 H.v, .int .i64 H.q] 57)) (w.heap.size + 1 + 1) 57 #[.int .i64 H.t, .int .i64 H.v, .int .i64 H.q] := Blk.new2 _ _ _ _ _
  have HB := Lib.hid (And.intro hb3 (And.intro hbx hbh))
  have hpr := fun (w : World) (h : CompSt B w c d m l) (h2 : B ≤ w.heap.size) => process_step B c d m l x w h (hl.snoc hE) hd h2
  have HPR := Lib.hid hpr
  have HS := Lib.hid hS
  have HHL := Lib.hid (fun h => (hsp1 h).2)
  clear hb3 hbx hbh hpr hS hE h0 hl hc
  have hnn : sp = none ∨ ((∃ s, sp = some ⟨s, 0, none⟩) ∧ ¬ x.t ≤ H.t) := by
    rcases Nat.eq_zero_or_pos l.length with hz | hz
    · exact .inl (hsp0 (List.eq_nil_of_length_eq_zero hz))
    · obtain ⟨hs, hh⟩ := hsp1 hz
      subst hh
      exact .inr ⟨hs, fun h => h1 ⟨hz, h⟩⟩
  clear hsp0 hsp1 h1
  rcases hnn with rfl | ⟨⟨s, rfl⟩, hgt⟩
  all_goals
    go_enter Try.func24, Try.ntmps24
    go_upto_region 8 with (go_at_call 69; refine (hcs _).mono ?_; rintro e w' ⟨rfl, rfl⟩)
    obtain ⟨hb3, hbx, hbh⟩ := HB.out
    generalize ((w.alloc (.cells #[.int .i64 x.t, .int .i64 x.v, .int .i64 x.q] 57)).alloc (.cells #[.int .i64 x.t, .int .i64 x.v, .int .i64 x.q] 57)).alloc (.cells #[.int .i64 H.t, .int .i64 H.v, .int .i64 H.q] 57) = wa at *
    have a0 : wa.cell? ⟨w.heap.size, 0, none⟩ = some (.int .i64 x.t) := hbx.cell 0
    have a1 : wa.cell? ⟨w.heap.size, 1, none⟩ = some (.int .i64 x.v) := hbx.cell 1
    have a2 : wa.cell? ⟨w.heap.size, 2, none⟩ = some (.int .i64 x.q) := hbx.cell 2
    clear c2 c3 c4 c5 HB hcs
    go_wp2_with fail
    refine (HPR.out wa (HS.out.below hb3) (Nat.le_trans hBw hb3.size)).mono ?_
    rintro e wb ⟨bf, nw, rfl, harch, hSb, hcg, hbf⟩
    have hbxb := hcg.blk hbx (by decide) (by decide)
    have hbhb := hcg.blk hbh (by decide) (by decide)
    have hszb := hcg.bl.size
    have hsz3 := hb3.size
    have x0 : wb.cell? ⟨w.heap.size, 0, none⟩ = some (.int .i64 x.t) := hbxb.cell 0
    have x1 : wb.cell? ⟨w.heap.size, 1, none⟩ = some (.int .i64 x.v) := hbxb.cell 1
    have x2 : wb.cell? ⟨w.heap.size, 2, none⟩ = some (.int .i64 x.q) := hbxb.cell 2
    have y0 : wb.cell? ⟨w.heap.size + 1 + 1, 0, none⟩ = some (.int .i64 H.t) := hbhb.cell 0
    have y1 : wb.cell? ⟨w.heap.size + 1 + 1, 1, none⟩ = some (.int .i64 H.v) := hbhb.cell 1
    have y2 : wb.cell? ⟨w.heap.size + 1 + 1, 2, none⟩ = some (.int .i64 H.q) := hbhb.cell 2
    have hlx := hbxb.lt
    have hly := hbhb.lt
    have hcgw : Cg B w wb := (Cg.of_below hb3 hBw).trans hcg
    have HARCH := Lib.hid harch
    have HBF := Lib.hid hbf
    clear harch hbf a0 a1 a2 hbx hbh hcg hb3
    cases bf <;> cases nw
    · go_wp2_with fail
      go_ret2
      exact ⟨_, [], rfl, by rw [HARCH.out]; simp, by simp, World.ownsRow_nil _ _ _ _, hSb, hcgw⟩
    · go_wp2_with (at_builtin; go_loud (refine wpList_append_smp rfl (.tmp 44) (.tmp 46) rfl w.heap.size (.slice none 0 0) 0 [] rfl (World.ownsRow_nil _ _ _ _) wb.heap.size rfl x (by exact Blk.new _ _ _) (by omega) (by simp; omega) ?_); intro v1 wc hown1 hgrow1)
      have hbc : Below wb.heap.size wb wc := ((Below.refl _ wb).alloc (Nat.le_refl _) _).trans (below_grown (World.ownsRow_nil _ wb.heap.size 57 3) (by simp) hgrow1)
      clear hgrow1
      go_ret2
      exact ⟨_, [x], rfl, by rw [HARCH.out]; simp, by simp, hown1, hSb.below hbc, hcgw.trans (Cg.of_below hbc (by omega))⟩
    · have hH := HHL.out (HBF.out rfl)
      have HH := Lib.hid hH
      clear hH
      go_wp2_with (at_builtin; go_loud (refine wpList_append_smp rfl (.tmp 39) (.tmp 41) rfl w.heap.size (.slice none 0 0) 0 [] rfl (World.ownsRow_nil _ _ _ _) wb.heap.size rfl H (by exact Blk.new _ _ _) (by omega) (by simp; omega) ?_); intro v1 wc hown1 hgrow1)
      have hbc : Below wb.heap.size wb wc := ((Below.refl _ wb).alloc (Nat.le_refl _) _).trans (below_grown (World.ownsRow_nil _ wb.heap.size 57 3) (by simp) hgrow1)
      clear hgrow1
      go_ret2
      exact ⟨_, [H], rfl, by rw [HARCH.out, ← HH.out]; simp, by simp, hown1, hSb.below hbc, hcgw.trans (Cg.of_below hbc (by omega))⟩
    · have hH := HHL.out (HBF.out rfl)
      have HH := Lib.hid hH
      clear hH
      go_wp2_with (first
        | (at_builtin; refine wpList_append_smp rfl (.tmp 39) (.tmp 41) rfl w.heap.size (.slice none 0 0) 0 [] rfl (World.ownsRow_nil _ _ _ _) wb.heap.size rfl H (by exact Blk.new _ _ _) (by omega) (by simp; omega) ?_; intro v1 wc hown1 hgrow1; have hbc : Below wb.heap.size wb wc := ((Below.refl _ wb).alloc (Nat.le_refl _) _).trans (below_grown (World.ownsRow_nil _ wb.heap.size 57 3) (by simp) hgrow1); have hxc := hbxb.below hbc hlx; have z0 : wc.cell? ⟨w.heap.size, 0, none⟩ = some (.int .i64 x.t) := hxc.cell 0; have z1 : wc.cell? ⟨w.heap.size, 1, none⟩ = some (.int .i64 x.v) := hxc.cell 1; have z2 : wc.cell? ⟨w.heap.size, 2, none⟩ = some (.int .i64 x.q) := hxc.cell 2; have hsc := hbc.size; have HO1 := Lib.hid hown1; clear hown1 hgrow1 x0 x1 x2 y0 y1 y2)
        | (at_builtin; go_loud (refine wpList_append_smp rfl (.tmp 44) (.tmp 46) rfl w.heap.size v1 1 [H] rfl (by exact own_keep HO1.out fun b _ _ hh => Below.heap_alloc _ _ _ (lt_of_heap hh)) wc.heap.size rfl x (by exact Blk.new _ _ _) (by omega) (by simp; omega) ?_); intro v2 we hown2 hgrow2))
      have hbe : Below w.heap.size wc we := ((Below.refl _ wc).alloc (by omega) _).trans (below_grown (own_keep HO1.out fun b _ _ hh => Below.heap_alloc _ _ _ (lt_of_heap hh)) (by simp; omega) hgrow2)
      have hSe := ((hSb.below hbc).below ((Below.refl _ wc).alloc (Nat.le_refl _) (.cells #[.int .i64 x.t, .int .i64 x.v, .int .i64 x.q] 57))).grown (own_keep HO1.out fun b _ _ hh => Below.heap_alloc _ _ _ (lt_of_heap hh)) (by decide) (by decide) hgrow2
      have hce : Cg B w we := ⟨hcgw.bl.trans ((hbc.mono (by omega)).trans (hbe.mono hBw)), fun b cur t fr hh t1 t2 => (hbe.block b (lt_of_heap hh)).trans ((hbc.block b (by have := lt_of_heap hh; omega)).trans (hcgw.ty b cur t fr hh t1 t2))⟩
      go_ret2
      exact ⟨_, [H, x], rfl, by rw [HARCH.out, ← HH.out]; simp, by simp, hown2, hSe, hce⟩
end Go.Proofs.Ytmcojidaimeijaa

/- The contracts of New and of a compressor's Flush (package compress), and of the reference's AddFault. -/

namespace Go.Proofs.Ytmcojidaimeijaa
open Go.RowKit
set_option linter.unusedVariables false
set_option linter.unusedSimpArgs false

def flushOut (d m : Int) (l : List Smp) : List Smp := if 0 < l.length ∧ beg d m l = true then [atS l (l.length - 1)] else []
theorem flush_end (d m : Int) (l : List Smp) : choI l (compressed d m l) = arch d m l ++ flushOut d m l := by
  rcases Nat.eq_zero_or_pos l.length with h | h
  · obtain rfl := List.eq_nil_of_length_eq_zero h
    simp [compressed, choI, arch, compTo, flushOut]
  · rw [end_step h]
    unfold flushOut
    by_cases hb : beg d m l = true
    · rw [if_pos hb, if_pos ⟨h, hb⟩]
    · rw [if_neg hb, if_neg (fun hh => hb hh.2)]
theorem CompSt.lens {B c : Nat} {w : World} {d m : Int} {l : List Smp} (h : CompSt B w c d m l) : (l = [] ∧ ∃ H, Blk w c 119 (compCells d m none H)) ∨ (0 < l.length ∧ ∃ s lo hi, Blk w c 119 (compCells d m (some ⟨s, 0, none⟩) (atS l (l.length - 1))) ∧ Blk w s 162 (spanCells d m (atS l (piv d m l)) (beg d m l) false lo hi)) := by
  obtain ⟨_, h | ⟨hl, s, lo, hi, _, hc, hs, _⟩⟩ := h
  · exact .inl h
  · exact .inr ⟨hl, s, lo, hi, hc, hs⟩

/-- What Flush returns, and what it leaves. -/
def FlushEnd (B c : Nat) (d m : Int) (l : List Smp) (w : World) (e : Ending) (w' : World) : Prop :=
  ∃ v, e = .returned v ∧ w'.ownsRow w.heap.size 57 3 v (flushOut d m l).length (cellsOf (flushOut d m l)) ∧ CompSt B w' c d m [] ∧ Cg B w w'
theorem flush_stored {B c : Nat} {w : World} {d m : Int} {sp : Option Addr} {H : Smp} (hB : B ≤ c) (hc : Blk w c 119 (compCells d m sp H)) :
    CompSt B ((((w.setCell ⟨c, 2, none⟩ (.pointer none)).setCell ⟨c, 3, none⟩ (.int .i64 0)).setCell ⟨c, 4, none⟩ (.int .i64 0)).setCell ⟨c, 5, none⟩ (.int .i64 0)) c d m [] ∧ Cg B w ((((w.setCell ⟨c, 2, none⟩ (.pointer none)).setCell ⟨c, 3, none⟩ (.int .i64 0)).setCell ⟨c, 4, none⟩ (.int .i64 0)).setCell ⟨c, 5, none⟩ (.int .i64 0)) :=
  ⟨⟨hB, .inl ⟨rfl, ⟨0, 0, 0⟩, (((hc.set_ 2 (.pointer none)).set_ 3 (.int .i64 0)).set_ 4 (.int .i64 0)).set_ 5 (.int .i64 0)⟩⟩,
   Cg.of_but (((((But.refl c w).setCell (.inl rfl) _).setCell (.inl rfl) _).setCell (.inl rfl) _).setCell (.inl rfl) _) hc hB⟩

set_option maxRecDepth 100000 in
set_option maxHeartbeats 1000000 in
theorem flush_any (B c : Nat) (d m : Int) (l : List Smp) (w : World) (hS : CompSt B w c d m l) (hBw : B ≤ w.heap.size) :
    Calls Try.prog 25 #[.pointer (some ⟨c, 0, none⟩)] w (FlushEnd B c d m l w) := by
  have hBc := hS.1
  rcases hS.lens with ⟨rfl, H, hc⟩ | ⟨hl, s, lo, hi, hc, hs⟩
  · have c2 : w.cell? ⟨c, 2, none⟩ = some (.pointer none) := hc.cell 2
    have c3 : w.cell? ⟨c, 3, none⟩ = some (.int .i64 H.t) := hc.cell 3
    have c4 : w.cell? ⟨c, 4, none⟩ = some (.int .i64 H.v) := hc.cell 4
    have c5 : w.cell? ⟨c, 5, none⟩ = some (.int .i64 H.q) := hc.cell 5
    have f2 : w.frozen? ⟨c, 2, none⟩ = false := hc.frozen 2
    have f3 : w.frozen? ⟨c, 3, none⟩ = false := hc.frozen 3
    have f4 : w.frozen? ⟨c, 4, none⟩ = false := hc.frozen 4
    have f5 : w.frozen? ⟨c, 5, none⟩ = false := hc.frozen 5
    have hst := flush_stored hBc hc
    have hh := fun w h => holds_none c d m H w h
    have HC := Lib.hid (And.intro hc hst)
    have HH := Lib.hid hh
    clear hc hS hst hh
    go_enter Try.func25, Try.ntmps25
    go_wp2_with (go_at_call 71; refine (HH.out _ HC.out.1).mono ?_; rintro e w' ⟨rfl, rfl⟩)
    go_ret
    exact ⟨_, rfl, World.ownsRow_nil _ _ _ _, HC.out.2.1, HC.out.2.2⟩
  · generalize hH : atS l (l.length - 1) = H at *
    have hout : flushOut d m l = if beg d m l = true then [H] else [] := by unfold flushOut; rw [hH]; by_cases hb : beg d m l = true <;> simp [hb, hl]
    have hh := fun w h1 h2 => holds_some c s d m H (atS l (piv d m l)) (beg d m l) lo hi w h1 h2
    have c2 : w.cell? ⟨c, 2, none⟩ = some (.pointer (some ⟨s, 0, none⟩)) := hc.cell 2
    have c3 : w.cell? ⟨c, 3, none⟩ = some (.int .i64 H.t) := hc.cell 3
    have c4 : w.cell? ⟨c, 4, none⟩ = some (.int .i64 H.v) := hc.cell 4
    have c5 : w.cell? ⟨c, 5, none⟩ = some (.int .i64 H.q) := hc.cell 5
    have f2 : w.frozen? ⟨c, 2, none⟩ = false := hc.frozen 2
    have f3 : w.frozen? ⟨c, 3, none⟩ = false := hc.frozen 3
    have f4 : w.frozen? ⟨c, 4, none⟩ = false := hc.frozen 4
    have f5 : w.frozen? ⟨c, 5, none⟩ = false := hc.frozen 5
    have hst := flush_stored hBc hc
    have hlt := hc.lt
    generalize beg d m l = b at *
    have HC := Lib.hid (And.intro hc (And.intro hs hst))
    have HH := Lib.hid hh
    have HO := Lib.hid hout
    clear hc hS hst hh hout hs hl hH
    cases b
    · go_enter Try.func25, Try.ntmps25
      go_wp2_with (go_at_call 71; refine (HH.out _ HC.out.1 HC.out.2.1).mono ?_; rintro e w' ⟨rfl, rfl⟩)
      go_ret
      exact ⟨_, rfl, by rw [HO.out]; exact World.ownsRow_nil _ _ _ _, HC.out.2.2.1, HC.out.2.2.2⟩
    · go_enter Try.func25, Try.ntmps25
      go_wp2_with (first
        | (go_at_call 71; refine (HH.out _ HC.out.1 HC.out.2.1).mono ?_; rintro e w' ⟨rfl, rfl⟩)
        | (at_builtin; go_loud (refine wpList_append_smp rfl (.tmp 6) (.tmp 11) rfl w.heap.size (.slice none 0 0) 0 [] rfl (World.ownsRow_nil _ _ _ _) w.heap.size rfl H (by exact Blk.new _ _ _) (by omega) (by simp) ?_); intro v1 wc hown1 hgrow1; have hbc : Below w.heap.size w wc := ((Below.refl _ w).alloc (Nat.le_refl _) _).trans (below_grown (World.ownsRow_nil _ w.heap.size 57 3) (by simp) hgrow1); have hcc := HC.out.1.below hbc hlt; have d2 : wc.cell? ⟨c, 2, none⟩ = some (.pointer (some ⟨s, 0, none⟩)) := hcc.cell 2; have d3 : wc.cell? ⟨c, 3, none⟩ = some (.int .i64 H.t) := hcc.cell 3; have d4 : wc.cell? ⟨c, 4, none⟩ = some (.int .i64 H.v) := hcc.cell 4; have d5 : wc.cell? ⟨c, 5, none⟩ = some (.int .i64 H.q) := hcc.cell 5; have g2 : wc.frozen? ⟨c, 2, none⟩ = false := hcc.frozen 2; have g3 : wc.frozen? ⟨c, 3, none⟩ = false := hcc.frozen 3; have g4 : wc.frozen? ⟨c, 4, none⟩ = false := hcc.frozen 4; have g5 : wc.frozen? ⟨c, 5, none⟩ = false := hcc.frozen 5; have hst2 := flush_stored hBc hcc; have HST := Lib.hid (And.intro hown1 (And.intro hbc hst2)); clear hown1 hgrow1 hbc hst2 c2 c3 c4 c5 f2 f3 f4 f5))
      obtain ⟨hown1, hbc, hst2⟩ := HST.out
      go_ret
      exact ⟨_, rfl, by rw [HO.out]; exact hst2.2.own hown1 (by decide) (by decide), hst2.1, (Cg.of_below hbc hBw).trans hst2.2⟩

set_option maxRecDepth 100000 in
set_option maxHeartbeats 400000 in
theorem new_any (d m : Int) (w : World) :
    Calls Try.prog 23 #[.agg #[.int .i64 d, .int .i64 m]] w fun e w' => Below w.heap.size w w' ∧ ((doorErr d m ≠ 0 ∧ e = .returned (.tuple #[.pointer none, .int .i64 (doorErr d m)])) ∨ (doorErr d m = 0 ∧ ∃ c, e = .returned (.tuple #[.pointer (some ⟨c, 0, none⟩), .int .i64 0]) ∧ CompSt w.heap.size w' c d m [])) := by
  have hcd := fun w => checkDoor_any d m w
  have hB0 := Blk.new w 50 #[.int .i64 d, .int .i64 m]
  have HB0 := Lib.hid hB0
  clear hB0
  by_cases hz : doorErr d m = 0
  · rw [hz] at hcd ⊢
    clear hz
    go_enter Try.func23, Try.ntmps23
    go_wp2_with (go_at_call 68; refine (hcd _).mono ?_; rintro e wa ⟨rfl, hba⟩; have hD := HB0.out.below hba (by simp); have hsz := hba.size; simp at hsz; have d0 : wa.cell? ⟨w.heap.size, 0, none⟩ = some (.int .i64 d) := hD.cell 0; have d1 : wa.cell? ⟨w.heap.size, 1, none⟩ = some (.int .i64 m) := hD.cell 1)
    go_ret2
    refine ⟨?_, .inr ⟨trivial, _, rfl, by omega, .inl ⟨rfl, ⟨0, 0, 0⟩, Blk.new _ _ _⟩⟩⟩
    exact (((Below.refl _ w).alloc (Nat.le_refl _) _).trans (hba.mono (by simp))).alloc (by omega) _
  · have hne : (doorErr d m != 0) = true := by simpa using hz
    have hz2 := Lib.hid hz
    generalize doorErr d m = E at *
    clear hz
    go_enter Try.func23, Try.ntmps23
    go_wp2_with (go_at_call 68; refine (hcd _).mono ?_; rintro e wa ⟨rfl, hba⟩)
    go_ret2
    exact ⟨((Below.refl _ w).alloc (Nat.le_refl _) _).trans (hba.mono (by simp)), .inl ⟨hz2.out, rfl⟩⟩
end Go.Proofs.Ytmcojidaimeijaa
