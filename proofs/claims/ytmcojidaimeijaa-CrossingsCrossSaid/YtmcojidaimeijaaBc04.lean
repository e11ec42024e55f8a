import Derived.Test.YtmcojidaimeijaaBc03
import Derived.Test.YtmcojidaimeijaaAt
import Derived.Deep.RegionHeld3
import Derived.Test.YtmcojidaimeijaaSer
import Derived.Test.YtmcojidaimeijaaPressed
import Derived.BigQuiet
import Derived.Test.YtmcojidaimeijaaRq06
/- The contract of Curve (package logmake): it makes some samples, whose numbers are small; no more is asked of it. -/

namespace Go.Proofs.Ytmcojidaimeijaa
open Go.RowKit
set_option linter.unusedVariables false
set_option linter.unusedSimpArgs false

/-- The numbers of the samples are small. -/
def NearB (B : Int) (l : List Smp) : Prop := ∀ x ∈ l, (-B ≤ x.t ∧ x.t ≤ B) ∧ (-B ≤ x.v ∧ x.v ≤ B) ∧ (-B ≤ x.q ∧ x.q ≤ B)
def Near (l : List Smp) : Prop := NearB 2000000000000 l
theorem NearB.at_ {B : Int} {l : List Smp} (h : NearB B l) (i : Nat) (hi : i < l.length) : (-B ≤ (atS l i).t ∧ (atS l i).t ≤ B) ∧ (-B ≤ (atS l i).v ∧ (atS l i).v ≤ B) ∧ (-B ≤ (atS l i).q ∧ (atS l i).q ≤ B) := by
  rw [← atS_eq l i hi]; exact h _ (List.getElem_mem hi)
theorem Near.fit {l : List Smp} (h : Near l) : Fit l := fun i hi => by
  have := NearB.at_ h i hi
  omega
theorem NearB.mono {B C : Int} {l : List Smp} (h : NearB B l) (hBC : B ≤ C) : NearB C l := fun x hx => by have := h x hx; omega
theorem NearB.snoc {B : Int} {l : List Smp} (h : NearB B l) (x : Smp) (hx : (-B ≤ x.t ∧ x.t ≤ B) ∧ (-B ≤ x.v ∧ x.v ≤ B) ∧ (-B ≤ x.q ∧ x.q ≤ B)) : NearB B (l ++ [x]) := by
  intro y hy
  rcases List.mem_append.1 hy with hy | hy
  · exact h y hy
  · simp at hy; subst hy; exact hx
theorem NearB.set {B : Int} {l : List Smp} (h : NearB B l) (i : Nat) (x : Smp) (hx : (-2000000000000 ≤ x.t ∧ x.t ≤ 2000000000000) ∧ (-2000000000000 ≤ x.v ∧ x.v ≤ 2000000000000) ∧ (-2000000000000 ≤ x.q ∧ x.q ≤ 2000000000000)) (hB : B ≤ 2000000000000) : Near (l.set i x) := by
  intro y hy
  rcases List.mem_or_eq_of_mem_set hy with hy | hy
  · have := h y hy; omega
  · subst hy; exact hx
theorem cellsOf_setT (l : List Smp) (i : Nat) (h : i < l.length) (r : Int) : (cellsOf l).set (i * 3) (.int .i64 r) = cellsOf (l.set i ⟨r, (atS l i).v, (atS l i).q⟩) := by
  induction l generalizing i with
  | nil => simp at h
  | cons x l ih =>
    cases i with
    | zero => simp [Smp.cells, atS]
    | succ i =>
      have := ih i (by simpa using h)
      have e1 : atS (x :: l) (i + 1) = atS l i := rfl
      simp only [List.set_cons_succ, cellsOf_cons, e1]
      rw [← this, show (i + 1) * 3 = i * 3 + 3 by omega]
      simp [Smp.cells]
theorem cellsOf_setV (l : List Smp) (i : Nat) (h : i < l.length) (r : Int) : (cellsOf l).set (i * 3 + 1) (.int .i64 r) = cellsOf (l.set i ⟨(atS l i).t, r, (atS l i).q⟩) := by
  induction l generalizing i with
  | nil => simp at h
  | cons x l ih =>
    cases i with
    | zero => simp [Smp.cells, atS]
    | succ i =>
      have := ih i (by simpa using h)
      have e1 : atS (x :: l) (i + 1) = atS l i := rfl
      simp only [List.set_cons_succ, cellsOf_cons, e1]
      rw [← this, show (i + 1) * 3 + 1 = i * 3 + 1 + 3 by omega]
      simp [Smp.cells]
theorem cellsOf_setQ (l : List Smp) (i : Nat) (h : i < l.length) (r : Int) : (cellsOf l).set (i * 3 + 2) (.int .i64 r) = cellsOf (l.set i ⟨(atS l i).t, (atS l i).v, r⟩) := by
  induction l generalizing i with
  | nil => simp at h
  | cons x l ih =>
    cases i with
    | zero => simp [Smp.cells, atS]
    | succ i =>
      have := ih i (by simpa using h)
      have e1 : atS (x :: l) (i + 1) = atS l i := rfl
      simp only [List.set_cons_succ, cellsOf_cons, e1]
      rw [← this, show (i + 1) * 3 + 2 = i * 3 + 2 + 3 by omega]
      simp [Smp.cells]

/-- What is made at last. -/
def CurveEnd (w : World) (g : Nat) (L : List Int) (A : Option Addr) (cap k most : Nat) (v : Value) (w' : World) : Prop :=
  ∃ l k', w'.ownsRow w.heap.size 57 3 v l.length (cellsOf l) ∧ l.length ≤ most ∧ Near l ∧ k' ≤ k + 10 + 3 * most ∧ Went w g L A cap k' w'
theorem Went.setAt {w w1 : World} {g : Nat} {L : List Int} {A : Option Addr} {cap k : Nat} (hw : Went w g L A cap k w1) (hg : g < w.heap.size) {p : Addr} (hp : w.heap.size ≤ p.block) (u : Value) : Went w g L A cap k (w1.setCell p u) :=
  hw.below hg ((Below.refl w.heap.size w1).setCell hp u)

set_option maxRecDepth 100000 in
set_option maxHeartbeats 4000000 in
theorem curve_went (w : World) (g : Nat) (L : List Int) (A : Option Addr) (cap k most : Nat) (hS : Strm w g L A cap k) (hk : k ≤ 700000000) (hm : most ≤ 1000) :
    Calls Try.prog 49 #[.pointer (some ⟨g, 0, none⟩), .int .i64 (most : Int)] w fun e w' => ∃ v, e = .returned v ∧ CurveEnd w g L A cap k most v w' := by
  have hlt0 := hS.lt
  have hr := nxt_range L (k + 2) (most + 1) (by omega)
  have hn : (((nxt L (k + 2) (most + 1)).toNat : Nat) : Int) = 0 + nxt L (k + 2) ((most : Int) - 0 + 1) := by rw [show (most : Int) - 0 + 1 = (most : Int) + 1 from by omega]; omega
  have hN : (nxt L (k + 2) (most + 1)).toNat ≤ most := by omega
  generalize (nxt L (k + 2) (most + 1)).toNat = N at *
  have HN := Lib.hid hn
  clear hn hr
  go_enter Try.func49, Try.ntmps49
  go_wp2_with fail
  refine (pick_new _ _ g L A cap k [0, 0, 5, 40] hS rfl (by omega) (by simp)).mono ?_
  rintro e w1 ⟨rfl, hw1⟩
  have hT := pk_mem [0, 0, 5, 40] L k (by simp)
  simp only [List.mem_cons, List.not_mem_nil, or_false] at hT
  generalize pk [0, 0, 5, 40] L k = T at *
  have hT' : 0 ≤ T ∧ T ≤ 40 := by omega
  clear hT
  go_wp2_with fail
  refine (pick_new _ _ g L A cap (k + 1) [0, 5, 10, -3] hw1.1 rfl (by omega) (by simp)).mono ?_
  rintro e w2 ⟨rfl, hw2⟩
  have hV := pk_mem [0, 5, 10, -3] L (k + 1) (by simp)
  simp only [List.mem_cons, List.not_mem_nil, or_false] at hV
  generalize pk [0, 5, 10, -3] L (k + 1) = V at *
  have hV' : -3 ≤ V ∧ V ≤ 10 := by omega
  clear hV
  have hw2' : Went w g L A cap (k + 2) w2 := ⟨hw2.1, hw1.2.trans hw2.2⟩
  clear hw1 hw2
  go_wp2_with fail
  refine (range_went _ g L A cap (k + 2) 0 most hw2'.1 (by omega) (by omega) (by omega) (by omega)).mono ?_
  rintro e w3 ⟨rfl, hw3, hz3⟩
  rw [← HN.out]
  have hg3 : Went w g L A cap (k + 3 + 3 * 0) w3 := ⟨hw3.1, hw2'.2.trans hw3.2⟩
  clear hw2' hw3 hz3 HN
  go_wp2_with fail
  go_loopw [5, 6, 7, 19] (fun o st sv i wr => ∃ (j : Nat) (xs : List Smp) (t vv : Int), j ≤ N ∧ i = .int .i64 (j : Int) ∧ st = .int .i64 t ∧ sv = .int .i64 vv ∧ (0 ≤ t ∧ t ≤ 40 + 30 * (j : Int)) ∧ (-3 - 6 * (j : Int) ≤ vv ∧ vv ≤ 10 + 6 * (j : Int)) ∧ xs.length = j ∧ NearB 1000000000000 xs ∧ wr.ownsRow w.heap.size 57 3 o j (cellsOf xs) ∧ Went w g L A cap (k + 3 + 3 * j) wr)
    (fun _ _ _ i _ => N - (intOf i).toNat)
  case atStart => exact ⟨0, [], T, V, by omega, rfl, rfl, rfl, by omega, by omega, rfl, by intro x hx; simp at hx, World.ownsRow_nil _ _ _ _, hg3⟩
  case round =>
    obtain ⟨j, xs, t, vv, hj, rfl, rfl, rfl, ht, hv, hxl, hnear, hown, hwr⟩ := hrel
    have HXL := Lib.hid hxl
    have HNR := Lib.hid hnear
    clear hxl hnear
    have hszr := hwr.2.size
    by_cases hlt : j < N
    · go_wp2_with fail
      refine (pick_new _ _ g L A cap (k + 3 + 3 * j) [0, 0, 0, 0, 0, 1, 2] hwr.1 rfl (by omega) (by simp)).mono ?_
      rintro e wa ⟨rfl, hwa⟩
      have hQ := pk_mem [0, 0, 0, 0, 0, 1, 2] L (k + 3 + 3 * j) (by simp)
      simp only [List.mem_cons, List.not_mem_nil, or_false] at hQ
      generalize pk [0, 0, 0, 0, 0, 1, 2] L (k + 3 + 3 * j) = q at *
      have hQ' : 0 ≤ q ∧ q ≤ 2 := by omega
      have howna : wa.ownsRow w.heap.size 57 3 u5 j (cellsOf xs) := own_but hwr.1 (by decide) hown hwa.2
      have hwa' : Went w g L A cap (k + 3 + 3 * j + 1) wa := ⟨hwa.1, hwr.2.trans hwa.2⟩
      have hsza := hwa'.2.size
      clear hwa hown hwr hQ
      by_cases hq : q = 2
      · subst hq
        go_wp2_with (at_builtin; go_loud (refine wpList_append_smp rfl (.tmp 31) (.tmp 33) rfl w.heap.size u5 j xs rfl (by exact (howna.alloc _).alloc _) (wa.heap.size + 1) rfl ⟨t, 0, 2⟩ (by exact Blk.new1 _ _ _ _) (by omega) (by simp; omega) ?_); intro v1 wc hown1 hgrow1)
        have hwc : Went w g L A cap (k + 3 + 3 * j + 1) wc := hwa'.below hlt0 ((((Below.refl _ wa).alloc hsza _).alloc (by simp; omega) _).trans (below_grown ((howna.alloc _).alloc _) (by simp; omega) hgrow1))
        clear howna hgrow1 hwa'
        have hnr := HNR.out.snoc ⟨t, 0, 2⟩ ⟨by simp only; omega, by simp only; omega, by simp only; omega⟩
        have HNR1 := Lib.hid hnr
        clear hnr
        refine (pick_new _ _ g L A cap (k + 3 + 3 * j + 1) [1, 1, 2, 5, 10, 30] hwc.1 rfl (by omega) (by simp)).mono ?_
        rintro e wd ⟨rfl, hwd⟩
        have hA := pk_mem [1, 1, 2, 5, 10, 30] L (k + 3 + 3 * j + 1) (by simp)
        simp only [List.mem_cons, List.not_mem_nil, or_false] at hA
        generalize pk [1, 1, 2, 5, 10, 30] L (k + 3 + 3 * j + 1) = da at *
        have hA' : 1 ≤ da ∧ da ≤ 30 := by omega
        have hownd := own_but hwc.1 (by decide) hown1 hwd.2
        have hwd' : Went w g L A cap (k + 3 + 3 * j + 1 + 1) wd := ⟨hwd.1, hwc.2.trans hwd.2⟩
        clear hwc hwd hown1 hA
        go_wp2_with fail
        refine (pick_new _ _ g L A cap (k + 3 + 3 * j + 1 + 1) [0, 0, 1, 1, 2, -1, -1, -4, 6] hwd'.1 rfl (by omega) (by simp)).mono ?_
        rintro e we ⟨rfl, hwe⟩
        have hA := pk_mem [0, 0, 1, 1, 2, -1, -1, -4, 6] L (k + 3 + 3 * j + 1 + 1) (by simp)
        simp only [List.mem_cons, List.not_mem_nil, or_false] at hA
        generalize pk [0, 0, 1, 1, 2, -1, -1, -4, 6] L (k + 3 + 3 * j + 1 + 1) = db at *
        have hB' : -4 ≤ db ∧ db ≤ 6 := by omega
        have howne := own_but hwd'.1 (by decide) hownd hwe.2
        have hwe' : Went w g L A cap (k + 3 + 3 * (j + 1)) we := ⟨hwe.1, hwd'.2.trans hwe.2⟩
        clear hwd' hwe hownd hA
        go_wp2_with fail
        go_roundw
        case rel => exact ⟨j + 1, xs ++ [⟨t, 0, 2⟩], t + da, vv + db, by omega, by go_num, rfl, rfl, by omega, by omega, by rw [List.length_append, HXL.out]; rfl, HNR1.out, howne, hwe'⟩
        case measure => simp [intOf]; omega
      · have hq' : (q == 2) = false := by simpa using hq
        clear hq
        go_wp2_with (at_builtin; go_loud (refine wpList_append_smp rfl (.tmp 31) (.tmp 33) rfl w.heap.size u5 j xs rfl (by exact (howna.alloc _).alloc _) (wa.heap.size + 1) rfl ⟨t, vv, q⟩ (by exact Blk.new1 _ _ _ _) (by omega) (by simp; omega) ?_); intro v1 wc hown1 hgrow1)
        have hwc : Went w g L A cap (k + 3 + 3 * j + 1) wc := hwa'.below hlt0 ((((Below.refl _ wa).alloc hsza _).alloc (by simp; omega) _).trans (below_grown ((howna.alloc _).alloc _) (by simp; omega) hgrow1))
        clear howna hgrow1 hwa'
        have hnr := HNR.out.snoc ⟨t, vv, q⟩ ⟨by simp only; omega, by simp only; omega, by simp only; omega⟩
        have HNR1 := Lib.hid hnr
        clear hnr
        refine (pick_new _ _ g L A cap (k + 3 + 3 * j + 1) [1, 1, 2, 5, 10, 30] hwc.1 rfl (by omega) (by simp)).mono ?_
        rintro e wd ⟨rfl, hwd⟩
        have hA := pk_mem [1, 1, 2, 5, 10, 30] L (k + 3 + 3 * j + 1) (by simp)
        simp only [List.mem_cons, List.not_mem_nil, or_false] at hA
        generalize pk [1, 1, 2, 5, 10, 30] L (k + 3 + 3 * j + 1) = da at *
        have hA' : 1 ≤ da ∧ da ≤ 30 := by omega
        have hownd := own_but hwc.1 (by decide) hown1 hwd.2
        have hwd' : Went w g L A cap (k + 3 + 3 * j + 1 + 1) wd := ⟨hwd.1, hwc.2.trans hwd.2⟩
        clear hwc hwd hown1 hA
        go_wp2_with fail
        refine (pick_new _ _ g L A cap (k + 3 + 3 * j + 1 + 1) [0, 0, 1, 1, 2, -1, -1, -4, 6] hwd'.1 rfl (by omega) (by simp)).mono ?_
        rintro e we ⟨rfl, hwe⟩
        have hA := pk_mem [0, 0, 1, 1, 2, -1, -1, -4, 6] L (k + 3 + 3 * j + 1 + 1) (by simp)
        simp only [List.mem_cons, List.not_mem_nil, or_false] at hA
        generalize pk [0, 0, 1, 1, 2, -1, -1, -4, 6] L (k + 3 + 3 * j + 1 + 1) = db at *
        have hB' : -4 ≤ db ∧ db ≤ 6 := by omega
        have howne := own_but hwd'.1 (by decide) hownd hwe.2
        have hwe' : Went w g L A cap (k + 3 + 3 * (j + 1)) we := ⟨hwe.1, hwd'.2.trans hwe.2⟩
        clear hwd' hwe hownd hA
        go_wp2_with fail
        go_roundw
        case rel => exact ⟨j + 1, xs ++ [⟨t, vv, q⟩], t + da, vv + db, by omega, by go_num, rfl, rfl, by omega, by omega, by rw [List.length_append, HXL.out]; rfl, HNR1.out, howne, hwe'⟩
        case measure => simp [intOf]; omega
    · obtain rfl : j = N := by omega
      have hlong : xs.length ≤ most := by rw [HXL.out]; exact hN
      by_cases hj0 : j = 0
      · subst hj0
        obtain rfl : xs = [] := List.eq_nil_of_length_eq_zero HXL.out
        rcases hown.2 with ⟨rfl, _⟩ | ⟨g', cap', cur, rfl, _, _⟩
        · go_wp2_with fail
          go_ret
          exact ⟨_, rfl, [], _, hown, by simp, HNR.out.mono (by omega), by omega, hwr⟩
        · go_wp2_with fail
          go_ret
          exact ⟨_, rfl, [], _, hown, by simp, HNR.out.mono (by omega), by omega, hwr⟩
      · obtain ⟨g1, cap1, rfl, hg1, hc1, hc2⟩ := own_form hown (by omega)
        have hj1 : 0 < j := by omega
        clear hj0
        go_wp2_with fail
        refine (flip_went _ g L A cap _ 12 hwr.1 (by omega) (by omega)).mono ?_
        rintro e w4 ⟨rfl, hw4, hz4⟩; clear hz4
        have hown4 := own_but hwr.1 (by decide) hown hw4.2
        have hw4' : Went w g L A cap (k + 3 + 3 * j + 1) w4 := ⟨hw4.1, hwr.2.trans hw4.2⟩
        clear hown hwr hw4
        by_cases hF : nxt L (k + 3 + 3 * j) 12 = 0
        · have hF' : (nxt L (k + 3 + 3 * j) 12 == 0) = true := by simpa using hF
          clear hF
          have hr := nxt_range L (k + 3 + 3 * j + 1) j (by omega)
          go_wp2_with fail
          refine (next_went _ g L A cap (k + 3 + 3 * j + 1) j hw4'.1 (by omega) (by omega)).mono ?_
          rintro e w5 ⟨rfl, hw5, hz5⟩; clear hz5
          have hown5 := own_but hw4'.1 (by decide) hown4 hw5.2
          have hw5' : Went w g L A cap (k + 3 + 3 * j + 2) w5 := ⟨hw5.1, hw4'.2.trans hw5.2⟩
          clear hown4 hw4' hw5
          have hin : ∃ n : Nat, nxt L (k + 3 + 3 * j + 1) j = (n : Int) ∧ n < j := ⟨(nxt L (k + 3 + 3 * j + 1) j).toNat, by omega, by omega⟩
          obtain ⟨n, hnx, hnj⟩ := hin
          generalize nxt L (k + 3 + 3 * j + 1) j = nn at *
          subst hnx
          go_wp2_with fail
          refine (next_went _ g L A cap (k + 3 + 3 * j + 2) 3 hw5'.1 (by omega) (by omega)).mono ?_
          rintro e w6 ⟨rfl, hw6, hz6⟩; clear hz6
          have hown6 := own_but hw5'.1 (by decide) hown5 hw6.2
          have hw6' : Went w g L A cap (k + 3 + 3 * j + 3) w6 := ⟨hw6.1, hw5'.2.trans hw6.2⟩
          clear hown5 hw5' hw6 hr
          have hr := nxt_range L (k + 3 + 3 * j + 2) 3 (by omega)
          generalize nxt L (k + 3 + 3 * j + 2) 3 = way at *
          obtain ⟨c0, c1, c2⟩ := own_cells hown6 HXL.out n hnj
          have hnx := HNR.out.at_ n (by rw [HXL.out]; exact hnj)
          rw [atS_eq xs n (by rw [HXL.out]; exact hnj)] at c0 c1 c2
          have hst : ∀ (w' : World) (r : Int), w'.ownsRow w.heap.size 57 3 (.slice (some ⟨g1, 0, none⟩) j cap1) j (cellsOf xs) →
              (w'.setCell ⟨g1, n * 3, none⟩ (.int .i64 r)).ownsRow w.heap.size 57 3 (.slice (some ⟨g1, 0, none⟩) j cap1) j (cellsOf (xs.set n ⟨r, (atS xs n).v, (atS xs n).q⟩)) ∧
              (w'.setCell ⟨g1, n * 3 + 1, none⟩ (.int .i64 r)).ownsRow w.heap.size 57 3 (.slice (some ⟨g1, 0, none⟩) j cap1) j (cellsOf (xs.set n ⟨(atS xs n).t, r, (atS xs n).q⟩)) ∧
              (w'.setCell ⟨g1, n * 3 + 2, none⟩ (.int .i64 r)).ownsRow w.heap.size 57 3 (.slice (some ⟨g1, 0, none⟩) j cap1) j (cellsOf (xs.set n ⟨(atS xs n).t, (atS xs n).v, r⟩)) := fun w' r h => by
            have hnl : n < xs.length := by rw [HXL.out]; exact hnj
            rw [← cellsOf_setT xs n hnl, ← cellsOf_setV xs n hnl, ← cellsOf_setQ xs n hnl]
            exact ⟨(h.stored _ _).1, (h.stored _ _).1, (h.stored _ _).1⟩
          generalize hx : atS xs n = x at *
          have HX := Lib.hid hx
          have HST := Lib.hid hst
          clear hst hx
          have i1 : (0 : Int) ≤ (n : Int) := by omega
          have i2 : (n : Int) < (j : Int) := by omega
          by_cases h0 : way = 0
          · subst h0
            have hs1 : IntKind.i64.wrap (x.t - 40) = x.t - 40 := IntWalk.i64_in _ (by omega)
            have hs2 : IntKind.i64.wrap (x.t + 3) = x.t + 3 := IntWalk.i64_in _ (by omega)
            have f0 := hown6.frozenAt (n * 3)
            go_wp2_with fail
            go_region_with (first | (go_at_call 63; refine (pick_new w6.drew w6.heap.size g L A cap (k + 3 + 3 * j + 3) [x.t - 40, -1, 345686400000, x.t + 3] hw6'.1.drew rfl (by omega) (by simp)).mono ?_; rintro e w7 ⟨rfl, hw7⟩; have hown7 := own_but hw6'.1.drew (by decide) hown6 hw7.2; have d0 : w7.cell? ⟨g1, n * 3, none⟩ = some (.int .i64 x.t) := (by have h := (own_cells hown7 HXL.out n hnj).1; rw [atS_eq xs n (by rw [HXL.out]; exact hnj), HX.out] at h; exact h); have f7 := hown7.frozenAt (n * 3)))
            all_goals
              have hpm := pk_mem [x.t - 40, -1, 345686400000, x.t + 3] L (k + 3 + 3 * j + 3) (by simp)
              simp only [List.mem_cons, List.not_mem_nil, or_false] at hpm
              generalize pk [x.t - 40, -1, 345686400000, x.t + 3] L (k + 3 + 3 * j + 3) = r at *
              have hrr : -2000000000000 ≤ r ∧ r ≤ 2000000000000 := by omega
              have hw7' : Went w g L A cap (k + 3 + 3 * j + 3 + 1) w7 := ⟨hw7.1, hw6'.2.drew.trans hw7.2⟩
              go_wp2_with fail
              go_ret
              exact ⟨_, rfl, xs.set n ⟨r, x.v, x.q⟩, _, by rw [List.length_set, HXL.out]; exact (HST.out _ _ hown7).1, by rw [List.length_set]; exact hlong, HNR.out.set n _ ⟨by simp only; omega, by simp only; omega, by simp only; omega⟩ (by omega), by omega, hw7'.setAt hlt0 (by exact hg1) _⟩
          · have h0' : (way == 0) = false := by simpa using h0
            by_cases h1 : way = 1
            · subst h1
              go_wp2_with fail
              refine (odd_went _ g L A cap _ (-1000000) 1000000 hw6'.1 (by omega) (by omega) (by omega) (by omega)).mono ?_
              rintro e w7 ⟨r, rfl, hrr, hw7⟩
              have hown7 := own_but hw6'.1 (by decide) hown6 hw7.2
              have hw7' : Went w g L A cap (k + 3 + 3 * j + 3 + 2) w7 := ⟨hw7.1, hw6'.2.trans hw7.2⟩
              have f1 := hown7.frozenAt (n * 3 + 1)
              have d1 := (own_cells hown7 HXL.out n hnj).2.1
              clear hw7 hown6 hw6' c0 c1 c2
              go_wp2_with fail
              go_ret
              exact ⟨_, rfl, xs.set n ⟨x.t, r, x.q⟩, _, by rw [List.length_set, HXL.out]; exact (HST.out _ _ hown7).2.1, by rw [List.length_set]; exact hlong, HNR.out.set n _ ⟨by simp only; omega, by simp only; omega, by simp only; omega⟩ (by omega), by omega, hw7'.setAt hlt0 (by exact hg1) _⟩
            · have h1' : (way == 1) = false := by simpa using h1
              go_wp2_with fail
              refine (odd_went _ g L A cap _ 0 2 hw6'.1 (by omega) (by omega) (by omega) (by omega)).mono ?_
              rintro e w7 ⟨r, rfl, hrr, hw7⟩
              have hown7 := own_but hw6'.1 (by decide) hown6 hw7.2
              have hw7' : Went w g L A cap (k + 3 + 3 * j + 3 + 2) w7 := ⟨hw7.1, hw6'.2.trans hw7.2⟩
              have f2 := hown7.frozenAt (n * 3 + 2)
              have d2 := (own_cells hown7 HXL.out n hnj).2.2
              clear hw7 hown6 hw6' c0 c1 c2
              go_wp2_with fail
              go_ret
              exact ⟨_, rfl, xs.set n ⟨x.t, x.v, r⟩, _, by rw [List.length_set, HXL.out]; exact (HST.out _ _ hown7).2.2, by rw [List.length_set]; exact hlong, HNR.out.set n _ ⟨by simp only; omega, by simp only; omega, by simp only; omega⟩ (by omega), by omega, hw7'.setAt hlt0 (by exact hg1) _⟩
        · have hF' : (nxt L (k + 3 + 3 * j) 12 == 0) = false := by simpa using hF
          clear hF
          go_wp2_with fail
          go_ret
          exact ⟨_, rfl, xs, _, by rw [HXL.out]; exact hown4, hlong, HNR.out.mono (by omega), by omega, hw4'⟩
end Go.Proofs.Ytmcojidaimeijaa

/- The contract of RightCurve (package logmake): some right series; no more is asked of it. -/

namespace Go.Proofs.Ytmcojidaimeijaa
open Go.RowKit
set_option linter.unusedVariables false
set_option linter.unusedSimpArgs false

/-- What is made at last. -/
def RightEnd (w : World) (g : Nat) (L : List Int) (A : Option Addr) (cap k most : Nat) (v : Value) (w' : World) : Prop :=
  ∃ (l : List Smp) (k' : Nat), RdS w' 57 v l ∧ l.length ≤ most ∧ serErr l = 0 ∧ k' ≤ k + 6 * (10 + 3 * most) ∧ Went w g L A cap k' w'

set_option maxRecDepth 100000 in
set_option maxHeartbeats 4000000 in
theorem rightCurve_went (w : World) (g : Nat) (L : List Int) (A : Option Addr) (cap k most : Nat) (hS : Strm w g L A cap k) (hk : k ≤ 600000000) (hm : most ≤ 1000) :
    Calls Try.prog 12 #[.pointer (some ⟨g, 0, none⟩), .int .i64 (most : Int)] w fun e w' => ∃ v, e = .returned v ∧ RightEnd w g L A cap k most v w' := by
  have hlt0 := hS.lt
  go_enter Try.func12, Try.ntmps12
  go_wp2_with fail
  go_loopw [6] (fun i wr => ∃ (j : Nat) (k' : Nat), j ≤ 6 ∧ i = .int .i64 (j : Int) ∧ k' ≤ k + j * (10 + 3 * most) ∧ Went w g L A cap k' wr) (fun i _ => 6 - (intOf i).toNat)
  case atStart => exact ⟨0, k, by omega, rfl, by omega, hS, But.refl _ _⟩
  case round =>
    obtain ⟨j, k', hj, rfl, hk', hw⟩ := hrel
    have hbound : j * (10 + 3 * most) ≤ 6 * (10 + 3 * most) := Nat.mul_le_mul_right _ hj
    by_cases hlt : j < 6
    · have hnext : (j + 1) * (10 + 3 * most) = j * (10 + 3 * most) + (10 + 3 * most) := by rw [Nat.add_mul, Nat.one_mul]
      have hcall := curve_went wr g L A cap k' most hw.1 (by omega) hm
      have HC := Lib.hid hcall
      have HW := Lib.hid hw
      have HN := Lib.hid hnext
      have HX := Lib.hid (show (j + 1) * (10 + 3 * most) ≤ 6 * (10 + 3 * most) from Nat.mul_le_mul_right _ hlt)
      clear hcall hw hnext
      go_wp2_with fail
      refine HC.out.mono ?_
      rintro e w1 ⟨v, rfl, l, k1, hown, hlen, _, hk1, hw1⟩
      have hrd : RdS w1 57 v l := Rd.of_own hown
      obtain ⟨pv, cv, rfl⟩ := hrd.lenv
      have HW1 := Lib.hid (show Went w g L A cap k1 w1 from ⟨hw1.1, HW.out.2.trans hw1.2⟩)
      have HRD := Lib.hid hrd
      clear hown hw1 hrd
      go_wp2_with fail
      refine (seriesFault_any (.slice pv l.length cv) l _ HRD.out).mono ?_
      rintro e w2 ⟨rfl, hb2⟩
      have hsz := hb2.size
      have HW2 := Lib.hid (show Went w g L A cap k1 w2 from ⟨HW1.out.1.below hb2 HW1.out.1.lt, HW1.out.2.below hb2⟩)
      have HR2 := Lib.hid (Rd.below HRD.out hb2)
      clear hb2
      by_cases hE : serErr l = 0
      · have hE' : (serErr l == 0) = true := by simpa using hE
        have HE := Lib.hid hE
        clear hE
        go_wp2_with fail
        go_ret
        exact ⟨_, rfl, l, k1, HR2.out, hlen, HE.out, by have := HN.out; have := HX.out; omega, HW2.out⟩
      · have hE' : (serErr l == 0) = false := by simpa using hE
        clear hE
        go_wp2_with fail
        go_roundw
        case rel => exact ⟨j + 1, k1, by omega, by go_num, by rw [HN.out]; omega, HW2.out⟩
        case measure => simp [intOf]; omega
    · obtain rfl : j = 6 := by omega
      go_wp2_with fail
      go_ret
      exact ⟨_, rfl, [], k', Rd.nil _ _ _, by simp, rfl, by omega, hw⟩
end Go.Proofs.Ytmcojidaimeijaa

/- CrossingsCross: the walk of the law, over a contract of ready. -/

namespace Go.Proofs.Ytmcojidaimeijaa
open Go.RowKit
set_option linter.unusedVariables false
set_option linter.unusedSimpArgs false

theorem frac_selfc (w : World) (a b : Int) : (binOp .neq 35 (.agg #[.int .i64 a, .int .i64 b]) (.agg #[.int .i64 a, .int .i64 b])).run Try.prog w = .ok (.bool false) w := by
  have h := frac_eqIn w (a, b) (a, b)
  rw [run_neq_struct, h]
  simp [Result.andThen]

set_option maxRecDepth 100000 in
set_option maxHeartbeats 4000000 in
theorem crossingsCross_of (HRY : ∀ W, Calls Try.prog 17 #[] W fun e w' => e = .returned (.bool true) ∧ Below W.heap.size W w')
    (w : World) (L : List Int) (A : Option Addr) (cap : Nat) (hc : ∀ i, i < L.length → ∃ ad : Addr, A = some ad ∧ ad.block < w.heap.size ∧ w.cell? (ad.add i) = some (.int .i64 (L.getD i 0)))
    (hl : L.length ≤ 9223372036854775807) (hwf : ∀ i, -9223372036854775808 ≤ L.getD i 0 ∧ L.getD i 0 ≤ 9223372036854775807) :
    Calls Try.prog 8 #[.slice A L.length cap] w fun e w' => e = .returned (.bool true) ∧ Below w.heap.size w w' := by
  have hS0 : Strm (w.alloc (.cells #[.slice A L.length cap, .int .i64 0] 25)) w.heap.size L A cap 0 :=
    ⟨heap_alloc_new w _, fun i hi => by
      obtain ⟨ad, e, hb, hcell⟩ := hc i hi
      exact ⟨ad, e, hb, by rw [World.cell?_alloc_lt _ _ _ (by rw [addr_add_block]; exact hb)]; exact hcell⟩, hl, hwf⟩
  have HS0 := Lib.hid hS0
  have HR := Lib.hid HRY
  clear hS0 hc hwf HRY
  go_enter Try.func8, Try.ntmps8
  go_wp2_with fail
  refine (rightCurve_went _ w.heap.size L A cap 0 12 HS0.out (by omega) (by omega)).mono ?_
  rintro e w1 ⟨v, rfl, l, k1, hrd, hlen, hser, hk1, hw1⟩
  go_wp2_with fail
  refine (range_went _ w.heap.size L A cap k1 (-3) 8 hw1.1 (by omega) (by omega) (by omega) (by omega)).mono ?_
  rintro e w2 ⟨rfl, hw2, hz2⟩
  clear hz2
  have hr1 := nxt_range L k1 (8 - (-3) + 1) (by omega)
  have hM : -3 ≤ -3 + nxt L k1 (8 - (-3) + 1) ∧ -3 + nxt L k1 (8 - (-3) + 1) ≤ 8 := by omega
  generalize -3 + nxt L k1 (8 - (-3) + 1) = M at *
  clear hr1
  have hrd2 : RdS w2 57 v l := Rd.but hw1.1 (by decide) hrd hw2.2
  have hb2 := hw1.2.trans hw2.2
  have hlow : Below w.heap.size w w2 := ((Below.refl _ w).alloc (Nat.le_refl _) _).trans ⟨hb2.os, hb2.tape, hb2.output, hb2.size, fun i hi => hb2.block i (by simp; omega) (by omega)⟩
  obtain ⟨pa, ca, rfl⟩ := hrd2.lenv
  have HRD := Lib.hid hrd2
  have HSER := Lib.hid hser
  have HLOW := Lib.hid hlow
  clear hrd hw1 hw2 hb2 hrd2 hk1 hser hlow
  go_wp2_with fail
  refine (crossings_any _ l 0 300 M _ HRD.out (by omega)).mono ?_
  rintro e w3 ⟨vx, rfl, hrx, hb3⟩
  have hE : crE l 0 300 M = 0 := by
    have hw : winErr 0 300 = 0 := by decide
    unfold crE orE
    rw [HSER.out, hw, inB_true.2 ⟨by omega, by omega⟩]
    rfl
  have hV : crR l 0 300 M = outF M 0 300 l l.length := by unfold crR; rw [if_pos hE]
  rw [hE]
  rw [hV] at hrx
  have hxl := outF_length (L := M) (f := 0) (t := 300) (l := l) l.length
  obtain ⟨hpw, hmem⟩ := out_rise (L := M) (f := 0) (t := 300) HSER.out l.length (Nat.le_refl _)
  generalize outF M 0 300 l l.length = xs at *
  have hall : ∀ i (h : i < xs.length), (1 ≤ xs[i].2 ∧ xs[i].2 ≤ 2000000) ∧ (0 ≤ xs[i].1 ∧ xs[i].1 < 300 * xs[i].2) ∧ (xs[i].2 = 1 → ∃ q, q ≠ 2 ∧ valO l false xs[i].1 = some ⟨M, 1, q⟩) := by
    intro i h
    obtain ⟨_, _, _, ⟨h1, _, _, h4⟩, h5⟩ := hmem _ (List.getElem_mem h)
    unfold insB at h5
    simp only [Bool.and_eq_true, decide_eq_true_eq] at h5
    exact ⟨h1, ⟨by omega, h5.2⟩, h4⟩
  have hpair : ∀ i (h : i + 1 < xs.length), xs[i].1 * xs[i + 1].2 < xs[i + 1].1 * xs[i].2 := fun i h => List.pairwise_iff_getElem.1 hpw i (i + 1) (by omega) h (by omega)
  obtain ⟨px, cx, rfl⟩ : ∃ px cx, vx = .slice px xs.length cx := by obtain ⟨_, p, c, rfl, _⟩ := hrx; exact ⟨p, c, rfl⟩
  have HALL := Lib.hid hall
  have HPAIR := Lib.hid hpair
  have HRX := Lib.hid hrx
  have HRD3 := Lib.hid (Rd.below HRD.out hb3)
  have HLOW3 := Lib.hid (HLOW.out.trans (hb3.mono HLOW.out.size))
  clear hE hV hpw hmem hall hpair hrx hb3 HRD HLOW
  go_wp2_with fail
  go_loopw [31] (fun i wr => ∃ j : Nat, j ≤ xs.length ∧ i = .int .i64 (j : Int) ∧ Below w3.heap.size w3 wr) (fun i _ => xs.length - (intOf i).toNat)
  case atStart => exact ⟨0, by omega, rfl, Below.refl _ _⟩
  case round =>
    obtain ⟨j, hj, rfl, hbr⟩ := hrel
    by_cases hlt : j < xs.length
    · obtain ⟨b, off, cc, hv, hc1, hc2, hblt, hcell⟩ := RdF.cells (Rd.below HRX.out hbr) (by omega)
      cases hv
      unfold maxLen at hc2
      obtain ⟨c0, c1⟩ := hcell j hlt
      obtain ⟨hx2, hx1, hxv⟩ := HALL.out j hlt
      have hprev : 0 < j → ∃ a d : Int, (1 ≤ d ∧ d ≤ 2000000) ∧ (0 ≤ a ∧ a < 300 * d) ∧ a * xs[j].2 < xs[j].1 * d ∧ wr.cell? ⟨b, off + (j - 1) * 2, none⟩ = some (.int .i64 a) ∧ wr.cell? ⟨b, off + (j - 1) * 2 + 1, none⟩ = some (.int .i64 d) := by
        intro h0
        obtain ⟨q, rfl⟩ : ∃ q, j = q + 1 := ⟨j - 1, by omega⟩
        obtain ⟨p1, p2, _⟩ := HALL.out q (by omega)
        obtain ⟨d0, d1⟩ := hcell q (by omega)
        exact ⟨xs[q].1, xs[q].2, p1, p2, HPAIR.out q hlt, d0, d1⟩
      generalize xs[j].1 = N at *
      generalize xs[j].2 = D at *
      have hbx := Blk.new wr 35 #[.int .i64 N, .int .i64 D]
      have hlx := hbr.alloc hbr.size (.cells #[.int .i64 N, .int .i64 D] 35)
      have hprev2 : 0 < j → ∃ a d : Int, (1 ≤ d ∧ d ≤ 2000000) ∧ (0 ≤ a ∧ a < 300 * d) ∧ a * D < N * d ∧ (wr.alloc (.cells #[.int .i64 N, .int .i64 D] 35)).cell? ⟨b, off + (j - 1) * 2, none⟩ = some (.int .i64 a) ∧ (wr.alloc (.cells #[.int .i64 N, .int .i64 D] 35)).cell? ⟨b, off + (j - 1) * 2 + 1, none⟩ = some (.int .i64 d) := by
        intro h0
        obtain ⟨a, d, h1, h2, h3, h4, h5⟩ := hprev h0
        exact ⟨a, d, h1, h2, h3, by rw [World.cell?_alloc_lt _ _ _ hblt]; exact h4, by rw [World.cell?_alloc_lt _ _ _ hblt]; exact h5⟩
      have HXV := Lib.hid hxv
      have HPREV := Lib.hid hprev2
      have HLX := Lib.hid hlx
      clear hcell hprev hprev2 hxv hlx hbr
      go_upto_region 9 with fail
      generalize wr.alloc (.cells #[.int .i64 N, .int .i64 D] 35) = wx at *
      generalize wr.heap.size = P at *
      have z0 := hbx.cell 0
      have z1 := hbx.cell 1
      clear c0 c1
      go_cut [63] (fun s63 wy => s63 = .bool false ∧ ∃ m, wy = wx.drewN m)
      case first =>
        have hD1 : (1 : Int) ≤ D := hx2.1
        have hdD : decide (D < 1) = false := decide_eq_false (by omega)
        by_cases h0 : j = 0
        · have i0 : (j : Int) ≤ 0 := by omega
          have hdj : decide ((0 : Int) < (j : Int)) = false := decide_eq_false (by omega)
          have hdn : decide (0 < j) = false := decide_eq_false (by omega)
          clear hbx h0
          clear hx1 hx2 hD1 HXV HLX HALL HPAIR HRX HRD3 HLOW3 hc1 hc2
          go_quiet (fail)
          go_wp2_with fail
          go_meet
          exact ⟨rfl, _, rfl⟩
        · obtain ⟨a, d, hd1, ha1, hlt3, y0, y1⟩ := HPREV.out (by omega)
          have i1 : (1 : Int) ≤ (j : Int) := by omega
          have i0 : (0 : Int) < (j : Int) := by omega
          have hdj : decide ((0 : Int) < (j : Int)) = true := decide_eq_true i0
          have hdn : decide (0 < j) = true := decide_eq_true (by omega)
          have i2 : (j : Int) - 1 < (xs.length : Int) := by omega
          have i3 : ((j : Int) - 1).toNat = j - 1 := by omega
          have hwj : IntKind.i64.wrap ((j : Int) - 1) = (j : Int) - 1 := IntWalk.i64_in _ (by omega)
          have m1 : 0 ≤ a * D := Int.mul_nonneg (by omega) (by omega)
          have m2 : N * d ≤ 600000000 * 2000000 := Int.mul_le_mul (by omega) (by omega) (by omega) (by omega)
          have hw1 : IntKind.i64.wrap (a * D) = a * D := IntWalk.i64_in _ (by omega)
          have hw2 : IntKind.i64.wrap (N * d) = N * d := IntWalk.i64_in _ (by omega)
          have hde : decide (N * d ≤ a * D) = false := decide_eq_false (by omega)
          clear hbx h0 m1 m2
          clear hx1 hx2 hD1 HXV HLX HALL HPAIR HRX HRD3 HLOW3 hc1 hc2
          go_quiet (fail)
          go_wp2_with fail
          go_meet
          exact ⟨rfl, _, rfl⟩
      case rest =>
        obtain ⟨rfl, m, rfl⟩ := hcut
        have hly := HLX.out.trans (show Below _ wx (wx.drewN m) from ⟨rfl, rfl, rfl, Nat.le_refl _, fun _ _ => rfl⟩)
        have hby : Blk (wx.drewN m) P 35 #[.int .i64 N, .int .i64 D] := hbx
        generalize wx.drewN m = wy at *
        have HLY := Lib.hid hly
        clear z0 z1 hbx hly HLX HPREV
        have z0 := hby.cell 0
        have z1 := hby.cell 1
        by_cases hD : D = 1
        · subst hD
          obtain ⟨q, hq, hval⟩ := HXV.out rfl
          clear HXV
          go_wp2_with fail
          refine (publicValueAt_any _ l false N _ (by exact Rd.below HRD3.out HLY.out)).mono ?_
          rintro e wz ⟨rfl, hbz⟩
          have hE1 : vatE l N = 0 := by unfold vatE; rw [if_neg (by simp [HSER.out]), inB_true.2 ⟨by omega, by omega⟩]; rfl
          have hO1 : vatO l false N = some ⟨M, 1, q⟩ := by unfold vatO; rw [if_pos hE1]; exact hval
          rw [hE1, hO1]
          have hpv : pntV N (some ⟨M, 1, q⟩) = .agg #[.int .i64 N, .int .i64 M, .int .i64 1, .int .i64 q] := rfl
          have his : (some (⟨M, 1, q⟩ : Pnt)).isSome = true := rfl
          rw [hpv, his]
          have hlz := HLY.out.trans (hbz.mono HLY.out.size)
          have hla := hlz.alloc hlz.size (.cells #[.int .i64 N, .int .i64 M, .int .i64 1, .int .i64 q] 37)
          have hpz := Blk.new wz 37 #[.int .i64 N, .int .i64 M, .int .i64 1, .int .i64 q]
          have HLA := Lib.hid hla
          clear z0 z1 hE1 hO1 hpv his hbz hlz hla hby hval HLY
          go_upto_region 13 with fail
          generalize wz.alloc (.cells #[.int .i64 N, .int .i64 M, .int .i64 1, .int .i64 q] 37) = wa at *
          generalize wz.heap.size = Q at *
          have f1 := hpz.cell 1
          have f2 := hpz.cell 2
          have f3 := hpz.cell 3
          have hq' : (q == 2) = false := by simpa using hq
          have hgd := frac_guard
          have hfe := fun w => frac_selfc w M 1
          clear hpz hq
          go_wp2_with fail
          go_roundw
          case rel => exact ⟨j + 1, by omega, by go_num, HLA.out⟩
          case measure => simp [intOf]; omega
        · have hD2 : (1 : Int) < D := by omega
          clear hD HXV
          go_wp2_with fail
          go_roundw
          case rel => exact ⟨j + 1, by omega, by go_num, HLY.out⟩
          case measure => simp [intOf]; omega
    · obtain rfl : j = xs.length := by omega
      have HLE := Lib.hid (HLOW3.out.trans (hbr.mono HLOW3.out.size))
      clear hbr
      go_wp2_with fail
      refine (HR.out _).mono ?_
      rintro e wg ⟨rfl, hbg⟩
      go_wp2_with fail
      go_ret
      exact ⟨rfl, HLE.out.trans (hbg.mono HLE.out.size)⟩
end Go.Proofs.Ytmcojidaimeijaa

/- CrossingsCross returns true, for every stream: the law over the contract of ready(), which is proved. -/

namespace Go.Proofs.Ytmcojidaimeijaa
open Go.RowKit
theorem crossingsCross_walk (w : World) (L : List Int) (A : Option Addr) (cap : Nat) (hc : ∀ i, i < L.length → ∃ ad : Addr, A = some ad ∧ ad.block < w.heap.size ∧ w.cell? (ad.add i) = some (.int .i64 (L.getD i 0)))
    (hl : L.length ≤ 9223372036854775807) (hwf : ∀ i, -9223372036854775808 ≤ L.getD i 0 ∧ L.getD i 0 ≤ 9223372036854775807) :
    Calls Try.prog 8 #[.slice A L.length cap] w fun e w' => e = .returned (.bool true) ∧ Below w.heap.size w w' :=
  crossingsCross_of ready_any w L A cap hc hl hwf
end Go.Proofs.Ytmcojidaimeijaa
