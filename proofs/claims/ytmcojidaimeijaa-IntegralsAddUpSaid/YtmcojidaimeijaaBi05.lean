import Derived.Test.YtmcojidaimeijaaBi04
import Derived.Test.YtmcojidaimeijaaAt
import Derived.Deep.RegionHeld3
import Derived.Test.YtmcojidaimeijaaSer
import Derived.Test.YtmcojidaimeijaaBi01
import Derived.Test.YtmcojidaimeijaaBi02
import Derived.Test.YtmcojidaimeijaaBi03
import Derived.Test.YtmcojidaimeijaaRq06
/- The contract of Curve (package logmake): it makes some samples, whose numbers are small; no more is asked of it. -/

namespace Go.Proofs.Ytmcojidaimeijaa
open Go.RowKit
set_option linter.unusedVariables false
set_option linter.unusedSimpArgs false

/-- The numbers of the samples are small. -/
def NearB (B : Int) (l : List Smp) : Prop := ∀ x ∈ l, (-B ≤ x.t ∧ x.t ≤ B) ∧ (-B ≤ x.v ∧ x.v ≤ B) ∧ (-B ≤ x.q ∧ x.q ≤ B)
def Near (l : List Smp) : Prop := NearB 2000000000000 l
theorem NearB.at_ {B : Int} {l : List Smp} (h : NearB B l) (i : Nat) (hi : i < l.length) : (-B ≤ (atS l i).t ∧ (atS l i).t ≤ B) ∧ (-B ≤ (atS l i).v ∧ (atS l i).v ≤ B) ∧ (-B ≤ (atS l i).q ∧ (atS l i).q ≤ B) := by
  rw [← atS_eq l i hi]; exact h _ (List.getElem_mem hi)
theorem Near.fit {l : List Smp} (h : Near l) : Fit l := fun i hi => by
  have := NearB.at_ h i hi
  omega
theorem NearB.mono {B C : Int} {l : List Smp} (h : NearB B l) (hBC : B ≤ C) : NearB C l := fun x hx => by have := h x hx; omega
theorem NearB.snoc {B : Int} {l : List Smp} (h : NearB B l) (x : Smp) (hx : (-B ≤ x.t ∧ x.t ≤ B) ∧ (-B ≤ x.v ∧ x.v ≤ B) ∧ (-B ≤ x.q ∧ x.q ≤ B)) : NearB B (l ++ [x]) := by
  intro y hy
  rcases List.mem_append.1 hy with hy | hy
  · exact h y hy
  · simp at hy; subst hy; exact hx
theorem NearB.set {B : Int} {l : List Smp} (h : NearB B l) (i : Nat) (x : Smp) (hx : (-2000000000000 ≤ x.t ∧ x.t ≤ 2000000000000) ∧ (-2000000000000 ≤ x.v ∧ x.v ≤ 2000000000000) ∧ (-2000000000000 ≤ x.q ∧ x.q ≤ 2000000000000)) (hB : B ≤ 2000000000000) : Near (l.set i x) := by
  intro y hy
  rcases List.mem_or_eq_of_mem_set hy with hy | hy
  · have := h y hy; omega
  · subst hy; exact hx
theorem cellsOf_setT (l : List Smp) (i : Nat) (h : i < l.length) (r : Int) : (cellsOf l).set (i * 3) (.int .i64 r) = cellsOf (l.set i ⟨r, (atS l i).v, (atS l i).q⟩) := by
  induction l generalizing i with
  | nil => simp at h
  | cons x l ih =>
    cases i with
    | zero => simp [Smp.cells, atS]
    | succ i =>
      have := ih i (by simpa using h)
      have e1 : atS (x :: l) (i + 1) = atS l i := rfl
      simp only [List.set_cons_succ, cellsOf_cons, e1]
      rw [← this, show (i + 1) * 3 = i * 3 + 3 by omega]
      simp [Smp.cells]
theorem cellsOf_setV (l : List Smp) (i : Nat) (h : i < l.length) (r : Int) : (cellsOf l).set (i * 3 + 1) (.int .i64 r) = cellsOf (l.set i ⟨(atS l i).t, r, (atS l i).q⟩) := by
  induction l generalizing i with
  | nil => simp at h
  | cons x l ih =>
    cases i with
    | zero => simp [Smp.cells, atS]
    | succ i =>
      have := ih i (by simpa using h)
      have e1 : atS (x :: l) (i + 1) = atS l i := rfl
      simp only [List.set_cons_succ, cellsOf_cons, e1]
      rw [← this, show (i + 1) * 3 + 1 = i * 3 + 1 + 3 by omega]
      simp [Smp.cells]
theorem cellsOf_setQ (l : List Smp) (i : Nat) (h : i < l.length) (r : Int) : (cellsOf l).set (i * 3 + 2) (.int .i64 r) = cellsOf (l.set i ⟨(atS l i).t, (atS l i).v, r⟩) := by
  induction l generalizing i with
  | nil => simp at h
  | cons x l ih =>
    cases i with
    | zero => simp [Smp.cells, atS]
    | succ i =>
      have := ih i (by simpa using h)
      have e1 : atS (x :: l) (i + 1) = atS l i := rfl
      simp only [List.set_cons_succ, cellsOf_cons, e1]
      rw [← this, show (i + 1) * 3 + 2 = i * 3 + 2 + 3 by omega]
      simp [Smp.cells]

/-- What is made at last. -/
def CurveEnd (w : World) (g : Nat) (L : List Int) (A : Option Addr) (cap k most : Nat) (v : Value) (w' : World) : Prop :=
  ∃ l k', w'.ownsRow w.heap.size 57 3 v l.length (cellsOf l) ∧ l.length ≤ most ∧ Near l ∧ k' ≤ k + 10 + 3 * most ∧ Went w g L A cap k' w'
theorem Went.setAt {w w1 : World} {g : Nat} {L : List Int} {A : Option Addr} {cap k : Nat} (hw : Went w g L A cap k w1) (hg : g < w.heap.size) {p : Addr} (hp : w.heap.size ≤ p.block) (u : Value) : Went w g L A cap k (w1.setCell p u) :=
  hw.below hg ((Below.refl w.heap.size w1).setCell hp u)

set_option maxRecDepth 100000 in
set_option maxHeartbeats 4000000 in
theorem curve_went (w : World) (g : Nat) (L : List Int) (A : Option Addr) (cap k most : Nat) (hS : Strm w g L A cap k) (hk : k ≤ 700000000) (hm : most ≤ 1000) :
    Calls Try.prog 49 #[.pointer (some ⟨g, 0, none⟩), .int .i64 (most : Int)] w fun e w' => ∃ v, e = .returned v ∧ CurveEnd w g L A cap k most v w' := by
  have hlt0 := hS.lt
  have hr := nxt_range L (k + 2) (most + 1) (by omega)
  have hn : (((nxt L (k + 2) (most + 1)).toNat : Nat) : Int) = 0 + nxt L (k + 2) ((most : Int) - 0 + 1) := by rw [show (most : Int) - 0 + 1 = (most : Int) + 1 from by omega]; omega
  have hN : (nxt L (k + 2) (most + 1)).toNat ≤ most := by omega
  generalize (nxt L (k + 2) (most + 1)).toNat = N at *
  have HN := Lib.hid hn
  clear hn hr
  go_enter Try.func49, Try.ntmps49
  go_wp2_with fail
  refine (pick_new _ _ g L A cap k [0, 0, 5, 40] hS rfl (by omega) (by simp)).mono ?_
  rintro e w1 ⟨rfl, hw1⟩
  have hT := pk_mem [0, 0, 5, 40] L k (by simp)
  simp only [List.mem_cons, List.not_mem_nil, or_false] at hT
  generalize pk [0, 0, 5, 40] L k = T at *
  have hT' : 0 ≤ T ∧ T ≤ 40 := by omega
  clear hT
  go_wp2_with fail
  refine (pick_new _ _ g L A cap (k + 1) [0, 5, 10, -3] hw1.1 rfl (by omega) (by simp)).mono ?_
  rintro e w2 ⟨rfl, hw2⟩
  have hV := pk_mem [0, 5, 10, -3] L (k + 1) (by simp)
  simp only [List.mem_cons, List.not_mem_nil, or_false] at hV
  generalize pk [0, 5, 10, -3] L (k + 1) = V at *
  have hV' : -3 ≤ V ∧ V ≤ 10 := by omega
  clear hV
  have hw2' : Went w g L A cap (k + 2) w2 := ⟨hw2.1, hw1.2.trans hw2.2⟩
  clear hw1 hw2
  go_wp2_with fail
  refine (range_went _ g L A cap (k + 2) 0 most hw2'.1 (by omega) (by omega) (by omega) (by omega)).mono ?_
  rintro e w3 ⟨rfl, hw3, hz3⟩
  rw [← HN.out]
  have hg3 : Went w g L A cap (k + 3 + 3 * 0) w3 := ⟨hw3.1, hw2'.2.trans hw3.2⟩
  clear hw2' hw3 hz3 HN
  go_wp2_with fail
  go_loopw [5, 6, 7, 19] (fun o st sv i wr => ∃ (j : Nat) (xs : List Smp) (t vv : Int), j ≤ N ∧ i = .int .i64 (j : Int) ∧ st = .int .i64 t ∧ sv = .int .i64 vv ∧ (0 ≤ t ∧ t ≤ 40 + 30 * (j : Int)) ∧ (-3 - 6 * (j : Int) ≤ vv ∧ vv ≤ 10 + 6 * (j : Int)) ∧ xs.length = j ∧ NearB 1000000000000 xs ∧ wr.ownsRow w.heap.size 57 3 o j (cellsOf xs) ∧ Went w g L A cap (k + 3 + 3 * j) wr)
    (fun _ _ _ i _ => N - (intOf i).toNat)
  case atStart => exact ⟨0, [], T, V, by omega, rfl, rfl, rfl, by omega, by omega, rfl, by intro x hx; simp at hx, World.ownsRow_nil _ _ _ _, hg3⟩
  case round =>
    obtain ⟨j, xs, t, vv, hj, rfl, rfl, rfl, ht, hv, hxl, hnear, hown, hwr⟩ := hrel
    have HXL := Lib.hid hxl
    have HNR := Lib.hid hnear
    clear hxl hnear
    have hszr := hwr.2.size
    by_cases hlt : j < N
    · go_wp2_with fail
      refine (pick_new _ _ g L A cap (k + 3 + 3 * j) [0, 0, 0, 0, 0, 1, 2] hwr.1 rfl (by omega) (by simp)).mono ?_
      rintro e wa ⟨rfl, hwa⟩
      have hQ := pk_mem [0, 0, 0, 0, 0, 1, 2] L (k + 3 + 3 * j) (by simp)
      simp only [List.mem_cons, List.not_mem_nil, or_false] at hQ
      generalize pk [0, 0, 0, 0, 0, 1, 2] L (k + 3 + 3 * j) = q at *
      have hQ' : 0 ≤ q ∧ q ≤ 2 := by omega
      have howna : wa.ownsRow w.heap.size 57 3 u5 j (cellsOf xs) := own_but hwr.1 (by decide) hown hwa.2
      have hwa' : Went w g L A cap (k + 3 + 3 * j + 1) wa := ⟨hwa.1, hwr.2.trans hwa.2⟩
      have hsza := hwa'.2.size
      clear hwa hown hwr hQ
      by_cases hq : q = 2
      · subst hq
        go_wp2_with (at_builtin; go_loud (refine wpList_append_smp rfl (.tmp 31) (.tmp 33) rfl w.heap.size u5 j xs rfl (by exact (howna.alloc _).alloc _) (wa.heap.size + 1) rfl ⟨t, 0, 2⟩ (by exact Blk.new1 _ _ _ _) (by omega) (by simp; omega) ?_); intro v1 wc hown1 hgrow1)
        have hwc : Went w g L A cap (k + 3 + 3 * j + 1) wc := hwa'.below hlt0 ((((Below.refl _ wa).alloc hsza _).alloc (by simp; omega) _).trans (below_grown ((howna.alloc _).alloc _) (by simp; omega) hgrow1))
        clear howna hgrow1 hwa'
        have hnr := HNR.out.snoc ⟨t, 0, 2⟩ ⟨by simp only; omega, by simp only; omega, by simp only; omega⟩
        have HNR1 := Lib.hid hnr
        clear hnr
        refine (pick_new _ _ g L A cap (k + 3 + 3 * j + 1) [1, 1, 2, 5, 10, 30] hwc.1 rfl (by omega) (by simp)).mono ?_
        rintro e wd ⟨rfl, hwd⟩
        have hA := pk_mem [1, 1, 2, 5, 10, 30] L (k + 3 + 3 * j + 1) (by simp)
        simp only [List.mem_cons, List.not_mem_nil, or_false] at hA
        generalize pk [1, 1, 2, 5, 10, 30] L (k + 3 + 3 * j + 1) = da at *
        have hA' : 1 ≤ da ∧ da ≤ 30 := by omega
        have hownd := own_but hwc.1 (by decide) hown1 hwd.2
        have hwd' : Went w g L A cap (k + 3 + 3 * j + 1 + 1) wd := ⟨hwd.1, hwc.2.trans hwd.2⟩
        clear hwc hwd hown1 hA
        go_wp2_with fail
        refine (pick_new _ _ g L A cap (k + 3 + 3 * j + 1 + 1) [0, 0, 1, 1, 2, -1, -1, -4, 6] hwd'.1 rfl (by omega) (by simp)).mono ?_
        rintro e we ⟨rfl, hwe⟩
        have hA := pk_mem [0, 0, 1, 1, 2, -1, -1, -4, 6] L (k + 3 + 3 * j + 1 + 1) (by simp)
        simp only [List.mem_cons, List.not_mem_nil, or_false] at hA
        generalize pk [0, 0, 1, 1, 2, -1, -1, -4, 6] L (k + 3 + 3 * j + 1 + 1) = db at *
        have hB' : -4 ≤ db ∧ db ≤ 6 := by omega
        have howne := own_but hwd'.1 (by decide) hownd hwe.2
        have hwe' : Went w g L A cap (k + 3 + 3 * (j + 1)) we := ⟨hwe.1, hwd'.2.trans hwe.2⟩
        clear hwd' hwe hownd hA
        go_wp2_with fail
        go_roundw
        case rel => exact ⟨j + 1, xs ++ [⟨t, 0, 2⟩], t + da, vv + db, by omega, by go_num, rfl, rfl, by omega, by omega, by rw [List.length_append, HXL.out]; rfl, HNR1.out, howne, hwe'⟩
        case measure => simp [intOf]; omega
      · have hq' : (q == 2) = false := by simpa using hq
        clear hq
        go_wp2_with (at_builtin; go_loud (refine wpList_append_smp rfl (.tmp 31) (.tmp 33) rfl w.heap.size u5 j xs rfl (by exact (howna.alloc _).alloc _) (wa.heap.size + 1) rfl ⟨t, vv, q⟩ (by exact Blk.new1 _ _ _ _) (by omega) (by simp; omega) ?_); intro v1 wc hown1 hgrow1)
        have hwc : Went w g L A cap (k + 3 + 3 * j + 1) wc := hwa'.below hlt0 ((((Below.refl _ wa).alloc hsza _).alloc (by simp; omega) _).trans (below_grown ((howna.alloc _).alloc _) (by simp; omega) hgrow1))
        clear howna hgrow1 hwa'
        have hnr := HNR.out.snoc ⟨t, vv, q⟩ ⟨by simp only; omega, by simp only; omega, by simp only; omega⟩
        have HNR1 := Lib.hid hnr
        clear hnr
        refine (pick_new _ _ g L A cap (k + 3 + 3 * j + 1) [1, 1, 2, 5, 10, 30] hwc.1 rfl (by omega) (by simp)).mono ?_
        rintro e wd ⟨rfl, hwd⟩
        have hA := pk_mem [1, 1, 2, 5, 10, 30] L (k + 3 + 3 * j + 1) (by simp)
        simp only [List.mem_cons, List.not_mem_nil, or_false] at hA
        generalize pk [1, 1, 2, 5, 10, 30] L (k + 3 + 3 * j + 1) = da at *
        have hA' : 1 ≤ da ∧ da ≤ 30 := by omega
        have hownd := own_but hwc.1 (by decide) hown1 hwd.2
        have hwd' : Went w g L A cap (k + 3 + 3 * j + 1 + 1) wd := ⟨hwd.1, hwc.2.trans hwd.2⟩
        clear hwc hwd hown1 hA
        go_wp2_with fail
        refine (pick_new _ _ g L A cap (k + 3 + 3 * j + 1 + 1) [0, 0, 1, 1, 2, -1, -1, -4, 6] hwd'.1 rfl (by omega) (by simp)).mono ?_
        rintro e we ⟨rfl, hwe⟩
        have hA := pk_mem [0, 0, 1, 1, 2, -1, -1, -4, 6] L (k + 3 + 3 * j + 1 + 1) (by simp)
        simp only [List.mem_cons, List.not_mem_nil, or_false] at hA
        generalize pk [0, 0, 1, 1, 2, -1, -1, -4, 6] L (k + 3 + 3 * j + 1 + 1) = db at *
        have hB' : -4 ≤ db ∧ db ≤ 6 := by omega
        have howne := own_but hwd'.1 (by decide) hownd hwe.2
        have hwe' : Went w g L A cap (k + 3 + 3 * (j + 1)) we := ⟨hwe.1, hwd'.2.trans hwe.2⟩
        clear hwd' hwe hownd hA
        go_wp2_with fail
        go_roundw
        case rel => exact ⟨j + 1, xs ++ [⟨t, vv, q⟩], t + da, vv + db, by omega, by go_num, rfl, rfl, by omega, by omega, by rw [List.length_append, HXL.out]; rfl, HNR1.out, howne, hwe'⟩
        case measure => simp [intOf]; omega
    · obtain rfl : j = N := by omega
      have hlong : xs.length ≤ most := by rw [HXL.out]; exact hN
      by_cases hj0 : j = 0
      · subst hj0
        obtain rfl : xs = [] := List.eq_nil_of_length_eq_zero HXL.out
        rcases hown.2 with ⟨rfl, _⟩ | ⟨g', cap', cur, rfl, _, _⟩
        · go_wp2_with fail
          go_ret
          exact ⟨_, rfl, [], _, hown, by simp, HNR.out.mono (by omega), by omega, hwr⟩
        · go_wp2_with fail
          go_ret
          exact ⟨_, rfl, [], _, hown, by simp, HNR.out.mono (by omega), by omega, hwr⟩
      · obtain ⟨g1, cap1, rfl, hg1, hc1, hc2⟩ := own_form hown (by omega)
        have hj1 : 0 < j := by omega
        clear hj0
        go_wp2_with fail
        refine (flip_went _ g L A cap _ 12 hwr.1 (by omega) (by omega)).mono ?_
        rintro e w4 ⟨rfl, hw4, hz4⟩; clear hz4
        have hown4 := own_but hwr.1 (by decide) hown hw4.2
        have hw4' : Went w g L A cap (k + 3 + 3 * j + 1) w4 := ⟨hw4.1, hwr.2.trans hw4.2⟩
        clear hown hwr hw4
        by_cases hF : nxt L (k + 3 + 3 * j) 12 = 0
        · have hF' : (nxt L (k + 3 + 3 * j) 12 == 0) = true := by simpa using hF
          clear hF
          have hr := nxt_range L (k + 3 + 3 * j + 1) j (by omega)
          go_wp2_with fail
          refine (next_went _ g L A cap (k + 3 + 3 * j + 1) j hw4'.1 (by omega) (by omega)).mono ?_
          rintro e w5 ⟨rfl, hw5, hz5⟩; clear hz5
          have hown5 := own_but hw4'.1 (by decide) hown4 hw5.2
          have hw5' : Went w g L A cap (k + 3 + 3 * j + 2) w5 := ⟨hw5.1, hw4'.2.trans hw5.2⟩
          clear hown4 hw4' hw5
          have hin : ∃ n : Nat, nxt L (k + 3 + 3 * j + 1) j = (n : Int) ∧ n < j := ⟨(nxt L (k + 3 + 3 * j + 1) j).toNat, by omega, by omega⟩
          obtain ⟨n, hnx, hnj⟩ := hin
          generalize nxt L (k + 3 + 3 * j + 1) j = nn at *
          subst hnx
          go_wp2_with fail
          refine (next_went _ g L A cap (k + 3 + 3 * j + 2) 3 hw5'.1 (by omega) (by omega)).mono ?_
          rintro e w6 ⟨rfl, hw6, hz6⟩; clear hz6
          have hown6 := own_but hw5'.1 (by decide) hown5 hw6.2
          have hw6' : Went w g L A cap (k + 3 + 3 * j + 3) w6 := ⟨hw6.1, hw5'.2.trans hw6.2⟩
          clear hown5 hw5' hw6 hr
          have hr := nxt_range L (k + 3 + 3 * j + 2) 3 (by omega)
          generalize nxt L (k + 3 + 3 * j + 2) 3 = way at *
          obtain ⟨c0, c1, c2⟩ := own_cells hown6 HXL.out n hnj
          have hnx := HNR.out.at_ n (by rw [HXL.out]; exact hnj)
          rw [atS_eq xs n (by rw [HXL.out]; exact hnj)] at c0 c1 c2
          have hst : ∀ (w' : World) (r : Int), w'.ownsRow w.heap.size 57 3 (.slice (some ⟨g1, 0, none⟩) j cap1) j (cellsOf xs) →
              (w'.setCell ⟨g1, n * 3, none⟩ (.int .i64 r)).ownsRow w.heap.size 57 3 (.slice (some ⟨g1, 0, none⟩) j cap1) j (cellsOf (xs.set n ⟨r, (atS xs n).v, (atS xs n).q⟩)) ∧
              (w'.setCell ⟨g1, n * 3 + 1, none⟩ (.int .i64 r)).ownsRow w.heap.size 57 3 (.slice (some ⟨g1, 0, none⟩) j cap1) j (cellsOf (xs.set n ⟨(atS xs n).t, r, (atS xs n).q⟩)) ∧
              (w'.setCell ⟨g1, n * 3 + 2, none⟩ (.int .i64 r)).ownsRow w.heap.size 57 3 (.slice (some ⟨g1, 0, none⟩) j cap1) j (cellsOf (xs.set n ⟨(atS xs n).t, (atS xs n).v, r⟩)) := fun w' r h => by
            have hnl : n < xs.length := by rw [HXL.out]; exact hnj
            rw [← cellsOf_setT xs n hnl, ← cellsOf_setV xs n hnl, ← cellsOf_setQ xs n hnl]
            exact ⟨(h.stored _ _).1, (h.stored _ _).1, (h.stored _ _).1⟩
          generalize hx : atS xs n = x at *
          have HX := Lib.hid hx
          have HST := Lib.hid hst
          clear hst hx
          have i1 : (0 : Int) ≤ (n : Int) := by omega
          have i2 : (n : Int) < (j : Int) := by omega
          by_cases h0 : way = 0
          · subst h0
            have hs1 : IntKind.i64.wrap (x.t - 40) = x.t - 40 := IntWalk.i64_in _ (by omega)
            have hs2 : IntKind.i64.wrap (x.t + 3) = x.t + 3 := IntWalk.i64_in _ (by omega)
            have f0 := hown6.frozenAt (n * 3)
            go_wp2_with fail
            go_region_with (first | (go_at_call 63; refine (pick_new w6.drew w6.heap.size g L A cap (k + 3 + 3 * j + 3) [x.t - 40, -1, 345686400000, x.t + 3] hw6'.1.drew rfl (by omega) (by simp)).mono ?_; rintro e w7 ⟨rfl, hw7⟩; have hown7 := own_but hw6'.1.drew (by decide) hown6 hw7.2; have d0 : w7.cell? ⟨g1, n * 3, none⟩ = some (.int .i64 x.t) := (by have h := (own_cells hown7 HXL.out n hnj).1; rw [atS_eq xs n (by rw [HXL.out]; exact hnj), HX.out] at h; exact h); have f7 := hown7.frozenAt (n * 3)))
            all_goals
              have hpm := pk_mem [x.t - 40, -1, 345686400000, x.t + 3] L (k + 3 + 3 * j + 3) (by simp)
              simp only [List.mem_cons, List.not_mem_nil, or_false] at hpm
              generalize pk [x.t - 40, -1, 345686400000, x.t + 3] L (k + 3 + 3 * j + 3) = r at *
              have hrr : -2000000000000 ≤ r ∧ r ≤ 2000000000000 := by omega
              have hw7' : Went w g L A cap (k + 3 + 3 * j + 3 + 1) w7 := ⟨hw7.1, hw6'.2.drew.trans hw7.2⟩
              go_wp2_with fail
              go_ret
              exact ⟨_, rfl, xs.set n ⟨r, x.v, x.q⟩, _, by rw [List.length_set, HXL.out]; exact (HST.out _ _ hown7).1, by rw [List.length_set]; exact hlong, HNR.out.set n _ ⟨by simp only; omega, by simp only; omega, by simp only; omega⟩ (by omega), by omega, hw7'.setAt hlt0 (by exact hg1) _⟩
          · have h0' : (way == 0) = false := by simpa using h0
            by_cases h1 : way = 1
            · subst h1
              go_wp2_with fail
              refine (odd_went _ g L A cap _ (-1000000) 1000000 hw6'.1 (by omega) (by omega) (by omega) (by omega)).mono ?_
              rintro e w7 ⟨r, rfl, hrr, hw7⟩
              have hown7 := own_but hw6'.1 (by decide) hown6 hw7.2
              have hw7' : Went w g L A cap (k + 3 + 3 * j + 3 + 2) w7 := ⟨hw7.1, hw6'.2.trans hw7.2⟩
              have f1 := hown7.frozenAt (n * 3 + 1)
              have d1 := (own_cells hown7 HXL.out n hnj).2.1
              clear hw7 hown6 hw6' c0 c1 c2
              go_wp2_with fail
              go_ret
              exact ⟨_, rfl, xs.set n ⟨x.t, r, x.q⟩, _, by rw [List.length_set, HXL.out]; exact (HST.out _ _ hown7).2.1, by rw [List.length_set]; exact hlong, HNR.out.set n _ ⟨by simp only; omega, by simp only; omega, by simp only; omega⟩ (by omega), by omega, hw7'.setAt hlt0 (by exact hg1) _⟩
            · have h1' : (way == 1) = false := by simpa using h1
              go_wp2_with fail
              refine (odd_went _ g L A cap _ 0 2 hw6'.1 (by omega) (by omega) (by omega) (by omega)).mono ?_
              rintro e w7 ⟨r, rfl, hrr, hw7⟩
              have hown7 := own_but hw6'.1 (by decide) hown6 hw7.2
              have hw7' : Went w g L A cap (k + 3 + 3 * j + 3 + 2) w7 := ⟨hw7.1, hw6'.2.trans hw7.2⟩
              have f2 := hown7.frozenAt (n * 3 + 2)
              have d2 := (own_cells hown7 HXL.out n hnj).2.2
              clear hw7 hown6 hw6' c0 c1 c2
              go_wp2_with fail
              go_ret
              exact ⟨_, rfl, xs.set n ⟨x.t, x.v, r⟩, _, by rw [List.length_set, HXL.out]; exact (HST.out _ _ hown7).2.2, by rw [List.length_set]; exact hlong, HNR.out.set n _ ⟨by simp only; omega, by simp only; omega, by simp only; omega⟩ (by omega), by omega, hw7'.setAt hlt0 (by exact hg1) _⟩
        · have hF' : (nxt L (k + 3 + 3 * j) 12 == 0) = false := by simpa using hF
          clear hF
          go_wp2_with fail
          go_ret
          exact ⟨_, rfl, xs, _, by rw [HXL.out]; exact hown4, hlong, HNR.out.mono (by omega), by omega, hw4'⟩
end Go.Proofs.Ytmcojidaimeijaa

/- The contract of RightCurve (package logmake): some right series; no more is asked of it. -/

namespace Go.Proofs.Ytmcojidaimeijaa
open Go.RowKit
set_option linter.unusedVariables false
set_option linter.unusedSimpArgs false

/-- What is made at last. -/
def RightEnd (w : World) (g : Nat) (L : List Int) (A : Option Addr) (cap k most : Nat) (v : Value) (w' : World) : Prop :=
  ∃ (l : List Smp) (k' : Nat), RdS w' 57 v l ∧ l.length ≤ most ∧ serErr l = 0 ∧ k' ≤ k + 6 * (10 + 3 * most) ∧ Went w g L A cap k' w'

set_option maxRecDepth 100000 in
set_option maxHeartbeats 4000000 in
theorem rightCurve_went (w : World) (g : Nat) (L : List Int) (A : Option Addr) (cap k most : Nat) (hS : Strm w g L A cap k) (hk : k ≤ 600000000) (hm : most ≤ 1000) :
    Calls Try.prog 12 #[.pointer (some ⟨g, 0, none⟩), .int .i64 (most : Int)] w fun e w' => ∃ v, e = .returned v ∧ RightEnd w g L A cap k most v w' := by
  have hlt0 := hS.lt
  go_enter Try.func12, Try.ntmps12
  go_wp2_with fail
  go_loopw [6] (fun i wr => ∃ (j : Nat) (k' : Nat), j ≤ 6 ∧ i = .int .i64 (j : Int) ∧ k' ≤ k + j * (10 + 3 * most) ∧ Went w g L A cap k' wr) (fun i _ => 6 - (intOf i).toNat)
  case atStart => exact ⟨0, k, by omega, rfl, by omega, hS, But.refl _ _⟩
  case round =>
    obtain ⟨j, k', hj, rfl, hk', hw⟩ := hrel
    have hbound : j * (10 + 3 * most) ≤ 6 * (10 + 3 * most) := Nat.mul_le_mul_right _ hj
    by_cases hlt : j < 6
    · have hnext : (j + 1) * (10 + 3 * most) = j * (10 + 3 * most) + (10 + 3 * most) := by rw [Nat.add_mul, Nat.one_mul]
      have hcall := curve_went wr g L A cap k' most hw.1 (by omega) hm
      have HC := Lib.hid hcall
      have HW := Lib.hid hw
      have HN := Lib.hid hnext
      have HX := Lib.hid (show (j + 1) * (10 + 3 * most) ≤ 6 * (10 + 3 * most) from Nat.mul_le_mul_right _ hlt)
      clear hcall hw hnext
      go_wp2_with fail
      refine HC.out.mono ?_
      rintro e w1 ⟨v, rfl, l, k1, hown, hlen, _, hk1, hw1⟩
      have hrd : RdS w1 57 v l := Rd.of_own hown
      obtain ⟨pv, cv, rfl⟩ := hrd.lenv
      have HW1 := Lib.hid (show Went w g L A cap k1 w1 from ⟨hw1.1, HW.out.2.trans hw1.2⟩)
      have HRD := Lib.hid hrd
      clear hown hw1 hrd
      go_wp2_with fail
      refine (seriesFault_any (.slice pv l.length cv) l _ HRD.out).mono ?_
      rintro e w2 ⟨rfl, hb2⟩
      have hsz := hb2.size
      have HW2 := Lib.hid (show Went w g L A cap k1 w2 from ⟨HW1.out.1.below hb2 HW1.out.1.lt, HW1.out.2.below hb2⟩)
      have HR2 := Lib.hid (Rd.below HRD.out hb2)
      clear hb2
      by_cases hE : serErr l = 0
      · have hE' : (serErr l == 0) = true := by simpa using hE
        have HE := Lib.hid hE
        clear hE
        go_wp2_with fail
        go_ret
        exact ⟨_, rfl, l, k1, HR2.out, hlen, HE.out, by have := HN.out; have := HX.out; omega, HW2.out⟩
      · have hE' : (serErr l == 0) = false := by simpa using hE
        clear hE
        go_wp2_with fail
        go_roundw
        case rel => exact ⟨j + 1, k1, by omega, by go_num, by rw [HN.out]; omega, HW2.out⟩
        case measure => simp [intOf]; omega
    · obtain rfl : j = 6 := by omega
      go_wp2_with fail
      go_ret
      exact ⟨_, rfl, [], k', Rd.nil _ _ _, by simp, rfl, by omega, hw⟩
end Go.Proofs.Ytmcojidaimeijaa

/- IntegralsAddUp returns true, for every stream. -/

namespace Go.Proofs.Ytmcojidaimeijaa
open Go.RowKit
set_option linter.unusedVariables false
set_option linter.unusedSimpArgs false

/-- What lies behind the first three calls. -/
structure IaK (w0 : World) (n q : Nat) (f t a d : Int) (v : Value) (l : List Smp) (W : World) : Prop where
  bw : Blk W n 43 #[.int .i64 f, .int .i64 t]
  bf : Blk W q 35 #[.int .i64 a, .int .i64 d]
  rs : RdS W 57 v l
  lo : Below w0.heap.size w0 W
theorem IaK.step {w0 W W' : World} {n q : Nat} {f t a d : Int} {v : Value} {l : List Smp} (h : IaK w0 n q f t a d v l W) (hb : Below W.heap.size W W') : IaK w0 n q f t a d v l W' :=
  ⟨h.bw.below hb h.bw.lt, h.bf.below hb h.bf.lt, Rd.below h.rs hb, h.lo.trans (hb.mono h.lo.size)⟩
theorem mul_fit {a d g : Int} (ha : -1000000 ≤ a ∧ a ≤ 1000000) (hd : 0 < d ∧ d ≤ g) (hg : g ≤ 345686400000) : IntKind.i64.wrap (a * d) = a * d := by
  have h1 : a * d ≤ 1000000 * d := Int.mul_le_mul_of_nonneg_right ha.2 (by omega)
  have h2 : -1000000 * d ≤ a * d := Int.mul_le_mul_of_nonneg_right ha.1 (by omega)
  exact IntWalk.i64_in _ (by omega)

set_option maxRecDepth 100000 in
set_option maxHeartbeats 4000000 in
theorem integralsAddUp_walk (w : World) (L : List Int) (A : Option Addr) (cap : Nat) (hc : ∀ i, i < L.length → ∃ ad : Addr, A = some ad ∧ ad.block < w.heap.size ∧ w.cell? (ad.add i) = some (.int .i64 (L.getD i 0)))
    (hl : L.length ≤ 9223372036854775807) (hwf : ∀ i, -9223372036854775808 ≤ L.getD i 0 ∧ L.getD i 0 ≤ 9223372036854775807) :
    Calls Try.prog 10 #[.slice A L.length cap] w fun e w' => e = .returned (.bool true) ∧ Below w.heap.size w w' := by
  have hS0 : Strm (w.alloc (.cells #[.slice A L.length cap, .int .i64 0] 25)) w.heap.size L A cap 0 :=
    ⟨heap_alloc_new w _, fun i hi => by
      obtain ⟨ad, e, hb, hcell⟩ := hc i hi
      exact ⟨ad, e, hb, by rw [World.cell?_alloc_lt _ _ _ (by rw [addr_add_block]; exact hb)]; exact hcell⟩, hl, hwf⟩
  have HS0 := Lib.hid hS0
  have HR := Lib.hid (fun W => ready_any W)
  clear hS0 hc hwf
  go_enter Try.func10, Try.ntmps10
  go_wp2_with fail
  refine (rightCurve_went _ w.heap.size L A cap 0 12 HS0.out (by omega) (by omega)).mono ?_
  rintro e w1 ⟨v, rfl, l, k1, hrd, hlen, hser, hk1, hw1⟩
  go_wp2_with fail
  refine (range_went _ w.heap.size L A cap k1 0 60 hw1.1 (by omega) (by omega) (by omega) (by omega)).mono ?_
  rintro e w2 ⟨rfl, hw2, hz9⟩
  clear hz9
  have hr1 := nxt_range L k1 (60 - 0 + 1) (by omega)
  have hf : 0 ≤ 0 + nxt L k1 (60 - 0 + 1) ∧ 0 + nxt L k1 (60 - 0 + 1) ≤ 60 := by omega
  generalize 0 + nxt L k1 (60 - 0 + 1) = f at *
  clear hr1
  go_wp2_with fail
  refine (range_went _ w.heap.size L A cap (k1 + 1) 0 80 hw2.1 (by omega) (by omega) (by omega) (by omega)).mono ?_
  rintro e w3 ⟨rfl, hw3, hz9⟩
  clear hz9
  have hr1 := nxt_range L (k1 + 1) (80 - 0 + 1) (by omega)
  have hx : 0 ≤ 0 + nxt L (k1 + 1) (80 - 0 + 1) ∧ 0 + nxt L (k1 + 1) (80 - 0 + 1) ≤ 80 := by omega
  generalize 0 + nxt L (k1 + 1) (80 - 0 + 1) = x at *
  clear hr1
  obtain ⟨t, ht⟩ : ∃ t, t = f + x := ⟨_, rfl⟩
  have hv1 : IntKind.i64.wrap (f + x) = t := by rw [ht]; exact IntWalk.i64_in _ (by omega)
  have hft : f ≤ t ∧ t ≤ 140 := by omega
  have HT := Lib.hid ht
  clear ht
  have hv2 : IntKind.i64.wrap (t - f) = t - f := IntWalk.i64_in _ (by omega)
  have hv3 : IntKind.i64.wrap (t - f + 1) = t - f + 1 := IntWalk.i64_in _ (by omega)
  go_wp2_with fail
  refine (next_went _ w.heap.size L A cap (k1 + 1 + 1) (t - f + 1) hw3.1 (by omega) (by omega)).mono ?_
  rintro e w4 ⟨rfl, hw4, hz9⟩
  clear hz9
  have hr1 := nxt_range L (k1 + 1 + 1) (t - f + 1) (by omega)
  have hy : 0 ≤ nxt L (k1 + 1 + 1) (t - f + 1) ∧ nxt L (k1 + 1 + 1) (t - f + 1) ≤ t - f := by omega
  generalize nxt L (k1 + 1 + 1) (t - f + 1) = y at *
  clear hr1
  obtain ⟨m, hm⟩ : ∃ m, m = f + y := ⟨_, rfl⟩
  have hv4 : IntKind.i64.wrap (f + y) = m := by rw [hm]; exact IntWalk.i64_in _ (by omega)
  have hfm : f ≤ m ∧ m ≤ t := by omega
  have HM := Lib.hid hm
  clear hm
  have hrd4 : RdS w4 57 v l := Rd.but hw3.1 (by decide) (Rd.but hw2.1 (by decide) (Rd.but hw1.1 (by decide) hrd hw2.2) hw3.2) hw4.2
  have hb4 := hw1.2.trans (hw2.2.trans (hw3.2.trans hw4.2))
  have hlow : Below w.heap.size w w4 := ((Below.refl _ w).alloc (Nat.le_refl _) _).trans ⟨hb4.os, hb4.tape, hb4.output, hb4.size, fun i hi => hb4.block i (by simp; omega) (by omega)⟩
  obtain ⟨pa, ca, rfl⟩ := hrd4.lenv
  have hE0 : ∀ a b : Int, 0 ≤ a → a ≤ b → b ≤ 200 → orE (serErr l) (winErr a b) = 0 := fun a b h1 h2 h3 => by
    have h4 : winErr a b = 0 := by unfold winErr; rw [if_pos (winB_true.2 ⟨by omega, by omega, by omega⟩)]
    rw [hser, h4]; rfl
  have HI := Lib.hid (fun (a b : Int) (h1 : 0 ≤ a) (h2 : a ≤ b) (h3 : b ≤ 200) W (h : RdS W 57 (.slice pa l.length ca) l) =>
    (show Calls Try.prog 37 #[.slice pa l.length ca, .agg #[.int .i64 a, .int .i64 b]] W fun e w' => e = .returned (.tuple #[.int .i64 (aggV l a b).s, .int .i64 (aggV l a b).g, .int .i64 0]) ∧ Below W.heap.size W w' by
      have := integral_any (.slice pa l.length ca) l a b W h
      have e1 : ckS l a b = (aggV l a b).s := by unfold ckS; rw [if_pos (hE0 a b h1 h2 h3)]
      have e2 : (ckB l a b).g = (aggV l a b).g := by unfold ckB; rw [if_pos (hE0 a b h1 h2 h3)]; rfl
      rw [e1, e2, hE0 a b h1 h2 h3] at this
      exact this))
  have hkb : ckB l f t = bktOf l f t := by unfold ckB; rw [if_pos (hE0 f t (by omega) (by omega) (by omega))]
  have HAV := Lib.hid (fun W (h : RdS W 57 (.slice pa l.length ca) l) =>
    (show Calls Try.prog 36 #[.slice pa l.length ca, .agg #[.int .i64 f, .int .i64 t]] W fun e w' => e = .returned (.tuple #[.agg #[.int .i64 (avgV l f t).1, .int .i64 (avgV l f t).2], .bool (decide (0 < (aggV l f t).g)), .int .i64 0]) ∧ Below W.heap.size W w' by
      have := average_any (.slice pa l.length ca) l f t W h
      rw [hkb, hE0 f t (by omega) (by omega) (by omega)] at this
      exact this))
  have HEX := Lib.hid (fun W (h : RdS W 57 (.slice pa l.length ca) l) =>
    (show Calls Try.prog 42 #[.slice pa l.length ca, .agg #[.int .i64 f, .int .i64 t]] W fun e w' => e = .returned (.tuple #[.int .i64 (aggV l f t).mn, .int .i64 (aggV l f t).mx, .bool (decide (0 < (aggV l f t).g)), .int .i64 0]) ∧ Below W.heap.size W w' by
      have := extremes_any (.slice pa l.length ca) l f t W h
      rw [hkb, hE0 f t (by omega) (by omega) (by omega)] at this
      exact this))
  have HMD := Lib.hid (fun W (h : RdS W 57 (.slice pa l.length ca) l) => median_any (.slice pa l.length ca) l f t W h (by omega))
  have HGT := Lib.hid (fun W (h : RdS W 57 (.slice pa l.length ca) l) => goodTime_any (.slice pa l.length ca) l f t 1 W h)
  have hmdE : mdE l f t = 0 := hE0 f t (by omega) (by omega) (by omega)
  have hmdR : mdR l f t = medR l f t := by unfold mdR; rw [if_pos hmdE]
  have hgdE : gdE l f t 1 = 0 := by unfold gdE; rw [hE0 f t (by omega) (by omega) (by omega), if_pos (.inr rfl)]; rfl
  have hgdR : gdR l f t 1 = (aggV l f t).g := by unfold gdR; rw [if_pos hgdE, ← goodS_is]; rfl
  rw [hmdE, hmdR] at HMD
  rw [hgdE, hgdR] at HGT
  have hadd := agg_add (l := l) hser hfm.1 hfm.2
  have hb1 := aggV_bound (l := l) (f := f) (t := m) hser ⟨by omega, by omega, by omega⟩
  have hb2 := aggV_bound (l := l) (f := m) (t := t) hser ⟨by omega, by omega, by omega⟩
  have hb3 := aggV_bound (l := l) (f := f) (t := t) hser ⟨by omega, by omega, by omega⟩
  have hmm := aggV_minmax (l := l) (f := f) (t := t) hser ⟨by omega, by omega, by omega⟩
  have hmed := med_between (l := l) (f := f) (t := t) hser
  have havg := fun h => avg_between (l := l) (f := f) (t := t) hser h
  have hdl : 0 < (aggV l f t).g → (avgV l f t).2 ≤ (aggV l f t).g := fun h => by
    unfold avgV
    rw [if_pos h]
    have h2 := frac_parts (aggV l f t).s (aggV l f t).g h
    exact Int.ediv_le_self _ (by omega)
  have hI1 := HI.out f m (by omega) (by omega) (by omega)
  have hI2 := HI.out m t (by omega) (by omega) (by omega)
  have hI3 := HI.out f t (by omega) (by omega) (by omega)
  have H1 := Lib.hid hI1
  have H2 := Lib.hid hI2
  have H3 := Lib.hid hI3
  clear hrd hw1 hw2 hw3 hw4 hb4 hk1 hkb hmdE hmdR hgdE hgdR hI1 hI2 hI3 HI hE0
  generalize aggV l f m = A1 at *
  generalize aggV l m t = A2 at *
  generalize aggV l f t = A3 at *
  generalize medR l f t = MD at *
  generalize avgV l f t = AV at *
  obtain ⟨g1, mn1, mx1, s1⟩ := A1
  obtain ⟨g2, mn2, mx2, s2⟩ := A2
  obtain ⟨g3, mn3, mx3, s3⟩ := A3
  obtain ⟨n3, d3⟩ := AV
  simp only at H1 H2 H3 HAV HEX HMD HGT hadd hb1 hb2 hb3 hmm hmed havg hdl
  have hs : IntKind.i64.wrap (s1 + s2) = s3 := by rw [hadd.2]; exact IntWalk.i64_in _ (by omega)
  have hg : IntKind.i64.wrap (g1 + g2) = g3 := by rw [hadd.1]; exact IntWalk.i64_in _ (by omega)
  have hss : (s3 != s3) = false := by simp
  have hgg : (g3 != g3) = false := by simp
  have HADD := Lib.hid hadd
  clear hadd hb1 hb2
  go_wp2_with fail
  refine (H1.out _ hrd4).mono ?_
  rintro e w5 ⟨rfl, hc5⟩
  have hrd5 := Rd.below hrd4 hc5
  have hlow5 := hlow.trans (hc5.mono hlow.size)
  clear hrd4 hlow hc5
  go_wp2_with fail
  refine (H2.out _ hrd5).mono ?_
  rintro e w6 ⟨rfl, hc6⟩
  have hrd6 := Rd.below hrd5 hc6
  have hlow6 := hlow5.trans (hc6.mono hlow5.size)
  clear hrd5 hlow5 hc6
  go_wp2_with fail
  refine (H3.out _ hrd6).mono ?_
  rintro e w7 ⟨rfl, hc7⟩
  have hrd7 := Rd.below hrd6 hc7
  have hlow7 := hlow6.trans (hc7.mono hlow6.size)
  clear hrd6 hlow6 hc7
  by_cases hg0 : 0 < g3
  · have hdt : decide (0 < g3) = true := decide_eq_true hg0
    obtain ⟨ha1, ha2, ha3⟩ := havg hg0
    have hdg := hdl hg0
    obtain ⟨z, rfl⟩ : ∃ z, MD = some z := by
      have h1 := hmed.1
      rw [hdt] at h1
      exact Option.isSome_iff_exists.1 h1
    obtain ⟨hz1, hz2⟩ := hmed.2 z rfl
    rw [hdt] at HAV HEX
    simp only [Option.getD_some, Option.isSome_some] at HMD
    have hp1 := mul_fit hmm.1 ⟨ha1, hdg⟩ hb3.1.2
    have hp2 := mul_fit hmm.2 ⟨ha1, hdg⟩ hb3.1.2
    obtain ⟨p1, hq1⟩ : ∃ p, p = mn3 * d3 := ⟨_, rfl⟩
    obtain ⟨p2, hq2⟩ : ∃ p, p = mx3 * d3 := ⟨_, rfl⟩
    have hp3 : IntKind.i64.wrap (mn3 * d3) = p1 := by rw [hp1, hq1]
    have hp4 : IntKind.i64.wrap (mx3 * d3) = p2 := by rw [hp2, hq2]
    rw [← hq1] at ha2
    rw [← hq2] at ha3
    clear hp1 hp2 hq1 hq2
    clear havg hmed hdl hb3 hmm
    have hbw := Blk.new w7 43 #[.int .i64 f, .int .i64 t]
    have hrd8 : RdS (w7.alloc (.cells #[.int .i64 f, .int .i64 t] 43)) 57 (.slice pa l.length ca) l := Rd.alloc hrd7 _
    have hlow8 := hlow7.alloc hlow7.size (.cells #[.int .i64 f, .int .i64 t] 43)
    clear hrd7 hlow7
    go_upto_region 11 with fail
    generalize w7.alloc (.cells #[.int .i64 f, .int .i64 t] 43) = w8 at *
    generalize w7.heap.size = n at *
    have e0 := hbw.cell 0
    have e1 := hbw.cell 1
    go_wp2_with fail
    refine (HAV.out _ hrd8).mono ?_
    rintro e w9 ⟨rfl, hc9⟩
    have hk0 : IaK w n w9.heap.size f t n3 d3 (.slice pa l.length ca) l (w9.alloc (.cells #[.int .i64 n3, .int .i64 d3] 35)) :=
      ⟨(hbw.below hc9 hbw.lt).alloc _, Blk.new _ _ _, Rd.alloc (Rd.below hrd8 hc9) _, (hlow8.trans (hc9.mono hlow8.size)).alloc (hlow8.trans (hc9.mono hlow8.size)).size _⟩
    clear e0 e1 hbw hrd8 hlow8 hc9
    go_upto_region 12 with fail
    generalize w9.alloc (.cells #[.int .i64 n3, .int .i64 d3] 35) = wa at *
    generalize w9.heap.size = q at *
    have e0 := hk0.bw.cell 0
    have e1 := hk0.bw.cell 1
    go_wp2_with fail
    refine (HEX.out _ hk0.rs).mono ?_
    rintro e wb ⟨rfl, hcb⟩
    have hk1 := hk0.step hcb
    clear e0 e1 hk0 hcb
    have e0 := hk1.bw.cell 0
    have e1 := hk1.bw.cell 1
    go_wp2_with fail
    refine (HMD.out _ hk1.rs).mono ?_
    rintro e wc ⟨rfl, hcc⟩
    have hk2 := hk1.step hcc
    clear e0 e1 hk1 hcc
    have e0 := hk2.bw.cell 0
    have e1 := hk2.bw.cell 1
    go_wp2_with fail
    refine (HGT.out _ hk2.rs).mono ?_
    rintro e wd ⟨rfl, hcd⟩
    have hk3 := hk2.step hcd
    clear e0 e1 hk2 hcd
    have f0 := hk3.bf.cell 0
    have f1 := hk3.bf.cell 1
    have hlo := hk3.lo
    clear hk3
    go_wp2_with fail
    refine (HR.out _).mono ?_
    rintro e we ⟨rfl, hce⟩
    go_wp2_with fail
    go_ret
    exact ⟨rfl, hlo.trans (hce.mono hlo.size)⟩
  · have hdt : decide (0 < g3) = false := decide_eq_false hg0
    obtain rfl : MD = none := by
      have h1 := hmed.1
      rw [hdt] at h1
      exact Option.isNone_iff_eq_none.1 (by simpa using h1)
    obtain rfl : g3 = 0 := by omega
    rw [hdt] at HAV HEX
    simp only [Option.getD_none, Option.isSome_none] at HMD
    clear havg hmed hdl hb3 hmm
    have hbw := Blk.new w7 43 #[.int .i64 f, .int .i64 t]
    have hrd8 : RdS (w7.alloc (.cells #[.int .i64 f, .int .i64 t] 43)) 57 (.slice pa l.length ca) l := Rd.alloc hrd7 _
    have hlow8 := hlow7.alloc hlow7.size (.cells #[.int .i64 f, .int .i64 t] 43)
    clear hrd7 hlow7
    go_upto_region 11 with fail
    generalize w7.alloc (.cells #[.int .i64 f, .int .i64 t] 43) = w8 at *
    generalize w7.heap.size = n at *
    have e0 := hbw.cell 0
    have e1 := hbw.cell 1
    go_wp2_with fail
    refine (HAV.out _ hrd8).mono ?_
    rintro e w9 ⟨rfl, hc9⟩
    have hk0 : IaK w n w9.heap.size f t n3 d3 (.slice pa l.length ca) l (w9.alloc (.cells #[.int .i64 n3, .int .i64 d3] 35)) :=
      ⟨(hbw.below hc9 hbw.lt).alloc _, Blk.new _ _ _, Rd.alloc (Rd.below hrd8 hc9) _, (hlow8.trans (hc9.mono hlow8.size)).alloc (hlow8.trans (hc9.mono hlow8.size)).size _⟩
    clear e0 e1 hbw hrd8 hlow8 hc9
    go_upto_region 12 with fail
    generalize w9.alloc (.cells #[.int .i64 n3, .int .i64 d3] 35) = wa at *
    generalize w9.heap.size = q at *
    have e0 := hk0.bw.cell 0
    have e1 := hk0.bw.cell 1
    go_wp2_with fail
    refine (HEX.out _ hk0.rs).mono ?_
    rintro e wb ⟨rfl, hcb⟩
    have hk1 := hk0.step hcb
    clear e0 e1 hk0 hcb
    have e0 := hk1.bw.cell 0
    have e1 := hk1.bw.cell 1
    go_wp2_with fail
    refine (HMD.out _ hk1.rs).mono ?_
    rintro e wc ⟨rfl, hcc⟩
    have hk2 := hk1.step hcc
    clear e0 e1 hk1 hcc
    have e0 := hk2.bw.cell 0
    have e1 := hk2.bw.cell 1
    go_wp2_with fail
    refine (HGT.out _ hk2.rs).mono ?_
    rintro e wd ⟨rfl, hcd⟩
    have hk3 := hk2.step hcd
    clear e0 e1 hk2 hcd
    have f0 := hk3.bf.cell 0
    have f1 := hk3.bf.cell 1
    have hlo := hk3.lo
    clear hk3
    go_wp2_with fail
    refine (HR.out _).mono ?_
    rintro e we ⟨rfl, hce⟩
    go_wp2_with fail
    go_ret
    exact ⟨rfl, hlo.trans (hce.mono hlo.size)⟩
end Go.Proofs.Ytmcojidaimeijaa
