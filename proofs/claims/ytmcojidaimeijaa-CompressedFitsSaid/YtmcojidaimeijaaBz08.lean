import Derived.Test.YtmcojidaimeijaaBz07
import Derived.Test.YtmcojidaimeijaaAt
import Derived.Deep.RegionHeld3
import Derived.Test.YtmcojidaimeijaaSer
import Derived.Test.YtmcojidaimeijaaBz06
import Derived.Test.YtmcojidaimeijaaRq06
/- The contract of Curve (package logmake): it makes some samples, whose numbers are small; no more is asked of it. -/

namespace Go.Proofs.Ytmcojidaimeijaa
open Go.RowKit
set_option linter.unusedVariables false
set_option linter.unusedSimpArgs false

/-- The numbers of the samples are small. -/
def NearB (B : Int) (l : List Smp) : Prop := ∀ x ∈ l, (-B ≤ x.t ∧ x.t ≤ B) ∧ (-B ≤ x.v ∧ x.v ≤ B) ∧ (-B ≤ x.q ∧ x.q ≤ B)
def Near (l : List Smp) : Prop := NearB 2000000000000 l
theorem NearB.at_ {B : Int} {l : List Smp} (h : NearB B l) (i : Nat) (hi : i < l.length) : (-B ≤ (atS l i).t ∧ (atS l i).t ≤ B) ∧ (-B ≤ (atS l i).v ∧ (atS l i).v ≤ B) ∧ (-B ≤ (atS l i).q ∧ (atS l i).q ≤ B) := by
  rw [← atS_eq l i hi]; exact h _ (List.getElem_mem hi)
theorem Near.fit {l : List Smp} (h : Near l) : Fit l := fun i hi => by
  have := NearB.at_ h i hi
  omega
theorem NearB.mono {B C : Int} {l : List Smp} (h : NearB B l) (hBC : B ≤ C) : NearB C l := fun x hx => by have := h x hx; omega
theorem NearB.snoc {B : Int} {l : List Smp} (h : NearB B l) (x : Smp) (hx : (-B ≤ x.t ∧ x.t ≤ B) ∧ (-B ≤ x.v ∧ x.v ≤ B) ∧ (-B ≤ x.q ∧ x.q ≤ B)) : NearB B (l ++ [x]) := by
  intro y hy
  rcases List.mem_append.1 hy with hy | hy
  · exact h y hy
  · simp at hy; subst hy; exact hx
theorem NearB.set {B : Int} {l : List Smp} (h : NearB B l) (i : Nat) (x : Smp) (hx : (-2000000000000 ≤ x.t ∧ x.t ≤ 2000000000000) ∧ (-2000000000000 ≤ x.v ∧ x.v ≤ 2000000000000) ∧ (-2000000000000 ≤ x.q ∧ x.q ≤ 2000000000000)) (hB : B ≤ 2000000000000) : Near (l.set i x) := by
  intro y hy
  rcases List.mem_or_eq_of_mem_set hy with hy | hy
  · have := h y hy; omega
  · subst hy; exact hx
theorem cellsOf_setT (l : List Smp) (i : Nat) (h : i < l.length) (r : Int) : (cellsOf l).set (i * 3) (.int .i64 r) = cellsOf (l.set i ⟨r, (atS l i).v, (atS l i).q⟩) := by
  induction l generalizing i with
  | nil => simp at h
  | cons x l ih =>
    cases i with
    | zero => simp [Smp.cells, atS]
    | succ i =>
      have := ih i (by simpa using h)
      have e1 : atS (x :: l) (i + 1) = atS l i := rfl
      simp only [List.set_cons_succ, cellsOf_cons, e1]
      rw [← this, show (i + 1) * 3 = i * 3 + 3 by omega]
      simp [Smp.cells]
theorem cellsOf_setV (l : List Smp) (i : Nat) (h : i < l.length) (r : Int) : (cellsOf l).set (i * 3 + 1) (.int .i64 r) = cellsOf (l.set i ⟨(atS l i).t, r, (atS l i).q⟩) := by
  induction l generalizing i with
  | nil => simp at h
  | cons x l ih =>
    cases i with
    | zero => simp [Smp.cells, atS]
    | succ i =>
      have := ih i (by simpa using h)
      have e1 : atS (x :: l) (i + 1) = atS l i := rfl
      simp only [List.set_cons_succ, cellsOf_cons, e1]
      rw [← this, show (i + 1) * 3 + 1 = i * 3 + 1 + 3 by omega]
      simp [Smp.cells]
theorem cellsOf_setQ (l : List Smp) (i : Nat) (h : i < l.length) (r : Int) : (cellsOf l).set (i * 3 + 2) (.int .i64 r) = cellsOf (l.set i ⟨(atS l i).t, (atS l i).v, r⟩) := by
  induction l generalizing i with
  | nil => simp at h
  | cons x l ih =>
    cases i with
    | zero => simp [Smp.cells, atS]
    | succ i =>
      have := ih i (by simpa using h)
      have e1 : atS (x :: l) (i + 1) = atS l i := rfl
      simp only [List.set_cons_succ, cellsOf_cons, e1]
      rw [← this, show (i + 1) * 3 + 2 = i * 3 + 2 + 3 by omega]
      simp [Smp.cells]

/-- What is made at last. -/
def CurveEnd (w : World) (g : Nat) (L : List Int) (A : Option Addr) (cap k most : Nat) (v : Value) (w' : World) : Prop :=
  ∃ l k', w'.ownsRow w.heap.size 57 3 v l.length (cellsOf l) ∧ l.length ≤ most ∧ Near l ∧ k' ≤ k + 10 + 3 * most ∧ Went w g L A cap k' w'
theorem Went.setAt {w w1 : World} {g : Nat} {L : List Int} {A : Option Addr} {cap k : Nat} (hw : Went w g L A cap k w1) (hg : g < w.heap.size) {p : Addr} (hp : w.heap.size ≤ p.block) (u : Value) : Went w g L A cap k (w1.setCell p u) :=
  hw.below hg ((Below.refl w.heap.size w1).setCell hp u)

set_option maxRecDepth 100000 in
set_option maxHeartbeats 4000000 in
theorem curve_went (w : World) (g : Nat) (L : List Int) (A : Option Addr) (cap k most : Nat) (hS : Strm w g L A cap k) (hk : k ≤ 700000000) (hm : most ≤ 1000) :
    Calls Try.prog 49 #[.pointer (some ⟨g, 0, none⟩), .int .i64 (most : Int)] w fun e w' => ∃ v, e = .returned v ∧ CurveEnd w g L A cap k most v w' := by
  have hlt0 := hS.lt
  have hr := nxt_range L (k + 2) (most + 1) (by omega)
  have hn : (((nxt L (k + 2) (most + 1)).toNat : Nat) : Int) = 0 + nxt L (k + 2) ((most : Int) - 0 + 1) := by rw [show (most : Int) - 0 + 1 = (most : Int) + 1 from by omega]; omega
  have hN : (nxt L (k + 2) (most + 1)).toNat ≤ most := by omega
  generalize (nxt L (k + 2) (most + 1)).toNat = N at *
  have HN := Lib.hid hn
  clear hn hr
  go_enter Try.func49, Try.ntmps49
  go_wp2_with fail
  refine (pick_new _ _ g L A cap k [0, 0, 5, 40] hS rfl (by omega) (by simp)).mono ?_
  rintro e w1 ⟨rfl, hw1⟩
  have hT := pk_mem [0, 0, 5, 40] L k (by simp)
  simp only [List.mem_cons, List.not_mem_nil, or_false] at hT
  generalize pk [0, 0, 5, 40] L k = T at *
  have hT' : 0 ≤ T ∧ T ≤ 40 := by omega
  clear hT
  go_wp2_with fail
  refine (pick_new _ _ g L A cap (k + 1) [0, 5, 10, -3] hw1.1 rfl (by omega) (by simp)).mono ?_
  rintro e w2 ⟨rfl, hw2⟩
  have hV := pk_mem [0, 5, 10, -3] L (k + 1) (by simp)
  simp only [List.mem_cons, List.not_mem_nil, or_false] at hV
  generalize pk [0, 5, 10, -3] L (k + 1) = V at *
  have hV' : -3 ≤ V ∧ V ≤ 10 := by omega
  clear hV
  have hw2' : Went w g L A cap (k + 2) w2 := ⟨hw2.1, hw1.2.trans hw2.2⟩
  clear hw1 hw2
  go_wp2_with fail
  refine (range_went _ g L A cap (k + 2) 0 most hw2'.1 (by omega) (by omega) (by omega) (by omega)).mono ?_
  rintro e w3 ⟨rfl, hw3, hz3⟩
  rw [← HN.out]
  have hg3 : Went w g L A cap (k + 3 + 3 * 0) w3 := ⟨hw3.1, hw2'.2.trans hw3.2⟩
  clear hw2' hw3 hz3 HN
  go_wp2_with fail
  go_loopw [5, 6, 7, 19] (fun o st sv i wr => ∃ (j : Nat) (xs : List Smp) (t vv : Int), j ≤ N ∧ i = .int .i64 (j : Int) ∧ st = .int .i64 t ∧ sv = .int .i64 vv ∧ (0 ≤ t ∧ t ≤ 40 + 30 * (j : Int)) ∧ (-3 - 6 * (j : Int) ≤ vv ∧ vv ≤ 10 + 6 * (j : Int)) ∧ xs.length = j ∧ NearB 1000000000000 xs ∧ wr.ownsRow w.heap.size 57 3 o j (cellsOf xs) ∧ Went w g L A cap (k + 3 + 3 * j) wr)
    (fun _ _ _ i _ => N - (intOf i).toNat)
  case atStart => exact ⟨0, [], T, V, by omega, rfl, rfl, rfl, by omega, by omega, rfl, by intro x hx; simp at hx, World.ownsRow_nil _ _ _ _, hg3⟩
  case round =>
    obtain ⟨j, xs, t, vv, hj, rfl, rfl, rfl, ht, hv, hxl, hnear, hown, hwr⟩ := hrel
    have HXL := Lib.hid hxl
    have HNR := Lib.hid hnear
    clear hxl hnear
    have hszr := hwr.2.size
    by_cases hlt : j < N
    · go_wp2_with fail
      refine (pick_new _ _ g L A cap (k + 3 + 3 * j) [0, 0, 0, 0, 0, 1, 2] hwr.1 rfl (by omega) (by simp)).mono ?_
      rintro e wa ⟨rfl, hwa⟩
      have hQ := pk_mem [0, 0, 0, 0, 0, 1, 2] L (k + 3 + 3 * j) (by simp)
      simp only [List.mem_cons, List.not_mem_nil, or_false] at hQ
      generalize pk [0, 0, 0, 0, 0, 1, 2] L (k + 3 + 3 * j) = q at *
      have hQ' : 0 ≤ q ∧ q ≤ 2 := by omega
      have howna : wa.ownsRow w.heap.size 57 3 u5 j (cellsOf xs) := own_but hwr.1 (by decide) hown hwa.2
      have hwa' : Went w g L A cap (k + 3 + 3 * j + 1) wa := ⟨hwa.1, hwr.2.trans hwa.2⟩
      have hsza := hwa'.2.size
      clear hwa hown hwr hQ
      by_cases hq : q = 2
      · subst hq
        go_wp2_with (at_builtin; go_loud (refine wpList_append_smp rfl (.tmp 31) (.tmp 33) rfl w.heap.size u5 j xs rfl (by exact (howna.alloc _).alloc _) (wa.heap.size + 1) rfl ⟨t, 0, 2⟩ (by exact Blk.new1 _ _ _ _) (by omega) (by simp; omega) ?_); intro v1 wc hown1 hgrow1)
        have hwc : Went w g L A cap (k + 3 + 3 * j + 1) wc := hwa'.below hlt0 ((((Below.refl _ wa).alloc hsza _).alloc (by simp; omega) _).trans (below_grown ((howna.alloc _).alloc _) (by simp; omega) hgrow1))
        clear howna hgrow1 hwa'
        have hnr := HNR.out.snoc ⟨t, 0, 2⟩ ⟨by simp only; omega, by simp only; omega, by simp only; omega⟩
        have HNR1 := Lib.hid hnr
        clear hnr
        refine (pick_new _ _ g L A cap (k + 3 + 3 * j + 1) [1, 1, 2, 5, 10, 30] hwc.1 rfl (by omega) (by simp)).mono ?_
        rintro e wd ⟨rfl, hwd⟩
        have hA := pk_mem [1, 1, 2, 5, 10, 30] L (k + 3 + 3 * j + 1) (by simp)
        simp only [List.mem_cons, List.not_mem_nil, or_false] at hA
        generalize pk [1, 1, 2, 5, 10, 30] L (k + 3 + 3 * j + 1) = da at *
        have hA' : 1 ≤ da ∧ da ≤ 30 := by omega
        have hownd := own_but hwc.1 (by decide) hown1 hwd.2
        have hwd' : Went w g L A cap (k + 3 + 3 * j + 1 + 1) wd := ⟨hwd.1, hwc.2.trans hwd.2⟩
        clear hwc hwd hown1 hA
        go_wp2_with fail
        refine (pick_new _ _ g L A cap (k + 3 + 3 * j + 1 + 1) [0, 0, 1, 1, 2, -1, -1, -4, 6] hwd'.1 rfl (by omega) (by simp)).mono ?_
        rintro e we ⟨rfl, hwe⟩
        have hA := pk_mem [0, 0, 1, 1, 2, -1, -1, -4, 6] L (k + 3 + 3 * j + 1 + 1) (by simp)
        simp only [List.mem_cons, List.not_mem_nil, or_false] at hA
        generalize pk [0, 0, 1, 1, 2, -1, -1, -4, 6] L (k + 3 + 3 * j + 1 + 1) = db at *
        have hB' : -4 ≤ db ∧ db ≤ 6 := by omega
        have howne := own_but hwd'.1 (by decide) hownd hwe.2
        have hwe' : Went w g L A cap (k + 3 + 3 * (j + 1)) we := ⟨hwe.1, hwd'.2.trans hwe.2⟩
        clear hwd' hwe hownd hA
        go_wp2_with fail
        go_roundw
        case rel => exact ⟨j + 1, xs ++ [⟨t, 0, 2⟩], t + da, vv + db, by omega, by go_num, rfl, rfl, by omega, by omega, by rw [List.length_append, HXL.out]; rfl, HNR1.out, howne, hwe'⟩
        case measure => simp [intOf]; omega
      · have hq' : (q == 2) = false := by simpa using hq
        clear hq
        go_wp2_with (at_builtin; go_loud (refine wpList_append_smp rfl (.tmp 31) (.tmp 33) rfl w.heap.size u5 j xs rfl (by exact (howna.alloc _).alloc _) (wa.heap.size + 1) rfl ⟨t, vv, q⟩ (by exact Blk.new1 _ _ _ _) (by omega) (by simp; omega) ?_); intro v1 wc hown1 hgrow1)
        have hwc : Went w g L A cap (k + 3 + 3 * j + 1) wc := hwa'.below hlt0 ((((Below.refl _ wa).alloc hsza _).alloc (by simp; omega) _).trans (below_grown ((howna.alloc _).alloc _) (by simp; omega) hgrow1))
        clear howna hgrow1 hwa'
        have hnr := HNR.out.snoc ⟨t, vv, q⟩ ⟨by simp only; omega, by simp only; omega, by simp only; omega⟩
        have HNR1 := Lib.hid hnr
        clear hnr
        refine (pick_new _ _ g L A cap (k + 3 + 3 * j + 1) [1, 1, 2, 5, 10, 30] hwc.1 rfl (by omega) (by simp)).mono ?_
        rintro e wd ⟨rfl, hwd⟩
        have hA := pk_mem [1, 1, 2, 5, 10, 30] L (k + 3 + 3 * j + 1) (by simp)
        simp only [List.mem_cons, List.not_mem_nil, or_false] at hA
        generalize pk [1, 1, 2, 5, 10, 30] L (k + 3 + 3 * j + 1) = da at *
        have hA' : 1 ≤ da ∧ da ≤ 30 := by omega
        have hownd := own_but hwc.1 (by decide) hown1 hwd.2
        have hwd' : Went w g L A cap (k + 3 + 3 * j + 1 + 1) wd := ⟨hwd.1, hwc.2.trans hwd.2⟩
        clear hwc hwd hown1 hA
        go_wp2_with fail
        refine (pick_new _ _ g L A cap (k + 3 + 3 * j + 1 + 1) [0, 0, 1, 1, 2, -1, -1, -4, 6] hwd'.1 rfl (by omega) (by simp)).mono ?_
        rintro e we ⟨rfl, hwe⟩
        have hA := pk_mem [0, 0, 1, 1, 2, -1, -1, -4, 6] L (k + 3 + 3 * j + 1 + 1) (by simp)
        simp only [List.mem_cons, List.not_mem_nil, or_false] at hA
        generalize pk [0, 0, 1, 1, 2, -1, -1, -4, 6] L (k + 3 + 3 * j + 1 + 1) = db at *
        have hB' : -4 ≤ db ∧ db ≤ 6 := by omega
        have howne := own_but hwd'.1 (by decide) hownd hwe.2
        have hwe' : Went w g L A cap (k + 3 + 3 * (j + 1)) we := ⟨hwe.1, hwd'.2.trans hwe.2⟩
        clear hwd' hwe hownd hA
        go_wp2_with fail
        go_roundw
        case rel => exact ⟨j + 1, xs ++ [⟨t, vv, q⟩], t + da, vv + db, by omega, by go_num, rfl, rfl, by omega, by omega, by rw [List.length_append, HXL.out]; rfl, HNR1.out, howne, hwe'⟩
        case measure => simp [intOf]; omega
    · obtain rfl : j = N := by omega
      have hlong : xs.length ≤ most := by rw [HXL.out]; exact hN
      by_cases hj0 : j = 0
      · subst hj0
        obtain rfl : xs = [] := List.eq_nil_of_length_eq_zero HXL.out
        rcases hown.2 with ⟨rfl, _⟩ | ⟨g', cap', cur, rfl, _, _⟩
        · go_wp2_with fail
          go_ret
          exact ⟨_, rfl, [], _, hown, by simp, HNR.out.mono (by omega), by omega, hwr⟩
        · go_wp2_with fail
          go_ret
          exact ⟨_, rfl, [], _, hown, by simp, HNR.out.mono (by omega), by omega, hwr⟩
      · obtain ⟨g1, cap1, rfl, hg1, hc1, hc2⟩ := own_form hown (by omega)
        have hj1 : 0 < j := by omega
        clear hj0
        go_wp2_with fail
        refine (flip_went _ g L A cap _ 12 hwr.1 (by omega) (by omega)).mono ?_
        rintro e w4 ⟨rfl, hw4, hz4⟩; clear hz4
        have hown4 := own_but hwr.1 (by decide) hown hw4.2
        have hw4' : Went w g L A cap (k + 3 + 3 * j + 1) w4 := ⟨hw4.1, hwr.2.trans hw4.2⟩
        clear hown hwr hw4
        by_cases hF : nxt L (k + 3 + 3 * j) 12 = 0
        · have hF' : (nxt L (k + 3 + 3 * j) 12 == 0) = true := by simpa using hF
          clear hF
          have hr := nxt_range L (k + 3 + 3 * j + 1) j (by omega)
          go_wp2_with fail
          refine (next_went _ g L A cap (k + 3 + 3 * j + 1) j hw4'.1 (by omega) (by omega)).mono ?_
          rintro e w5 ⟨rfl, hw5, hz5⟩; clear hz5
          have hown5 := own_but hw4'.1 (by decide) hown4 hw5.2
          have hw5' : Went w g L A cap (k + 3 + 3 * j + 2) w5 := ⟨hw5.1, hw4'.2.trans hw5.2⟩
          clear hown4 hw4' hw5
          have hin : ∃ n : Nat, nxt L (k + 3 + 3 * j + 1) j = (n : Int) ∧ n < j := ⟨(nxt L (k + 3 + 3 * j + 1) j).toNat, by omega, by omega⟩
          obtain ⟨n, hnx, hnj⟩ := hin
          generalize nxt L (k + 3 + 3 * j + 1) j = nn at *
          subst hnx
          go_wp2_with fail
          refine (next_went _ g L A cap (k + 3 + 3 * j + 2) 3 hw5'.1 (by omega) (by omega)).mono ?_
          rintro e w6 ⟨rfl, hw6, hz6⟩; clear hz6
          have hown6 := own_but hw5'.1 (by decide) hown5 hw6.2
          have hw6' : Went w g L A cap (k + 3 + 3 * j + 3) w6 := ⟨hw6.1, hw5'.2.trans hw6.2⟩
          clear hown5 hw5' hw6 hr
          have hr := nxt_range L (k + 3 + 3 * j + 2) 3 (by omega)
          generalize nxt L (k + 3 + 3 * j + 2) 3 = way at *
          obtain ⟨c0, c1, c2⟩ := own_cells hown6 HXL.out n hnj
          have hnx := HNR.out.at_ n (by rw [HXL.out]; exact hnj)
          rw [atS_eq xs n (by rw [HXL.out]; exact hnj)] at c0 c1 c2
          have hst : ∀ (w' : World) (r : Int), w'.ownsRow w.heap.size 57 3 (.slice (some ⟨g1, 0, none⟩) j cap1) j (cellsOf xs) →
              (w'.setCell ⟨g1, n * 3, none⟩ (.int .i64 r)).ownsRow w.heap.size 57 3 (.slice (some ⟨g1, 0, none⟩) j cap1) j (cellsOf (xs.set n ⟨r, (atS xs n).v, (atS xs n).q⟩)) ∧
              (w'.setCell ⟨g1, n * 3 + 1, none⟩ (.int .i64 r)).ownsRow w.heap.size 57 3 (.slice (some ⟨g1, 0, none⟩) j cap1) j (cellsOf (xs.set n ⟨(atS xs n).t, r, (atS xs n).q⟩)) ∧
              (w'.setCell ⟨g1, n * 3 + 2, none⟩ (.int .i64 r)).ownsRow w.heap.size 57 3 (.slice (some ⟨g1, 0, none⟩) j cap1) j (cellsOf (xs.set n ⟨(atS xs n).t, (atS xs n).v, r⟩)) := fun w' r h => by
            have hnl : n < xs.length := by rw [HXL.out]; exact hnj
            rw [← cellsOf_setT xs n hnl, ← cellsOf_setV xs n hnl, ← cellsOf_setQ xs n hnl]
            exact ⟨(h.stored _ _).1, (h.stored _ _).1, (h.stored _ _).1⟩
          generalize hx : atS xs n = x at *
          have HX := Lib.hid hx
          have HST := Lib.hid hst
          clear hst hx
          have i1 : (0 : Int) ≤ (n : Int) := by omega
          have i2 : (n : Int) < (j : Int) := by omega
          by_cases h0 : way = 0
          · subst h0
            have hs1 : IntKind.i64.wrap (x.t - 40) = x.t - 40 := IntWalk.i64_in _ (by omega)
            have hs2 : IntKind.i64.wrap (x.t + 3) = x.t + 3 := IntWalk.i64_in _ (by omega)
            have f0 := hown6.frozenAt (n * 3)
            go_wp2_with fail
            go_region_with (first | (go_at_call 63; refine (pick_new w6.drew w6.heap.size g L A cap (k + 3 + 3 * j + 3) [x.t - 40, -1, 345686400000, x.t + 3] hw6'.1.drew rfl (by omega) (by simp)).mono ?_; rintro e w7 ⟨rfl, hw7⟩; have hown7 := own_but hw6'.1.drew (by decide) hown6 hw7.2; have d0 : w7.cell? ⟨g1, n * 3, none⟩ = some (.int .i64 x.t) := (by have h := (own_cells hown7 HXL.out n hnj).1; rw [atS_eq xs n (by rw [HXL.out]; exact hnj), HX.out] at h; exact h); have f7 := hown7.frozenAt (n * 3)))
            all_goals
              have hpm := pk_mem [x.t - 40, -1, 345686400000, x.t + 3] L (k + 3 + 3 * j + 3) (by simp)
              simp only [List.mem_cons, List.not_mem_nil, or_false] at hpm
              generalize pk [x.t - 40, -1, 345686400000, x.t + 3] L (k + 3 + 3 * j + 3) = r at *
              have hrr : -2000000000000 ≤ r ∧ r ≤ 2000000000000 := by omega
              have hw7' : Went w g L A cap (k + 3 + 3 * j + 3 + 1) w7 := ⟨hw7.1, hw6'.2.drew.trans hw7.2⟩
              go_wp2_with fail
              go_ret
              exact ⟨_, rfl, xs.set n ⟨r, x.v, x.q⟩, _, by rw [List.length_set, HXL.out]; exact (HST.out _ _ hown7).1, by rw [List.length_set]; exact hlong, HNR.out.set n _ ⟨by simp only; omega, by simp only; omega, by simp only; omega⟩ (by omega), by omega, hw7'.setAt hlt0 (by exact hg1) _⟩
          · have h0' : (way == 0) = false := by simpa using h0
            by_cases h1 : way = 1
            · subst h1
              go_wp2_with fail
              refine (odd_went _ g L A cap _ (-1000000) 1000000 hw6'.1 (by omega) (by omega) (by omega) (by omega)).mono ?_
              rintro e w7 ⟨r, rfl, hrr, hw7⟩
              have hown7 := own_but hw6'.1 (by decide) hown6 hw7.2
              have hw7' : Went w g L A cap (k + 3 + 3 * j + 3 + 2) w7 := ⟨hw7.1, hw6'.2.trans hw7.2⟩
              have f1 := hown7.frozenAt (n * 3 + 1)
              have d1 := (own_cells hown7 HXL.out n hnj).2.1
              clear hw7 hown6 hw6' c0 c1 c2
              go_wp2_with fail
              go_ret
              exact ⟨_, rfl, xs.set n ⟨x.t, r, x.q⟩, _, by rw [List.length_set, HXL.out]; exact (HST.out _ _ hown7).2.1, by rw [List.length_set]; exact hlong, HNR.out.set n _ ⟨by simp only; omega, by simp only; omega, by simp only; omega⟩ (by omega), by omega, hw7'.setAt hlt0 (by exact hg1) _⟩
            · have h1' : (way == 1) = false := by simpa using h1
              go_wp2_with fail
              refine (odd_went _ g L A cap _ 0 2 hw6'.1 (by omega) (by omega) (by omega) (by omega)).mono ?_
              rintro e w7 ⟨r, rfl, hrr, hw7⟩
              have hown7 := own_but hw6'.1 (by decide) hown6 hw7.2
              have hw7' : Went w g L A cap (k + 3 + 3 * j + 3 + 2) w7 := ⟨hw7.1, hw6'.2.trans hw7.2⟩
              have f2 := hown7.frozenAt (n * 3 + 2)
              have d2 := (own_cells hown7 HXL.out n hnj).2.2
              clear hw7 hown6 hw6' c0 c1 c2
              go_wp2_with fail
              go_ret
              exact ⟨_, rfl, xs.set n ⟨x.t, x.v, r⟩, _, by rw [List.length_set, HXL.out]; exact (HST.out _ _ hown7).2.2, by rw [List.length_set]; exact hlong, HNR.out.set n _ ⟨by simp only; omega, by simp only; omega, by simp only; omega⟩ (by omega), by omega, hw7'.setAt hlt0 (by exact hg1) _⟩
        · have hF' : (nxt L (k + 3 + 3 * j) 12 == 0) = false := by simpa using hF
          clear hF
          go_wp2_with fail
          go_ret
          exact ⟨_, rfl, xs, _, by rw [HXL.out]; exact hown4, hlong, HNR.out.mono (by omega), by omega, hw4'⟩
end Go.Proofs.Ytmcojidaimeijaa

/- The contract of RightCurve (package logmake): some right series; no more is asked of it. -/

namespace Go.Proofs.Ytmcojidaimeijaa
open Go.RowKit
set_option linter.unusedVariables false
set_option linter.unusedSimpArgs false

/-- What is made at last. -/
def RightEnd (w : World) (g : Nat) (L : List Int) (A : Option Addr) (cap k most : Nat) (v : Value) (w' : World) : Prop :=
  ∃ (l : List Smp) (k' : Nat), RdS w' 57 v l ∧ l.length ≤ most ∧ serErr l = 0 ∧ k' ≤ k + 6 * (10 + 3 * most) ∧ Went w g L A cap k' w'

set_option maxRecDepth 100000 in
set_option maxHeartbeats 4000000 in
theorem rightCurve_went (w : World) (g : Nat) (L : List Int) (A : Option Addr) (cap k most : Nat) (hS : Strm w g L A cap k) (hk : k ≤ 600000000) (hm : most ≤ 1000) :
    Calls Try.prog 12 #[.pointer (some ⟨g, 0, none⟩), .int .i64 (most : Int)] w fun e w' => ∃ v, e = .returned v ∧ RightEnd w g L A cap k most v w' := by
  have hlt0 := hS.lt
  go_enter Try.func12, Try.ntmps12
  go_wp2_with fail
  go_loopw [6] (fun i wr => ∃ (j : Nat) (k' : Nat), j ≤ 6 ∧ i = .int .i64 (j : Int) ∧ k' ≤ k + j * (10 + 3 * most) ∧ Went w g L A cap k' wr) (fun i _ => 6 - (intOf i).toNat)
  case atStart => exact ⟨0, k, by omega, rfl, by omega, hS, But.refl _ _⟩
  case round =>
    obtain ⟨j, k', hj, rfl, hk', hw⟩ := hrel
    have hbound : j * (10 + 3 * most) ≤ 6 * (10 + 3 * most) := Nat.mul_le_mul_right _ hj
    by_cases hlt : j < 6
    · have hnext : (j + 1) * (10 + 3 * most) = j * (10 + 3 * most) + (10 + 3 * most) := by rw [Nat.add_mul, Nat.one_mul]
      have hcall := curve_went wr g L A cap k' most hw.1 (by omega) hm
      have HC := Lib.hid hcall
      have HW := Lib.hid hw
      have HN := Lib.hid hnext
      have HX := Lib.hid (show (j + 1) * (10 + 3 * most) ≤ 6 * (10 + 3 * most) from Nat.mul_le_mul_right _ hlt)
      clear hcall hw hnext
      go_wp2_with fail
      refine HC.out.mono ?_
      rintro e w1 ⟨v, rfl, l, k1, hown, hlen, _, hk1, hw1⟩
      have hrd : RdS w1 57 v l := Rd.of_own hown
      obtain ⟨pv, cv, rfl⟩ := hrd.lenv
      have HW1 := Lib.hid (show Went w g L A cap k1 w1 from ⟨hw1.1, HW.out.2.trans hw1.2⟩)
      have HRD := Lib.hid hrd
      clear hown hw1 hrd
      go_wp2_with fail
      refine (seriesFault_any (.slice pv l.length cv) l _ HRD.out).mono ?_
      rintro e w2 ⟨rfl, hb2⟩
      have hsz := hb2.size
      have HW2 := Lib.hid (show Went w g L A cap k1 w2 from ⟨HW1.out.1.below hb2 HW1.out.1.lt, HW1.out.2.below hb2⟩)
      have HR2 := Lib.hid (Rd.below HRD.out hb2)
      clear hb2
      by_cases hE : serErr l = 0
      · have hE' : (serErr l == 0) = true := by simpa using hE
        have HE := Lib.hid hE
        clear hE
        go_wp2_with fail
        go_ret
        exact ⟨_, rfl, l, k1, HR2.out, hlen, HE.out, by have := HN.out; have := HX.out; omega, HW2.out⟩
      · have hE' : (serErr l == 0) = false := by simpa using hE
        clear hE
        go_wp2_with fail
        go_roundw
        case rel => exact ⟨j + 1, k1, by omega, by go_num, by rw [HN.out]; omega, HW2.out⟩
        case measure => simp [intOf]; omega
    · obtain rfl : j = 6 := by omega
      go_wp2_with fail
      go_ret
      exact ⟨_, rfl, [], k', Rd.nil _ _ _, by simp, rfl, by omega, hw⟩
end Go.Proofs.Ytmcojidaimeijaa

/- CompressedFits returns true, for every stream. -/

namespace Go.Proofs.Ytmcojidaimeijaa
open Go.RowKit
set_option linter.unusedVariables false
set_option linter.unusedSimpArgs false

/-- What lies in the loop. -/
structure CfW (w0 : World) (n : Nat) (d m : Int) (v vx vm : Value) (l : List Smp) (X M : List Int) (W : World) : Prop where
  db : Blk W n 50 #[.int .i64 d, .int .i64 m]
  rs : RdS W 57 v l
  rx : RdI W vx X
  rm : RdI W vm M
  lo : Below w0.heap.size w0 W
section
variable {w0 W W' : World} {n : Nat} {d m : Int} {v vx vm : Value} {l : List Smp} {X M : List Int}
theorem CfW.step (h : CfW w0 n d m v vx vm l X M W) (hb : Below W.heap.size W W') : CfW w0 n d m v vx vm l X M W' :=
  ⟨h.db.below hb h.db.lt, Rd.below h.rs hb, Rd.below h.rx hb, Rd.below h.rm hb, h.lo.trans (hb.mono h.lo.size)⟩
theorem CfW.alloc (h : CfW w0 n d m v vx vm l X M W) (o : Obj) : CfW w0 n d m v vx vm l X M (W.alloc o) := h.step ((Below.refl _ W).alloc (Nat.le_refl _) o)
end

set_option maxRecDepth 100000 in
set_option maxHeartbeats 4000000 in
theorem compressedFits_walk (w : World) (L : List Int) (A : Option Addr) (cap : Nat) (hc : ∀ i, i < L.length → ∃ ad : Addr, A = some ad ∧ ad.block < w.heap.size ∧ w.cell? (ad.add i) = some (.int .i64 (L.getD i 0)))
    (hl : L.length ≤ 9223372036854775807) (hwf : ∀ i, -9223372036854775808 ≤ L.getD i 0 ∧ L.getD i 0 ≤ 9223372036854775807) :
    Calls Try.prog 9 #[.slice A L.length cap] w fun e w' => e = .returned (.bool true) ∧ Below w.heap.size w w' := by
  have hS0 : Strm (w.alloc (.cells #[.slice A L.length cap, .int .i64 0] 25)) w.heap.size L A cap 0 :=
    ⟨heap_alloc_new w _, fun i hi => by
      obtain ⟨ad, e, hb, hcell⟩ := hc i hi
      exact ⟨ad, e, hb, by rw [World.cell?_alloc_lt _ _ _ (by rw [addr_add_block]; exact hb)]; exact hcell⟩, hl, hwf⟩
  have HS0 := Lib.hid hS0
  have HR := Lib.hid (fun W => ready_any W)
  clear hS0 hc hwf
  go_enter Try.func9, Try.ntmps9
  go_wp2_with fail
  refine (doorOf_went _ w.heap.size L A cap 0 HS0.out (by omega)).mono ?_
  rintro e w1 ⟨d, m, k0, rfl, hdr, hmr, hk0, hw1⟩
  go_wp2_with fail
  refine (rightCurve_went _ w.heap.size L A cap k0 14 hw1.1 (by omega) (by omega)).mono ?_
  rintro e w2 ⟨v, rfl, l, k1, hrd, hlen, hser, hk1, hw2⟩
  have hb2 := hw1.2.trans hw2.2
  have hlow : Below w.heap.size w w2 := ((Below.refl _ w).alloc (Nat.le_refl _) _).trans ⟨hb2.os, hb2.tape, hb2.output, hb2.size, fun i hi => hb2.block i (by simp; omega) (by omega)⟩
  obtain ⟨pa, ca, rfl⟩ := hrd.lenv
  have hdb := Blk.new w2 50 #[.int .i64 d, .int .i64 m]
  have hlow3 := hlow.alloc hlow.size (.cells #[.int .i64 d, .int .i64 m] 50)
  have hrd3 : RdS (w2.alloc (.cells #[.int .i64 d, .int .i64 m] 50)) 57 (.slice pa l.length ca) l := Rd.alloc hrd _
  clear hrd hw1 hw2 hb2 hk1 hlow hk0
  go_upto_region 3 with fail
  generalize w2.alloc (.cells #[.int .i64 d, .int .i64 m] 50) = w3 at *
  generalize w2.heap.size = n at *
  have e0 := hdb.cell 0
  have e1 := hdb.cell 1
  go_wp2_with fail
  refine (doorFault_any d m _).mono ?_
  rintro e w4 ⟨rfl, hb4⟩
  have hdb4 := hdb.below hb4 hdb.lt
  have hrd4 := Rd.below hrd3 hb4
  have hlow4 := hlow3.trans (hb4.mono hlow3.size)
  clear e0 e1 hdb hrd3 hlow3 hb4
  by_cases hD : doorErr d m = 0
  · have hD' : (doorErr d m != 0) = false := by simpa using hD
    have hok := doorErr_ok hD
    have hcE : cprE d m l = 0 := by unfold cprE erE; rw [hD, hser]; rfl
    have hcR : cprR d m l = compressed d m l := by unfold cprR; rw [if_pos hcE]
    have hmE : minE d m l = 0 := by unfold minE erE; rw [hD, hser, if_neg (by simp), if_neg (by omega)]
    have hmin := min_good (d := d) (m := m) hser hmE
    have hck := cmp_kept (d := d) (m := m) hser
    have hcf := comp_fits d m l
    have hxl : (compressed d m l).length ≤ l.length := (kept_good hck).2.2.2.1
    have HC := Lib.hid (fun W (h : RdS W 57 (.slice pa l.length ca) l) => compress_any d m (.slice pa l.length ca) l W h)
    have HM := Lib.hid (fun W (h : RdS W 57 (.slice pa l.length ca) l) => minimum_any d m (.slice pa l.length ca) l W h (fun W h hf hl hd => shortest_any d m (.slice pa l.length ca) l W h hf hl hd))
    rw [hcE, hcR] at HC
    rw [hmE] at HM
    have HFT := Lib.hid (fun (vk : Value) (ks : List Int) (hK : keptErr l ks = 0) (hf : fitsB d m l ks = true) W (h : RdS W 57 (.slice pa l.length ca) l) (hk : RdI W vk ks) (hkl : ks.length ≤ 100000) =>
      (show Calls Try.prog 40 #[.agg #[.int .i64 d, .int .i64 m], .slice pa l.length ca, vk] W fun e w' => e = .returned (.tuple #[.bool true, .int .i64 0]) ∧ Below W.heap.size W w' by
        have h1 := fits_any d m (.slice pa l.length ca) vk l ks W h hk hkl
        have h2 : fitE d m l ks = 0 := by unfold fitE erE; rw [hD, hK]; rfl
        have h3 : fitR d m l ks = true := by unfold fitR; rw [if_pos h2, hf]
        rw [h2, h3] at h1
        exact h1))
    have HER := Lib.hid (fun (ks : List Int) (hK : keptErr l ks = 0) (hf : fitsB d m l ks = true) (hE : errE l ks = 0) => err_fits hok.1.1 hK hf hE)
    generalize compressed d m l = X at *
    generalize minR d m l = M at *
    generalize doorErr d m = DE at *
    obtain ⟨hm1, hm2, hm3⟩ := hmin
    have HKX := Lib.hid hck
    have HKM := Lib.hid hm1
    have HFX := Lib.hid hcf
    have HFM := Lib.hid hm2
    have e0 := hdb4.cell 0
    have e1 := hdb4.cell 1
    clear hcE hcR hmE hD hck hcf hm1 hm2
    go_wp2_with fail
    refine (HC.out _ hrd4).mono ?_
    rintro e w5 ⟨vx, rfl, hrx, hb5⟩
    have hdb5 := hdb4.below hb5 hdb4.lt
    have hrd5 := Rd.below hrd4 hb5
    have hlow5 := hlow4.trans (hb5.mono hlow4.size)
    clear e0 e1 hdb4 hrd4 hlow4 hb5
    have e0 := hdb5.cell 0
    have e1 := hdb5.cell 1
    go_wp2_with fail
    refine (HM.out _ hrd5).mono ?_
    rintro e w6 ⟨vm, rfl, hrm, hb6⟩
    obtain ⟨px, cx, rfl⟩ := hrx.lenv
    obtain ⟨pm, cm, rfl⟩ := hrm.lenv
    have hk6 : CfW w n d m (.slice pa l.length ca) (.slice px X.length cx) (.slice pm M.length cm) l X M w6 := ⟨hdb5.below hb6 hdb5.lt, Rd.below hrd5 hb6, Rd.below hrx hb6, hrm, hlow5.trans (hb6.mono hlow5.size)⟩
    have hml : M.length ≤ X.length := hm3
    have hgd : decide ((X.length : Int) < (M.length : Int)) = false := decide_eq_false (by omega)
    have hgn : decide (X.length < M.length) = false := decide_eq_false (by omega)
    clear e0 e1 hdb5 hrd5 hrx hrm hlow5 hb6 HC HM hm3
    go_upto_region 10 with fail
    have hbs := Blk.new w6 22 #[.slice px X.length cx, .slice pm M.length cm]
    have hk7 := hk6.alloc (.cells #[.slice px X.length cx, .slice pm M.length cm] 22)
    generalize w6.alloc (.cells #[.slice px X.length cx, .slice pm M.length cm] 22) = w7 at *
    generalize w6.heap.size = B at *
    clear hk6
    go_loopw [57] (fun i wr => ∃ j : Nat, j ≤ 2 ∧ i = .int .i64 (j : Int) ∧ Blk wr B 22 #[.slice px X.length cx, .slice pm M.length cm] ∧ CfW w n d m (.slice pa l.length ca) (.slice px X.length cx) (.slice pm M.length cm) l X M wr) (fun i _ => 2 - (intOf i).toNat)
    case atStart => exact ⟨0, by omega, rfl, hbs, hk7⟩
    case round =>
      clear hbs hk7
      obtain ⟨j, hj, rfl, hbs, hk⟩ := hrel
      by_cases hlt : j < 2
      · obtain ⟨pk, ck, ks, hcell, hrk, hkl, hKE, hKF⟩ : ∃ pk ck ks, wr.cell? ⟨B, j, none⟩ = some (.slice pk ks.length ck) ∧ RdI wr (.slice pk ks.length ck) ks ∧ ks.length ≤ 100000 ∧ keptErr l ks = 0 ∧ fitsB d m l ks = true := by
          rcases Nat.lt_or_ge 0 j with h | h
          · obtain rfl : j = 1 := by omega
            exact ⟨pm, cm, M, hbs.cell 1, hk.rm, by omega, HKM.out, HFM.out⟩
          · obtain rfl : j = 0 := by omega
            exact ⟨px, cx, X, hbs.cell 0, hk.rx, by omega, HKX.out, HFX.out⟩
        have HF1 := Lib.hid (HFT.out (.slice pk ks.length ck) ks hKE hKF)
        have HE1 := Lib.hid (HER.out ks hKE hKF)
        have HE2 := Lib.hid (fun W (h : RdS W 57 (.slice pa l.length ca) l) (hk : RdI W (.slice pk ks.length ck) ks) => error_any (.slice pa l.length ca) (.slice pk ks.length ck) l ks W h hk hkl)
        have e0 := hk.db.cell 0
        have e1 := hk.db.cell 1
        have HBS := Lib.hid hbs
        clear hbs hKE hKF
        go_wp2_with fail
        refine (HF1.out _ hk.rs hrk hkl).mono ?_
        rintro e w8 ⟨rfl, hb8⟩
        have hk8 := hk.step hb8
        have hrk8 : RdI w8 _ ks := Rd.below hrk hb8
        have hbs8 := HBS.out.below hb8 HBS.out.lt
        clear e0 e1 hcell hk hrk hb8 HBS HF1
        go_wp2_with fail
        refine (HE2.out _ hk8.rs hrk8).mono ?_
        rintro e w9 ⟨rfl, hb9⟩
        have hk9 := (hk8.step hb9).alloc (.cells #[.int .i64 (errF l ks).1, .int .i64 (errF l ks).2] 35)
        have hbs9 := (hbs8.below hb9 hbs8.lt).alloc (.cells #[.int .i64 (errF l ks).1, .int .i64 (errF l ks).2] 35)
        have hfb := Blk.new w9 35 #[.int .i64 (errF l ks).1, .int .i64 (errF l ks).2]
        clear hk8 hrk8 hbs8 hb9 HE2
        go_upto_region 16 with fail
        generalize errF l ks = F at *
        generalize errI l ks = FI at *
        obtain ⟨f1, f2⟩ := F
        simp only at hfb hk9 hbs9 HE1
        generalize w9.alloc (.cells #[.int .i64 f1, .int .i64 f2] 35) = wa at *
        generalize w9.heap.size = Q at *
        have q0 := hfb.cell 0
        have q1 := hfb.cell 1
        have e0 := hk9.db.cell 0
        by_cases hE : errE l ks = 0
        · have hE' : (errE l ks == 0) = true := by simpa using hE
          obtain ⟨h1, h2⟩ := HE1.out hE
          obtain ⟨P, hP⟩ : ∃ P, P = d * f2 := ⟨_, rfl⟩
          have hmul : d * f2 ≤ 2000000 * f2 := Int.mul_le_mul_of_nonneg_right hok.1.2 (by omega)
          have hmul0 : 0 ≤ d * f2 := Int.mul_nonneg hok.1.1 (by omega)
          have hw : IntKind.i64.wrap (d * f2) = P := by rw [hP]; exact IntWalk.i64_in _ (by omega)
          rw [← hP] at h1
          have hdg : decide (P < f1) = false := decide_eq_false (by omega)
          have HBS := Lib.hid hbs9
          have HK := Lib.hid hk9
          clear hE hP hmul hmul0 hfb hbs9 hk9 HE1
          generalize errE l ks = EE at *
          go_wp2_with fail
          go_roundw
          case rel => exact ⟨j + 1, by omega, by go_num, HBS.out, HK.out⟩
          case measure => simp [intOf]; omega
        · have hE' : (errE l ks == 0) = false := by simpa using hE
          have HBS := Lib.hid hbs9
          have HK := Lib.hid hk9
          clear hE hfb hbs9 hk9 HE1
          generalize errE l ks = EE at *
          go_wp2_with fail
          go_roundw
          case rel => exact ⟨j + 1, by omega, by go_num, HBS.out, HK.out⟩
          case measure => simp [intOf]; omega
      · obtain rfl : j = 2 := by omega
        have hlo := hk.lo
        clear hk hbs
        go_wp2_with fail
        refine (HR.out _).mono ?_
        rintro e w8 ⟨rfl, hb8⟩
        go_wp2_with fail
        go_ret
        exact ⟨rfl, hlo.trans (hb8.mono hlo.size)⟩
  · have hD' : (doorErr d m != 0) = true := by simpa using hD
    generalize doorErr d m = DE at *
    clear hD
    go_wp2_with fail
    refine (HR.out _).mono ?_
    rintro e w6 ⟨rfl, hb6⟩
    go_wp2_with fail
    go_ret
    exact ⟨rfl, hlow4.trans (hb6.mono hlow4.size)⟩
end Go.Proofs.Ytmcojidaimeijaa
