import Derived.Test.YtmcojidaimeijaaBs02
import Derived.Test.YtmcojidaimeijaaAt
import Derived.Deep.RegionHeld3
import Derived.Test.YtmcojidaimeijaaSer
import Derived.Test.YtmcojidaimeijaaBs01
import Derived.Test.YtmcojidaimeijaaPressed
/- The contract of Curve (package logmake): it makes some samples, whose numbers are small; no more is asked of it. -/

namespace Go.Proofs.Ytmcojidaimeijaa
open Go.RowKit
set_option linter.unusedVariables false
set_option linter.unusedSimpArgs false

/-- The numbers of the samples are small. -/
def NearB (B : Int) (l : List Smp) : Prop := ∀ x ∈ l, (-B ≤ x.t ∧ x.t ≤ B) ∧ (-B ≤ x.v ∧ x.v ≤ B) ∧ (-B ≤ x.q ∧ x.q ≤ B)
def Near (l : List Smp) : Prop := NearB 2000000000000 l
theorem NearB.at_ {B : Int} {l : List Smp} (h : NearB B l) (i : Nat) (hi : i < l.length) : (-B ≤ (atS l i).t ∧ (atS l i).t ≤ B) ∧ (-B ≤ (atS l i).v ∧ (atS l i).v ≤ B) ∧ (-B ≤ (atS l i).q ∧ (atS l i).q ≤ B) := by
  rw [← atS_eq l i hi]; exact h _ (List.getElem_mem hi)
theorem Near.fit {l : List Smp} (h : Near l) : Fit l := fun i hi => by
  have := NearB.at_ h i hi
  omega
theorem NearB.mono {B C : Int} {l : List Smp} (h : NearB B l) (hBC : B ≤ C) : NearB C l := fun x hx => by have := h x hx; omega
theorem NearB.snoc {B : Int} {l : List Smp} (h : NearB B l) (x : Smp) (hx : (-B ≤ x.t ∧ x.t ≤ B) ∧ (-B ≤ x.v ∧ x.v ≤ B) ∧ (-B ≤ x.q ∧ x.q ≤ B)) : NearB B (l ++ [x]) := by
  intro y hy
  rcases List.mem_append.1 hy with hy | hy
  · exact h y hy
  · simp at hy; subst hy; exact hx
theorem NearB.set {B : Int} {l : List Smp} (h : NearB B l) (i : Nat) (x : Smp) (hx : (-2000000000000 ≤ x.t ∧ x.t ≤ 2000000000000) ∧ (-2000000000000 ≤ x.v ∧ x.v ≤ 2000000000000) ∧ (-2000000000000 ≤ x.q ∧ x.q ≤ 2000000000000)) (hB : B ≤ 2000000000000) : Near (l.set i x) := by
  intro y hy
  rcases List.mem_or_eq_of_mem_set hy with hy | hy
  · have := h y hy; omega
  · subst hy; exact hx
theorem cellsOf_setT (l : List Smp) (i : Nat) (h : i < l.length) (r : Int) : (cellsOf l).set (i * 3) (.int .i64 r) = cellsOf (l.set i ⟨r, (atS l i).v, (atS l i).q⟩) := by
  induction l generalizing i with
  | nil => simp at h
  | cons x l ih =>
    cases i with
    | zero => simp [Smp.cells, atS]
    | succ i =>
      have := ih i (by simpa using h)
      have e1 : atS (x :: l) (i + 1) = atS l i := rfl
      simp only [List.set_cons_succ, cellsOf_cons, e1]
      rw [← this, show (i + 1) * 3 = i * 3 + 3 by omega]
      simp [Smp.cells]
theorem cellsOf_setV (l : List Smp) (i : Nat) (h : i < l.length) (r : Int) : (cellsOf l).set (i * 3 + 1) (.int .i64 r) = cellsOf (l.set i ⟨(atS l i).t, r, (atS l i).q⟩) := by
  induction l generalizing i with
  | nil => simp at h
  | cons x l ih =>
    cases i with
    | zero => simp [Smp.cells, atS]
    | succ i =>
      have := ih i (by simpa using h)
      have e1 : atS (x :: l) (i + 1) = atS l i := rfl
      simp only [List.set_cons_succ, cellsOf_cons, e1]
      rw [← this, show (i + 1) * 3 + 1 = i * 3 + 1 + 3 by omega]
      simp [Smp.cells]
theorem cellsOf_setQ (l : List Smp) (i : Nat) (h : i < l.length) (r : Int) : (cellsOf l).set (i * 3 + 2) (.int .i64 r) = cellsOf (l.set i ⟨(atS l i).t, (atS l i).v, r⟩) := by
  induction l generalizing i with
  | nil => simp at h
  | cons x l ih =>
    cases i with
    | zero => simp [Smp.cells, atS]
    | succ i =>
      have := ih i (by simpa using h)
      have e1 : atS (x :: l) (i + 1) = atS l i := rfl
      simp only [List.set_cons_succ, cellsOf_cons, e1]
      rw [← this, show (i + 1) * 3 + 2 = i * 3 + 2 + 3 by omega]
      simp [Smp.cells]

/-- What is made at last. -/
def CurveEnd (w : World) (g : Nat) (L : List Int) (A : Option Addr) (cap k most : Nat) (v : Value) (w' : World) : Prop :=
  ∃ l k', w'.ownsRow w.heap.size 57 3 v l.length (cellsOf l) ∧ l.length ≤ most ∧ Near l ∧ k' ≤ k + 10 + 3 * most ∧ Went w g L A cap k' w'
theorem Went.setAt {w w1 : World} {g : Nat} {L : List Int} {A : Option Addr} {cap k : Nat} (hw : Went w g L A cap k w1) (hg : g < w.heap.size) {p : Addr} (hp : w.heap.size ≤ p.block) (u : Value) : Went w g L A cap k (w1.setCell p u) :=
  hw.below hg ((Below.refl w.heap.size w1).setCell hp u)

set_option maxRecDepth 100000 in
set_option maxHeartbeats 4000000 in
theorem curve_went (w : World) (g : Nat) (L : List Int) (A : Option Addr) (cap k most : Nat) (hS : Strm w g L A cap k) (hk : k ≤ 700000000) (hm : most ≤ 1000) :
    Calls Try.prog 49 #[.pointer (some ⟨g, 0, none⟩), .int .i64 (most : Int)] w fun e w' => ∃ v, e = .returned v ∧ CurveEnd w g L A cap k most v w' := by
  have hlt0 := hS.lt
  have hr := nxt_range L (k + 2) (most + 1) (by omega)
  have hn : (((nxt L (k + 2) (most + 1)).toNat : Nat) : Int) = 0 + nxt L (k + 2) ((most : Int) - 0 + 1) := by rw [show (most : Int) - 0 + 1 = (most : Int) + 1 from by omega]; omega
  have hN : (nxt L (k + 2) (most + 1)).toNat ≤ most := by omega
  generalize (nxt L (k + 2) (most + 1)).toNat = N at *
  have HN := Lib.hid hn
  clear hn hr
  go_enter Try.func49, Try.ntmps49
  go_wp2_with fail
  refine (pick_new _ _ g L A cap k [0, 0, 5, 40] hS rfl (by omega) (by simp)).mono ?_
  rintro e w1 ⟨rfl, hw1⟩
  have hT := pk_mem [0, 0, 5, 40] L k (by simp)
  simp only [List.mem_cons, List.not_mem_nil, or_false] at hT
  generalize pk [0, 0, 5, 40] L k = T at *
  have hT' : 0 ≤ T ∧ T ≤ 40 := by omega
  clear hT
  go_wp2_with fail
  refine (pick_new _ _ g L A cap (k + 1) [0, 5, 10, -3] hw1.1 rfl (by omega) (by simp)).mono ?_
  rintro e w2 ⟨rfl, hw2⟩
  have hV := pk_mem [0, 5, 10, -3] L (k + 1) (by simp)
  simp only [List.mem_cons, List.not_mem_nil, or_false] at hV
  generalize pk [0, 5, 10, -3] L (k + 1) = V at *
  have hV' : -3 ≤ V ∧ V ≤ 10 := by omega
  clear hV
  have hw2' : Went w g L A cap (k + 2) w2 := ⟨hw2.1, hw1.2.trans hw2.2⟩
  clear hw1 hw2
  go_wp2_with fail
  refine (range_went _ g L A cap (k + 2) 0 most hw2'.1 (by omega) (by omega) (by omega) (by omega)).mono ?_
  rintro e w3 ⟨rfl, hw3, hz3⟩
  rw [← HN.out]
  have hg3 : Went w g L A cap (k + 3 + 3 * 0) w3 := ⟨hw3.1, hw2'.2.trans hw3.2⟩
  clear hw2' hw3 hz3 HN
  go_wp2_with fail
  go_loopw [5, 6, 7, 19] (fun o st sv i wr => ∃ (j : Nat) (xs : List Smp) (t vv : Int), j ≤ N ∧ i = .int .i64 (j : Int) ∧ st = .int .i64 t ∧ sv = .int .i64 vv ∧ (0 ≤ t ∧ t ≤ 40 + 30 * (j : Int)) ∧ (-3 - 6 * (j : Int) ≤ vv ∧ vv ≤ 10 + 6 * (j : Int)) ∧ xs.length = j ∧ NearB 1000000000000 xs ∧ wr.ownsRow w.heap.size 57 3 o j (cellsOf xs) ∧ Went w g L A cap (k + 3 + 3 * j) wr)
    (fun _ _ _ i _ => N - (intOf i).toNat)
  case atStart => exact ⟨0, [], T, V, by omega, rfl, rfl, rfl, by omega, by omega, rfl, by intro x hx; simp at hx, World.ownsRow_nil _ _ _ _, hg3⟩
  case round =>
    obtain ⟨j, xs, t, vv, hj, rfl, rfl, rfl, ht, hv, hxl, hnear, hown, hwr⟩ := hrel
    have HXL := Lib.hid hxl
    have HNR := Lib.hid hnear
    clear hxl hnear
    have hszr := hwr.2.size
    by_cases hlt : j < N
    · go_wp2_with fail
      refine (pick_new _ _ g L A cap (k + 3 + 3 * j) [0, 0, 0, 0, 0, 1, 2] hwr.1 rfl (by omega) (by simp)).mono ?_
      rintro e wa ⟨rfl, hwa⟩
      have hQ := pk_mem [0, 0, 0, 0, 0, 1, 2] L (k + 3 + 3 * j) (by simp)
      simp only [List.mem_cons, List.not_mem_nil, or_false] at hQ
      generalize pk [0, 0, 0, 0, 0, 1, 2] L (k + 3 + 3 * j) = q at *
      have hQ' : 0 ≤ q ∧ q ≤ 2 := by omega
      have howna : wa.ownsRow w.heap.size 57 3 u5 j (cellsOf xs) := own_but hwr.1 (by decide) hown hwa.2
      have hwa' : Went w g L A cap (k + 3 + 3 * j + 1) wa := ⟨hwa.1, hwr.2.trans hwa.2⟩
      have hsza := hwa'.2.size
      clear hwa hown hwr hQ
      by_cases hq : q = 2
      · subst hq
        go_wp2_with (at_builtin; go_loud (refine wpList_append_smp rfl (.tmp 31) (.tmp 33) rfl w.heap.size u5 j xs rfl (by exact (howna.alloc _).alloc _) (wa.heap.size + 1) rfl ⟨t, 0, 2⟩ (by exact Blk.new1 _ _ _ _) (by omega) (by simp; omega) ?_); intro v1 wc hown1 hgrow1)
        have hwc : Went w g L A cap (k + 3 + 3 * j + 1) wc := hwa'.below hlt0 ((((Below.refl _ wa).alloc hsza _).alloc (by simp; omega) _).trans (below_grown ((howna.alloc _).alloc _) (by simp; omega) hgrow1))
        clear howna hgrow1 hwa'
        have hnr := HNR.out.snoc ⟨t, 0, 2⟩ ⟨by simp only; omega, by simp only; omega, by simp only; omega⟩
        have HNR1 := Lib.hid hnr
        clear hnr
        refine (pick_new _ _ g L A cap (k + 3 + 3 * j + 1) [1, 1, 2, 5, 10, 30] hwc.1 rfl (by omega) (by simp)).mono ?_
        rintro e wd ⟨rfl, hwd⟩
        have hA := pk_mem [1, 1, 2, 5, 10, 30] L (k + 3 + 3 * j + 1) (by simp)
        simp only [List.mem_cons, List.not_mem_nil, or_false] at hA
        generalize pk [1, 1, 2, 5, 10, 30] L (k + 3 + 3 * j + 1) = da at *
        have hA' : 1 ≤ da ∧ da ≤ 30 := by omega
        have hownd := own_but hwc.1 (by decide) hown1 hwd.2
        have hwd' : Went w g L A cap (k + 3 + 3 * j + 1 + 1) wd := ⟨hwd.1, hwc.2.trans hwd.2⟩
        clear hwc hwd hown1 hA
        go_wp2_with fail
        refine (pick_new _ _ g L A cap (k + 3 + 3 * j + 1 + 1) [0, 0, 1, 1, 2, -1, -1, -4, 6] hwd'.1 rfl (by omega) (by simp)).mono ?_
        rintro e we ⟨rfl, hwe⟩
        have hA := pk_mem [0, 0, 1, 1, 2, -1, -1, -4, 6] L (k + 3 + 3 * j + 1 + 1) (by simp)
        simp only [List.mem_cons, List.not_mem_nil, or_false] at hA
        generalize pk [0, 0, 1, 1, 2, -1, -1, -4, 6] L (k + 3 + 3 * j + 1 + 1) = db at *
        have hB' : -4 ≤ db ∧ db ≤ 6 := by omega
        have howne := own_but hwd'.1 (by decide) hownd hwe.2
        have hwe' : Went w g L A cap (k + 3 + 3 * (j + 1)) we := ⟨hwe.1, hwd'.2.trans hwe.2⟩
        clear hwd' hwe hownd hA
        go_wp2_with fail
        go_roundw
        case rel => exact ⟨j + 1, xs ++ [⟨t, 0, 2⟩], t + da, vv + db, by omega, by go_num, rfl, rfl, by omega, by omega, by rw [List.length_append, HXL.out]; rfl, HNR1.out, howne, hwe'⟩
        case measure => simp [intOf]; omega
      · have hq' : (q == 2) = false := by simpa using hq
        clear hq
        go_wp2_with (at_builtin; go_loud (refine wpList_append_smp rfl (.tmp 31) (.tmp 33) rfl w.heap.size u5 j xs rfl (by exact (howna.alloc _).alloc _) (wa.heap.size + 1) rfl ⟨t, vv, q⟩ (by exact Blk.new1 _ _ _ _) (by omega) (by simp; omega) ?_); intro v1 wc hown1 hgrow1)
        have hwc : Went w g L A cap (k + 3 + 3 * j + 1) wc := hwa'.below hlt0 ((((Below.refl _ wa).alloc hsza _).alloc (by simp; omega) _).trans (below_grown ((howna.alloc _).alloc _) (by simp; omega) hgrow1))
        clear howna hgrow1 hwa'
        have hnr := HNR.out.snoc ⟨t, vv, q⟩ ⟨by simp only; omega, by simp only; omega, by simp only; omega⟩
        have HNR1 := Lib.hid hnr
        clear hnr
        refine (pick_new _ _ g L A cap (k + 3 + 3 * j + 1) [1, 1, 2, 5, 10, 30] hwc.1 rfl (by omega) (by simp)).mono ?_
        rintro e wd ⟨rfl, hwd⟩
        have hA := pk_mem [1, 1, 2, 5, 10, 30] L (k + 3 + 3 * j + 1) (by simp)
        simp only [List.mem_cons, List.not_mem_nil, or_false] at hA
        generalize pk [1, 1, 2, 5, 10, 30] L (k + 3 + 3 * j + 1) = da at *
        have hA' : 1 ≤ da ∧ da ≤ 30 := by omega
        have hownd := own_but hwc.1 (by decide) hown1 hwd.2
        have hwd' : Went w g L A cap (k + 3 + 3 * j + 1 + 1) wd := ⟨hwd.1, hwc.2.trans hwd.2⟩
        clear hwc hwd hown1 hA
        go_wp2_with fail
        refine (pick_new _ _ g L A cap (k + 3 + 3 * j + 1 + 1) [0, 0, 1, 1, 2, -1, -1, -4, 6] hwd'.1 rfl (by omega) (by simp)).mono ?_
        rintro e we ⟨rfl, hwe⟩
        have hA := pk_mem [0, 0, 1, 1, 2, -1, -1, -4, 6] L (k + 3 + 3 * j + 1 + 1) (by simp)
        simp only [List.mem_cons, List.not_mem_nil, or_false] at hA
        generalize pk [0, 0, 1, 1, 2, -1, -1, -4, 6] L (k + 3 + 3 * j + 1 + 1) = db at *
        have hB' : -4 ≤ db ∧ db ≤ 6 := by omega
        have howne := own_but hwd'.1 (by decide) hownd hwe.2
        have hwe' : Went w g L A cap (k + 3 + 3 * (j + 1)) we := ⟨hwe.1, hwd'.2.trans hwe.2⟩
        clear hwd' hwe hownd hA
        go_wp2_with fail
        go_roundw
        case rel => exact ⟨j + 1, xs ++ [⟨t, vv, q⟩], t + da, vv + db, by omega, by go_num, rfl, rfl, by omega, by omega, by rw [List.length_append, HXL.out]; rfl, HNR1.out, howne, hwe'⟩
        case measure => simp [intOf]; omega
    · obtain rfl : j = N := by omega
      have hlong : xs.length ≤ most := by rw [HXL.out]; exact hN
      by_cases hj0 : j = 0
      · subst hj0
        obtain rfl : xs = [] := List.eq_nil_of_length_eq_zero HXL.out
        rcases hown.2 with ⟨rfl, _⟩ | ⟨g', cap', cur, rfl, _, _⟩
        · go_wp2_with fail
          go_ret
          exact ⟨_, rfl, [], _, hown, by simp, HNR.out.mono (by omega), by omega, hwr⟩
        · go_wp2_with fail
          go_ret
          exact ⟨_, rfl, [], _, hown, by simp, HNR.out.mono (by omega), by omega, hwr⟩
      · obtain ⟨g1, cap1, rfl, hg1, hc1, hc2⟩ := own_form hown (by omega)
        have hj1 : 0 < j := by omega
        clear hj0
        go_wp2_with fail
        refine (flip_went _ g L A cap _ 12 hwr.1 (by omega) (by omega)).mono ?_
        rintro e w4 ⟨rfl, hw4, hz4⟩; clear hz4
        have hown4 := own_but hwr.1 (by decide) hown hw4.2
        have hw4' : Went w g L A cap (k + 3 + 3 * j + 1) w4 := ⟨hw4.1, hwr.2.trans hw4.2⟩
        clear hown hwr hw4
        by_cases hF : nxt L (k + 3 + 3 * j) 12 = 0
        · have hF' : (nxt L (k + 3 + 3 * j) 12 == 0) = true := by simpa using hF
          clear hF
          have hr := nxt_range L (k + 3 + 3 * j + 1) j (by omega)
          go_wp2_with fail
          refine (next_went _ g L A cap (k + 3 + 3 * j + 1) j hw4'.1 (by omega) (by omega)).mono ?_
          rintro e w5 ⟨rfl, hw5, hz5⟩; clear hz5
          have hown5 := own_but hw4'.1 (by decide) hown4 hw5.2
          have hw5' : Went w g L A cap (k + 3 + 3 * j + 2) w5 := ⟨hw5.1, hw4'.2.trans hw5.2⟩
          clear hown4 hw4' hw5
          have hin : ∃ n : Nat, nxt L (k + 3 + 3 * j + 1) j = (n : Int) ∧ n < j := ⟨(nxt L (k + 3 + 3 * j + 1) j).toNat, by omega, by omega⟩
          obtain ⟨n, hnx, hnj⟩ := hin
          generalize nxt L (k + 3 + 3 * j + 1) j = nn at *
          subst hnx
          go_wp2_with fail
          refine (next_went _ g L A cap (k + 3 + 3 * j + 2) 3 hw5'.1 (by omega) (by omega)).mono ?_
          rintro e w6 ⟨rfl, hw6, hz6⟩; clear hz6
          have hown6 := own_but hw5'.1 (by decide) hown5 hw6.2
          have hw6' : Went w g L A cap (k + 3 + 3 * j + 3) w6 := ⟨hw6.1, hw5'.2.trans hw6.2⟩
          clear hown5 hw5' hw6 hr
          have hr := nxt_range L (k + 3 + 3 * j + 2) 3 (by omega)
          generalize nxt L (k + 3 + 3 * j + 2) 3 = way at *
          obtain ⟨c0, c1, c2⟩ := own_cells hown6 HXL.out n hnj
          have hnx := HNR.out.at_ n (by rw [HXL.out]; exact hnj)
          rw [atS_eq xs n (by rw [HXL.out]; exact hnj)] at c0 c1 c2
          have hst : ∀ (w' : World) (r : Int), w'.ownsRow w.heap.size 57 3 (.slice (some ⟨g1, 0, none⟩) j cap1) j (cellsOf xs) →
              (w'.setCell ⟨g1, n * 3, none⟩ (.int .i64 r)).ownsRow w.heap.size 57 3 (.slice (some ⟨g1, 0, none⟩) j cap1) j (cellsOf (xs.set n ⟨r, (atS xs n).v, (atS xs n).q⟩)) ∧
              (w'.setCell ⟨g1, n * 3 + 1, none⟩ (.int .i64 r)).ownsRow w.heap.size 57 3 (.slice (some ⟨g1, 0, none⟩) j cap1) j (cellsOf (xs.set n ⟨(atS xs n).t, r, (atS xs n).q⟩)) ∧
              (w'.setCell ⟨g1, n * 3 + 2, none⟩ (.int .i64 r)).ownsRow w.heap.size 57 3 (.slice (some ⟨g1, 0, none⟩) j cap1) j (cellsOf (xs.set n ⟨(atS xs n).t, (atS xs n).v, r⟩)) := fun w' r h => by
            have hnl : n < xs.length := by rw [HXL.out]; exact hnj
            rw [← cellsOf_setT xs n hnl, ← cellsOf_setV xs n hnl, ← cellsOf_setQ xs n hnl]
            exact ⟨(h.stored _ _).1, (h.stored _ _).1, (h.stored _ _).1⟩
          generalize hx : atS xs n = x at *
          have HX := Lib.hid hx
          have HST := Lib.hid hst
          clear hst hx
          have i1 : (0 : Int) ≤ (n : Int) := by omega
          have i2 : (n : Int) < (j : Int) := by omega
          by_cases h0 : way = 0
          · subst h0
            have hs1 : IntKind.i64.wrap (x.t - 40) = x.t - 40 := IntWalk.i64_in _ (by omega)
            have hs2 : IntKind.i64.wrap (x.t + 3) = x.t + 3 := IntWalk.i64_in _ (by omega)
            have f0 := hown6.frozenAt (n * 3)
            go_wp2_with fail
            go_region_with (first | (go_at_call 63; refine (pick_new w6.drew w6.heap.size g L A cap (k + 3 + 3 * j + 3) [x.t - 40, -1, 345686400000, x.t + 3] hw6'.1.drew rfl (by omega) (by simp)).mono ?_; rintro e w7 ⟨rfl, hw7⟩; have hown7 := own_but hw6'.1.drew (by decide) hown6 hw7.2; have d0 : w7.cell? ⟨g1, n * 3, none⟩ = some (.int .i64 x.t) := (by have h := (own_cells hown7 HXL.out n hnj).1; rw [atS_eq xs n (by rw [HXL.out]; exact hnj), HX.out] at h; exact h); have f7 := hown7.frozenAt (n * 3)))
            all_goals
              have hpm := pk_mem [x.t - 40, -1, 345686400000, x.t + 3] L (k + 3 + 3 * j + 3) (by simp)
              simp only [List.mem_cons, List.not_mem_nil, or_false] at hpm
              generalize pk [x.t - 40, -1, 345686400000, x.t + 3] L (k + 3 + 3 * j + 3) = r at *
              have hrr : -2000000000000 ≤ r ∧ r ≤ 2000000000000 := by omega
              have hw7' : Went w g L A cap (k + 3 + 3 * j + 3 + 1) w7 := ⟨hw7.1, hw6'.2.drew.trans hw7.2⟩
              go_wp2_with fail
              go_ret
              exact ⟨_, rfl, xs.set n ⟨r, x.v, x.q⟩, _, by rw [List.length_set, HXL.out]; exact (HST.out _ _ hown7).1, by rw [List.length_set]; exact hlong, HNR.out.set n _ ⟨by simp only; omega, by simp only; omega, by simp only; omega⟩ (by omega), by omega, hw7'.setAt hlt0 (by exact hg1) _⟩
          · have h0' : (way == 0) = false := by simpa using h0
            by_cases h1 : way = 1
            · subst h1
              go_wp2_with fail
              refine (odd_went _ g L A cap _ (-1000000) 1000000 hw6'.1 (by omega) (by omega) (by omega) (by omega)).mono ?_
              rintro e w7 ⟨r, rfl, hrr, hw7⟩
              have hown7 := own_but hw6'.1 (by decide) hown6 hw7.2
              have hw7' : Went w g L A cap (k + 3 + 3 * j + 3 + 2) w7 := ⟨hw7.1, hw6'.2.trans hw7.2⟩
              have f1 := hown7.frozenAt (n * 3 + 1)
              have d1 := (own_cells hown7 HXL.out n hnj).2.1
              clear hw7 hown6 hw6' c0 c1 c2
              go_wp2_with fail
              go_ret
              exact ⟨_, rfl, xs.set n ⟨x.t, r, x.q⟩, _, by rw [List.length_set, HXL.out]; exact (HST.out _ _ hown7).2.1, by rw [List.length_set]; exact hlong, HNR.out.set n _ ⟨by simp only; omega, by simp only; omega, by simp only; omega⟩ (by omega), by omega, hw7'.setAt hlt0 (by exact hg1) _⟩
            · have h1' : (way == 1) = false := by simpa using h1
              go_wp2_with fail
              refine (odd_went _ g L A cap _ 0 2 hw6'.1 (by omega) (by omega) (by omega) (by omega)).mono ?_
              rintro e w7 ⟨r, rfl, hrr, hw7⟩
              have hown7 := own_but hw6'.1 (by decide) hown6 hw7.2
              have hw7' : Went w g L A cap (k + 3 + 3 * j + 3 + 2) w7 := ⟨hw7.1, hw6'.2.trans hw7.2⟩
              have f2 := hown7.frozenAt (n * 3 + 2)
              have d2 := (own_cells hown7 HXL.out n hnj).2.2
              clear hw7 hown6 hw6' c0 c1 c2
              go_wp2_with fail
              go_ret
              exact ⟨_, rfl, xs.set n ⟨x.t, x.v, r⟩, _, by rw [List.length_set, HXL.out]; exact (HST.out _ _ hown7).2.2, by rw [List.length_set]; exact hlong, HNR.out.set n _ ⟨by simp only; omega, by simp only; omega, by simp only; omega⟩ (by omega), by omega, hw7'.setAt hlt0 (by exact hg1) _⟩
        · have hF' : (nxt L (k + 3 + 3 * j) 12 == 0) = false := by simpa using hF
          clear hF
          go_wp2_with fail
          go_ret
          exact ⟨_, rfl, xs, _, by rw [HXL.out]; exact hown4, hlong, HNR.out.mono (by omega), by omega, hw4'⟩
end Go.Proofs.Ytmcojidaimeijaa

/- The contract of RightCurve (package logmake): some right series; no more is asked of it. -/

namespace Go.Proofs.Ytmcojidaimeijaa
open Go.RowKit
set_option linter.unusedVariables false
set_option linter.unusedSimpArgs false

/-- What is made at last. -/
def RightEnd (w : World) (g : Nat) (L : List Int) (A : Option Addr) (cap k most : Nat) (v : Value) (w' : World) : Prop :=
  ∃ (l : List Smp) (k' : Nat), RdS w' 57 v l ∧ l.length ≤ most ∧ serErr l = 0 ∧ k' ≤ k + 6 * (10 + 3 * most) ∧ Went w g L A cap k' w'

set_option maxRecDepth 100000 in
set_option maxHeartbeats 4000000 in
theorem rightCurve_went (w : World) (g : Nat) (L : List Int) (A : Option Addr) (cap k most : Nat) (hS : Strm w g L A cap k) (hk : k ≤ 600000000) (hm : most ≤ 1000) :
    Calls Try.prog 12 #[.pointer (some ⟨g, 0, none⟩), .int .i64 (most : Int)] w fun e w' => ∃ v, e = .returned v ∧ RightEnd w g L A cap k most v w' := by
  have hlt0 := hS.lt
  go_enter Try.func12, Try.ntmps12
  go_wp2_with fail
  go_loopw [6] (fun i wr => ∃ (j : Nat) (k' : Nat), j ≤ 6 ∧ i = .int .i64 (j : Int) ∧ k' ≤ k + j * (10 + 3 * most) ∧ Went w g L A cap k' wr) (fun i _ => 6 - (intOf i).toNat)
  case atStart => exact ⟨0, k, by omega, rfl, by omega, hS, But.refl _ _⟩
  case round =>
    obtain ⟨j, k', hj, rfl, hk', hw⟩ := hrel
    have hbound : j * (10 + 3 * most) ≤ 6 * (10 + 3 * most) := Nat.mul_le_mul_right _ hj
    by_cases hlt : j < 6
    · have hnext : (j + 1) * (10 + 3 * most) = j * (10 + 3 * most) + (10 + 3 * most) := by rw [Nat.add_mul, Nat.one_mul]
      have hcall := curve_went wr g L A cap k' most hw.1 (by omega) hm
      have HC := Lib.hid hcall
      have HW := Lib.hid hw
      have HN := Lib.hid hnext
      have HX := Lib.hid (show (j + 1) * (10 + 3 * most) ≤ 6 * (10 + 3 * most) from Nat.mul_le_mul_right _ hlt)
      clear hcall hw hnext
      go_wp2_with fail
      refine HC.out.mono ?_
      rintro e w1 ⟨v, rfl, l, k1, hown, hlen, _, hk1, hw1⟩
      have hrd : RdS w1 57 v l := Rd.of_own hown
      obtain ⟨pv, cv, rfl⟩ := hrd.lenv
      have HW1 := Lib.hid (show Went w g L A cap k1 w1 from ⟨hw1.1, HW.out.2.trans hw1.2⟩)
      have HRD := Lib.hid hrd
      clear hown hw1 hrd
      go_wp2_with fail
      refine (seriesFault_any (.slice pv l.length cv) l _ HRD.out).mono ?_
      rintro e w2 ⟨rfl, hb2⟩
      have hsz := hb2.size
      have HW2 := Lib.hid (show Went w g L A cap k1 w2 from ⟨HW1.out.1.below hb2 HW1.out.1.lt, HW1.out.2.below hb2⟩)
      have HR2 := Lib.hid (Rd.below HRD.out hb2)
      clear hb2
      by_cases hE : serErr l = 0
      · have hE' : (serErr l == 0) = true := by simpa using hE
        have HE := Lib.hid hE
        clear hE
        go_wp2_with fail
        go_ret
        exact ⟨_, rfl, l, k1, HR2.out, hlen, HE.out, by have := HN.out; have := HX.out; omega, HW2.out⟩
      · have hE' : (serErr l == 0) = false := by simpa using hE
        clear hE
        go_wp2_with fail
        go_roundw
        case rel => exact ⟨j + 1, k1, by omega, by go_num, by rw [HN.out]; omega, HW2.out⟩
        case measure => simp [intOf]; omega
    · obtain rfl : j = 6 := by omega
      go_wp2_with fail
      go_ret
      exact ⟨_, rfl, [], k', Rd.nil _ _ _, by simp, rfl, by omega, hw⟩
end Go.Proofs.Ytmcojidaimeijaa

/- The contracts of what takes the samples with some indices: chosen, Keep (package compress). -/

namespace Go.Proofs.Ytmcojidaimeijaa
open Go.RowKit
set_option linter.unusedVariables false
set_option linter.unusedSimpArgs false


set_option maxRecDepth 100000 in
set_option maxHeartbeats 2000000 in
theorem chosen_any (v vk : Value) (l : List Smp) (ks : List Int) (w : World) (hR : RdS w 57 v l) (hK : RdI w vk ks) (hks : ks.length ≤ 100000) (hin : Inside l.length ks) :
    Calls Try.prog 53 #[v, vk] w fun e w' => ∃ vr, e = .returned vr ∧ w'.ownsRow w.heap.size 57 3 vr ks.length (cellsOf (choOf l ks)) ∧ Below w.heap.size w w' := by
  obtain ⟨pa, ca, rfl⟩ := hR.lenv
  obtain ⟨pk, ck, rfl⟩ := hK.lenv
  have HR := Lib.hid hR
  have HK := Lib.hid hK
  have HIN := Lib.hid hin
  obtain ⟨i0, hi0, hz0, hz1, hz2⟩ := info_parts info_smp
  clear hR hK hin
  go_enter Try.func53, Try.ntmps53
  go_wp2_with (at_make; go_loud (refine wpList_make_full w rfl (.tmp 9) (.tmp 9) 26 rfl w.heap.size 57 i0 _ 3 Try.underlying26 hi0 hz0 hz1 .i64 .i64 _ _ ks.length rfl rfl rfl rfl (by rw [hz2]; omega) (by simp only [maxLen]; omega) (Nat.le_refl _) ?_); intro w1 hown hgr)
  have hb1 : Below w.heap.size w w1 := (Below.refl w.heap.size w).grown hgr (Nat.le_refl _) (fun k hk => by simp [Value.ownBlock] at hk)
  rw [madeSmp] at hown
  rw [← choTo_zero l ks] at hown
  have HB1 := Lib.hid hb1
  have hsz1 := hb1.size
  clear hb1 hgr
  go_loopw [13] (fun i wr => ∃ j : Nat, j ≤ ks.length ∧ i = .int .i64 (j : Int) ∧ wr.ownsRow w.heap.size 57 3 (.slice (some ⟨w.heap.size, 0, none⟩) ks.length ks.length) ks.length (cellsOf (choTo l ks j)) ∧ Below w.heap.size w wr) (fun i _ => ks.length - (intOf i).toNat)
  case atStart => exact ⟨0, by omega, rfl, hown, HB1.out⟩
  case round =>
    obtain ⟨j, hj, rfl, ho, hbr⟩ := hrel
    by_cases hlt : j < ks.length
    · have hKr : RdI wr _ ks := HK.out.below hbr (Nat.le_refl _)
      obtain ⟨bk, ok, c, hv, hc1, hc2, hbklt, hkc⟩ := RdI.cells hKr (by omega)
      cases hv
      have k0 := hkc j hlt
      have hij := HIN.out j hlt
      have hkn : ∃ kn : Nat, ks[j] = (kn : Int) ∧ kn < l.length := ⟨ks[j].toNat, by omega, by omega⟩
      obtain ⟨kn, hkn, hknl⟩ := hkn
      have hst := choTo_step l ks j hlt
      rw [hkn] at k0
      rw [hkn, Int.toNat_natCast] at hst
      have hRr : RdS wr 57 _ l := HR.out.below hbr (Nat.le_refl _)
      obtain ⟨b, off, c', hv, hc3, hc4, hblt, hcell⟩ := RdS.at_ hRr (by omega)
      cases hv
      obtain ⟨z0, z1, z2⟩ := hcell kn hknl
      generalize atS l kn = x at *
      have hl := choTo_length l ks j hj
      obtain ⟨d0, d1, d2⟩ := own_cells ho hl j hlt
      have f0 := ho.frozenAt (j * 3)
      have f1 := ho.frozenAt (j * 3 + 1)
      have f2 := ho.frozenAt (j * 3 + 2)
      have hput := own_putN ho hl j hlt x
      rw [hst] at hput
      have HPUT := Lib.hid hput
      have HBR := Lib.hid hbr
      unfold maxLen at hc2 hc4
      have i1 : (0 : Int) ≤ (kn : Int) := by omega
      have i2 : (kn : Int) < (l.length : Int) := by omega
      generalize (choTo l ks j)[j] = y at *
      clear hst hput hkc hij hkn hRr hKr hcell ho hbr hown
      go_wp2_with fail
      go_roundw
      case rel => exact ⟨j + 1, by omega, by go_num, HPUT.out, Below.setCell (Below.setCell (Below.setCell HBR.out (Nat.le_refl _) _) (Nat.le_refl _) _) (Nat.le_refl _) _⟩
      case measure => simp [intOf]; omega
    · obtain rfl : j = ks.length := by omega
      go_wp2_with fail
      go_ret
      rw [choTo_end] at ho
      exact ⟨_, rfl, ho, hbr⟩

set_option maxRecDepth 100000 in
set_option maxHeartbeats 2000000 in
theorem keep_any (v vk : Value) (l : List Smp) (ks : List Int) (w : World) (hR : RdS w 57 v l) (hK : RdI w vk ks) (hks : ks.length ≤ 100000) :
    Calls Try.prog 15 #[v, vk] w fun e w' => ∃ vr, e = .returned (.tuple #[vr, .int .i64 (keptErr l ks)]) ∧ (keptErr l ks = 0 → RdS w' 57 vr (choOf l ks)) ∧ (keptErr l ks ≠ 0 → vr = .slice none 0 0) ∧ Below w.heap.size w w' := by
  have hck := checkKept_any v vk l ks w hR hK hks
  have hin : keptErr l ks = 0 → Inside l.length ks := fun h => by
    unfold keptErr at h
    split at h
    · rename_i h1; exact absurd h h1
    · exact (idxErr_inside h).2
  generalize keptErr l ks = E at *
  have HCK := Lib.hid hck
  have HR := Lib.hid hR
  have HK := Lib.hid hK
  have HIN := Lib.hid hin
  clear hck hR hK hin
  go_enter Try.func15, Try.ntmps15
  go_wp2_with fail
  refine HCK.out.mono ?_
  rintro e w1 ⟨rfl, hb1⟩
  by_cases hE : E = 0
  · have hE' : (E != 0) = false := by simpa using hE
    have HE := Lib.hid hE
    clear hE
    go_wp2_with fail
    refine (chosen_any v vk l ks w1 (HR.out.below hb1 (Nat.le_refl _)) (HK.out.below hb1 (Nat.le_refl _)) hks (HIN.out HE.out)).mono ?_
    rintro e w2 ⟨vr, rfl, ho, hb2⟩
    go_wp2_with fail
    go_ret2
    refine ⟨vr, by rw [HE.out]; rfl, fun _ => ?_, fun h => absurd HE.out h, hb1.trans (hb2.mono hb1.size)⟩
    have := Rd.of_own ho
    unfold RdS
    rw [choOf_length]
    exact this
  · have hE' : (E != 0) = true := by simpa using hE
    have HE := Lib.hid hE
    clear hE
    go_wp2_with fail
    go_ret2
    exact ⟨_, rfl, fun h => absurd h HE.out, fun _ => rfl, hb1⟩
end Go.Proofs.Ytmcojidaimeijaa

/- The contract of Steps (package compress). No condition. -/

namespace Go.Proofs.Ytmcojidaimeijaa
open Go.RowKit
set_option linter.unusedVariables false
set_option linter.unusedSimpArgs false

def stpR (l : List Smp) : List Int := if serErr l = 0 then stpTo l l.length else []

set_option maxRecDepth 100000 in
set_option maxHeartbeats 4000000 in
theorem steps_any (v : Value) (l : List Smp) (w : World) (hR : RdS w 57 v l) :
    Calls Try.prog 14 #[v] w fun e w' => ∃ vr, e = .returned (.tuple #[vr, .int .i64 (serErr l)]) ∧ RdI w' vr (stpR l) ∧ Below w.heap.size w w' := by
  obtain ⟨pa, ca, rfl⟩ := hR.lenv
  have HR0 := Lib.hid hR
  have hVd : stpR l = if serErr l = 0 then stpTo l l.length else [] := rfl
  generalize stpR l = V at *
  have hsg := fun h : serErr l = 0 => (serErr_good h).1
  have hcs := checkSeries_any _ l w hR
  generalize serErr l = S at *
  have HVD := Lib.hid hVd
  have HCS := Lib.hid hcs
  clear hR hVd hcs
  go_enter Try.func14, Try.ntmps14
  go_wp2_with fail
  refine HCS.out.mono ?_
  rintro e w0 ⟨rfl, hbs⟩
  have HR1 := Lib.hid (show RdS w0 57 _ l from Rd.below HR0.out hbs)
  by_cases hS : S = 0
  · subst hS
    have hlong := hsg rfl
    have HS := Lib.hid (show V = stpTo l l.length by rw [HVD.out, if_pos rfl])
    go_wp2_with fail
    go_loopw [5, 15] (fun o i wr => ∃ j : Nat, j ≤ l.length ∧ i = .int .i64 (j : Int) ∧ StK w0 o (stpTo l j) wr) (fun _ i _ => l.length - (intOf i).toNat)
    case atStart => exact ⟨0, by omega, rfl, World.ownsRow_nil _ _ _ _, Below.refl _ _⟩
    case round =>
      obtain ⟨j, hj, rfl, hk⟩ := hrel
      by_cases hlt : j < l.length
      · have hl2 := stpTo_long l j
        have hRr : RdS wr _ _ l := HR1.out.below hk.bl (Nat.le_refl _)
        obtain ⟨b, off, c, hv, hc1, hc2, hblt, hcell⟩ := RdS.at_ hRr (by omega)
        cases hv
        unfold maxLen at hc2
        obtain ⟨c0, c1, c2⟩ := hcell j hlt
        obtain ⟨p0, p1, p2⟩ := hcell (j - 1) (by omega)
        have hst : stpTo l (j + 1) = if stpB l j = true then stpTo l j ++ [(j : Int)] else stpTo l j := rfl
        have hdx : stpB l j = decide (j = 0 ∨ j + 1 = l.length ∨ (atS l j).v ≠ (atS l (j - 1)).v ∨ (atS l j).q ≠ (atS l (j - 1)).q) := rfl
        generalize stpTo l j = out at *
        generalize atS l (j - 1) = x at *
        generalize atS l j = y at *
        generalize stpB l j = E at *
        have HDX := Lib.hid hdx
        have HST := Lib.hid hst
        have HK := Lib.hid hk
        have hb0r := hk.bl.size
        clear hdx hst hk hcell hRr
        go_upto_region 8 with fail
        go_cut [50] (fun s50 wx => s50 = .bool E ∧ ∃ m, wx = (wr.alloc (.cells #[.int .i64 y.t, .int .i64 y.v, .int .i64 y.q] 57)).drewN m)
        case first =>
          by_cases hj0 : j = 0
          · subst hj0
            have HE := Lib.hid (show E = true by rw [HDX.out]; simp)
            clear p0 p1 p2
            go_quiet (fail)
            go_wp2_with fail
            go_meet
            exact ⟨by rw [HE.out], _, rfl⟩
          · have hj0' : ((j : Int) == 0) = false := by simp; omega
            have hwr : IntKind.i64.wrap ((l.length : Int) - 1) = (l.length : Int) - 1 := IntWalk.i64_in _ (by omega)
            have hwj : IntKind.i64.wrap ((j : Int) - 1) = (j : Int) - 1 := IntWalk.i64_in _ (by omega)
            have i1 : (1 : Int) ≤ (j : Int) := by omega
            have i2 : (j : Int) - 1 < (l.length : Int) := by omega
            by_cases hje : j + 1 = l.length
            · have hje' : ((j : Int) == (l.length : Int) - 1) = true := by simp; omega
              have HE := Lib.hid (show E = true by rw [HDX.out]; simp [hje])
              clear hje hj0
              go_quiet (fail)
              go_wp2_with fail
              go_meet
              exact ⟨by rw [HE.out], _, rfl⟩
            · have hje' : ((j : Int) == (l.length : Int) - 1) = false := by simp; omega
              by_cases hv : y.v = x.v
              · have hv' : (y.v != x.v) = false := by simpa using hv
                by_cases hq : y.q = x.q
                · have hq' : (y.q != x.q) = false := by simpa using hq
                  have HE := Lib.hid (show E = false by rw [HDX.out]; simp [hj0, hje, hv, hq])
                  clear hje hj0 hv hq
                  go_quiet (fail)
                  go_wp2_with fail
                  go_meet
                  exact ⟨by rw [HE.out], _, rfl⟩
                · have hq' : (y.q != x.q) = true := by simpa using hq
                  have HE := Lib.hid (show E = true by rw [HDX.out]; simp [hq])
                  clear hje hj0 hv hq
                  go_quiet (fail)
                  go_wp2_with fail
                  go_meet
                  exact ⟨by rw [HE.out], _, rfl⟩
              · have hv' : (y.v != x.v) = true := by simpa using hv
                have HE := Lib.hid (show E = true by rw [HDX.out]; simp [hv])
                clear hje hj0 hv
                go_quiet (fail)
                go_wp2_with fail
                go_meet
                exact ⟨by rw [HE.out], _, rfl⟩
        case rest =>
          obtain ⟨rfl, m, rfl⟩ := hcut
          have hk2 := (HK.out.alloc (.cells #[.int .i64 y.t, .int .i64 y.v, .int .i64 y.q] 57)).drewN m
          generalize (wr.alloc (.cells #[.int .i64 y.t, .int .i64 y.v, .int .i64 y.q] 57)).drewN m = wm at *
          have HK2 := Lib.hid hk2
          clear hk2 HK
          cases E
          · have HR := Lib.hid (show stpTo l (j + 1) = out by rw [HST.out]; rfl)
            go_wp2_with fail
            go_roundw
            case rel => exact ⟨j + 1, by omega, by go_num, by rw [HR.out]; exact HK2.out⟩
            case measure => simp [intOf]; omega
          · have HR := Lib.hid (show stpTo l (j + 1) = out ++ [(j : Int)] by rw [HST.out]; rfl)
            have ho := HK2.out.alloc (.cells #[.int .i64 (j : Int)] 3)
            have HO := Lib.hid ho
            have hso := ho.bl.size
            clear ho
            go_wp2_with (at_builtin; go_loud (refine wpList_append_num rfl (.tmp 51) (.tmp 53) rfl w0.heap.size u5 out.length out rfl (by exact HO.out.own) wm.heap.size rfl (j : Int) (by exact Blk.new _ _ _) (by omega) (by exact hso) ?_); intro v1 wd hown1 hgrow1)
            have hkd := HO.out.grown _ hgrow1 hown1
            clear hown1 hgrow1
            go_roundw
            case rel => exact ⟨j + 1, by omega, by go_num, by rw [HR.out]; exact hkd⟩
            case measure => simp [intOf]; omega
      · obtain rfl : j = l.length := by omega
        go_wp2_with fail
        go_ret2
        exact ⟨_, rfl, by rw [HS.out]; exact Rd.of_own hk.own, hbs.trans (hk.bl.mono hbs.size)⟩
  · have hS' : (S != 0) = true := by simpa using hS
    have HS := Lib.hid (show V = [] by rw [HVD.out, if_neg hS])
    clear hS
    go_wp2_with fail
    go_ret2
    exact ⟨_, rfl, by rw [HS.out]; exact Rd.nil _ _ _, hbs⟩
end Go.Proofs.Ytmcojidaimeijaa

/- queried() is true: points, and their equality. -/

namespace Go.Proofs.Ytmcojidaimeijaa
open Go.RowKit
set_option linter.unusedVariables false
set_option linter.unusedSimpArgs false

theorem pnt_held : Try.prog.stoodInHeld 37 = false := by kernel_rfl
theorem pnt_guard : Try.prog.eqGuardType Try.prog.depth 37 = false := by kernel_rfl
theorem pnt_fields : (Try.prog.fieldsOf 37).toList.map (fun f => (f.name, f.type, f.offset)) = [("At", 3, 0), ("Value", 35, 1), ("Quality", 3, 3)] := by kernel_rfl
theorem pnt_under : Try.prog.underlying 37 = some (.struct (Try.prog.fieldsOf 37)) := by kernel_rfl
theorem fr_size : (Try.prog.info? 35).map (fun i => (i.zero, i.size, i.bytes)) = some (some (.agg #[.int .i64 0, .int .i64 0]), 2, 16) := by kernel_rfl
theorem ffields3 {fs : List Field} {a b c : String × TypeId × Nat} (h : fs.map (fun f => (f.name, f.type, f.offset)) = [a, b, c]) :
    ∃ f g k : Field, fs = [f, g, k] ∧ f.name = a.1 ∧ f.type = a.2.1 ∧ f.offset = a.2.2 ∧ g.name = b.1 ∧ g.type = b.2.1 ∧ g.offset = b.2.2 ∧ k.name = c.1 ∧ k.type = c.2.1 ∧ k.offset = c.2.2 := by
  match fs, h with
  | [f, g, k], h =>
    simp only [List.map_cons, List.map_nil, List.cons.injEq, and_true] at h
    obtain ⟨h1, h2, h3⟩ := h
    exact ⟨f, g, k, rfl, by rw [← h1], by rw [← h1], by rw [← h1], by rw [← h2], by rw [← h2], by rw [← h2], by rw [← h3], by rw [← h3], by rw [← h3]⟩
theorem frac_eqIn9 (w : World) (x y : Int × Int) : (Op.equalIn 9999 35 (.agg #[.int .i64 x.1, .int .i64 x.2]) (.agg #[.int .i64 y.1, .int .i64 y.2])).run Try.prog w = .ok (decide (x = y)) w := by
  obtain ⟨f, g, hf, f1, f2, f3, g1, g2, g3⟩ := ffields2 frac_fields
  obtain ⟨i0, hi0, hz0, hz1, hz2⟩ := info_parts fint_size
  obtain ⟨t, v⟩ := x
  obtain ⟨t', v'⟩ := y
  rw [run_equalIn_struct w 9998 35 _ _ frac_under frac_held, hf]
  simp [Op.eqFields, f1, f2, f3, g1, g2, g3, part, sizeOf, typeInfo, hi0, hz1, go_sem, Try.underlying3]
  by_cases h1 : t = t' <;> by_cases h2 : v = v' <;> simp [h1, h2, Result.andThen]
theorem pnt_eqIn (w : World) (a b c d a' b' c' d' : Int) : (Op.equalIn 10000 37 (.agg #[.int .i64 a, .int .i64 b, .int .i64 c, .int .i64 d]) (.agg #[.int .i64 a', .int .i64 b', .int .i64 c', .int .i64 d'])).run Try.prog w = .ok (decide (a = a' ∧ (b, c) = (b', c') ∧ d = d')) w := by
  obtain ⟨f, g, k, hf, f1, f2, f3, g1, g2, g3, k1, k2, k3⟩ := ffields3 pnt_fields
  obtain ⟨i0, hi0, hz0, hz1, hz2⟩ := info_parts fint_size
  obtain ⟨j0, hj0, jz0, jz1, jz2⟩ := info_parts fr_size
  have hfr := frac_eqIn9 w (b, c) (b', c')
  rw [run_equalIn_struct w 9999 37 _ _ pnt_under pnt_held, hf]
  simp only at hfr
  simp [Op.eqFields, f1, f2, f3, g1, g2, g3, k1, k2, k3, part, sizeOf, typeInfo, hi0, hz1, hj0, jz1, go_sem, Try.underlying3, hfr]
  by_cases h1 : a = a' <;> by_cases h2 : b = b' <;> by_cases h3 : c = c' <;> by_cases h4 : d = d' <;> simp [h1, h2, h3, h4, Result.andThen]

theorem queried_E : vatE [⟨0, 0, 0⟩, ⟨4, 2, 0⟩] 1 = 0 := by
  simp [vatE, serErr, serFrom, smpErr, inB, notAfter]
theorem queried_O : vatO [⟨0, 0, 0⟩, ⟨4, 2, 0⟩] false 1 = some ⟨1, 2, 0⟩ := by
  simp [vatO, queried_E, valO, posF, atS, lineAt, fracOf, Int.gcd]

end Go.Proofs.Ytmcojidaimeijaa
