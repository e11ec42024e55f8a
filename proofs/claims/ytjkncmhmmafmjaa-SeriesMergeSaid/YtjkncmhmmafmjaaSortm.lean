/- The contracts of slices.Compare at numbers, of the reference's order of samples, and of slices.SortFunc by it. -/
import Derived.Test.YtjkncmhmmafmjaaCpt
import Derived.Test.YtjkncmhmmafmjaaGapr
import Derived.Test.YtjkncmhmmafmjaaSortLay
import Derived.Lib.OwnBridge
import Derived.Shelf.SlSortCmp.NoneTotal
namespace Go.Proofs.Ytjkncmhmmafmjaa
open Go.RowKit Go.Shelf Go.Sort
set_option linter.unusedVariables false
set_option linter.unusedSimpArgs false

/-- What slices.Compare returns of numbers. -/
def cmpL : List Int → List Int → Int
  | [], [] => 0
  | [], _ :: _ => -1
  | _ :: _, [] => 1
  | x :: a, y :: b => if cmpI x y ≠ 0 then cmpI x y else cmpL a b
theorem cmpL_step (a b : List Int) (j : Nat) (h : j < a.length) (h' : j < b.length) : cmpL (a.drop j) (b.drop j) = if cmpI (iAt a j) (iAt b j) ≠ 0 then cmpI (iAt a j) (iAt b j) else cmpL (a.drop (j + 1)) (b.drop (j + 1)) := by
  rw [List.drop_eq_getElem_cons h, List.drop_eq_getElem_cons h', iAt_eq a j h, iAt_eq b j h']
  rfl
theorem cmpI_cases (x y : Int) : cmpI x y = -1 ∨ cmpI x y = 0 ∨ cmpI x y = 1 := by unfold cmpI; split <;> (try split) <;> simp

set_option maxRecDepth 100000 in
set_option maxHeartbeats 2000000 in
theorem compareL_any (va vb : Value) (a b : List Int) (w : World) (hA : RdI w va a) (hB : RdI w vb b) (hn : a.length = b.length) (h0 : 0 < a.length) (hlong : a.length ≤ 100000) :
    Calls Try.prog 55 #[va, vb] w fun e w' => e = .returned (.int .i64 (cmpL a b)) ∧ w = w' := by
  obtain ⟨b1, o1, k1, rfl, p1, p2, p3, hc1⟩ := RdI.at_ hA h0
  obtain ⟨b2, o2, k2, rfl, q1, q2, q3, hc2⟩ := RdI.at_ hB (by omega)
  have HN := Lib.hid hn
  have HC1 := Lib.hid hc1
  have HC2 := Lib.hid hc2
  have hle : a.length ≤ b.length := by omega
  have hge : b.length ≤ a.length := by omega
  unfold maxLen at p2 q2
  clear hA hB hc1 hc2 hn
  go_enter Try.func55, Try.ntmps55
  go_wp2_with fail
  go_loop [11] (fun i => ∃ j : Nat, j ≤ a.length ∧ i = .int .i64 (j : Int) ∧ cmpL a b = cmpL (a.drop j) (b.drop j)) (fun i => a.length - (intOf i).toNat)
  case atStart => exact ⟨0, by omega, rfl, by simp⟩
  case round =>
    obtain ⟨j, hj, rfl, hq⟩ := hrel
    have HQ := Lib.hid hq
    clear hq
    by_cases hlt : j < a.length
    · have c1 := HC1.out j hlt
      have c2 := HC2.out j (by omega)
      have hs := cmpL_step a b j hlt (by omega)
      have hcc := cmpI_cases (iAt a j) (iAt b j)
      have hjb : (j : Int) < (b.length : Int) := by omega
      generalize iAt a j = x at *
      generalize iAt b j = y at *
      have HS := Lib.hid hs
      have HCC := Lib.hid hcc
      clear hs hcc
      go_wp2_with fail
      refine (compare_any x y _).mono ?_
      rintro e w2 ⟨rfl, rfl⟩
      by_cases hz : cmpI x y = 0
      · have hz' : (cmpI x y != 0) = false := by simpa using hz
        have HZ := Lib.hid hz
        clear hz
        go_wp2_with fail
        go_round
        case rel => exact ⟨j + 1, by omega, by go_num, by rw [HQ.out, HS.out, if_neg (by rw [HZ.out]; simp)]⟩
        case measure => simp [intOf]; omega
      · have hz' : (cmpI x y != 0) = true := by simpa using hz
        have HZ := Lib.hid hz
        clear hz
        go_wp2_with fail
        go_ret
        exact ⟨ret_int (by rw [HQ.out, HS.out, if_pos HZ.out]), rfl⟩
    · obtain rfl : j = a.length := by omega
      have hfin : cmpL a b = 0 := by rw [HQ.out, List.drop_length, HN.out, List.drop_length]; rfl
      have HF := Lib.hid hfin
      clear hfin
      go_wp2_with fail
      go_ret
      exact ⟨ret_int (by rw [HF.out]), rfl⟩

theorem RdI.of_blk {w : World} {b : Nat} {l : List Int} (h : Blk w b 3 (l.map (Value.int .i64)).toArray) (hl : l.length ≤ 1000000) : RdI w (.slice (some ⟨b, 0, none⟩) l.length l.length) l :=
  ⟨by simp, _, _, rfl, Nat.le_refl _, by simp only [maxLen]; omega, fun _ => ⟨b, 0, _, _, rfl, h, fun j hj => by simp⟩⟩
theorem compare3_any (w : World) (b c : Nat) (x1 x2 x3 y1 y2 y3 : Int) (hb : Blk w b 3 #[.int .i64 x1, .int .i64 x2, .int .i64 x3]) (hc : Blk w c 3 #[.int .i64 y1, .int .i64 y2, .int .i64 y3]) :
    Calls Try.prog 55 #[.slice (some ⟨b, 0, none⟩) 3 3, .slice (some ⟨c, 0, none⟩) 3 3] w fun e w' => e = .returned (.int .i64 (cmpL [x1, x2, x3] [y1, y2, y3])) ∧ w = w' :=
  compareL_any _ _ [x1, x2, x3] [y1, y2, y3] w (RdI.of_blk hb (by simp)) (RdI.of_blk hc (by simp)) rfl (by simp) (by simp)

def ordL (x y : Smp) : Int := cmpL [x.t, x.q, -x.v] [y.t, y.q, -y.v]
theorem ordL_lt (x y : Smp) : decide (ordL x y < 0) = keyLt x y := by
  unfold ordL cmpL cmpL cmpL cmpL cmpI keyLt
  rw [Bool.eq_iff_iff]
  simp only [decide_eq_true_eq]
  repeat' split
  all_goals omega

set_option maxRecDepth 100000 in
set_option maxHeartbeats 2000000 in
theorem mergedOf1_any (x y : Smp) (w : World) (hx : -1000000 ≤ x.v ∧ x.v ≤ 1000000) (hy : -1000000 ≤ y.v ∧ y.v ≤ 1000000) :
    Calls Try.prog 54 #[x.agg, y.agg] w fun e w' => e = .returned (.int .i64 (ordL x y)) ∧ ∃ q os, w' = grow (w.drewN q) os := by
  have n1 : IntKind.i64.wrap (-x.v) = -x.v := IntWalk.i64_in _ (by omega)
  have n2 : IntKind.i64.wrap (-y.v) = -y.v := IntWalk.i64_in _ (by omega)
  have ho : ordL x y = cmpL [x.t, x.q, -x.v] [y.t, y.q, -y.v] := rfl
  have HO := Lib.hid ho
  have hb1 := (Blk.new ((w.alloc (.cells #[.int .i64 x.t, .int .i64 x.v, .int .i64 x.q] 27)).alloc (.cells #[.int .i64 y.t, .int .i64 y.v, .int .i64 y.q] 27)) 3 #[.int .i64 x.t, .int .i64 x.q, .int .i64 (-x.v)]).alloc (.cells #[.int .i64 y.t, .int .i64 y.q, .int .i64 (-y.v)] 3)
  have hb2 := Blk.new1 ((w.alloc (.cells #[.int .i64 x.t, .int .i64 x.v, .int .i64 x.q] 27)).alloc (.cells #[.int .i64 y.t, .int .i64 y.v, .int .i64 y.q] 27)) (.cells #[.int .i64 x.t, .int .i64 x.q, .int .i64 (-x.v)] 3) 3 #[.int .i64 y.t, .int .i64 y.q, .int .i64 (-y.v)]
  simp only [World.size_alloc] at hb1 hb2
  have HB1 := Lib.hid hb1
  have HB2 := Lib.hid hb2
  clear hb1 hb2 ho
  unfold Smp.agg
  go_enter Try.func54, Try.ntmps54
  go_wp2_with fail
  refine (compare3_any _ _ _ _ _ _ _ _ _ HB1.out HB2.out).mono ?_
  rintro e w2 ⟨rfl, rfl⟩
  go_wp2_with fail
  go_ret
  exact ⟨ret_int (by rw [HO.out]), 0, _, by rw [alloc_eq_grow, alloc_eq_grow, alloc_eq_grow, alloc_eq_grow, grow_grow, grow_grow, grow_grow]; rfl⟩
end Go.Proofs.Ytjkncmhmmafmjaa
