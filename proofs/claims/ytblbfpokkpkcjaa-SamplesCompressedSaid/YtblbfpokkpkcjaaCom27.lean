import Derived.Test.YtblbfpokkpkcjaaCom04
import Derived.Test.YtblbfpokkpkcjaaCom17
import Derived.Test.YtblbfpokkpkcjaaCom02
/- The contract of cmp.Compare at numbers. -/

namespace Go.Proofs.Ytblbfpokkpkcjaa
open Go.RowKit
set_option linter.unusedVariables false
set_option linter.unusedSimpArgs false

set_option maxHeartbeats 400000 in
theorem isNaN_any (x : Int) (w : World) : Calls Try.prog 174 #[.int .i64 x] w fun e w' => e = .returned (.bool false) ∧ w = w' := by
  have h : (x != x) = false := by simp
  go_enter Try.func174, Try.ntmps174
  go_wp2
  go_ret
  exact ⟨rfl, rfl⟩

def cmpI (x y : Int) : Int := if x < y then -1 else if y < x then 1 else 0
set_option maxHeartbeats 400000 in
theorem compare_any (x y : Int) (w : World) : Calls Try.prog 117 #[.int .i64 x, .int .i64 y] w fun e w' => e = .returned (.int .i64 (cmpI x y)) ∧ w = w' := by
  go_enter Try.func117, Try.ntmps117
  go_wp2_with (go_at_call 174; refine (isNaN_any _ _).mono ?_; rintro e w' ⟨rfl, rfl⟩)
  all_goals go_ret
  all_goals exact ⟨ret_int (by unfold cmpI; first | rw [if_pos (by omega)] | rw [if_neg (by omega), if_pos (by omega)] | rw [if_neg (by omega), if_neg (by omega)]), rfl⟩

end Go.Proofs.Ytblbfpokkpkcjaa

/- The contract of slices.Compare at numbers, of any two lists that are not empty. -/

namespace Go.Proofs.Ytblbfpokkpkcjaa
open Go.RowKit
set_option linter.unusedVariables false
set_option linter.unusedSimpArgs false

def iAg (l : List Int) (i : Nat) : Int := l.getD i 0
theorem iAg_eq (l : List Int) (i : Nat) (h : i < l.length) : l[i] = iAg l i := by simp [iAg, List.getD_eq_getElem?_getD, List.getElem?_eq_getElem h]
theorem RdI.atg {w : World} {v : Value} {l : List Int} (h : RdI w v l) (hn : 0 < l.length) :
    ∃ b off c, v = .slice (some ⟨b, off, none⟩) l.length c ∧ l.length ≤ c ∧ c ≤ maxLen ∧ b < w.heap.size ∧ ∀ i, i < l.length → w.cell? ⟨b, off + i, none⟩ = some (.int .i64 (iAg l i)) := by
  obtain ⟨b, off, c, hv, h2, h3, hlt, hc⟩ := RdI.cells h hn
  exact ⟨b, off, c, hv, h2, h3, hlt, fun i hi => by rw [← iAg_eq l i hi]; exact hc i hi⟩
/-- What slices.Compare returns of numbers. -/
def cmpG : List Int → List Int → Int
  | [], [] => 0
  | [], _ :: _ => -1
  | _ :: _, [] => 1
  | x :: a, y :: b => if cmpI x y ≠ 0 then cmpI x y else cmpG a b
theorem cmpG_step (a b : List Int) (j : Nat) (h : j < a.length) (h' : j < b.length) : cmpG (a.drop j) (b.drop j) = if cmpI (iAg a j) (iAg b j) ≠ 0 then cmpI (iAg a j) (iAg b j) else cmpG (a.drop (j + 1)) (b.drop (j + 1)) := by
  rw [List.drop_eq_getElem_cons h, List.drop_eq_getElem_cons h', iAg_eq a j h, iAg_eq b j h']
  rfl
theorem cmpG_right (a b : List Int) (j : Nat) (h : j < a.length) (h' : b.length ≤ j) : cmpG (a.drop j) (b.drop j) = 1 := by
  rw [List.drop_eq_getElem_cons h, List.drop_eq_nil_of_le h']
  rfl
theorem cmpG_left (a b : List Int) (j : Nat) (h : a.length ≤ j) (h' : j < b.length) : cmpG (a.drop j) (b.drop j) = -1 := by
  rw [List.drop_eq_getElem_cons h', List.drop_eq_nil_of_le h]
  rfl
theorem cmpG_both (a b : List Int) (j : Nat) (h : a.length ≤ j) (h' : b.length ≤ j) : cmpG (a.drop j) (b.drop j) = 0 := by
  rw [List.drop_eq_nil_of_le h, List.drop_eq_nil_of_le h']
  rfl
/-- Of naturals of one length: less is less in order. -/
theorem cmpG_lex (a b : List Nat) (h : a.length = b.length) : decide (cmpG (a.map fun (x : Nat) => (x : Int)) (b.map fun (x : Nat) => (x : Int)) < 0) = lexL a b := by
  induction a generalizing b with
  | nil =>
    cases b with
    | nil => rfl
    | cons y b => simp at h
  | cons x a ih =>
    cases b with
    | nil => simp at h
    | cons y b =>
      have ih := ih b (by simpa using h)
      simp only [List.map_cons, cmpG, lexL, cmpI]
      by_cases h1 : x < y
      · have : (x : Int) < (y : Int) := by omega
        simp [h1, this]
      · by_cases h2 : y < x
        · have a1 : ¬ (x : Int) < (y : Int) := by omega
          have a2 : (y : Int) < (x : Int) := by omega
          have a3 : ¬ x = y := by omega
          simp [h1, a1, a2, a3]
        · obtain rfl : x = y := by omega
          simpa using ih

set_option maxRecDepth 100000 in
set_option maxHeartbeats 2000000 in
theorem compareG_any (va vb : Value) (a b : List Int) (w : World) (hA : RdI w va a) (hB : RdI w vb b) (h0 : 0 < a.length) (h1 : 0 < b.length) (hlong : a.length ≤ 100000) (hlong2 : b.length ≤ 100000) :
    Calls Try.prog 118 #[va, vb] w fun e w' => e = .returned (.int .i64 (cmpG a b)) ∧ w = w' := by
  obtain ⟨b1, o1, k1, rfl, p1, p2, p3, hc1⟩ := RdI.atg hA h0
  obtain ⟨b2, o2, k2, rfl, q1, q2, q3, hc2⟩ := RdI.atg hB h1
  have HC1 := Lib.hid hc1
  have HC2 := Lib.hid hc2
  unfold maxLen at p2 q2
  clear hA hB hc1 hc2
  go_enter Try.func118, Try.ntmps118
  go_wp2_with fail
  go_loop [11] (fun i => ∃ j : Nat, j ≤ a.length ∧ j ≤ b.length ∧ i = .int .i64 (j : Int) ∧ cmpG a b = cmpG (a.drop j) (b.drop j)) (fun i => a.length - (intOf i).toNat)
  case atStart => exact ⟨0, by omega, by omega, rfl, by simp⟩
  case round =>
    obtain ⟨j, hj, hj2, rfl, hq⟩ := hrel
    have HQ := Lib.hid hq
    clear hq
    by_cases hlt : j < a.length
    · have c1 := HC1.out j hlt
      by_cases hlb : j < b.length
      · have c2 := HC2.out j hlb
        have hs := cmpG_step a b j hlt hlb
        have hjb : (j : Int) < (b.length : Int) := by omega
        generalize iAg a j = x at *
        generalize iAg b j = y at *
        have HS := Lib.hid hs
        clear hs
        go_wp2_with fail
        refine (compare_any x y _).mono ?_
        rintro e w2 ⟨rfl, rfl⟩
        by_cases hz : cmpI x y = 0
        · have hz' : (cmpI x y != 0) = false := by simpa using hz
          have HZ := Lib.hid hz
          clear hz
          go_wp2_with fail
          go_round
          case rel => exact ⟨j + 1, by omega, by omega, by go_num, by rw [HQ.out, HS.out, if_neg (by rw [HZ.out]; simp)]⟩
          case measure => simp [intOf]; omega
        · have hz' : (cmpI x y != 0) = true := by simpa using hz
          have HZ := Lib.hid hz
          clear hz
          go_wp2_with fail
          go_ret
          exact ⟨ret_int (by rw [HQ.out, HS.out, if_pos HZ.out]), rfl⟩
      · have hfin : cmpG a b = 1 := by rw [HQ.out, cmpG_right a b j hlt (by omega)]
        have HF := Lib.hid hfin
        have hbj : (b.length : Int) ≤ (j : Int) := by omega
        clear hfin
        go_wp2_with fail
        go_ret
        exact ⟨ret_int (by rw [HF.out]), rfl⟩
    · by_cases hlb : j < b.length
      · have hfin : cmpG a b = -1 := by rw [HQ.out, cmpG_left a b j (by omega) hlb]
        have HF := Lib.hid hfin
        have hab : (a.length : Int) < (b.length : Int) := by omega
        have haj : (a.length : Int) ≤ (j : Int) := by omega
        clear hfin
        go_wp2_with fail
        go_ret
        exact ⟨ret_int (by rw [HF.out]), rfl⟩
      · have hfin : cmpG a b = 0 := by rw [HQ.out, cmpG_both a b j (by omega) (by omega)]
        have HF := Lib.hid hfin
        have hab : ¬ (a.length : Int) < (b.length : Int) := by omega
        have haj : (a.length : Int) ≤ (j : Int) := by omega
        clear hfin
        go_wp2_with fail
        go_ret
        exact ⟨ret_int (by rw [HF.out]), rfl⟩
end Go.Proofs.Ytblbfpokkpkcjaa
