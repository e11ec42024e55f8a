/- The contracts of what finds runs of equal values: package sample, and the reference. -/
import Derived.Test.YtjkncmhmmafmjaaApw
import Derived.Test.YtjkncmhmmafmjaaScale
import Derived.StillTailTactics
namespace Go.Proofs.Ytjkncmhmmafmjaa
open Go.RowKit
set_option linter.unusedVariables false
set_option linter.unusedSimpArgs false

def atS (l : List Smp) (i : Nat) : Smp := l.getD i ⟨0, 0, 0⟩
theorem atS_eq (l : List Smp) (i : Nat) (h : i < l.length) : l[i] = atS l i := by simp [atS, List.getD_eq_getElem?_getD, List.getElem?_eq_getElem h]
theorem RdS.at_ {w : World} {e : TypeId} {v : Value} {l : List Smp} (h : RdS w e v l) (hn : 0 < l.length) :
    ∃ b off c, v = .slice (some ⟨b, off, none⟩) l.length c ∧ l.length ≤ c ∧ c ≤ maxLen ∧ b < w.heap.size ∧ ∀ i, i < l.length →
      w.cell? ⟨b, off + i * 3, none⟩ = some (.int .i64 (atS l i).t) ∧ w.cell? ⟨b, off + i * 3 + 1, none⟩ = some (.int .i64 (atS l i).v) ∧ w.cell? ⟨b, off + i * 3 + 2, none⟩ = some (.int .i64 (atS l i).q) := by
  obtain ⟨b, off, c, hv, h2, h3, hlt, hc⟩ := RdS.cells h hn
  exact ⟨b, off, c, hv, h2, h3, hlt, fun i hi => by rw [← atS_eq l i hi]; exact hc i hi⟩

def sameB (x y : Smp) : Bool := decide (x.v = y.v ∧ x.q ≠ 2 ∧ y.q ≠ 2)
/-- How many samples behind x have its value. -/
def runL (x : Smp) : List Smp → Nat
  | [] => 0
  | y :: r => if sameB x y = true then 1 + runL y r else 0
/-- The index after the run that begins at i. -/
def runE (l : List Smp) (i : Nat) : Nat := i + 1 + runL (atS l i) (l.drop (i + 1))

theorem runL_le (x : Smp) (l : List Smp) : runL x l ≤ l.length := by
  induction l generalizing x with
  | nil => simp [runL]
  | cons y r ih =>
    simp only [runL]
    split
    · have := ih y; simp; omega
    · omega
theorem runE_le (l : List Smp) (i : Nat) (h : i < l.length) : runE l i ≤ l.length := by
  have := runL_le (atS l i) (l.drop (i + 1))
  simp at this
  unfold runE
  omega
theorem runE_gt (l : List Smp) (i : Nat) : i < runE l i := by unfold runE; omega
theorem runL_drop (l : List Smp) (x : Smp) (e : Nat) (h : e < l.length) : runL x (l.drop e) = if sameB x (atS l e) = true then 1 + runL (atS l e) (l.drop (e + 1)) else 0 := by
  rw [List.drop_eq_getElem_cons h, atS_eq l e h]; rfl
theorem runL_end (l : List Smp) (x : Smp) : runL x (l.drop l.length) = 0 := by simp [runL]

set_option maxRecDepth 100000 in
set_option maxHeartbeats 2000000 in
theorem runEnd_any (v : Value) (l : List Smp) (i : Nat) (w : World) (hR : RdS w 27 v l) (hi : i < l.length) (hlong : l.length ≤ 5000) :
    Calls Try.prog 67 #[v, .int .i64 (i : Int)] w fun e w' => e = .returned (.int .i64 ((runE l i : Nat) : Int)) ∧ ∃ m, w' = w.drewN m := by
  obtain ⟨b, off, c, rfl, hc1, hc2, hblt, hcell⟩ := RdS.at_ hR (by omega)
  unfold maxLen at hc2
  obtain ⟨a0, a1, a2⟩ := hcell i hi
  have hE : runE l i = i + 1 + runL (atS l i) (l.drop (i + 1)) := rfl
  have HCELL := Lib.hid hcell
  have HE := Lib.hid hE
  clear hcell hE hR
  generalize hx0 : atS l i = x0 at *
  have HX0 := Lib.hid hx0
  clear hx0
  by_cases hq0 : x0.q = 2
  · have hq0' : (x0.q == 2) = true := by simpa using hq0
    have hr0 : runE l i = i + 1 := by
      rw [HE.out]
      rcases Nat.lt_or_ge (i + 1) l.length with h | h
      · rw [runL_drop l x0 (i + 1) h, if_neg (by simp [sameB, hq0])]
      · rw [List.drop_of_length_le h]; rfl
    have HR0 := Lib.hid hr0
    clear hq0 hr0
    go_enter Try.func67, Try.ntmps67
    go_wp2_with fail
    go_ret
    exact ⟨ret_int (by rw [HR0.out]; rfl), 0, rfl⟩
  · have hq0' : (x0.q == 2) = false := by simpa using hq0
    have HQ0 := Lib.hid hq0
    clear hq0
    go_enter Try.func67, Try.ntmps67
    go_wp2_with fail
    go_loopw [5] (fun s wr => ∃ (e : Nat) (p : Smp), i < e ∧ e ≤ l.length ∧ s = .int .i64 (e : Int) ∧ runE l i = e + runL p (l.drop e) ∧ p.v = x0.v ∧ p.q ≠ 2 ∧ ∃ m, wr = w.drewN m) (fun s _ => l.length - (intOf s).toNat)
    case atStart => exact ⟨i + 1, x0, by omega, by omega, rfl, HE.out, rfl, HQ0.out, 0, rfl⟩
    case round =>
      obtain ⟨e, p, hie, hel, rfl, hrun, hpv, hpq, m, rfl⟩ := hrel
      by_cases hlt : e < l.length
      · obtain ⟨c0, c1, c2⟩ := HCELL.out e hlt
        have hd := runL_drop l p e hlt
        generalize atS l e = y at *
        have HRUN := Lib.hid hrun
        have HPV := Lib.hid hpv
        have HPQ := Lib.hid hpq
        have HD := Lib.hid hd
        clear hrun hpv hpq hd
        by_cases hyq : y.q = 2
        · have hyq' : (y.q != 2) = false := by simpa using hyq
          have HYQ := Lib.hid hyq
          clear hyq
          go_wp2_with fail
          go_quiet (fail)
          go_wp2_with fail
          go_ret
          exact ⟨ret_int (by rw [HRUN.out, HD.out, if_neg (by simp [sameB, HYQ.out])]; rfl), _, World.drewN_drewN _ _ _⟩
        · have hyq' : (y.q != 2) = true := by simpa using hyq
          have HYQ := Lib.hid hyq
          clear hyq
          by_cases hyv : y.v = x0.v
          · have hyv' : (y.v == x0.v) = true := by simpa using hyv
            have HYV := Lib.hid hyv
            clear hyv
            go_wp2_with fail
            go_quiet (fail)
            go_wp2_with fail
            go_roundw
            case rel => exact ⟨e + 1, y, by omega, by omega, by go_num, by rw [HRUN.out, HD.out, if_pos (by simp [sameB, HPV.out, HYV.out, HPQ.out, HYQ.out])]; omega, HYV.out, HYQ.out, _, rfl⟩
            case measure => simp [intOf]; omega
          · have hyv' : (y.v == x0.v) = false := by simpa using hyv
            have HYV := Lib.hid hyv
            clear hyv
            go_wp2_with fail
            go_quiet (fail)
            go_wp2_with fail
            go_ret
            exact ⟨ret_int (by rw [HRUN.out, HD.out, if_neg (by have := HYV.out; have := HPV.out; simp [sameB]; omega)]; rfl), _, World.drewN_drewN _ _ _⟩
      · obtain rfl : e = l.length := by omega
        have HRUN := Lib.hid hrun
        clear hrun hpv hpq
        go_wp2_with fail
        go_quiet (fail)
        go_wp2_with fail
        go_ret
        exact ⟨ret_int (by rw [HRUN.out, runL_end]; rfl), _, World.drewN_drewN _ _ _⟩
end Go.Proofs.Ytjkncmhmmafmjaa
