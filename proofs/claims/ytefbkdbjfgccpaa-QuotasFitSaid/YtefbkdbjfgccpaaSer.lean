/- The contracts of the checks of a series (package sample, and the reference). -/
import Derived.Test.YtefbkdbjfgccpaaChk
namespace Go.Proofs.Ytefbkdbjfgccpaa
open Go.RowKit
set_option linter.unusedVariables false
set_option linter.unusedSimpArgs false

/-- Is the moment t not after the one before it? -/
def notAfter (p : Option Int) (t : Int) : Bool := match p with | some y => decide (t ≤ y) | none => false
/-- What is wrong with the samples from one on, the moment of the one before it given. -/
def serFrom : Option Int → List Smp → Int
  | _, [] => 0
  | p, x :: l => if smpErr x ≠ 0 then smpErr x else if notAfter p x.t = true then 7 else serFrom (some x.t) l
def serErr (l : List Smp) : Int := if 5000 < l.length then 2 else serFrom none l
/-- The moment of the sample before the j-th. -/
def prevT (l : List Smp) (j : Nat) : Option Int := if j = 0 then none else (l[j - 1]?).map Smp.t

theorem serFrom_step (l : List Smp) (j : Nat) (h : j < l.length) :
    serFrom (prevT l j) (l.drop j) = if smpErr l[j] ≠ 0 then smpErr l[j] else if notAfter (prevT l j) l[j].t = true then 7 else serFrom (prevT l (j + 1)) (l.drop (j + 1)) := by
  rw [List.drop_eq_getElem_cons h]
  simp only [serFrom]
  have : prevT l (j + 1) = some l[j].t := by simp [prevT, h]
  rw [this]
theorem serFrom_end (l : List Smp) : serFrom (prevT l l.length) (l.drop l.length) = 0 := by simp [serFrom]

theorem Below.rds {w w' : World} {e : TypeId} {v : Value} {l : List Smp} (hb : Below w.heap.size w w') (h : RdS w e v l) : RdS w' e v l := Rd.below h hb

theorem bdrewN {B : Nat} {a w : World} (h : Below B a w) (m : Nat) : Below B a (w.drewN m) := ⟨h.os, h.tape, h.output, h.size, h.block⟩

set_option maxRecDepth 100000 in
set_option maxHeartbeats 1000000 in
theorem checkSeries_any (v : Value) (l : List Smp) (w : World) (hR : RdS w 56 v l) :
    Calls Try.prog 33 #[v] w fun e w' => e = .returned (.int .i64 (serErr l)) ∧ Below w.heap.size w w' := by
  have hdef : serErr l = if 5000 < l.length then 2 else serFrom none l := rfl
  by_cases hlong : 5000 < l.length
  · rw [if_pos hlong] at hdef
    obtain ⟨b, off, c, rfl, hc1, hc2, hblt, hcell⟩ := RdS.cells hR (by omega)
    generalize serErr l = E at *
    have HD := Lib.hid hdef
    clear hdef
    go_enter Try.func33, Try.ntmps33
    go_wp2_with fail
    go_ret
    exact ⟨ret_int HD.out.symm, Below.refl _ _⟩
  · rw [if_neg hlong] at hdef
    rcases Nat.eq_zero_or_pos l.length with h0 | h0
    · obtain rfl := List.eq_nil_of_length_eq_zero h0
      obtain ⟨_, a, c, rfl, _, _, _⟩ := hR
      have HD := Lib.hid hdef
      clear hdef
      go_enter Try.func33, Try.ntmps33
      go_wp2_with fail
      refine wp_loop_rounds 1 ?_
      rw [rounds_succ]
      go_wp2_with fail
      go_ret
      exact ⟨ret_int (by rw [HD.out]; rfl), Below.refl _ _⟩
    · obtain ⟨b, off, c, rfl, hc1, hc2, hblt, hcell⟩ := RdS.cells hR h0
      unfold maxLen at hc2
      have HD := Lib.hid hdef
      clear hdef
      have HC := Lib.hid hcell
      clear hcell
      go_enter Try.func33, Try.ntmps33
      go_wp2_with fail
      go_loopw [11] (fun i wr => ∃ j : Nat, j ≤ l.length ∧ i = .int .i64 (j : Int) ∧ serFrom none l = serFrom (prevT l j) (l.drop j) ∧ Below w.heap.size w wr) (fun i _ => l.length - (intOf i).toNat)
      case atStart => exact ⟨0, by omega, rfl, by simp [prevT], Below.refl _ _⟩
      case round =>
        obtain ⟨j, hj, rfl, hser, hwr⟩ := hrel
        have HSER := Lib.hid hser
        clear hser
        have hbr : b < wr.heap.size := Nat.lt_of_lt_of_le hblt hwr.size
        by_cases hlt : j < l.length
        · obtain ⟨c0, c1, c2⟩ := HC.out j hlt
          rw [← hwr.cell (p := ⟨b, off + j * 3, none⟩) hblt] at c0
          rw [← hwr.cell (p := ⟨b, off + j * 3 + 1, none⟩) hblt] at c1
          rw [← hwr.cell (p := ⟨b, off + j * 3 + 2, none⟩) hblt] at c2
          have hstep := serFrom_step l j hlt
          have hprev : 0 < j → ∃ y : Int, prevT l j = some y ∧ wr.cell? ⟨b, off + (j - 1) * 3, none⟩ = some (.int .i64 y) := fun hj0 => by
            obtain ⟨p0, _, _⟩ := HC.out (j - 1) (by omega)
            exact ⟨_, by unfold prevT; rw [if_neg (by omega), List.getElem?_eq_getElem (by omega)]; rfl, (hwr.cell (p := ⟨b, off + (j - 1) * 3, none⟩) hblt).trans p0⟩
          have HPREV := Lib.hid hprev
          generalize hx : l[j] = x at *
          have HSTEP := Lib.hid hstep
          clear hx hstep hprev
          go_wp2_with fail
          refine (checkSample_any x _).mono ?_
          rintro e w1 ⟨rfl, rfl⟩
          by_cases hE : smpErr x = 0
          · have hE' : (smpErr x != 0) = false := by simpa using hE
            have HE := Lib.hid hE
            clear hE
            rcases Nat.eq_zero_or_pos j with hj0 | hj0
            · obtain rfl := hj0
              go_wp2_with fail
              go_quiet (fail)
              go_wp2_with fail
              go_roundw
              case rel => exact ⟨1, by omega, rfl, by rw [HSER.out, HSTEP.out, if_neg (by rw [HE.out]; simp), if_neg (by simp [prevT, notAfter])], bdrewN ((hwr.alloc hwr.size _).alloc (by have := hwr.size; simp; omega) _) _⟩
              case measure => simp [intOf]; omega
            · obtain ⟨y, hpy, hcy⟩ := HPREV.out hj0
              have HPY := Lib.hid hpy
              clear hpy
              have hj0' : (0 : Int) < (j : Int) := by omega
              by_cases hxy : x.t ≤ y
              · have hxy' : decide (x.t ≤ y) = true := by simpa using hxy
                go_wp2_with fail
                go_quiet (fail)
                go_wp2_with fail
                go_ret
                exact ⟨ret_int (by rw [HD.out, HSER.out, HSTEP.out, if_neg (by rw [HE.out]; simp), if_pos (by rw [HPY.out]; exact hxy')]), bdrewN ((hwr.alloc hwr.size _).alloc (by have := hwr.size; simp; omega) _) _⟩
              · have hxy' : decide (x.t ≤ y) = false := by simpa using hxy
                go_wp2_with fail
                go_quiet (fail)
                go_wp2_with fail
                go_roundw
                case rel => exact ⟨j + 1, by omega, by go_num, by rw [HSER.out, HSTEP.out, if_neg (by rw [HE.out]; simp), if_neg (by rw [HPY.out]; simpa [notAfter] using hxy)], bdrewN ((hwr.alloc hwr.size _).alloc (by have := hwr.size; simp; omega) _) _⟩
                case measure => simp [intOf]; omega
          · have hE' : (smpErr x != 0) = true := by simpa using hE
            have HE := Lib.hid hE
            clear hE
            go_wp2_with fail
            go_ret
            exact ⟨ret_int (by rw [HD.out, HSER.out, HSTEP.out, if_pos HE.out]), (hwr.alloc hwr.size _).alloc (by have := hwr.size; simp; omega) _⟩
        · obtain rfl : j = l.length := by omega
          go_wp2_with fail
          go_ret
          exact ⟨ret_int (by rw [HD.out, HSER.out, serFrom_end]), hwr⟩

end Go.Proofs.Ytefbkdbjfgccpaa
