import Derived.Test.YtmcojidaimeijaaBk01
import Derived.Test.YtmcojidaimeijaaDist
import Derived.Test.YtmcojidaimeijaaSerr
import Derived.WalkKit
import Derived.Lib.Hide
import Derived.Test.YtmcojidaimeijaaRows
import Derived.Shelf.Bits.Mul64
import Derived.Test.YtmcojidaimeijaaDiv
/- The contracts of the checks of kept indices: checkKept (package compress), and the reference's IndicesFault. -/

namespace Go.Proofs.Ytmcojidaimeijaa
open Go.RowKit
set_option linter.unusedVariables false
set_option linter.unusedSimpArgs false

/-- What is wrong with indices of n samples, the one before them given. -/
def idxFrom (n : Nat) : Option Int → List Int → Int
  | _, [] => 0
  | p, k :: r => if inB k 0 ((n : Int) - 1) = false then 1 else if notAfter p k = true then 7 else idxFrom n (some k) r
def idxErr (n : Nat) (ks : List Int) : Int := if n < ks.length then 2 else idxFrom n none ks
def keptErr (l : List Smp) (ks : List Int) : Int := if serErr l ≠ 0 then serErr l else idxErr l.length ks
def prevI (ks : List Int) (j : Nat) : Option Int := if j = 0 then none else ks[j - 1]?
theorem idxFrom_step (n : Nat) (ks : List Int) (j : Nat) (h : j < ks.length) :
    idxFrom n (prevI ks j) (ks.drop j) = if inB ks[j] 0 ((n : Int) - 1) = false then 1 else if notAfter (prevI ks j) ks[j] = true then 7 else idxFrom n (prevI ks (j + 1)) (ks.drop (j + 1)) := by
  rw [List.drop_eq_getElem_cons h]
  simp only [idxFrom]
  have : prevI ks (j + 1) = some ks[j] := by simp [prevI, h]
  rw [this]
theorem idxFrom_end (n : Nat) (ks : List Int) : idxFrom n (prevI ks ks.length) (ks.drop ks.length) = 0 := by simp [idxFrom]

theorem RdI.lenv {w : World} {v : Value} {l : List Int} (h : RdI w v l) : ∃ pa ca, v = .slice pa l.length ca := by obtain ⟨_, pa, ca, rfl, _⟩ := h; exact ⟨pa, ca, rfl⟩
theorem RdI.below {w w' : World} {v : Value} {l : List Int} {B : Nat} (h : RdI w v l) (hb : Below B w w') (hB : w.heap.size ≤ B) : RdI w' v l := Rd.below h (hb.mono hB)

set_option maxRecDepth 100000 in
set_option maxHeartbeats 2000000 in
theorem checkKept_any (v vk : Value) (l : List Smp) (ks : List Int) (w : World) (hR : RdS w 57 v l) (hK : RdI w vk ks) (hks : ks.length ≤ 100000) :
    Calls Try.prog 52 #[v, vk] w fun e w' => e = .returned (.int .i64 (keptErr l ks)) ∧ Below w.heap.size w w' := by
  have hdef : keptErr l ks = if serErr l ≠ 0 then serErr l else idxErr l.length ks := rfl
  have hidx : idxErr l.length ks = if l.length < ks.length then 2 else idxFrom l.length none ks := rfl
  generalize keptErr l ks = E at *
  generalize idxErr l.length ks = J at *
  have HD := Lib.hid hdef
  have HI := Lib.hid hidx
  obtain ⟨pa, ca, rfl⟩ := hR.lenv
  obtain ⟨pk, ck, rfl⟩ := hK.lenv
  have HK := Lib.hid hK
  have HSE := Lib.hid (checkSeries_any _ l w hR)
  have hge := @serErr_good l
  have HGE := Lib.hid hge
  clear hdef hidx hR hK hge
  go_enter Try.func52, Try.ntmps52
  go_wp2_with fail
  refine HSE.out.mono ?_
  rintro e w1 ⟨rfl, hb1⟩
  by_cases hS : serErr l = 0
  · have hS' : (serErr l != 0) = false := by simpa using hS
    have hlong := (HGE.out hS).1
    have HS := Lib.hid hS
    clear hS
    by_cases hL : l.length < ks.length
    · have HJ := Lib.hid (show J = 2 by rw [HI.out, if_pos hL])
      go_wp2_with fail
      go_ret
      exact ⟨ret_int (by rw [HD.out, if_neg (by rw [HS.out]; simp), HJ.out]), hb1⟩
    · have HJ := Lib.hid (show J = idxFrom l.length none ks by rw [HI.out, if_neg hL])
      have hK1 : RdI w1 _ ks := HK.out.below hb1 (Nat.le_refl _)
      have HK1 := Lib.hid hK1
      have hsz := hb1.size
      have HB1 := Lib.hid hb1
      clear hK1 hb1
      go_wp2_with fail
      go_loop [20] (fun i => ∃ j : Nat, j ≤ ks.length ∧ i = .int .i64 (j : Int) ∧ idxFrom l.length none ks = idxFrom l.length (prevI ks j) (ks.drop j)) (fun i => ks.length - (intOf i).toNat)
      case atStart => exact ⟨0, by omega, rfl, by simp [prevI]⟩
      case round =>
        obtain ⟨j, hj, rfl, hf⟩ := hrel
        have HF := Lib.hid hf
        clear hf
        by_cases hlt : j < ks.length
        · obtain ⟨b, off, c, hv, hc1, hc2, hblt, hcell⟩ := RdI.cells HK1.out (by omega)
          cases hv
          unfold maxLen at hc2
          have c0 := hcell j hlt
          have hstep := idxFrom_step l.length ks j hlt
          have hprev : 0 < j → ∃ y : Int, prevI ks j = some y ∧ w1.cell? ⟨b, off + (j - 1), none⟩ = some (.int .i64 y) := fun hj0 =>
            ⟨ks[j - 1]'(by omega), by unfold prevI; rw [if_neg (by omega)]; exact List.getElem?_eq_getElem (by omega), hcell (j - 1) (by omega)⟩
          have HPREV := Lib.hid hprev
          generalize ks[j] = x at *
          have HSTEP := Lib.hid hstep
          clear hstep hprev hcell
          go_wp2_with fail
          refine (within_any _ _ _ _).mono ?_
          rintro e w' ⟨rfl, rfl⟩
          by_cases hB : inB x 0 ((l.length : Int) - 1) = true
          · have HB := Lib.hid hB
            rw [hB]
            clear hB
            rcases Nat.eq_zero_or_pos j with hj0 | hj0
            · obtain rfl := hj0
              go_wp2_with fail
              go_round
              case rel => exact ⟨1, by omega, rfl, by rw [HF.out, HSTEP.out, if_neg (by simp [HB.out]), if_neg (by simp [prevI, notAfter])]⟩
              case measure => simp [intOf]; omega
            · obtain ⟨y, hpy, hcy⟩ := HPREV.out hj0
              have HPY := Lib.hid hpy
              clear hpy
              have hj0' : (0 : Int) < (j : Int) := by omega
              by_cases hxy : x ≤ y
              · have hxy' : decide (x ≤ y) = true := by simpa using hxy
                go_wp2_with fail
                go_ret
                exact ⟨ret_int (by rw [HD.out, if_neg (by rw [HS.out]; simp), HJ.out, HF.out, HSTEP.out, if_neg (by simp [HB.out]), if_pos (by rw [HPY.out]; exact hxy')]), HB1.out⟩
              · have hxy' : decide (x ≤ y) = false := by simpa using hxy
                go_wp2_with fail
                go_round
                case rel => exact ⟨j + 1, by omega, by go_num, by rw [HF.out, HSTEP.out, if_neg (by simp [HB.out]), if_neg (by rw [HPY.out]; simpa [notAfter] using hxy)]⟩
                case measure => simp [intOf]; omega
          · have hB' : inB x 0 ((l.length : Int) - 1) = false := by simpa using hB
            have HB := Lib.hid hB'
            rw [hB']
            clear hB hB'
            go_wp2_with fail
            go_ret
            exact ⟨ret_int (by rw [HD.out, if_neg (by rw [HS.out]; simp), HJ.out, HF.out, HSTEP.out, if_pos HB.out]), HB1.out⟩
        · obtain rfl : j = ks.length := by omega
          go_wp2_with fail
          go_ret
          exact ⟨ret_int (by rw [HD.out, if_neg (by rw [HS.out]; simp), HJ.out, HF.out, idxFrom_end]), HB1.out⟩
  · have hS' : (serErr l != 0) = true := by simpa using hS
    have HS := Lib.hid hS
    clear hS
    go_wp2_with fail
    go_ret
    exact ⟨ret_int (by rw [HD.out, if_pos HS.out]), hb1⟩

set_option maxRecDepth 100000 in
set_option maxHeartbeats 2000000 in
theorem indicesFault_any (v vk : Value) (l : List Smp) (ks : List Int) (w : World) (hR : RdS w 57 v l) (hK : RdI w vk ks) (hks : ks.length ≤ 100000) (hlong : l.length ≤ 5000) :
    Calls Try.prog 29 #[v, vk] w fun e w' => e = .returned (.int .i64 (idxErr l.length ks)) ∧ w = w' := by
  have hidx : idxErr l.length ks = if l.length < ks.length then 2 else idxFrom l.length none ks := rfl
  generalize idxErr l.length ks = J at *
  have HI := Lib.hid hidx
  obtain ⟨pa, ca, rfl⟩ := hR.lenv
  obtain ⟨pk, ck, rfl⟩ := hK.lenv
  have HK1 := Lib.hid hK
  clear hidx hR hK
  go_enter Try.func29, Try.ntmps29
  by_cases hL : l.length < ks.length
  · have HJ := Lib.hid (show J = 2 by rw [HI.out, if_pos hL])
    go_wp2_with fail
    go_ret
    exact ⟨ret_int HJ.out.symm, rfl⟩
  · have HJ := Lib.hid (show J = idxFrom l.length none ks by rw [HI.out, if_neg hL])
    go_wp2_with fail
    go_loop [14] (fun i => ∃ j : Nat, j ≤ ks.length ∧ i = .int .i64 (j : Int) ∧ idxFrom l.length none ks = idxFrom l.length (prevI ks j) (ks.drop j)) (fun i => ks.length - (intOf i).toNat)
    case atStart => exact ⟨0, by omega, rfl, by simp [prevI]⟩
    case round =>
      obtain ⟨j, hj, rfl, hf⟩ := hrel
      have HF := Lib.hid hf
      clear hf
      by_cases hlt : j < ks.length
      · obtain ⟨b, off, c, hv, hc1, hc2, hblt, hcell⟩ := RdI.cells HK1.out (by omega)
        cases hv
        unfold maxLen at hc2
        have c0 := hcell j hlt
        have hstep := idxFrom_step l.length ks j hlt
        have hprev : 0 < j → ∃ y : Int, prevI ks j = some y ∧ w.cell? ⟨b, off + (j - 1), none⟩ = some (.int .i64 y) := fun hj0 =>
          ⟨ks[j - 1]'(by omega), by unfold prevI; rw [if_neg (by omega)]; exact List.getElem?_eq_getElem (by omega), hcell (j - 1) (by omega)⟩
        have HPREV := Lib.hid hprev
        generalize ks[j] = x at *
        have HSTEP := Lib.hid hstep
        clear hstep hprev hcell
        go_wp2_with fail
        refine (rin_any _ _ _ _).mono ?_
        rintro e w' ⟨rfl, rfl⟩
        by_cases hB : inB x 0 ((l.length : Int) - 1) = true
        · have HB := Lib.hid hB
          rw [hB]
          clear hB
          rcases Nat.eq_zero_or_pos j with hj0 | hj0
          · obtain rfl := hj0
            go_wp2_with fail
            go_round
            case rel => exact ⟨1, by omega, rfl, by rw [HF.out, HSTEP.out, if_neg (by simp [HB.out]), if_neg (by simp [prevI, notAfter])]⟩
            case measure => simp [intOf]; omega
          · obtain ⟨y, hpy, hcy⟩ := HPREV.out hj0
            have HPY := Lib.hid hpy
            clear hpy
            have hj0' : (0 : Int) < (j : Int) := by omega
            by_cases hxy : x ≤ y
            · have hxy' : decide (x ≤ y) = true := by simpa using hxy
              go_wp2_with fail
              go_ret
              exact ⟨ret_int (by rw [HJ.out, HF.out, HSTEP.out, if_neg (by simp [HB.out]), if_pos (by rw [HPY.out]; exact hxy')]), rfl⟩
            · have hxy' : decide (x ≤ y) = false := by simpa using hxy
              go_wp2_with fail
              go_round
              case rel => exact ⟨j + 1, by omega, by go_num, by rw [HF.out, HSTEP.out, if_neg (by simp [HB.out]), if_neg (by rw [HPY.out]; simpa [notAfter] using hxy)]⟩
              case measure => simp [intOf]; omega
        · have hB' : inB x 0 ((l.length : Int) - 1) = false := by simpa using hB
          have HB := Lib.hid hB'
          rw [hB']
          clear hB hB'
          go_wp2_with fail
          go_ret
          exact ⟨ret_int (by rw [HJ.out, HF.out, HSTEP.out, if_pos HB.out]), rfl⟩
      · obtain rfl : j = ks.length := by omega
        go_wp2_with fail
        go_ret
        exact ⟨ret_int (by rw [HJ.out, HF.out, idxFrom_end]), rfl⟩
end Go.Proofs.Ytmcojidaimeijaa

/- What takes the samples with some indices: plain mathematics, and the reference's KeptOf. -/

namespace Go.Proofs.Ytmcojidaimeijaa
open Go.RowKit
set_option linter.unusedVariables false
set_option linter.unusedSimpArgs false

def choOf (l : List Smp) (ks : List Int) : List Smp := ks.map fun k => atS l k.toNat
theorem choOf_length (l : List Smp) (ks : List Int) : (choOf l ks).length = ks.length := by simp [choOf]
/-- All indices are those of samples. -/
def Inside (n : Nat) (ks : List Int) : Prop := ∀ j (h : j < ks.length), 0 ≤ ks[j] ∧ ks[j] < (n : Int)
theorem idxFrom_inside {n : Nat} {p : Option Int} {ks : List Int} (h : idxFrom n p ks = 0) : ∀ k ∈ ks, 0 ≤ k ∧ k < (n : Int) := by
  induction ks generalizing p with
  | nil => simp
  | cons k r ih =>
    simp only [idxFrom] at h
    split at h; · omega
    split at h; · omega
    rename_i h1 h2
    intro x hx
    rcases List.mem_cons.1 hx with rfl | hx
    · have : inB x 0 ((n : Int) - 1) = true := by simpa using h1
      have := inB_true.1 this
      omega
    · exact ih h x hx
theorem idxErr_inside {n : Nat} {ks : List Int} (h : idxErr n ks = 0) : ks.length ≤ n ∧ Inside n ks := by
  unfold idxErr at h
  split at h
  · omega
  · exact ⟨by omega, fun j hj => idxFrom_inside h _ (List.getElem_mem hj)⟩
/-- Indices that rise choose samples whose moments rise. -/
theorem choOf_rise {l : List Smp} (hl : Rise none l) {p : Option Int} {q : Option Int} {ks : List Int} (h : idxFrom l.length p ks = 0) (hq : ∀ t, q = some t → ∃ k, p = some k ∧ 0 ≤ k ∧ k < (l.length : Int) ∧ t = (atS l k.toNat).t) : Rise q (choOf l ks) := by
  induction ks generalizing p q with
  | nil => trivial
  | cons k r ih =>
    simp only [idxFrom] at h
    split at h; · omega
    split at h; · omega
    rename_i h1 h2
    have hin : inB k 0 ((l.length : Int) - 1) = true := by simpa using h1
    have hk := inB_true.1 hin
    refine ⟨fun t ht => ?_, ih h fun t ht => ⟨k, rfl, hk.1, by omega, by cases ht; rfl⟩⟩
    obtain ⟨k', hk', h3, h4, rfl⟩ := hq t ht
    subst hk'
    have h5 : ¬ k ≤ k' := by simpa [notAfter] using h2
    exact rise_ltA hl _ _ (by omega) (by omega)

theorem cellsOf_zero (n i : Nat) (hi : i < n * 3) : (cellsOf (List.replicate n ⟨0, 0, 0⟩))[i]? = some (.int .i64 0) := by
  have h1 := cellsOf_get (List.replicate n ⟨0, 0, 0⟩) (i / 3) (by simp; omega) (i % 3) (by omega)
  rw [show i / 3 * 3 + i % 3 = i by omega] at h1
  rw [h1]
  have h2 : i % 3 = 0 ∨ i % 3 = 1 ∨ i % 3 = 2 := by omega
  rcases h2 with h | h | h <;> simp [h, Smp.cells]
theorem madeSmp (n : Nat) : (madeCells (Value.agg #[.int .i64 0, .int .i64 0, .int .i64 0]).cells (n * 3)).toList = cellsOf (List.replicate n ⟨0, 0, 0⟩) := by
  apply List.ext_getElem?
  intro i
  rcases Nat.lt_or_ge i (n * 3) with hi | hi
  · rw [cellsOf_zero n i hi]
    have h2 : i % 3 = 0 ∨ i % 3 = 1 ∨ i % 3 = 2 := by omega
    rcases h2 with h | h | h <;> simp [madeCells, Value.cells, hi, h]
  · rw [List.getElem?_eq_none (by simp [madeCells]; omega), List.getElem?_eq_none (by rw [cellsOf_length]; simp; omega)]
theorem choOf_get (l : List Smp) (ks : List Int) (j : Nat) (h : j < ks.length) : (choOf l ks)[j]? = some (atS l (ks[j]).toNat) := by simp [choOf, h]
theorem choOf_take (l : List Smp) (ks : List Int) (j : Nat) (h : j < ks.length) : (choOf l ks).take (j + 1) = (choOf l ks).take j ++ [atS l (ks[j]).toNat] := by
  rw [List.take_add_one, choOf_get l ks j h]; rfl

theorem own_putN {w : World} {base g cap n : Nat} {e : TypeId} {l : List Smp} (h : w.ownsRow base e 3 (.slice (some ⟨g, 0, none⟩) n cap) n (cellsOf l)) (hl : l.length = n) (i : Nat) (hi : i < n) (y : Smp) :
    (((w.setCell ⟨g, i * 3, none⟩ (.int .i64 y.t)).setCell ⟨g, i * 3 + 1, none⟩ (.int .i64 y.v)).setCell ⟨g, i * 3 + 2, none⟩ (.int .i64 y.q)).ownsRow base e 3 (.slice (some ⟨g, 0, none⟩) n cap) n (cellsOf (l.set i y)) := by
  subst hl
  exact own_put h i hi y
/-- What chosen has after j rounds: the first j samples, then zeros. -/
def choTo (l : List Smp) (ks : List Int) (j : Nat) : List Smp := (choOf l ks).take j ++ List.replicate (ks.length - j) ⟨0, 0, 0⟩
theorem choTo_length (l : List Smp) (ks : List Int) (j : Nat) (h : j ≤ ks.length) : (choTo l ks j).length = ks.length := by
  simp [choTo, choOf_length]; omega
theorem choTo_step (l : List Smp) (ks : List Int) (j : Nat) (h : j < ks.length) : (choTo l ks j).set j (atS l (ks[j]).toNat) = choTo l ks (j + 1) := by
  unfold choTo
  rw [choOf_take l ks j h, List.set_append_right _ _ (by simp [choOf_length]; omega)]
  have h1 : j - ((choOf l ks).take j).length = 0 := by simp [choOf_length]; omega
  rw [h1, show ks.length - j = (ks.length - (j + 1)) + 1 by omega, List.replicate_succ]
  simp
theorem choTo_zero (l : List Smp) (ks : List Int) : choTo l ks 0 = List.replicate ks.length ⟨0, 0, 0⟩ := by simp [choTo]
theorem choTo_end (l : List Smp) (ks : List Int) : choTo l ks ks.length = choOf l ks := by
  simp [choTo]
  rw [List.take_of_length_le (by simp [choOf_length])]

end Go.Proofs.Ytmcojidaimeijaa

/- Mathematics of the steps of a series: a stepped tag has the same values when only its steps are kept. -/

namespace Go.Proofs.Ytmcojidaimeijaa
open Go.RowKit
set_option linter.unusedVariables false
set_option linter.unusedSimpArgs false

theorem stpTo_split (l : List Smp) (p k : Nat) : ∃ r : List Int, stpTo l (p + k) = stpTo l p ++ r ∧ ∀ x ∈ r, (p : Int) ≤ x ∧ x < ((p + k : Nat) : Int) := by
  induction k with
  | zero => exact ⟨[], by simp, fun x hx => by cases hx⟩
  | succ k ih =>
    obtain ⟨r, h1, h2⟩ := ih
    rw [← Nat.add_assoc, show stpTo l (p + k + 1) = if stpB l (p + k) = true then stpTo l (p + k) ++ [((p + k : Nat) : Int)] else stpTo l (p + k) from rfl]
    by_cases hb : stpB l (p + k) = true
    · rw [if_pos hb, h1]
      refine ⟨r ++ [((p + k : Nat) : Int)], by simp, fun x hx => ?_⟩
      rcases List.mem_append.1 hx with hx | hx
      · have := h2 x hx; omega
      · simp only [List.mem_singleton] at hx; subst hx; omega
    · rw [if_neg hb]
      exact ⟨r, h1, fun x hx => by have := h2 x hx; omega⟩
theorem stpTo_mem (l : List Smp) (p : Nat) : ∀ x ∈ stpTo l p, 0 ≤ x ∧ x < (p : Int) := by
  obtain ⟨r, h1, h2⟩ := stpTo_split l 0 p
  rw [Nat.zero_add] at h1 h2
  intro x hx
  rw [h1] at hx
  have : x ∈ r := by simpa [stpTo] using hx
  have := h2 x this
  omega
/-- The last step before p has the value and the quality of sample p - 1. -/
theorem stpTo_last (l : List Smp) (p : Nat) (hp : p < l.length) : ∃ (r : List Int) (j : Nat), stpTo l (p + 1) = r ++ [(j : Int)] ∧ j ≤ p ∧ (atS l j).v = (atS l p).v ∧ (atS l j).q = (atS l p).q := by
  induction p with
  | zero => exact ⟨[], 0, by simp [stpTo, stpB], Nat.le_refl _, rfl, rfl⟩
  | succ p ih =>
    rw [show stpTo l (p + 1 + 1) = if stpB l (p + 1) = true then stpTo l (p + 1) ++ [((p + 1 : Nat) : Int)] else stpTo l (p + 1) from rfl]
    by_cases hb : stpB l (p + 1) = true
    · rw [if_pos hb]
      exact ⟨stpTo l (p + 1), p + 1, rfl, Nat.le_refl _, rfl, rfl⟩
    · rw [if_neg hb]
      obtain ⟨r, j, h1, h2, h3, h4⟩ := ih (by omega)
      have hn : ¬ (p + 1 = 0 ∨ p + 1 + 1 = l.length ∨ (atS l (p + 1)).v ≠ (atS l (p + 1 - 1)).v ∨ (atS l (p + 1)).q ≠ (atS l (p + 1 - 1)).q) := by
        intro h; apply hb; unfold stpB; exact decide_eq_true h
      rw [Nat.add_sub_cancel] at hn
      have e1 : (atS l (p + 1)).v = (atS l p).v := Classical.byContradiction fun h => hn (.inr (.inr (.inl h)))
      have e2 : (atS l (p + 1)).q = (atS l p).q := Classical.byContradiction fun h => hn (.inr (.inr (.inr h)))
      exact ⟨r, j, h1, by omega, by rw [e1]; exact h3, by rw [e2]; exact h4⟩
theorem posF_split (A B : List Smp) (t : Int) (hA : ∀ x ∈ A, x.t < t) (hB : ∀ x ∈ B, t ≤ x.t) : posF (A ++ B) t = A.length := by
  unfold posF
  induction A with
  | nil =>
    cases B with
    | nil => rfl
    | cons y B =>
      have h := hB y (by simp)
      rw [List.nil_append, List.takeWhile_cons_of_neg (by simp; omega)]
  | cons x A ih =>
    have h := hA x (by simp)
    rw [List.cons_append, List.takeWhile_cons_of_pos (by simpa using h), List.length_cons, List.length_cons, ih (fun y hy => hA y (List.mem_cons_of_mem _ hy))]
theorem steps_value {l : List Smp} (hS : serErr l = 0) (t : Int) : valO (choOf l (stpTo l l.length)) true t = valO l true t := by
  have hrise := serErr_rise hS
  have hpl := posF_le l (t + 1)
  have hiff := fun i (hi : i < l.length) => posF_iff l (t + 1) none hrise i hi
  obtain ⟨r, h1, h2⟩ := stpTo_split l (posF l (t + 1)) (l.length - posF l (t + 1))
  rw [show posF l (t + 1) + (l.length - posF l (t + 1)) = l.length by omega] at h1 h2
  have hmem := stpTo_mem l (posF l (t + 1))
  have hpos : posF (choOf l (stpTo l l.length)) (t + 1) = (stpTo l (posF l (t + 1))).length := by
    rw [h1, show choOf l (stpTo l (posF l (t + 1)) ++ r) = choOf l (stpTo l (posF l (t + 1))) ++ choOf l r by simp [choOf], posF_split, choOf_length]
    · intro x hx
      unfold choOf at hx
      obtain ⟨k, hk, rfl⟩ := List.mem_map.1 hx
      have h3 := hmem k hk
      have h4 := hiff k.toNat (by omega)
      omega
    · intro x hx
      unfold choOf at hx
      obtain ⟨k, hk, rfl⟩ := List.mem_map.1 hx
      have h3 := h2 k hk
      have h4 := hiff k.toNat (by omega)
      omega
  unfold valO
  rw [hpos]
  by_cases hp : posF l (t + 1) = 0
  · rw [hp]
    simp [stpTo]
  · obtain ⟨p, hp2⟩ : ∃ p, posF l (t + 1) = p + 1 := ⟨posF l (t + 1) - 1, by omega⟩
    rw [hp2] at h1 hpl ⊢
    obtain ⟨r', j, g1, g2, g3, g4⟩ := stpTo_last l p (by omega)
    have hlen : (stpTo l (p + 1)).length = r'.length + 1 := by rw [g1]; simp
    have hat : atS (choOf l (stpTo l l.length)) r'.length = atS l j := by
      rw [h1, g1]
      unfold choOf
      rw [List.map_append, List.map_append]
      show (((r'.map fun k => atS l k.toNat) ++ [atS l (j : Int).toNat]) ++ r.map fun k => atS l k.toNat).getD r'.length ⟨0, 0, 0⟩ = atS l j
      rw [List.getD_eq_getElem?_getD, List.getElem?_append_left (by simp), List.getElem?_append_right (by simp)]
      simp
    rw [hlen, if_neg (show ¬ (r'.length + 1 = 0) by omega), if_neg (show ¬ (p + 1 = 0) by omega), if_pos (Or.inl rfl), if_pos (Or.inl rfl), Nat.add_sub_cancel, Nat.add_sub_cancel, hat, g3, g4]
theorem serFrom_zero {p : Option Int} {l : List Smp} (h : Rise p l) (hs : ∀ x ∈ l, smpErr x = 0) : serFrom p l = 0 := by
  induction l generalizing p with
  | nil => cases p <;> rfl
  | cons x l ih =>
    have h1 := hs x (by simp)
    have h2 : notAfter p x.t = false := by
      cases p with
      | none => rfl
      | some q => have := h.1 q rfl; simp [notAfter]; omega
    unfold serFrom
    rw [if_neg (by simp [h1]), if_neg (by simp [h2])]
    exact ih h.2 (fun y hy => hs y (List.mem_cons_of_mem _ hy))
theorem idxFrom_zero (n : Nat) (ks : List Int) (p : Option Int) (hp : ks.Pairwise (· < ·)) (hc : ∀ k ∈ ks, 0 ≤ k ∧ k < (n : Int)) (hq : ∀ q, p = some q → ∀ k ∈ ks, q < k) : idxFrom n p ks = 0 := by
  induction ks generalizing p with
  | nil => cases p <;> rfl
  | cons k r ih =>
    have h1 : inB k 0 ((n : Int) - 1) = true := inB_true.2 (by have := hc k (by simp); omega)
    have h2 : notAfter p k = false := by
      cases p with
      | none => rfl
      | some q => have := hq q rfl k (by simp); simp [notAfter]; omega
    obtain ⟨hp1, hp2⟩ := List.pairwise_cons.1 hp
    unfold idxFrom
    rw [h1, h2, if_neg (by simp), if_neg (by simp)]
    exact ih (some k) hp2 (fun y hy => hc y (List.mem_cons_of_mem _ hy)) (fun q hq2 y hy => by cases hq2; exact hp1 y hy)
theorem stpTo_rise (l : List Smp) (p : Nat) : (stpTo l p).Pairwise (· < ·) := by
  induction p with
  | zero => exact List.Pairwise.nil
  | succ p ih =>
    rw [show stpTo l (p + 1) = if stpB l p = true then stpTo l p ++ [(p : Int)] else stpTo l p from rfl]
    split
    · exact List.pairwise_append.2 ⟨ih, by simp, fun x hx y hy => by simp only [List.mem_singleton] at hy; subst hy; exact (stpTo_mem l p x hx).2⟩
    · exact ih
theorem stp_kept {l : List Smp} (hS : serErr l = 0) : keptErr l (stpTo l l.length) = 0 := by
  have h1 := stpTo_long l l.length
  unfold keptErr idxErr
  rw [if_neg (by simp [hS]), if_neg (by omega)]
  exact idxFrom_zero _ _ none (stpTo_rise l _) (stpTo_mem l _) (fun q hq => by cases hq)
/-- Right samples that are kept are a right series. -/
theorem chosen_right {l : List Smp} {ks : List Int} (hS : serErr l = 0) (h : idxErr l.length ks = 0) : serErr (choOf l ks) = 0 := by
  obtain ⟨hlong, hgood⟩ := serErr_good hS
  have hle : ks.length ≤ l.length := by
    unfold idxErr at h
    by_cases hc : l.length < ks.length
    · rw [if_pos hc] at h; omega
    · omega
  have hfrom : idxFrom l.length none ks = 0 := by unfold idxErr at h; rw [if_neg (by omega)] at h; exact h
  have hin := idxFrom_inside hfrom
  unfold serErr
  rw [if_neg (by rw [choOf_length]; omega)]
  refine serFrom_zero (choOf_rise (serErr_rise hS) hfrom (fun t ht => by cases ht)) (fun x hx => ?_)
  unfold choOf at hx
  obtain ⟨k, hk, rfl⟩ := List.mem_map.1 hx
  have h3 := hin k hk
  have hk2 : k.toNat < l.length := by omega
  rw [← atS_eq l k.toNat hk2]
  exact hgood _ (List.getElem_mem _)
theorem steps_right {l : List Smp} (hS : serErr l = 0) : serErr (choOf l (stpTo l l.length)) = 0 := by
  refine chosen_right hS ?_
  have h := stp_kept hS
  unfold keptErr at h
  rwa [if_neg (by simp [hS])] at h
end Go.Proofs.Ytmcojidaimeijaa

/- The contracts of what takes the samples with some indices: chosen, Keep (package compress). -/

namespace Go.Proofs.Ytmcojidaimeijaa
open Go.RowKit
set_option linter.unusedVariables false
set_option linter.unusedSimpArgs false


set_option maxRecDepth 100000 in
set_option maxHeartbeats 2000000 in
theorem chosen_any (v vk : Value) (l : List Smp) (ks : List Int) (w : World) (hR : RdS w 57 v l) (hK : RdI w vk ks) (hks : ks.length ≤ 100000) (hin : Inside l.length ks) :
    Calls Try.prog 53 #[v, vk] w fun e w' => ∃ vr, e = .returned vr ∧ w'.ownsRow w.heap.size 57 3 vr ks.length (cellsOf (choOf l ks)) ∧ Below w.heap.size w w' := by
  obtain ⟨pa, ca, rfl⟩ := hR.lenv
  obtain ⟨pk, ck, rfl⟩ := hK.lenv
  have HR := Lib.hid hR
  have HK := Lib.hid hK
  have HIN := Lib.hid hin
  obtain ⟨i0, hi0, hz0, hz1, hz2⟩ := info_parts info_smp
  clear hR hK hin
  go_enter Try.func53, Try.ntmps53
  go_wp2_with (at_make; go_loud (refine wpList_make_full w rfl (.tmp 9) (.tmp 9) 26 rfl w.heap.size 57 i0 _ 3 Try.underlying26 hi0 hz0 hz1 .i64 .i64 _ _ ks.length rfl rfl rfl rfl (by rw [hz2]; omega) (by simp only [maxLen]; omega) (Nat.le_refl _) ?_); intro w1 hown hgr)
  have hb1 : Below w.heap.size w w1 := (Below.refl w.heap.size w).grown hgr (Nat.le_refl _) (fun k hk => by simp [Value.ownBlock] at hk)
  rw [madeSmp] at hown
  rw [← choTo_zero l ks] at hown
  have HB1 := Lib.hid hb1
  have hsz1 := hb1.size
  clear hb1 hgr
  go_loopw [13] (fun i wr => ∃ j : Nat, j ≤ ks.length ∧ i = .int .i64 (j : Int) ∧ wr.ownsRow w.heap.size 57 3 (.slice (some ⟨w.heap.size, 0, none⟩) ks.length ks.length) ks.length (cellsOf (choTo l ks j)) ∧ Below w.heap.size w wr) (fun i _ => ks.length - (intOf i).toNat)
  case atStart => exact ⟨0, by omega, rfl, hown, HB1.out⟩
  case round =>
    obtain ⟨j, hj, rfl, ho, hbr⟩ := hrel
    by_cases hlt : j < ks.length
    · have hKr : RdI wr _ ks := HK.out.below hbr (Nat.le_refl _)
      obtain ⟨bk, ok, c, hv, hc1, hc2, hbklt, hkc⟩ := RdI.cells hKr (by omega)
      cases hv
      have k0 := hkc j hlt
      have hij := HIN.out j hlt
      have hkn : ∃ kn : Nat, ks[j] = (kn : Int) ∧ kn < l.length := ⟨ks[j].toNat, by omega, by omega⟩
      obtain ⟨kn, hkn, hknl⟩ := hkn
      have hst := choTo_step l ks j hlt
      rw [hkn] at k0
      rw [hkn, Int.toNat_natCast] at hst
      have hRr : RdS wr 57 _ l := HR.out.below hbr (Nat.le_refl _)
      obtain ⟨b, off, c', hv, hc3, hc4, hblt, hcell⟩ := RdS.at_ hRr (by omega)
      cases hv
      obtain ⟨z0, z1, z2⟩ := hcell kn hknl
      generalize atS l kn = x at *
      have hl := choTo_length l ks j hj
      obtain ⟨d0, d1, d2⟩ := own_cells ho hl j hlt
      have f0 := ho.frozenAt (j * 3)
      have f1 := ho.frozenAt (j * 3 + 1)
      have f2 := ho.frozenAt (j * 3 + 2)
      have hput := own_putN ho hl j hlt x
      rw [hst] at hput
      have HPUT := Lib.hid hput
      have HBR := Lib.hid hbr
      unfold maxLen at hc2 hc4
      have i1 : (0 : Int) ≤ (kn : Int) := by omega
      have i2 : (kn : Int) < (l.length : Int) := by omega
      generalize (choTo l ks j)[j] = y at *
      clear hst hput hkc hij hkn hRr hKr hcell ho hbr hown
      go_wp2_with fail
      go_roundw
      case rel => exact ⟨j + 1, by omega, by go_num, HPUT.out, Below.setCell (Below.setCell (Below.setCell HBR.out (Nat.le_refl _) _) (Nat.le_refl _) _) (Nat.le_refl _) _⟩
      case measure => simp [intOf]; omega
    · obtain rfl : j = ks.length := by omega
      go_wp2_with fail
      go_ret
      rw [choTo_end] at ho
      exact ⟨_, rfl, ho, hbr⟩

set_option maxRecDepth 100000 in
set_option maxHeartbeats 2000000 in
theorem keep_any (v vk : Value) (l : List Smp) (ks : List Int) (w : World) (hR : RdS w 57 v l) (hK : RdI w vk ks) (hks : ks.length ≤ 100000) :
    Calls Try.prog 15 #[v, vk] w fun e w' => ∃ vr, e = .returned (.tuple #[vr, .int .i64 (keptErr l ks)]) ∧ (keptErr l ks = 0 → RdS w' 57 vr (choOf l ks)) ∧ (keptErr l ks ≠ 0 → vr = .slice none 0 0) ∧ Below w.heap.size w w' := by
  have hck := checkKept_any v vk l ks w hR hK hks
  have hin : keptErr l ks = 0 → Inside l.length ks := fun h => by
    unfold keptErr at h
    split at h
    · rename_i h1; exact absurd h h1
    · exact (idxErr_inside h).2
  generalize keptErr l ks = E at *
  have HCK := Lib.hid hck
  have HR := Lib.hid hR
  have HK := Lib.hid hK
  have HIN := Lib.hid hin
  clear hck hR hK hin
  go_enter Try.func15, Try.ntmps15
  go_wp2_with fail
  refine HCK.out.mono ?_
  rintro e w1 ⟨rfl, hb1⟩
  by_cases hE : E = 0
  · have hE' : (E != 0) = false := by simpa using hE
    have HE := Lib.hid hE
    clear hE
    go_wp2_with fail
    refine (chosen_any v vk l ks w1 (HR.out.below hb1 (Nat.le_refl _)) (HK.out.below hb1 (Nat.le_refl _)) hks (HIN.out HE.out)).mono ?_
    rintro e w2 ⟨vr, rfl, ho, hb2⟩
    go_wp2_with fail
    go_ret2
    refine ⟨vr, by rw [HE.out]; rfl, fun _ => ?_, fun h => absurd HE.out h, hb1.trans (hb2.mono hb1.size)⟩
    have := Rd.of_own ho
    unfold RdS
    rw [choOf_length]
    exact this
  · have hE' : (E != 0) = true := by simpa using hE
    have HE := Lib.hid hE
    clear hE
    go_wp2_with fail
    go_ret2
    exact ⟨_, rfl, fun h => absurd h HE.out, fun _ => rfl, hb1⟩
end Go.Proofs.Ytmcojidaimeijaa

/- The contract of math/bits.Mul64. -/

namespace Go.Proofs.Ytmcojidaimeijaa
open Go.RowKit
set_option linter.unusedVariables false
set_option linter.unusedSimpArgs false

set_option maxRecDepth 100000 in
set_option maxHeartbeats 2000000 in
theorem mul64_any (x y : Nat) (hx : x < 18446744073709551616) (hy : y < 18446744073709551616) (w : World) :
    Calls Try.prog 110 #[.int .u64 x, .int .u64 y] w fun e w' => e = .returned (.tuple #[.int .u64 ((x * y / 18446744073709551616 : Nat) : Int), .int .u64 ((x * y % 18446744073709551616 : Nat) : Int)]) ∧ w = w' := by
  obtain ⟨b1, b2, b3, hhi⟩ := Lib.mul64_hi x y hx hy
  have ba := Lib.half_mul_le (a := x / 4294967296) (b := y / 4294967296) (by omega) (by omega)
  have bb := Lib.half_mul_le (a := x / 4294967296) (b := y % 4294967296) (by omega) (by omega)
  have bc := Lib.half_mul_le (a := x % 4294967296) (b := y / 4294967296) (by omega) (by omega)
  have c1 : x / 4294967296 * (y / 4294967296) < 18446744073709551616 := by omega
  have c2 : x / 4294967296 * (y % 4294967296) < 18446744073709551616 := by omega
  have c3 : x % 4294967296 * (y / 4294967296) < 18446744073709551616 := by omega
  have c4 : x / 4294967296 * (y / 4294967296) + (x / 4294967296 * (y % 4294967296) + x % 4294967296 * (y % 4294967296) / 4294967296) / 4294967296 < 18446744073709551616 := by omega
  have c5 : x / 4294967296 * (y / 4294967296) + (x / 4294967296 * (y % 4294967296) + x % 4294967296 * (y % 4294967296) / 4294967296) / 4294967296 + ((x / 4294967296 * (y % 4294967296) + x % 4294967296 * (y % 4294967296) / 4294967296) % 4294967296 + x % 4294967296 * (y / 4294967296)) / 4294967296 < 18446744073709551616 := by omega
  go_enter Try.func110, Try.ntmps110
  go_wp2
  simp only [Mul64.maskN x hx, Mul64.maskN y hy, Mul64.divN, Mul64.mulN, Mul64.addN, Mul64.wrapN _ b1, Mul64.wrapN _ c2, Mul64.wrapN _ b2, Mul64.maskN _ b2, Mul64.wrapN _ c3, Mul64.wrapN _ b3, Mul64.wrapN _ c1, Mul64.wrapN _ c4, Mul64.wrapN _ c5, Mul64.wrapM (x * y)]
  rw [hhi]
  go_ret2
  exact ⟨rfl, rfl⟩

end Go.Proofs.Ytmcojidaimeijaa

/- The contracts of math/bits.Mul64, and of what compares fractions by it (package compress, and the reference). -/

namespace Go.Proofs.Ytmcojidaimeijaa
open Go.RowKit
set_option linter.unusedVariables false
set_option linter.unusedSimpArgs false

/-- Is the fraction a less than b, both from 0 on? -/
def lessF (a b : Int × Int) : Bool := decide (a.1 * b.2 < b.1 * a.2)
theorem lessF_nat (a b c d : Nat) : lessF ((a : Int), (b : Int)) ((c : Int), (d : Int)) = decide (a * d < c * b) := by
  unfold lessF
  simp only [decide_eq_decide, ← Int.natCast_mul]
  omega

set_option maxRecDepth 100000 in
set_option maxHeartbeats 2000000 in
theorem less_any (a b c d : Nat) (w : World) (ha : a ≤ 9223372036854775807) (hb : b ≤ 9223372036854775807) (hc : c ≤ 9223372036854775807) (hd : d ≤ 9223372036854775807) :
    Calls Try.prog 76 #[.agg #[.int .i64 (a : Int), .int .i64 (b : Int)], .agg #[.int .i64 (c : Int), .int .i64 (d : Int)]] w fun e w' => e = .returned (.bool (decide (a * d < c * b))) ∧ Below w.heap.size w w' := by
  have w1 : IntKind.u64.wrap (a : Int) = (a : Int) := Mul64.wrapN a (by omega)
  have w2 : IntKind.u64.wrap (b : Int) = (b : Int) := Mul64.wrapN b (by omega)
  have w3 : IntKind.u64.wrap (c : Int) = (c : Int) := Mul64.wrapN c (by omega)
  have w4 : IntKind.u64.wrap (d : Int) = (d : Int) := Mul64.wrapN d (by omega)
  have m1 := fun w => mul64_any a d (by omega) (by omega) w
  have m2 := fun w => mul64_any c b (by omega) (by omega) w
  generalize hx : a * d = x at *
  generalize hy : c * b = y at *
  clear hx hy
  have hE : ∃ E, E = decide (x < y) := ⟨_, rfl⟩
  obtain ⟨E, hE⟩ := hE
  rw [← hE]
  have HE := Lib.hid hE
  generalize hh1 : x / 18446744073709551616 = h1 at *
  generalize hh2 : y / 18446744073709551616 = h2 at *
  generalize hl1 : x % 18446744073709551616 = l1 at *
  generalize hl2 : y % 18446744073709551616 = l2 at *
  have H := Lib.hid (And.intro hh1 (And.intro hh2 (And.intro hl1 hl2)))
  clear hh1 hh2 hl1 hl2
  have M1 := Lib.hid m1
  have M2 := Lib.hid m2
  clear m1 m2 hE
  go_enter Try.func76, Try.ntmps76
  go_wp2_with fail
  refine (M1.out _).mono ?_
  rintro e w1 ⟨rfl, rfl⟩
  go_wp2_with fail
  refine (M2.out _).mono ?_
  rintro e w1 ⟨rfl, rfl⟩
  have hbw : Below w.heap.size w ((w.alloc (.cells #[.int .i64 (a : Int), .int .i64 (b : Int)] 35)).alloc (.cells #[.int .i64 (c : Int), .int .i64 (d : Int)] 35)) := ((Below.refl _ w).alloc (Nat.le_refl _) _).alloc (by simp) _
  by_cases q1 : (h1 : Int) < (h2 : Int)
  · have q1' : decide ((h1 : Int) < (h2 : Int)) = true := by simpa using q1
    go_wp2_with fail
    go_ret
    exact ⟨ret_bool (by rw [HE.out]; obtain ⟨g1, g2, g3, g4⟩ := H.out; symm; simp; omega), hbw⟩
  · have q1' : decide ((h1 : Int) < (h2 : Int)) = false := by simpa using q1
    by_cases q2 : (h1 : Int) = (h2 : Int)
    · have q2' : ((h1 : Int) == (h2 : Int)) = true := by simpa using q2
      go_wp2_with fail
      go_ret
      exact ⟨ret_bool (by rw [HE.out]; obtain ⟨g1, g2, g3, g4⟩ := H.out; simp only [decide_eq_decide]; omega), hbw⟩
    · have q2' : ((h1 : Int) == (h2 : Int)) = false := by simpa using q2
      go_wp2_with fail
      go_ret
      exact ⟨ret_bool (by rw [HE.out]; obtain ⟨g1, g2, g3, g4⟩ := H.out; symm; simp; omega), hbw⟩
end Go.Proofs.Ytmcojidaimeijaa
