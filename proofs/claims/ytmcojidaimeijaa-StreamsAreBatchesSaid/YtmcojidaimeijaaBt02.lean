import Derived.Test.YtmcojidaimeijaaBt01
import Derived.Test.YtmcojidaimeijaaDist
import Derived.Test.YtmcojidaimeijaaSerr
import Derived.Test.YtmcojidaimeijaaRise
/- The contracts of the checks of kept indices: checkKept (package compress), and the reference's IndicesFault. -/

namespace Go.Proofs.Ytmcojidaimeijaa
open Go.RowKit
set_option linter.unusedVariables false
set_option linter.unusedSimpArgs false

/-- What is wrong with indices of n samples, the one before them given. -/
def idxFrom (n : Nat) : Option Int → List Int → Int
  | _, [] => 0
  | p, k :: r => if inB k 0 ((n : Int) - 1) = false then 1 else if notAfter p k = true then 7 else idxFrom n (some k) r
def idxErr (n : Nat) (ks : List Int) : Int := if n < ks.length then 2 else idxFrom n none ks
def keptErr (l : List Smp) (ks : List Int) : Int := if serErr l ≠ 0 then serErr l else idxErr l.length ks
def prevI (ks : List Int) (j : Nat) : Option Int := if j = 0 then none else ks[j - 1]?
theorem idxFrom_step (n : Nat) (ks : List Int) (j : Nat) (h : j < ks.length) :
    idxFrom n (prevI ks j) (ks.drop j) = if inB ks[j] 0 ((n : Int) - 1) = false then 1 else if notAfter (prevI ks j) ks[j] = true then 7 else idxFrom n (prevI ks (j + 1)) (ks.drop (j + 1)) := by
  rw [List.drop_eq_getElem_cons h]
  simp only [idxFrom]
  have : prevI ks (j + 1) = some ks[j] := by simp [prevI, h]
  rw [this]
theorem idxFrom_end (n : Nat) (ks : List Int) : idxFrom n (prevI ks ks.length) (ks.drop ks.length) = 0 := by simp [idxFrom]

theorem RdI.lenv {w : World} {v : Value} {l : List Int} (h : RdI w v l) : ∃ pa ca, v = .slice pa l.length ca := by obtain ⟨_, pa, ca, rfl, _⟩ := h; exact ⟨pa, ca, rfl⟩
theorem RdI.below {w w' : World} {v : Value} {l : List Int} {B : Nat} (h : RdI w v l) (hb : Below B w w') (hB : w.heap.size ≤ B) : RdI w' v l := Rd.below h (hb.mono hB)

set_option maxRecDepth 100000 in
set_option maxHeartbeats 2000000 in
theorem checkKept_any (v vk : Value) (l : List Smp) (ks : List Int) (w : World) (hR : RdS w 57 v l) (hK : RdI w vk ks) (hks : ks.length ≤ 100000) :
    Calls Try.prog 52 #[v, vk] w fun e w' => e = .returned (.int .i64 (keptErr l ks)) ∧ Below w.heap.size w w' := by
  have hdef : keptErr l ks = if serErr l ≠ 0 then serErr l else idxErr l.length ks := rfl
  have hidx : idxErr l.length ks = if l.length < ks.length then 2 else idxFrom l.length none ks := rfl
  generalize keptErr l ks = E at *
  generalize idxErr l.length ks = J at *
  have HD := Lib.hid hdef
  have HI := Lib.hid hidx
  obtain ⟨pa, ca, rfl⟩ := hR.lenv
  obtain ⟨pk, ck, rfl⟩ := hK.lenv
  have HK := Lib.hid hK
  have HSE := Lib.hid (checkSeries_any _ l w hR)
  have hge := @serErr_good l
  have HGE := Lib.hid hge
  clear hdef hidx hR hK hge
  go_enter Try.func52, Try.ntmps52
  go_wp2_with fail
  refine HSE.out.mono ?_
  rintro e w1 ⟨rfl, hb1⟩
  by_cases hS : serErr l = 0
  · have hS' : (serErr l != 0) = false := by simpa using hS
    have hlong := (HGE.out hS).1
    have HS := Lib.hid hS
    clear hS
    by_cases hL : l.length < ks.length
    · have HJ := Lib.hid (show J = 2 by rw [HI.out, if_pos hL])
      go_wp2_with fail
      go_ret
      exact ⟨ret_int (by rw [HD.out, if_neg (by rw [HS.out]; simp), HJ.out]), hb1⟩
    · have HJ := Lib.hid (show J = idxFrom l.length none ks by rw [HI.out, if_neg hL])
      have hK1 : RdI w1 _ ks := HK.out.below hb1 (Nat.le_refl _)
      have HK1 := Lib.hid hK1
      have hsz := hb1.size
      have HB1 := Lib.hid hb1
      clear hK1 hb1
      go_wp2_with fail
      go_loop [20] (fun i => ∃ j : Nat, j ≤ ks.length ∧ i = .int .i64 (j : Int) ∧ idxFrom l.length none ks = idxFrom l.length (prevI ks j) (ks.drop j)) (fun i => ks.length - (intOf i).toNat)
      case atStart => exact ⟨0, by omega, rfl, by simp [prevI]⟩
      case round =>
        obtain ⟨j, hj, rfl, hf⟩ := hrel
        have HF := Lib.hid hf
        clear hf
        by_cases hlt : j < ks.length
        · obtain ⟨b, off, c, hv, hc1, hc2, hblt, hcell⟩ := RdI.cells HK1.out (by omega)
          cases hv
          unfold maxLen at hc2
          have c0 := hcell j hlt
          have hstep := idxFrom_step l.length ks j hlt
          have hprev : 0 < j → ∃ y : Int, prevI ks j = some y ∧ w1.cell? ⟨b, off + (j - 1), none⟩ = some (.int .i64 y) := fun hj0 =>
            ⟨ks[j - 1]'(by omega), by unfold prevI; rw [if_neg (by omega)]; exact List.getElem?_eq_getElem (by omega), hcell (j - 1) (by omega)⟩
          have HPREV := Lib.hid hprev
          generalize ks[j] = x at *
          have HSTEP := Lib.hid hstep
          clear hstep hprev hcell
          go_wp2_with fail
          refine (within_any _ _ _ _).mono ?_
          rintro e w' ⟨rfl, rfl⟩
          by_cases hB : inB x 0 ((l.length : Int) - 1) = true
          · have HB := Lib.hid hB
            rw [hB]
            clear hB
            rcases Nat.eq_zero_or_pos j with hj0 | hj0
            · obtain rfl := hj0
              go_wp2_with fail
              go_round
              case rel => exact ⟨1, by omega, rfl, by rw [HF.out, HSTEP.out, if_neg (by simp [HB.out]), if_neg (by simp [prevI, notAfter])]⟩
              case measure => simp [intOf]; omega
            · obtain ⟨y, hpy, hcy⟩ := HPREV.out hj0
              have HPY := Lib.hid hpy
              clear hpy
              have hj0' : (0 : Int) < (j : Int) := by omega
              by_cases hxy : x ≤ y
              · have hxy' : decide (x ≤ y) = true := by simpa using hxy
                go_wp2_with fail
                go_ret
                exact ⟨ret_int (by rw [HD.out, if_neg (by rw [HS.out]; simp), HJ.out, HF.out, HSTEP.out, if_neg (by simp [HB.out]), if_pos (by rw [HPY.out]; exact hxy')]), HB1.out⟩
              · have hxy' : decide (x ≤ y) = false := by simpa using hxy
                go_wp2_with fail
                go_round
                case rel => exact ⟨j + 1, by omega, by go_num, by rw [HF.out, HSTEP.out, if_neg (by simp [HB.out]), if_neg (by rw [HPY.out]; simpa [notAfter] using hxy)]⟩
                case measure => simp [intOf]; omega
          · have hB' : inB x 0 ((l.length : Int) - 1) = false := by simpa using hB
            have HB := Lib.hid hB'
            rw [hB']
            clear hB hB'
            go_wp2_with fail
            go_ret
            exact ⟨ret_int (by rw [HD.out, if_neg (by rw [HS.out]; simp), HJ.out, HF.out, HSTEP.out, if_pos HB.out]), HB1.out⟩
        · obtain rfl : j = ks.length := by omega
          go_wp2_with fail
          go_ret
          exact ⟨ret_int (by rw [HD.out, if_neg (by rw [HS.out]; simp), HJ.out, HF.out, idxFrom_end]), HB1.out⟩
  · have hS' : (serErr l != 0) = true := by simpa using hS
    have HS := Lib.hid hS
    clear hS
    go_wp2_with fail
    go_ret
    exact ⟨ret_int (by rw [HD.out, if_pos HS.out]), hb1⟩

set_option maxRecDepth 100000 in
set_option maxHeartbeats 2000000 in
theorem indicesFault_any (v vk : Value) (l : List Smp) (ks : List Int) (w : World) (hR : RdS w 57 v l) (hK : RdI w vk ks) (hks : ks.length ≤ 100000) (hlong : l.length ≤ 5000) :
    Calls Try.prog 29 #[v, vk] w fun e w' => e = .returned (.int .i64 (idxErr l.length ks)) ∧ w = w' := by
  have hidx : idxErr l.length ks = if l.length < ks.length then 2 else idxFrom l.length none ks := rfl
  generalize idxErr l.length ks = J at *
  have HI := Lib.hid hidx
  obtain ⟨pa, ca, rfl⟩ := hR.lenv
  obtain ⟨pk, ck, rfl⟩ := hK.lenv
  have HK1 := Lib.hid hK
  clear hidx hR hK
  go_enter Try.func29, Try.ntmps29
  by_cases hL : l.length < ks.length
  · have HJ := Lib.hid (show J = 2 by rw [HI.out, if_pos hL])
    go_wp2_with fail
    go_ret
    exact ⟨ret_int HJ.out.symm, rfl⟩
  · have HJ := Lib.hid (show J = idxFrom l.length none ks by rw [HI.out, if_neg hL])
    go_wp2_with fail
    go_loop [14] (fun i => ∃ j : Nat, j ≤ ks.length ∧ i = .int .i64 (j : Int) ∧ idxFrom l.length none ks = idxFrom l.length (prevI ks j) (ks.drop j)) (fun i => ks.length - (intOf i).toNat)
    case atStart => exact ⟨0, by omega, rfl, by simp [prevI]⟩
    case round =>
      obtain ⟨j, hj, rfl, hf⟩ := hrel
      have HF := Lib.hid hf
      clear hf
      by_cases hlt : j < ks.length
      · obtain ⟨b, off, c, hv, hc1, hc2, hblt, hcell⟩ := RdI.cells HK1.out (by omega)
        cases hv
        unfold maxLen at hc2
        have c0 := hcell j hlt
        have hstep := idxFrom_step l.length ks j hlt
        have hprev : 0 < j → ∃ y : Int, prevI ks j = some y ∧ w.cell? ⟨b, off + (j - 1), none⟩ = some (.int .i64 y) := fun hj0 =>
          ⟨ks[j - 1]'(by omega), by unfold prevI; rw [if_neg (by omega)]; exact List.getElem?_eq_getElem (by omega), hcell (j - 1) (by omega)⟩
        have HPREV := Lib.hid hprev
        generalize ks[j] = x at *
        have HSTEP := Lib.hid hstep
        clear hstep hprev hcell
        go_wp2_with fail
        refine (rin_any _ _ _ _).mono ?_
        rintro e w' ⟨rfl, rfl⟩
        by_cases hB : inB x 0 ((l.length : Int) - 1) = true
        · have HB := Lib.hid hB
          rw [hB]
          clear hB
          rcases Nat.eq_zero_or_pos j with hj0 | hj0
          · obtain rfl := hj0
            go_wp2_with fail
            go_round
            case rel => exact ⟨1, by omega, rfl, by rw [HF.out, HSTEP.out, if_neg (by simp [HB.out]), if_neg (by simp [prevI, notAfter])]⟩
            case measure => simp [intOf]; omega
          · obtain ⟨y, hpy, hcy⟩ := HPREV.out hj0
            have HPY := Lib.hid hpy
            clear hpy
            have hj0' : (0 : Int) < (j : Int) := by omega
            by_cases hxy : x ≤ y
            · have hxy' : decide (x ≤ y) = true := by simpa using hxy
              go_wp2_with fail
              go_ret
              exact ⟨ret_int (by rw [HJ.out, HF.out, HSTEP.out, if_neg (by simp [HB.out]), if_pos (by rw [HPY.out]; exact hxy')]), rfl⟩
            · have hxy' : decide (x ≤ y) = false := by simpa using hxy
              go_wp2_with fail
              go_round
              case rel => exact ⟨j + 1, by omega, by go_num, by rw [HF.out, HSTEP.out, if_neg (by simp [HB.out]), if_neg (by rw [HPY.out]; simpa [notAfter] using hxy)]⟩
              case measure => simp [intOf]; omega
        · have hB' : inB x 0 ((l.length : Int) - 1) = false := by simpa using hB
          have HB := Lib.hid hB'
          rw [hB']
          clear hB hB'
          go_wp2_with fail
          go_ret
          exact ⟨ret_int (by rw [HJ.out, HF.out, HSTEP.out, if_pos HB.out]), rfl⟩
      · obtain rfl : j = ks.length := by omega
        go_wp2_with fail
        go_ret
        exact ⟨ret_int (by rw [HJ.out, HF.out, idxFrom_end]), rfl⟩
end Go.Proofs.Ytmcojidaimeijaa

/- What takes the samples with some indices: plain mathematics, and the reference's KeptOf. -/

namespace Go.Proofs.Ytmcojidaimeijaa
open Go.RowKit
set_option linter.unusedVariables false
set_option linter.unusedSimpArgs false

def choOf (l : List Smp) (ks : List Int) : List Smp := ks.map fun k => atS l k.toNat
theorem choOf_length (l : List Smp) (ks : List Int) : (choOf l ks).length = ks.length := by simp [choOf]
/-- All indices are those of samples. -/
def Inside (n : Nat) (ks : List Int) : Prop := ∀ j (h : j < ks.length), 0 ≤ ks[j] ∧ ks[j] < (n : Int)
theorem idxFrom_inside {n : Nat} {p : Option Int} {ks : List Int} (h : idxFrom n p ks = 0) : ∀ k ∈ ks, 0 ≤ k ∧ k < (n : Int) := by
  induction ks generalizing p with
  | nil => simp
  | cons k r ih =>
    simp only [idxFrom] at h
    split at h; · omega
    split at h; · omega
    rename_i h1 h2
    intro x hx
    rcases List.mem_cons.1 hx with rfl | hx
    · have : inB x 0 ((n : Int) - 1) = true := by simpa using h1
      have := inB_true.1 this
      omega
    · exact ih h x hx
theorem idxErr_inside {n : Nat} {ks : List Int} (h : idxErr n ks = 0) : ks.length ≤ n ∧ Inside n ks := by
  unfold idxErr at h
  split at h
  · omega
  · exact ⟨by omega, fun j hj => idxFrom_inside h _ (List.getElem_mem hj)⟩
/-- Indices that rise choose samples whose moments rise. -/
theorem choOf_rise {l : List Smp} (hl : Rise none l) {p : Option Int} {q : Option Int} {ks : List Int} (h : idxFrom l.length p ks = 0) (hq : ∀ t, q = some t → ∃ k, p = some k ∧ 0 ≤ k ∧ k < (l.length : Int) ∧ t = (atS l k.toNat).t) : Rise q (choOf l ks) := by
  induction ks generalizing p q with
  | nil => trivial
  | cons k r ih =>
    simp only [idxFrom] at h
    split at h; · omega
    split at h; · omega
    rename_i h1 h2
    have hin : inB k 0 ((l.length : Int) - 1) = true := by simpa using h1
    have hk := inB_true.1 hin
    refine ⟨fun t ht => ?_, ih h fun t ht => ⟨k, rfl, hk.1, by omega, by cases ht; rfl⟩⟩
    obtain ⟨k', hk', h3, h4, rfl⟩ := hq t ht
    subst hk'
    have h5 : ¬ k ≤ k' := by simpa [notAfter] using h2
    exact rise_ltA hl _ _ (by omega) (by omega)

theorem cellsOf_zero (n i : Nat) (hi : i < n * 3) : (cellsOf (List.replicate n ⟨0, 0, 0⟩))[i]? = some (.int .i64 0) := by
  have h1 := cellsOf_get (List.replicate n ⟨0, 0, 0⟩) (i / 3) (by simp; omega) (i % 3) (by omega)
  rw [show i / 3 * 3 + i % 3 = i by omega] at h1
  rw [h1]
  have h2 : i % 3 = 0 ∨ i % 3 = 1 ∨ i % 3 = 2 := by omega
  rcases h2 with h | h | h <;> simp [h, Smp.cells]
theorem madeSmp (n : Nat) : (madeCells (Value.agg #[.int .i64 0, .int .i64 0, .int .i64 0]).cells (n * 3)).toList = cellsOf (List.replicate n ⟨0, 0, 0⟩) := by
  apply List.ext_getElem?
  intro i
  rcases Nat.lt_or_ge i (n * 3) with hi | hi
  · rw [cellsOf_zero n i hi]
    have h2 : i % 3 = 0 ∨ i % 3 = 1 ∨ i % 3 = 2 := by omega
    rcases h2 with h | h | h <;> simp [madeCells, Value.cells, hi, h]
  · rw [List.getElem?_eq_none (by simp [madeCells]; omega), List.getElem?_eq_none (by rw [cellsOf_length]; simp; omega)]
theorem choOf_get (l : List Smp) (ks : List Int) (j : Nat) (h : j < ks.length) : (choOf l ks)[j]? = some (atS l (ks[j]).toNat) := by simp [choOf, h]
theorem choOf_take (l : List Smp) (ks : List Int) (j : Nat) (h : j < ks.length) : (choOf l ks).take (j + 1) = (choOf l ks).take j ++ [atS l (ks[j]).toNat] := by
  rw [List.take_add_one, choOf_get l ks j h]; rfl

theorem own_putN {w : World} {base g cap n : Nat} {e : TypeId} {l : List Smp} (h : w.ownsRow base e 3 (.slice (some ⟨g, 0, none⟩) n cap) n (cellsOf l)) (hl : l.length = n) (i : Nat) (hi : i < n) (y : Smp) :
    (((w.setCell ⟨g, i * 3, none⟩ (.int .i64 y.t)).setCell ⟨g, i * 3 + 1, none⟩ (.int .i64 y.v)).setCell ⟨g, i * 3 + 2, none⟩ (.int .i64 y.q)).ownsRow base e 3 (.slice (some ⟨g, 0, none⟩) n cap) n (cellsOf (l.set i y)) := by
  subst hl
  exact own_put h i hi y
/-- What chosen has after j rounds: the first j samples, then zeros. -/
def choTo (l : List Smp) (ks : List Int) (j : Nat) : List Smp := (choOf l ks).take j ++ List.replicate (ks.length - j) ⟨0, 0, 0⟩
theorem choTo_length (l : List Smp) (ks : List Int) (j : Nat) (h : j ≤ ks.length) : (choTo l ks j).length = ks.length := by
  simp [choTo, choOf_length]; omega
theorem choTo_step (l : List Smp) (ks : List Int) (j : Nat) (h : j < ks.length) : (choTo l ks j).set j (atS l (ks[j]).toNat) = choTo l ks (j + 1) := by
  unfold choTo
  rw [choOf_take l ks j h, List.set_append_right _ _ (by simp [choOf_length]; omega)]
  have h1 : j - ((choOf l ks).take j).length = 0 := by simp [choOf_length]; omega
  rw [h1, show ks.length - j = (ks.length - (j + 1)) + 1 by omega, List.replicate_succ]
  simp
theorem choTo_zero (l : List Smp) (ks : List Int) : choTo l ks 0 = List.replicate ks.length ⟨0, 0, 0⟩ := by simp [choTo]
theorem choTo_end (l : List Smp) (ks : List Int) : choTo l ks ks.length = choOf l ks := by
  simp [choTo]
  rw [List.take_of_length_le (by simp [choOf_length])]

end Go.Proofs.Ytmcojidaimeijaa

/- Mathematics of the steps of a series: a stepped tag has the same values when only its steps are kept. -/

namespace Go.Proofs.Ytmcojidaimeijaa
open Go.RowKit
set_option linter.unusedVariables false
set_option linter.unusedSimpArgs false

theorem stpTo_split (l : List Smp) (p k : Nat) : ∃ r : List Int, stpTo l (p + k) = stpTo l p ++ r ∧ ∀ x ∈ r, (p : Int) ≤ x ∧ x < ((p + k : Nat) : Int) := by
  induction k with
  | zero => exact ⟨[], by simp, fun x hx => by cases hx⟩
  | succ k ih =>
    obtain ⟨r, h1, h2⟩ := ih
    rw [← Nat.add_assoc, show stpTo l (p + k + 1) = if stpB l (p + k) = true then stpTo l (p + k) ++ [((p + k : Nat) : Int)] else stpTo l (p + k) from rfl]
    by_cases hb : stpB l (p + k) = true
    · rw [if_pos hb, h1]
      refine ⟨r ++ [((p + k : Nat) : Int)], by simp, fun x hx => ?_⟩
      rcases List.mem_append.1 hx with hx | hx
      · have := h2 x hx; omega
      · simp only [List.mem_singleton] at hx; subst hx; omega
    · rw [if_neg hb]
      exact ⟨r, h1, fun x hx => by have := h2 x hx; omega⟩
theorem stpTo_mem (l : List Smp) (p : Nat) : ∀ x ∈ stpTo l p, 0 ≤ x ∧ x < (p : Int) := by
  obtain ⟨r, h1, h2⟩ := stpTo_split l 0 p
  rw [Nat.zero_add] at h1 h2
  intro x hx
  rw [h1] at hx
  have : x ∈ r := by simpa [stpTo] using hx
  have := h2 x this
  omega
/-- The last step before p has the value and the quality of sample p - 1. -/
theorem stpTo_last (l : List Smp) (p : Nat) (hp : p < l.length) : ∃ (r : List Int) (j : Nat), stpTo l (p + 1) = r ++ [(j : Int)] ∧ j ≤ p ∧ (atS l j).v = (atS l p).v ∧ (atS l j).q = (atS l p).q := by
  induction p with
  | zero => exact ⟨[], 0, by simp [stpTo, stpB], Nat.le_refl _, rfl, rfl⟩
  | succ p ih =>
    rw [show stpTo l (p + 1 + 1) = if stpB l (p + 1) = true then stpTo l (p + 1) ++ [((p + 1 : Nat) : Int)] else stpTo l (p + 1) from rfl]
    by_cases hb : stpB l (p + 1) = true
    · rw [if_pos hb]
      exact ⟨stpTo l (p + 1), p + 1, rfl, Nat.le_refl _, rfl, rfl⟩
    · rw [if_neg hb]
      obtain ⟨r, j, h1, h2, h3, h4⟩ := ih (by omega)
      have hn : ¬ (p + 1 = 0 ∨ p + 1 + 1 = l.length ∨ (atS l (p + 1)).v ≠ (atS l (p + 1 - 1)).v ∨ (atS l (p + 1)).q ≠ (atS l (p + 1 - 1)).q) := by
        intro h; apply hb; unfold stpB; exact decide_eq_true h
      rw [Nat.add_sub_cancel] at hn
      have e1 : (atS l (p + 1)).v = (atS l p).v := Classical.byContradiction fun h => hn (.inr (.inr (.inl h)))
      have e2 : (atS l (p + 1)).q = (atS l p).q := Classical.byContradiction fun h => hn (.inr (.inr (.inr h)))
      exact ⟨r, j, h1, by omega, by rw [e1]; exact h3, by rw [e2]; exact h4⟩
theorem posF_split (A B : List Smp) (t : Int) (hA : ∀ x ∈ A, x.t < t) (hB : ∀ x ∈ B, t ≤ x.t) : posF (A ++ B) t = A.length := by
  unfold posF
  induction A with
  | nil =>
    cases B with
    | nil => rfl
    | cons y B =>
      have h := hB y (by simp)
      rw [List.nil_append, List.takeWhile_cons_of_neg (by simp; omega)]
  | cons x A ih =>
    have h := hA x (by simp)
    rw [List.cons_append, List.takeWhile_cons_of_pos (by simpa using h), List.length_cons, List.length_cons, ih (fun y hy => hA y (List.mem_cons_of_mem _ hy))]
theorem steps_value {l : List Smp} (hS : serErr l = 0) (t : Int) : valO (choOf l (stpTo l l.length)) true t = valO l true t := by
  have hrise := serErr_rise hS
  have hpl := posF_le l (t + 1)
  have hiff := fun i (hi : i < l.length) => posF_iff l (t + 1) none hrise i hi
  obtain ⟨r, h1, h2⟩ := stpTo_split l (posF l (t + 1)) (l.length - posF l (t + 1))
  rw [show posF l (t + 1) + (l.length - posF l (t + 1)) = l.length by omega] at h1 h2
  have hmem := stpTo_mem l (posF l (t + 1))
  have hpos : posF (choOf l (stpTo l l.length)) (t + 1) = (stpTo l (posF l (t + 1))).length := by
    rw [h1, show choOf l (stpTo l (posF l (t + 1)) ++ r) = choOf l (stpTo l (posF l (t + 1))) ++ choOf l r by simp [choOf], posF_split, choOf_length]
    · intro x hx
      unfold choOf at hx
      obtain ⟨k, hk, rfl⟩ := List.mem_map.1 hx
      have h3 := hmem k hk
      have h4 := hiff k.toNat (by omega)
      omega
    · intro x hx
      unfold choOf at hx
      obtain ⟨k, hk, rfl⟩ := List.mem_map.1 hx
      have h3 := h2 k hk
      have h4 := hiff k.toNat (by omega)
      omega
  unfold valO
  rw [hpos]
  by_cases hp : posF l (t + 1) = 0
  · rw [hp]
    simp [stpTo]
  · obtain ⟨p, hp2⟩ : ∃ p, posF l (t + 1) = p + 1 := ⟨posF l (t + 1) - 1, by omega⟩
    rw [hp2] at h1 hpl ⊢
    obtain ⟨r', j, g1, g2, g3, g4⟩ := stpTo_last l p (by omega)
    have hlen : (stpTo l (p + 1)).length = r'.length + 1 := by rw [g1]; simp
    have hat : atS (choOf l (stpTo l l.length)) r'.length = atS l j := by
      rw [h1, g1]
      unfold choOf
      rw [List.map_append, List.map_append]
      show (((r'.map fun k => atS l k.toNat) ++ [atS l (j : Int).toNat]) ++ r.map fun k => atS l k.toNat).getD r'.length ⟨0, 0, 0⟩ = atS l j
      rw [List.getD_eq_getElem?_getD, List.getElem?_append_left (by simp), List.getElem?_append_right (by simp)]
      simp
    rw [hlen, if_neg (show ¬ (r'.length + 1 = 0) by omega), if_neg (show ¬ (p + 1 = 0) by omega), if_pos (Or.inl rfl), if_pos (Or.inl rfl), Nat.add_sub_cancel, Nat.add_sub_cancel, hat, g3, g4]
theorem serFrom_zero {p : Option Int} {l : List Smp} (h : Rise p l) (hs : ∀ x ∈ l, smpErr x = 0) : serFrom p l = 0 := by
  induction l generalizing p with
  | nil => cases p <;> rfl
  | cons x l ih =>
    have h1 := hs x (by simp)
    have h2 : notAfter p x.t = false := by
      cases p with
      | none => rfl
      | some q => have := h.1 q rfl; simp [notAfter]; omega
    unfold serFrom
    rw [if_neg (by simp [h1]), if_neg (by simp [h2])]
    exact ih h.2 (fun y hy => hs y (List.mem_cons_of_mem _ hy))
theorem idxFrom_zero (n : Nat) (ks : List Int) (p : Option Int) (hp : ks.Pairwise (· < ·)) (hc : ∀ k ∈ ks, 0 ≤ k ∧ k < (n : Int)) (hq : ∀ q, p = some q → ∀ k ∈ ks, q < k) : idxFrom n p ks = 0 := by
  induction ks generalizing p with
  | nil => cases p <;> rfl
  | cons k r ih =>
    have h1 : inB k 0 ((n : Int) - 1) = true := inB_true.2 (by have := hc k (by simp); omega)
    have h2 : notAfter p k = false := by
      cases p with
      | none => rfl
      | some q => have := hq q rfl k (by simp); simp [notAfter]; omega
    obtain ⟨hp1, hp2⟩ := List.pairwise_cons.1 hp
    unfold idxFrom
    rw [h1, h2, if_neg (by simp), if_neg (by simp)]
    exact ih (some k) hp2 (fun y hy => hc y (List.mem_cons_of_mem _ hy)) (fun q hq2 y hy => by cases hq2; exact hp1 y hy)
theorem stpTo_rise (l : List Smp) (p : Nat) : (stpTo l p).Pairwise (· < ·) := by
  induction p with
  | zero => exact List.Pairwise.nil
  | succ p ih =>
    rw [show stpTo l (p + 1) = if stpB l p = true then stpTo l p ++ [(p : Int)] else stpTo l p from rfl]
    split
    · exact List.pairwise_append.2 ⟨ih, by simp, fun x hx y hy => by simp only [List.mem_singleton] at hy; subst hy; exact (stpTo_mem l p x hx).2⟩
    · exact ih
theorem stp_kept {l : List Smp} (hS : serErr l = 0) : keptErr l (stpTo l l.length) = 0 := by
  have h1 := stpTo_long l l.length
  unfold keptErr idxErr
  rw [if_neg (by simp [hS]), if_neg (by omega)]
  exact idxFrom_zero _ _ none (stpTo_rise l _) (stpTo_mem l _) (fun q hq => by cases hq)
/-- Right samples that are kept are a right series. -/
theorem chosen_right {l : List Smp} {ks : List Int} (hS : serErr l = 0) (h : idxErr l.length ks = 0) : serErr (choOf l ks) = 0 := by
  obtain ⟨hlong, hgood⟩ := serErr_good hS
  have hle : ks.length ≤ l.length := by
    unfold idxErr at h
    by_cases hc : l.length < ks.length
    · rw [if_pos hc] at h; omega
    · omega
  have hfrom : idxFrom l.length none ks = 0 := by unfold idxErr at h; rw [if_neg (by omega)] at h; exact h
  have hin := idxFrom_inside hfrom
  unfold serErr
  rw [if_neg (by rw [choOf_length]; omega)]
  refine serFrom_zero (choOf_rise (serErr_rise hS) hfrom (fun t ht => by cases ht)) (fun x hx => ?_)
  unfold choOf at hx
  obtain ⟨k, hk, rfl⟩ := List.mem_map.1 hx
  have h3 := hin k hk
  have hk2 : k.toNat < l.length := by omega
  rw [← atS_eq l k.toNat hk2]
  exact hgood _ (List.getElem_mem _)
theorem steps_right {l : List Smp} (hS : serErr l = 0) : serErr (choOf l (stpTo l l.length)) = 0 := by
  refine chosen_right hS ?_
  have h := stp_kept hS
  unfold keptErr at h
  rwa [if_neg (by simp [hS])] at h
end Go.Proofs.Ytmcojidaimeijaa

/- Plain mathematics of the compression: the reference's state after some samples, a span's bounds of slopes. -/

namespace Go.Proofs.Ytmcojidaimeijaa
open Go.RowKit
set_option linter.unusedVariables false
set_option linter.unusedSimpArgs false

def lineI (a b s : Smp) : Int := (a.v - s.v) * (b.t - a.t) + (b.v - a.v) * (s.t - a.t)
/-- One line from sample p to sample k is near enough to all between. -/
def Cov (d : Int) (l : List Smp) (p k : Nat) : Prop := ∀ j, p < j → j < k → lineI (atS l p) (atS l k) (atS l j) ≤ d * ((atS l k).t - (atS l p).t) ∧ -(d * ((atS l k).t - (atS l p).t)) ≤ lineI (atS l p) (atS l k) (atS l j)
def cov (d : Int) (l : List Smp) (p k : Nat) : Bool := (List.range k).all fun j => !decide (p < j) || (decide (lineI (atS l p) (atS l k) (atS l j) ≤ d * ((atS l k).t - (atS l p).t)) && decide (-(d * ((atS l k).t - (atS l p).t)) ≤ lineI (atS l p) (atS l k) (atS l j)))
theorem cov_true {d : Int} {l : List Smp} {p k : Nat} : cov d l p k = true ↔ Cov d l p k := by
  unfold cov Cov
  rw [List.all_eq_true]
  constructor
  · intro h j h1 h2
    have := h j (List.mem_range.2 h2)
    simp [h1] at this
    exact this
  · intro h j hj
    have hj := List.mem_range.1 hj
    by_cases h1 : p < j
    · have := h j h1 hj
      simp [h1]
      exact this
    · simp [h1]
theorem cov_false {d : Int} {l : List Smp} {p k : Nat} : cov d l p k = false ↔ ¬ Cov d l p k := by
  rw [← cov_true]; simp

/-- What has been kept, and the pivot. -/
def keepI (i : Nat) (s : List Int × Nat) : List Int × Nat := (if s.1.getLast? = some (i : Int) then s.1 else s.1 ++ [(i : Int)], i)
/-- Is the held sample archived because of sample i of the same quality? -/
def shut (d m : Int) (l : List Smp) (p i : Nat) : Bool :=
  decide (m < (atS l i).t - (atS l p).t) || (decide ((atS l i).q ≠ 2) && !(cov d l p i))
def compStep (d m : Int) (l : List Smp) (i : Nat) (s : List Int × Nat) : List Int × Nat :=
  if i = 0 then keepI 0 s
  else if (atS l i).q ≠ (atS l s.2).q then keepI i (keepI (i - 1) s)
  else if shut d m l s.2 i = true then keepI (i - 1) s
  else s
def compTo (d m : Int) (l : List Smp) : Nat → List Int × Nat
  | 0 => ([], 0)
  | i + 1 => compStep d m l i (compTo d m l i)
def compressed (d m : Int) (l : List Smp) : List Int :=
  if l.length = 0 then [] else (keepI (l.length - 1) (compTo d m l l.length)).1

theorem compTo_inv (d m : Int) (l : List Smp) (k : Nat) (hk : 0 < k) :
    (compTo d m l k).2 < k ∧ (compTo d m l k).1.getLast? = some ((compTo d m l k).2 : Int) ∧ (∀ x ∈ (compTo d m l k).1, 0 ≤ x ∧ x < (k : Int)) ∧ (compTo d m l k).1.length ≤ 2 * k := by
  induction k with
  | zero => omega
  | succ k ih =>
    rcases Nat.eq_zero_or_pos k with rfl | hk
    · simp [compTo, compStep, keepI]
    · obtain ⟨h1, h2, h3, h4⟩ := ih hk
      have keep : ∀ i (s : List Int × Nat), i < k + 1 → s.2 < k + 1 → s.1.getLast? = some (s.2 : Int) → (∀ x ∈ s.1, 0 ≤ x ∧ x < ((k + 1 : Nat) : Int)) →
          (keepI i s).2 < k + 1 ∧ (keepI i s).1.getLast? = some ((keepI i s).2 : Int) ∧ (∀ x ∈ (keepI i s).1, 0 ≤ x ∧ x < ((k + 1 : Nat) : Int)) ∧ (keepI i s).1.length ≤ s.1.length + 1 := by
        intro i s hi hs hl ha
        unfold keepI
        by_cases h : s.1.getLast? = some (i : Int)
        · rw [if_pos h]; exact ⟨hi, h, ha, by simp⟩
        · rw [if_neg h]
          refine ⟨hi, by simp, fun x hx => ?_, by simp⟩
          rcases List.mem_append.mp hx with hx | hx
          · exact ha x hx
          · simp at hx; omega
      have h3' : ∀ x ∈ (compTo d m l k).1, 0 ≤ x ∧ x < ((k + 1 : Nat) : Int) := fun x hx => by have := h3 x hx; omega
      simp only [compTo]
      unfold compStep
      rw [if_neg (by omega)]
      obtain ⟨a1, a2, a3, a4⟩ := keep (k - 1) (compTo d m l k) (by omega) (by omega) h2 h3'
      split
      · obtain ⟨b1, b2, b3, b4⟩ := keep k _ (by omega) a1 a2 a3
        exact ⟨b1, b2, b3, by omega⟩
      · split
        · exact ⟨a1, a2, a3, by omega⟩
        · exact ⟨by omega, h2, h3', by omega⟩

theorem keepI_same {i : Nat} {s : List Int × Nat} (hl : s.1.getLast? = some (s.2 : Int)) (h : s.2 = i) : keepI i s = s := by
  obtain ⟨a, b⟩ := s
  simp only at hl h
  subst h
  unfold keepI
  rw [if_pos hl]
theorem keepI_other {i : Nat} {s : List Int × Nat} (hl : s.1.getLast? = some (s.2 : Int)) (h : s.2 ≠ i) : keepI i s = (s.1 ++ [(i : Int)], i) := by
  unfold keepI
  rw [if_neg]
  rw [hl]
  intro hh
  have := Option.some.inj hh
  omega

/-- The state looks at the samples before it alone. -/
theorem cov_snoc (d : Int) (l r : List Smp) (p k : Nat) (hk : k < l.length) (hp : p < l.length) : cov d (l ++ r) p k = cov d l p k := by
  have e : ∀ i, i < l.length → atS (l ++ r) i = atS l i := fun i hi => by simp [atS, List.getD_eq_getElem?_getD, List.getElem?_append_left hi]
  have : Cov d (l ++ r) p k ↔ Cov d l p k := by
    unfold Cov
    rw [e p hp, e k hk]
    constructor
    · intro h j h1 h2; have := h j h1 h2; rwa [e j (by omega)] at this
    · intro h j h1 h2; rw [e j (by omega)]; exact h j h1 h2
  by_cases hc : Cov d l p k
  · rw [cov_true.2 hc, cov_true.2 (this.2 hc)]
  · rw [cov_false.2 hc, cov_false.2 (fun h => hc (this.1 h))]
theorem compTo_snoc (d m : Int) (l r : List Smp) (k : Nat) (hk : k ≤ l.length) : compTo d m (l ++ r) k = compTo d m l k := by
  have e : ∀ i, i < l.length → atS (l ++ r) i = atS l i := fun i hi => by simp [atS, List.getD_eq_getElem?_getD, List.getElem?_append_left hi]
  induction k with
  | zero => rfl
  | succ k ih =>
    simp only [compTo]
    rw [ih (by omega)]
    unfold compStep
    rcases Nat.eq_zero_or_pos k with rfl | hk0
    · simp
    · have h1 := (compTo_inv d m l k hk0).1
      have hk1 : ¬ k = 0 := by omega
      simp only [if_neg hk1]
      unfold shut
      rw [cov_snoc d l r _ k (by omega) (by omega), e k (by omega), e _ (by omega)]

/-- A slope below another one. -/
def slt (a b : Int × Int) : Bool := decide (a.1 * b.2 < b.1 * a.2)
/-- The slope from sample p to sample j, moved up. -/
def slopeI (l : List Smp) (p j : Nat) (u : Int) : Int × Int := ((atS l j).v + u - (atS l p).v, (atS l j).t - (atS l p).t)
/-- The greatest, or the least, of the slopes to the samples between p and k. -/
def IsLow (d : Int) (l : List Smp) (p k : Nat) (s : Int × Int) : Prop := (∃ j, p < j ∧ j < k ∧ s = slopeI l p j (-d)) ∧ ∀ j, p < j → j < k → slt s (slopeI l p j (-d)) = false
def IsHigh (d : Int) (l : List Smp) (p k : Nat) (s : Int × Int) : Prop := (∃ j, p < j ∧ j < k ∧ s = slopeI l p j d) ∧ ∀ j, p < j → j < k → slt (slopeI l p j d) s = false

theorem slt_trans {a b c : Int × Int} (ha : 0 < a.2) (hb : 0 < b.2) (hc : 0 < c.2) (h1 : slt a b = false) (h2 : slt b c = false) : slt a c = false := by
  unfold slt at *
  simp only [decide_eq_false_iff_not, Int.not_lt] at *
  have e1 := Int.mul_le_mul_of_nonneg_right h1 (Int.le_of_lt hc)
  have e2 := Int.mul_le_mul_of_nonneg_right h2 (Int.le_of_lt ha)
  have e3 : b.2 * (c.1 * a.2) ≤ b.2 * (a.1 * c.2) := by
    have q1 : b.1 * a.2 * c.2 = b.1 * c.2 * a.2 := by rw [Int.mul_assoc, Int.mul_comm a.2, ← Int.mul_assoc]
    have q2 : c.1 * b.2 * a.2 = b.2 * (c.1 * a.2) := by rw [Int.mul_comm c.1, Int.mul_assoc]
    have q3 : a.1 * b.2 * c.2 = b.2 * (a.1 * c.2) := by rw [Int.mul_comm a.1, Int.mul_assoc]
    rw [q2] at e2
    rw [q3, q1] at e1
    exact Int.le_trans e2 e1
  exact Int.le_of_mul_le_mul_left e3 hb
theorem slt_asymm {a b : Int × Int} (h : slt a b = true) : slt b a = false := by
  unfold slt at *; simp at *; omega
theorem slt_self (a : Int × Int) : slt a a = false := by unfold slt; simp

theorem low_first (d : Int) (l : List Smp) (p : Nat) : IsLow d l p (p + 2) (slopeI l p (p + 1) (-d)) :=
  ⟨⟨p + 1, by omega, by omega, rfl⟩, fun j h1 h2 => by obtain rfl : j = p + 1 := (by omega); exact slt_self _⟩
theorem high_first (d : Int) (l : List Smp) (p : Nat) : IsHigh d l p (p + 2) (slopeI l p (p + 1) d) :=
  ⟨⟨p + 1, by omega, by omega, rfl⟩, fun j h1 h2 => by obtain rfl : j = p + 1 := (by omega); exact slt_self _⟩
theorem slopeI_pos {l : List Smp} {q : Option Int} (hr : Rise q l) {p j : Nat} (h1 : p < j) (h2 : j < l.length) (u : Int) (hlt : ∀ i k, i < k → k < l.length → (atS l i).t < (atS l k).t) : 0 < (slopeI l p j u).2 := by
  have := hlt p j h1 h2; simp only [slopeI]; omega
theorem low_next {d : Int} {l : List Smp} {p k : Nat} {s : Int × Int} (hlt : ∀ i k, i < k → k < l.length → (atS l i).t < (atS l k).t) (hk : k < l.length) (hp : p < k) (h : IsLow d l p k s) :
    IsLow d l p (k + 1) (if slt s (slopeI l p k (-d)) = true then slopeI l p k (-d) else s) := by
  obtain ⟨⟨j0, h1, h2, rfl⟩, hall⟩ := h
  have pos : ∀ j, p < j → j ≤ k → 0 < (slopeI l p j (-d)).2 := fun j a b => by have := hlt p j a (by omega); simp only [slopeI]; omega
  by_cases hc : slt (slopeI l p j0 (-d)) (slopeI l p k (-d)) = true
  · rw [if_pos hc]
    refine ⟨⟨k, hp, by omega, rfl⟩, fun j a b => ?_⟩
    by_cases hj : j = k
    · subst hj; exact slt_self _
    · exact slt_trans (pos k hp (by omega)) (pos j0 h1 (by omega)) (pos j a (by omega)) (slt_asymm hc) (hall j a (by omega))
  · rw [if_neg hc]
    refine ⟨⟨j0, h1, by omega, rfl⟩, fun j a b => ?_⟩
    by_cases hj : j = k
    · subst hj; simpa using hc
    · exact hall j a (by omega)
theorem high_next {d : Int} {l : List Smp} {p k : Nat} {s : Int × Int} (hlt : ∀ i k, i < k → k < l.length → (atS l i).t < (atS l k).t) (hk : k < l.length) (hp : p < k) (h : IsHigh d l p k s) :
    IsHigh d l p (k + 1) (if slt (slopeI l p k d) s = true then slopeI l p k d else s) := by
  obtain ⟨⟨j0, h1, h2, rfl⟩, hall⟩ := h
  have pos : ∀ j, p < j → j ≤ k → 0 < (slopeI l p j d).2 := fun j a b => by have := hlt p j a (by omega); simp only [slopeI]; omega
  by_cases hc : slt (slopeI l p k d) (slopeI l p j0 d) = true
  · rw [if_pos hc]
    refine ⟨⟨k, hp, by omega, rfl⟩, fun j a b => ?_⟩
    by_cases hj : j = k
    · subst hj; exact slt_self _
    · exact slt_trans (pos j a (by omega)) (pos j0 h1 (by omega)) (pos k hp (by omega)) (hall j a (by omega)) (slt_asymm hc)
  · rw [if_neg hc]
    refine ⟨⟨j0, h1, by omega, rfl⟩, fun j a b => ?_⟩
    by_cases hj : j = k
    · subst hj; simpa using hc
    · exact hall j a (by omega)

/-- What a span accepts is what the reference covers. -/
theorem span_cov {d : Int} {l : List Smp} {p k : Nat} {lo hi : Int × Int} (hlt : ∀ i k, i < k → k < l.length → (atS l i).t < (atS l k).t) (hk : k < l.length) (hp : p + 1 < k) (h1 : IsLow d l p k lo) (h2 : IsHigh d l p k hi) :
    Cov d l p k ↔ (slt (slopeI l p k 0) lo = false ∧ slt hi (slopeI l p k 0) = false) := by
  have pos : ∀ u j, p < j → j ≤ k → 0 < (slopeI l p j u).2 := fun u j a b => by have := hlt p j a (by omega); simp only [slopeI]; omega
  have one : ∀ j, (lineI (atS l p) (atS l k) (atS l j) ≤ d * ((atS l k).t - (atS l p).t) ↔ slt (slopeI l p j d) (slopeI l p k 0) = false) ∧ (-(d * ((atS l k).t - (atS l p).t)) ≤ lineI (atS l p) (atS l k) (atS l j) ↔ slt (slopeI l p k 0) (slopeI l p j (-d)) = false) := by
    intro j
    unfold slt lineI slopeI
    simp only [decide_eq_false_iff_not, Int.not_lt]
    generalize (atS l p) = a
    generalize (atS l k) = b
    generalize (atS l j) = s
    have e1 : (s.v + d - a.v) * (b.t - a.t) = d * (b.t - a.t) - (a.v - s.v) * (b.t - a.t) := by rw [← Int.sub_mul]; congr 1; omega
    have e2 : (s.v + -d - a.v) * (b.t - a.t) = -(d * (b.t - a.t)) - (a.v - s.v) * (b.t - a.t) := by rw [← Int.neg_mul, ← Int.sub_mul]; congr 1; omega
    have e3 : (b.v + 0 - a.v) * (s.t - a.t) = (b.v - a.v) * (s.t - a.t) := by congr 1; omega
    rw [e1, e2, e3]
    constructor <;> constructor <;> intro h <;> omega
  obtain ⟨⟨j1, a1, a2, rfl⟩, hl⟩ := h1
  obtain ⟨⟨j2, b1, b2, rfl⟩, hh⟩ := h2
  constructor
  · intro h
    exact ⟨(one j1).2.1 (h j1 a1 a2).2, (one j2).1.1 (h j2 b1 b2).1⟩
  · rintro ⟨c1, c2⟩ j h3 h4
    refine ⟨(one j).1.2 ?_, (one j).2.2 ?_⟩
    · exact slt_trans (pos _ j h3 (by omega)) (pos _ j2 b1 (by omega)) (pos _ k (by omega) (by omega)) (hh j h3 h4) c2
    · exact slt_trans (pos _ k (by omega) (by omega)) (pos _ j1 a1 (by omega)) (pos _ j h3 (by omega)) c1 (hl j h3 h4)
/-- Lines between samples with the value 0 pass all between. -/
theorem cov_zero {d : Int} {l : List Smp} {p k : Nat} (hd : 0 ≤ d) (ht : (atS l p).t ≤ (atS l k).t) (hz : ∀ j, p ≤ j → j ≤ k → (atS l j).v = 0) (hpk : p ≤ k) : Cov d l p k := by
  intro j h1 h2
  unfold lineI
  rw [hz p (by omega) (by omega), hz k (by omega) (by omega), hz j (by omega) (by omega)]
  have := Int.mul_nonneg hd (Int.sub_nonneg.mpr ht)
  constructor <;> simp <;> omega
end Go.Proofs.Ytmcojidaimeijaa
