/- The contracts of the checks of kept indices: checkKept (package compress), and the reference's IndicesFault. -/
import Derived.Test.YtgbnjbbjgkfefaaApn
import Derived.Test.YtgbnjbbjgkfefaaDist
import Derived.Test.YtgbnjbbjgkfefaaSerr
namespace Go.Proofs.Ytgbnjbbjgkfefaa
open Go.RowKit
set_option linter.unusedVariables false
set_option linter.unusedSimpArgs false

/-- What is wrong with indices of n samples, the one before them given. -/
def idxFrom (n : Nat) : Option Int → List Int → Int
  | _, [] => 0
  | p, k :: r => if inB k 0 ((n : Int) - 1) = false then 1 else if notAfter p k = true then 7 else idxFrom n (some k) r
def idxErr (n : Nat) (ks : List Int) : Int := if n < ks.length then 2 else idxFrom n none ks
def keptErr (l : List Smp) (ks : List Int) : Int := if serErr l ≠ 0 then serErr l else idxErr l.length ks
def prevI (ks : List Int) (j : Nat) : Option Int := if j = 0 then none else ks[j - 1]?
theorem idxFrom_step (n : Nat) (ks : List Int) (j : Nat) (h : j < ks.length) :
    idxFrom n (prevI ks j) (ks.drop j) = if inB ks[j] 0 ((n : Int) - 1) = false then 1 else if notAfter (prevI ks j) ks[j] = true then 7 else idxFrom n (prevI ks (j + 1)) (ks.drop (j + 1)) := by
  rw [List.drop_eq_getElem_cons h]
  simp only [idxFrom]
  have : prevI ks (j + 1) = some ks[j] := by simp [prevI, h]
  rw [this]
theorem idxFrom_end (n : Nat) (ks : List Int) : idxFrom n (prevI ks ks.length) (ks.drop ks.length) = 0 := by simp [idxFrom]

theorem RdI.lenv {w : World} {v : Value} {l : List Int} (h : RdI w v l) : ∃ pa ca, v = .slice pa l.length ca := by obtain ⟨_, pa, ca, rfl, _⟩ := h; exact ⟨pa, ca, rfl⟩
theorem RdI.below {w w' : World} {v : Value} {l : List Int} {B : Nat} (h : RdI w v l) (hb : Below B w w') (hB : w.heap.size ≤ B) : RdI w' v l := Rd.below h (hb.mono hB)

set_option maxRecDepth 100000 in
set_option maxHeartbeats 2000000 in
theorem checkKept_any (v vk : Value) (l : List Smp) (ks : List Int) (w : World) (hR : RdS w 71 v l) (hK : RdI w vk ks) (hks : ks.length ≤ 100000) :
    Calls Try.prog 90 #[v, vk] w fun e w' => e = .returned (.int .i64 (keptErr l ks)) ∧ Below w.heap.size w w' := by
  have hdef : keptErr l ks = if serErr l ≠ 0 then serErr l else idxErr l.length ks := rfl
  have hidx : idxErr l.length ks = if l.length < ks.length then 2 else idxFrom l.length none ks := rfl
  generalize keptErr l ks = E at *
  generalize idxErr l.length ks = J at *
  have HD := Lib.hid hdef
  have HI := Lib.hid hidx
  obtain ⟨pa, ca, rfl⟩ := hR.lenv
  obtain ⟨pk, ck, rfl⟩ := hK.lenv
  have HK := Lib.hid hK
  have HSE := Lib.hid (checkSeries_any _ l w hR)
  have hge := @serErr_good l
  have HGE := Lib.hid hge
  clear hdef hidx hR hK hge
  go_enter Try.func90, Try.ntmps90
  go_wp2_with fail
  refine HSE.out.mono ?_
  rintro e w1 ⟨rfl, hb1⟩
  by_cases hS : serErr l = 0
  · have hS' : (serErr l != 0) = false := by simpa using hS
    have hlong := (HGE.out hS).1
    have HS := Lib.hid hS
    clear hS
    by_cases hL : l.length < ks.length
    · have HJ := Lib.hid (show J = 2 by rw [HI.out, if_pos hL])
      go_wp2_with fail
      go_ret
      exact ⟨ret_int (by rw [HD.out, if_neg (by rw [HS.out]; simp), HJ.out]), hb1⟩
    · have HJ := Lib.hid (show J = idxFrom l.length none ks by rw [HI.out, if_neg hL])
      have hK1 : RdI w1 _ ks := HK.out.below hb1 (Nat.le_refl _)
      have HK1 := Lib.hid hK1
      have hsz := hb1.size
      have HB1 := Lib.hid hb1
      clear hK1 hb1
      go_wp2_with fail
      go_loop [20] (fun i => ∃ j : Nat, j ≤ ks.length ∧ i = .int .i64 (j : Int) ∧ idxFrom l.length none ks = idxFrom l.length (prevI ks j) (ks.drop j)) (fun i => ks.length - (intOf i).toNat)
      case atStart => exact ⟨0, by omega, rfl, by simp [prevI]⟩
      case round =>
        obtain ⟨j, hj, rfl, hf⟩ := hrel
        have HF := Lib.hid hf
        clear hf
        by_cases hlt : j < ks.length
        · obtain ⟨b, off, c, hv, hc1, hc2, hblt, hcell⟩ := RdI.cells HK1.out (by omega)
          cases hv
          unfold maxLen at hc2
          have c0 := hcell j hlt
          have hstep := idxFrom_step l.length ks j hlt
          have hprev : 0 < j → ∃ y : Int, prevI ks j = some y ∧ w1.cell? ⟨b, off + (j - 1), none⟩ = some (.int .i64 y) := fun hj0 =>
            ⟨ks[j - 1]'(by omega), by unfold prevI; rw [if_neg (by omega)]; exact List.getElem?_eq_getElem (by omega), hcell (j - 1) (by omega)⟩
          have HPREV := Lib.hid hprev
          generalize ks[j] = x at *
          have HSTEP := Lib.hid hstep
          clear hstep hprev hcell
          go_wp2_with fail
          refine (within_any _ _ _ _).mono ?_
          rintro e w' ⟨rfl, rfl⟩
          by_cases hB : inB x 0 ((l.length : Int) - 1) = true
          · have HB := Lib.hid hB
            rw [hB]
            clear hB
            rcases Nat.eq_zero_or_pos j with hj0 | hj0
            · obtain rfl := hj0
              go_wp2_with fail
              go_round
              case rel => exact ⟨1, by omega, rfl, by rw [HF.out, HSTEP.out, if_neg (by simp [HB.out]), if_neg (by simp [prevI, notAfter])]⟩
              case measure => simp [intOf]; omega
            · obtain ⟨y, hpy, hcy⟩ := HPREV.out hj0
              have HPY := Lib.hid hpy
              clear hpy
              have hj0' : (0 : Int) < (j : Int) := by omega
              by_cases hxy : x ≤ y
              · have hxy' : decide (x ≤ y) = true := by simpa using hxy
                go_wp2_with fail
                go_ret
                exact ⟨ret_int (by rw [HD.out, if_neg (by rw [HS.out]; simp), HJ.out, HF.out, HSTEP.out, if_neg (by simp [HB.out]), if_pos (by rw [HPY.out]; exact hxy')]), HB1.out⟩
              · have hxy' : decide (x ≤ y) = false := by simpa using hxy
                go_wp2_with fail
                go_round
                case rel => exact ⟨j + 1, by omega, by go_num, by rw [HF.out, HSTEP.out, if_neg (by simp [HB.out]), if_neg (by rw [HPY.out]; simpa [notAfter] using hxy)]⟩
                case measure => simp [intOf]; omega
          · have hB' : inB x 0 ((l.length : Int) - 1) = false := by simpa using hB
            have HB := Lib.hid hB'
            rw [hB']
            clear hB hB'
            go_wp2_with fail
            go_ret
            exact ⟨ret_int (by rw [HD.out, if_neg (by rw [HS.out]; simp), HJ.out, HF.out, HSTEP.out, if_pos HB.out]), HB1.out⟩
        · obtain rfl : j = ks.length := by omega
          go_wp2_with fail
          go_ret
          exact ⟨ret_int (by rw [HD.out, if_neg (by rw [HS.out]; simp), HJ.out, HF.out, idxFrom_end]), HB1.out⟩
  · have hS' : (serErr l != 0) = true := by simpa using hS
    have HS := Lib.hid hS
    clear hS
    go_wp2_with fail
    go_ret
    exact ⟨ret_int (by rw [HD.out, if_pos HS.out]), hb1⟩

set_option maxRecDepth 100000 in
set_option maxHeartbeats 2000000 in
theorem indicesFault_any (v vk : Value) (l : List Smp) (ks : List Int) (w : World) (hR : RdS w 71 v l) (hK : RdI w vk ks) (hks : ks.length ≤ 100000) (hlong : l.length ≤ 5000) :
    Calls Try.prog 28 #[v, vk] w fun e w' => e = .returned (.int .i64 (idxErr l.length ks)) ∧ w = w' := by
  have hidx : idxErr l.length ks = if l.length < ks.length then 2 else idxFrom l.length none ks := rfl
  generalize idxErr l.length ks = J at *
  have HI := Lib.hid hidx
  obtain ⟨pa, ca, rfl⟩ := hR.lenv
  obtain ⟨pk, ck, rfl⟩ := hK.lenv
  have HK1 := Lib.hid hK
  clear hidx hR hK
  go_enter Try.func28, Try.ntmps28
  by_cases hL : l.length < ks.length
  · have HJ := Lib.hid (show J = 2 by rw [HI.out, if_pos hL])
    go_wp2_with fail
    go_ret
    exact ⟨ret_int HJ.out.symm, rfl⟩
  · have HJ := Lib.hid (show J = idxFrom l.length none ks by rw [HI.out, if_neg hL])
    go_wp2_with fail
    go_loop [14] (fun i => ∃ j : Nat, j ≤ ks.length ∧ i = .int .i64 (j : Int) ∧ idxFrom l.length none ks = idxFrom l.length (prevI ks j) (ks.drop j)) (fun i => ks.length - (intOf i).toNat)
    case atStart => exact ⟨0, by omega, rfl, by simp [prevI]⟩
    case round =>
      obtain ⟨j, hj, rfl, hf⟩ := hrel
      have HF := Lib.hid hf
      clear hf
      by_cases hlt : j < ks.length
      · obtain ⟨b, off, c, hv, hc1, hc2, hblt, hcell⟩ := RdI.cells HK1.out (by omega)
        cases hv
        unfold maxLen at hc2
        have c0 := hcell j hlt
        have hstep := idxFrom_step l.length ks j hlt
        have hprev : 0 < j → ∃ y : Int, prevI ks j = some y ∧ w.cell? ⟨b, off + (j - 1), none⟩ = some (.int .i64 y) := fun hj0 =>
          ⟨ks[j - 1]'(by omega), by unfold prevI; rw [if_neg (by omega)]; exact List.getElem?_eq_getElem (by omega), hcell (j - 1) (by omega)⟩
        have HPREV := Lib.hid hprev
        generalize ks[j] = x at *
        have HSTEP := Lib.hid hstep
        clear hstep hprev hcell
        go_wp2_with fail
        refine (rin_any _ _ _ _).mono ?_
        rintro e w' ⟨rfl, rfl⟩
        by_cases hB : inB x 0 ((l.length : Int) - 1) = true
        · have HB := Lib.hid hB
          rw [hB]
          clear hB
          rcases Nat.eq_zero_or_pos j with hj0 | hj0
          · obtain rfl := hj0
            go_wp2_with fail
            go_round
            case rel => exact ⟨1, by omega, rfl, by rw [HF.out, HSTEP.out, if_neg (by simp [HB.out]), if_neg (by simp [prevI, notAfter])]⟩
            case measure => simp [intOf]; omega
          · obtain ⟨y, hpy, hcy⟩ := HPREV.out hj0
            have HPY := Lib.hid hpy
            clear hpy
            have hj0' : (0 : Int) < (j : Int) := by omega
            by_cases hxy : x ≤ y
            · have hxy' : decide (x ≤ y) = true := by simpa using hxy
              go_wp2_with fail
              go_ret
              exact ⟨ret_int (by rw [HJ.out, HF.out, HSTEP.out, if_neg (by simp [HB.out]), if_pos (by rw [HPY.out]; exact hxy')]), rfl⟩
            · have hxy' : decide (x ≤ y) = false := by simpa using hxy
              go_wp2_with fail
              go_round
              case rel => exact ⟨j + 1, by omega, by go_num, by rw [HF.out, HSTEP.out, if_neg (by simp [HB.out]), if_neg (by rw [HPY.out]; simpa [notAfter] using hxy)]⟩
              case measure => simp [intOf]; omega
        · have hB' : inB x 0 ((l.length : Int) - 1) = false := by simpa using hB
          have HB := Lib.hid hB'
          rw [hB']
          clear hB hB'
          go_wp2_with fail
          go_ret
          exact ⟨ret_int (by rw [HJ.out, HF.out, HSTEP.out, if_pos HB.out]), rfl⟩
      · obtain rfl : j = ks.length := by omega
        go_wp2_with fail
        go_ret
        exact ⟨ret_int (by rw [HJ.out, HF.out, idxFrom_end]), rfl⟩
end Go.Proofs.Ytgbnjbbjgkfefaa
