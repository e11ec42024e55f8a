import Derived.Test.YtblbfpokkpkcjaaCom17
import Derived.Test.YtblbfpokkpkcjaaCom06
import Derived.Test.YtblbfpokkpkcjaaCom16
/- The contracts of the checks of kept indices: checkKept (package compress), and the reference's IndicesFault. -/

namespace Go.Proofs.Ytblbfpokkpkcjaa
open Go.RowKit
set_option linter.unusedVariables false
set_option linter.unusedSimpArgs false

/-- What is wrong with indices of n samples, the one before them given. -/
def idxFrom (n : Nat) : Option Int → List Int → Int
  | _, [] => 0
  | p, k :: r => if inB k 0 ((n : Int) - 1) = false then 1 else if notAfter p k = true then 7 else idxFrom n (some k) r
def idxErr (n : Nat) (ks : List Int) : Int := if n < ks.length then 2 else idxFrom n none ks
def keptErr (l : List Smp) (ks : List Int) : Int := if serErr l ≠ 0 then serErr l else idxErr l.length ks
def prevI (ks : List Int) (j : Nat) : Option Int := if j = 0 then none else ks[j - 1]?
theorem idxFrom_step (n : Nat) (ks : List Int) (j : Nat) (h : j < ks.length) :
    idxFrom n (prevI ks j) (ks.drop j) = if inB ks[j] 0 ((n : Int) - 1) = false then 1 else if notAfter (prevI ks j) ks[j] = true then 7 else idxFrom n (prevI ks (j + 1)) (ks.drop (j + 1)) := by
  rw [List.drop_eq_getElem_cons h]
  simp only [idxFrom]
  have : prevI ks (j + 1) = some ks[j] := by simp [prevI, h]
  rw [this]
theorem idxFrom_end (n : Nat) (ks : List Int) : idxFrom n (prevI ks ks.length) (ks.drop ks.length) = 0 := by simp [idxFrom]

theorem RdI.lenv {w : World} {v : Value} {l : List Int} (h : RdI w v l) : ∃ pa ca, v = .slice pa l.length ca := by obtain ⟨_, pa, ca, rfl, _⟩ := h; exact ⟨pa, ca, rfl⟩
theorem RdI.below {w w' : World} {v : Value} {l : List Int} {B : Nat} (h : RdI w v l) (hb : Below B w w') (hB : w.heap.size ≤ B) : RdI w' v l := Rd.below h (hb.mono hB)

set_option maxRecDepth 100000 in
set_option maxHeartbeats 2000000 in
theorem checkKept_any (v vk : Value) (l : List Smp) (ks : List Int) (w : World) (hR : RdS w 71 v l) (hK : RdI w vk ks) (hks : ks.length ≤ 100000) :
    Calls Try.prog 108 #[v, vk] w fun e w' => e = .returned (.int .i64 (keptErr l ks)) ∧ Below w.heap.size w w' := by
  have hdef : keptErr l ks = if serErr l ≠ 0 then serErr l else idxErr l.length ks := rfl
  have hidx : idxErr l.length ks = if l.length < ks.length then 2 else idxFrom l.length none ks := rfl
  generalize keptErr l ks = E at *
  generalize idxErr l.length ks = J at *
  have HD := Lib.hid hdef
  have HI := Lib.hid hidx
  obtain ⟨pa, ca, rfl⟩ := hR.lenv
  obtain ⟨pk, ck, rfl⟩ := hK.lenv
  have HK := Lib.hid hK
  have HSE := Lib.hid (checkSeries_any _ l w hR)
  have hge := @serErr_good l
  have HGE := Lib.hid hge
  clear hdef hidx hR hK hge
  go_enter Try.func108, Try.ntmps108
  go_wp2_with fail
  refine HSE.out.mono ?_
  rintro e w1 ⟨rfl, hb1⟩
  by_cases hS : serErr l = 0
  · have hS' : (serErr l != 0) = false := by simpa using hS
    have hlong := (HGE.out hS).1
    have HS := Lib.hid hS
    clear hS
    by_cases hL : l.length < ks.length
    · have HJ := Lib.hid (show J = 2 by rw [HI.out, if_pos hL])
      go_wp2_with fail
      go_ret
      exact ⟨ret_int (by rw [HD.out, if_neg (by rw [HS.out]; simp), HJ.out]), hb1⟩
    · have HJ := Lib.hid (show J = idxFrom l.length none ks by rw [HI.out, if_neg hL])
      have hK1 : RdI w1 _ ks := HK.out.below hb1 (Nat.le_refl _)
      have HK1 := Lib.hid hK1
      have hsz := hb1.size
      have HB1 := Lib.hid hb1
      clear hK1 hb1
      go_wp2_with fail
      go_loop [20] (fun i => ∃ j : Nat, j ≤ ks.length ∧ i = .int .i64 (j : Int) ∧ idxFrom l.length none ks = idxFrom l.length (prevI ks j) (ks.drop j)) (fun i => ks.length - (intOf i).toNat)
      case atStart => exact ⟨0, by omega, rfl, by simp [prevI]⟩
      case round =>
        obtain ⟨j, hj, rfl, hf⟩ := hrel
        have HF := Lib.hid hf
        clear hf
        by_cases hlt : j < ks.length
        · obtain ⟨b, off, c, hv, hc1, hc2, hblt, hcell⟩ := RdI.cells HK1.out (by omega)
          cases hv
          unfold maxLen at hc2
          have c0 := hcell j hlt
          have hstep := idxFrom_step l.length ks j hlt
          have hprev : 0 < j → ∃ y : Int, prevI ks j = some y ∧ w1.cell? ⟨b, off + (j - 1), none⟩ = some (.int .i64 y) := fun hj0 =>
            ⟨ks[j - 1]'(by omega), by unfold prevI; rw [if_neg (by omega)]; exact List.getElem?_eq_getElem (by omega), hcell (j - 1) (by omega)⟩
          have HPREV := Lib.hid hprev
          generalize ks[j] = x at *
          have HSTEP := Lib.hid hstep
          clear hstep hprev hcell
          go_wp2_with fail
          refine (within_any _ _ _ _).mono ?_
          rintro e w' ⟨rfl, rfl⟩
          by_cases hB : inB x 0 ((l.length : Int) - 1) = true
          · have HB := Lib.hid hB
            rw [hB]
            clear hB
            rcases Nat.eq_zero_or_pos j with hj0 | hj0
            · obtain rfl := hj0
              go_wp2_with fail
              go_round
              case rel => exact ⟨1, by omega, rfl, by rw [HF.out, HSTEP.out, if_neg (by simp [HB.out]), if_neg (by simp [prevI, notAfter])]⟩
              case measure => simp [intOf]; omega
            · obtain ⟨y, hpy, hcy⟩ := HPREV.out hj0
              have HPY := Lib.hid hpy
              clear hpy
              have hj0' : (0 : Int) < (j : Int) := by omega
              by_cases hxy : x ≤ y
              · have hxy' : decide (x ≤ y) = true := by simpa using hxy
                go_wp2_with fail
                go_ret
                exact ⟨ret_int (by rw [HD.out, if_neg (by rw [HS.out]; simp), HJ.out, HF.out, HSTEP.out, if_neg (by simp [HB.out]), if_pos (by rw [HPY.out]; exact hxy')]), HB1.out⟩
              · have hxy' : decide (x ≤ y) = false := by simpa using hxy
                go_wp2_with fail
                go_round
                case rel => exact ⟨j + 1, by omega, by go_num, by rw [HF.out, HSTEP.out, if_neg (by simp [HB.out]), if_neg (by rw [HPY.out]; simpa [notAfter] using hxy)]⟩
                case measure => simp [intOf]; omega
          · have hB' : inB x 0 ((l.length : Int) - 1) = false := by simpa using hB
            have HB := Lib.hid hB'
            rw [hB']
            clear hB hB'
            go_wp2_with fail
            go_ret
            exact ⟨ret_int (by rw [HD.out, if_neg (by rw [HS.out]; simp), HJ.out, HF.out, HSTEP.out, if_pos HB.out]), HB1.out⟩
        · obtain rfl : j = ks.length := by omega
          go_wp2_with fail
          go_ret
          exact ⟨ret_int (by rw [HD.out, if_neg (by rw [HS.out]; simp), HJ.out, HF.out, idxFrom_end]), HB1.out⟩
  · have hS' : (serErr l != 0) = true := by simpa using hS
    have HS := Lib.hid hS
    clear hS
    go_wp2_with fail
    go_ret
    exact ⟨ret_int (by rw [HD.out, if_pos HS.out]), hb1⟩

set_option maxRecDepth 100000 in
set_option maxHeartbeats 2000000 in
theorem indicesFault_any (v vk : Value) (l : List Smp) (ks : List Int) (w : World) (hR : RdS w 71 v l) (hK : RdI w vk ks) (hks : ks.length ≤ 100000) (hlong : l.length ≤ 5000) :
    Calls Try.prog 31 #[v, vk] w fun e w' => e = .returned (.int .i64 (idxErr l.length ks)) ∧ w = w' := by
  have hidx : idxErr l.length ks = if l.length < ks.length then 2 else idxFrom l.length none ks := rfl
  generalize idxErr l.length ks = J at *
  have HI := Lib.hid hidx
  obtain ⟨pa, ca, rfl⟩ := hR.lenv
  obtain ⟨pk, ck, rfl⟩ := hK.lenv
  have HK1 := Lib.hid hK
  clear hidx hR hK
  go_enter Try.func31, Try.ntmps31
  by_cases hL : l.length < ks.length
  · have HJ := Lib.hid (show J = 2 by rw [HI.out, if_pos hL])
    go_wp2_with fail
    go_ret
    exact ⟨ret_int HJ.out.symm, rfl⟩
  · have HJ := Lib.hid (show J = idxFrom l.length none ks by rw [HI.out, if_neg hL])
    go_wp2_with fail
    go_loop [14] (fun i => ∃ j : Nat, j ≤ ks.length ∧ i = .int .i64 (j : Int) ∧ idxFrom l.length none ks = idxFrom l.length (prevI ks j) (ks.drop j)) (fun i => ks.length - (intOf i).toNat)
    case atStart => exact ⟨0, by omega, rfl, by simp [prevI]⟩
    case round =>
      obtain ⟨j, hj, rfl, hf⟩ := hrel
      have HF := Lib.hid hf
      clear hf
      by_cases hlt : j < ks.length
      · obtain ⟨b, off, c, hv, hc1, hc2, hblt, hcell⟩ := RdI.cells HK1.out (by omega)
        cases hv
        unfold maxLen at hc2
        have c0 := hcell j hlt
        have hstep := idxFrom_step l.length ks j hlt
        have hprev : 0 < j → ∃ y : Int, prevI ks j = some y ∧ w.cell? ⟨b, off + (j - 1), none⟩ = some (.int .i64 y) := fun hj0 =>
          ⟨ks[j - 1]'(by omega), by unfold prevI; rw [if_neg (by omega)]; exact List.getElem?_eq_getElem (by omega), hcell (j - 1) (by omega)⟩
        have HPREV := Lib.hid hprev
        generalize ks[j] = x at *
        have HSTEP := Lib.hid hstep
        clear hstep hprev hcell
        go_wp2_with fail
        refine (rin_any _ _ _ _).mono ?_
        rintro e w' ⟨rfl, rfl⟩
        by_cases hB : inB x 0 ((l.length : Int) - 1) = true
        · have HB := Lib.hid hB
          rw [hB]
          clear hB
          rcases Nat.eq_zero_or_pos j with hj0 | hj0
          · obtain rfl := hj0
            go_wp2_with fail
            go_round
            case rel => exact ⟨1, by omega, rfl, by rw [HF.out, HSTEP.out, if_neg (by simp [HB.out]), if_neg (by simp [prevI, notAfter])]⟩
            case measure => simp [intOf]; omega
          · obtain ⟨y, hpy, hcy⟩ := HPREV.out hj0
            have HPY := Lib.hid hpy
            clear hpy
            have hj0' : (0 : Int) < (j : Int) := by omega
            by_cases hxy : x ≤ y
            · have hxy' : decide (x ≤ y) = true := by simpa using hxy
              go_wp2_with fail
              go_ret
              exact ⟨ret_int (by rw [HJ.out, HF.out, HSTEP.out, if_neg (by simp [HB.out]), if_pos (by rw [HPY.out]; exact hxy')]), rfl⟩
            · have hxy' : decide (x ≤ y) = false := by simpa using hxy
              go_wp2_with fail
              go_round
              case rel => exact ⟨j + 1, by omega, by go_num, by rw [HF.out, HSTEP.out, if_neg (by simp [HB.out]), if_neg (by rw [HPY.out]; simpa [notAfter] using hxy)]⟩
              case measure => simp [intOf]; omega
        · have hB' : inB x 0 ((l.length : Int) - 1) = false := by simpa using hB
          have HB := Lib.hid hB'
          rw [hB']
          clear hB hB'
          go_wp2_with fail
          go_ret
          exact ⟨ret_int (by rw [HJ.out, HF.out, HSTEP.out, if_pos HB.out]), rfl⟩
      · obtain rfl : j = ks.length := by omega
        go_wp2_with fail
        go_ret
        exact ⟨ret_int (by rw [HJ.out, HF.out, idxFrom_end]), rfl⟩
end Go.Proofs.Ytblbfpokkpkcjaa

/- When kept samples fit: mathematics. -/

namespace Go.Proofs.Ytblbfpokkpkcjaa
set_option linter.unusedVariables false
set_option linter.unusedSimpArgs false

/-- Each of the indices can be kept next to the one before. -/
def pairsB (d m : Int) (l : List Smp) : List Int → Bool
  | a :: b :: r => nextB d m l a.toNat b.toNat && pairsB d m l (b :: r)
  | _ => true
def fitsB (d m : Int) (l : List Smp) (ks : List Int) : Bool :=
  if l.length = 0 then true else decide (ks.head? = some 0) && decide (ks.getLast? = some ((l.length : Int) - 1)) && pairsB d m l ks
theorem pairsB_drop (d m : Int) (l : List Smp) (ks : List Int) (j : Nat) (h : j + 1 < ks.length) : pairsB d m l (ks.drop j) = (nextB d m l (ks[j]).toNat (ks[j + 1]).toNat && pairsB d m l (ks.drop (j + 1))) := by
  rw [List.drop_eq_getElem_cons (by omega : j < ks.length), List.drop_eq_getElem_cons h]
  rfl
theorem pairsB_end (d m : Int) (l : List Smp) (ks : List Int) (j : Nat) (h : ks.length ≤ j + 1) : pairsB d m l (ks.drop j) = true := by
  have hl : (ks.drop j).length ≤ 1 := by simp; omega
  match hk : ks.drop j with
  | [] => rfl
  | [_] => rfl
  | _ :: _ :: _ => rw [hk] at hl; simp at hl

/-- Part of a list of samples. -/
theorem atS_part (l : List Smp) (a b j : Nat) (hb : b < l.length) (hj : a + j ≤ b) : atS ((l.drop a).take (b + 1 - a)) j = atS l (a + j) := by
  unfold atS
  rw [List.getD_eq_getElem?_getD, List.getD_eq_getElem?_getD, List.getElem?_take_of_lt (by omega), List.getElem?_drop]
theorem part_long (l : List Smp) (a b : Nat) (hb : b < l.length) (hab : a ≤ b) : ((l.drop a).take (b + 1 - a)).length = b + 1 - a := by simp; omega
theorem FitL.part {l : List Smp} (h : FitL l) {a b : Nat} (hb : b < l.length) (hab : a ≤ b) : FitL ((l.drop a).take (b + 1 - a)) := by
  have e := part_long l a b hb hab
  refine ⟨⟨fun i j hij hj => ?_, fun j hj hq => ?_⟩, fun i hi => ?_⟩
  · rw [atS_part l a b i hb (by omega), atS_part l a b j hb (by omega)]; exact h.ok.lt _ _ (by omega) (by omega)
  · rw [atS_part l a b j hb (by omega)] at hq ⊢; exact h.ok.bad _ (by omega) hq
  · rw [atS_part l a b i hb (by omega)]; exact h.fit _ (by omega)
theorem cov_part (d : Int) (l : List Smp) (a b : Nat) (hb : b < l.length) (hab : a ≤ b) : cov d ((l.drop a).take (b + 1 - a)) 0 (b - a) = cov d l a b := by
  rw [Bool.eq_iff_iff, cov_true, cov_true]
  have e0 := atS_part l a b 0 hb (by omega)
  have e1 := atS_part l a b (b - a) hb (by omega)
  rw [Nat.add_zero] at e0
  rw [show a + (b - a) = b by omega] at e1
  unfold Cov
  rw [e0, e1]
  constructor
  · intro h j h1 h2
    have := h (j - a) (by omega) (by omega)
    rw [atS_part l a b (j - a) hb (by omega), show a + (j - a) = j by omega] at this
    exact this
  · intro h j h1 h2
    rw [atS_part l a b j hb (by omega)]
    exact h (a + j) (by omega) (by omega)
theorem sameQ_part (l : List Smp) (a b : Nat) (hb : b < l.length) (hab : a ≤ b) : sameQ ((l.drop a).take (b + 1 - a)) 0 (b - a) = sameQ l a b := by
  rw [Bool.eq_iff_iff, sameQ_iff, sameQ_iff]
  have e0 := atS_part l a b 0 hb (by omega)
  rw [Nat.add_zero] at e0
  rw [e0]
  constructor
  · intro h j h1 h2
    have := h (j - a) (by omega) (by omega)
    rwa [atS_part l a b (j - a) hb (by omega), show a + (j - a) = j by omega] at this
  · intro h j h1 h2
    rw [atS_part l a b j hb (by omega)]
    exact h (a + j) (by omega) (by omega)
theorem nextB_part (d m : Int) (l : List Smp) (a b : Nat) (hb : b < l.length) (hab : a ≤ b) : nextB d m ((l.drop a).take (b + 1 - a)) 0 (b - a) = nextB d m l a b := by
  have e0 := atS_part l a b 0 hb (by omega)
  have e1 := atS_part l a b (b - a) hb (by omega)
  rw [Nat.add_zero] at e0
  rw [show a + (b - a) = b by omega] at e1
  unfold nextB shut
  rw [sameQ_part l a b hb hab, cov_part d l a b hb hab, e0, e1]
  congr 1
  · rw [Bool.eq_iff_iff, decide_eq_true_eq, decide_eq_true_eq]; omega
  · congr 1
    rw [Bool.eq_iff_iff, decide_eq_true_eq, decide_eq_true_eq]; omega

/-- What right indices are. -/
structure IdxOk (n : Nat) (ks : List Int) : Prop where
  long : ks.length ≤ n
  rng : ∀ k ∈ ks, 0 ≤ k ∧ k < (n : Int)
  rise : ks.Pairwise (· < ·)
theorem idxFrom_ok (n : Nat) (p : Option Int) (ks : List Int) (h : idxFrom n p ks = 0) : (∀ k ∈ ks, 0 ≤ k ∧ k < (n : Int)) ∧ ks.Pairwise (· < ·) ∧ (∀ q, p = some q → ∀ k ∈ ks, q < k) := by
  induction ks generalizing p with
  | nil => simp
  | cons k r ih =>
    unfold idxFrom at h
    by_cases h1 : inB k 0 ((n : Int) - 1) = false
    · rw [if_pos h1] at h; omega
    · rw [if_neg h1] at h
      by_cases h2 : notAfter p k = true
      · rw [if_pos h2] at h; omega
      · rw [if_neg h2] at h
        obtain ⟨i1, i2, i3⟩ := ih (some k) h
        have hk := inB_true.1 (by simpa using h1)
        refine ⟨fun x hx => ?_, List.pairwise_cons.2 ⟨fun x hx => i3 k rfl x hx, i2⟩, fun q hq x hx => ?_⟩
        · rcases List.mem_cons.1 hx with rfl | hx
          · omega
          · exact i1 x hx
        · subst hq
          have hqk : q < k := by simpa [notAfter] using h2
          rcases List.mem_cons.1 hx with rfl | hx
          · exact hqk
          · have := i3 k rfl x hx; omega
theorem idxErr_ok {n : Nat} {ks : List Int} (h : idxErr n ks = 0) : IdxOk n ks := by
  unfold idxErr at h
  by_cases h1 : n < ks.length
  · rw [if_pos h1] at h; omega
  · rw [if_neg h1] at h
    obtain ⟨a, b, _⟩ := idxFrom_ok n none ks h
    exact ⟨by omega, a, b⟩
end Go.Proofs.Ytblbfpokkpkcjaa
