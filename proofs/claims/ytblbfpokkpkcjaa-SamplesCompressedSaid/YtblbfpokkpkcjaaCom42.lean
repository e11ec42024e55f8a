import Derived.Test.YtblbfpokkpkcjaaCom17
/- The contracts of slices.Index and slices.Contains at numbers. -/

namespace Go.Proofs.Ytblbfpokkpkcjaa
open Go.RowKit
set_option linter.unusedVariables false
set_option linter.unusedSimpArgs false

/-- A list that does not hold y, in front of the rest. -/
def idxI (l : List Int) (y : Int) : Nat → Nat → Int
  | 0, _ => -1
  | n + 1, j => if l.getD j 0 = y then (j : Int) else idxI l y n (j + 1)
theorem idxI_mem (l : List Int) (y : Int) (n j : Nat) (h : j + n = l.length) : (0 ≤ idxI l y n j) ↔ y ∈ l.drop j := by
  induction n generalizing j with
  | zero =>
    obtain rfl : j = l.length := by omega
    simp [idxI]
  | succ n ih =>
    have hj : j < l.length := by omega
    rw [List.drop_eq_getElem_cons hj]
    have e : l.getD j 0 = l[j] := by simp [List.getD_eq_getElem?_getD, List.getElem?_eq_getElem hj]
    simp only [idxI, e]
    split
    · rename_i h1; exact ⟨fun _ => List.mem_cons.2 (.inl h1.symm), fun _ => by omega⟩
    · rename_i h1
      rw [ih (j + 1) (by omega), List.mem_cons]
      exact ⟨.inr, fun h => h.resolve_left (Ne.symm h1)⟩
theorem idxI_range (l : List Int) (y : Int) (n j : Nat) : -1 ≤ idxI l y n j ∧ idxI l y n j ≤ j + n := by
  induction n generalizing j with
  | zero => simp [idxI]
  | succ n ih =>
    have := ih (j + 1)
    simp only [idxI]
    split <;> omega

set_option maxRecDepth 100000 in
set_option maxHeartbeats 1000000 in
theorem index_any (v : Value) (l : List Int) (y : Int) (w : World) (hR : RdI w v l) :
    Calls Try.prog 166 #[v, .int .i64 y] w fun e w' => e = .returned (.int .i64 (idxI l y l.length 0)) ∧ ∃ m, w' = w.drewN m := by
  have hfin : idxI l y l.length 0 = idxI l y l.length 0 := rfl
  generalize hE : idxI l y l.length 0 = E at hfin ⊢
  have HE := Lib.hid hE
  clear hfin hE
  rcases Nat.eq_zero_or_pos l.length with h0 | h0
  · obtain rfl := List.eq_nil_of_length_eq_zero h0
    obtain ⟨_, a, c, rfl, _, _, _⟩ := hR
    clear h0
    go_enter Try.func166, Try.ntmps166
    go_wp2_with fail
    refine wp_loop_rounds 1 ?_
    rw [rounds_succ]
    go_wp2_with fail
    go_ret
    exact ⟨ret_int (by rw [← HE.out]; rfl), 0, rfl⟩
  · obtain ⟨b, off, c, rfl, hc1, hc2, hblt, hcell⟩ := RdI.cells hR h0
    unfold maxLen at hc2
    have HC := Lib.hid hcell
    clear hcell hR
    go_enter Try.func166, Try.ntmps166
    go_wp2_with fail
    go_loopw [8] (fun i wr => ∃ j : Nat, j ≤ l.length ∧ i = .int .i64 (j : Int) ∧ E = idxI l y (l.length - j) j ∧ ∃ m, wr = w.drewN m) (fun i _ => l.length - (intOf i).toNat)
    case atStart => exact ⟨0, by omega, rfl, by rw [← HE.out]; simp, 0, rfl⟩
    case round =>
      obtain ⟨j, hj, rfl, he, m, rfl⟩ := hrel
      have HEJ := Lib.hid he
      clear he
      by_cases hlt : j < l.length
      · have c0 := HC.out j hlt
        have hstep : idxI l y (l.length - j) j = if l[j] = y then (j : Int) else idxI l y (l.length - (j + 1)) (j + 1) := by
          rw [show l.length - j = (l.length - (j + 1)) + 1 by omega]
          have e : l.getD j 0 = l[j] := by simp [List.getD_eq_getElem?_getD, List.getElem?_eq_getElem hlt]
          simp only [idxI, e]
        generalize l[j] = x at *
        have HST := Lib.hid hstep
        clear hstep
        by_cases hxy : x = y
        · have hxy' : (y == x) = true := by simp [hxy]
          have HXY := Lib.hid hxy
          clear hxy
          go_wp2_with fail
          go_ret
          exact ⟨ret_int (by rw [HEJ.out, HST.out, if_pos HXY.out]), m, rfl⟩
        · have hxy' : (y == x) = false := by simpa using Ne.symm hxy
          have HXY := Lib.hid hxy
          clear hxy
          go_wp2_with fail
          go_roundw
          case rel => exact ⟨j + 1, by omega, by go_num, by rw [HEJ.out, HST.out, if_neg HXY.out], m, rfl⟩
          case measure => simp [intOf]; omega
      · obtain rfl : j = l.length := by omega
        go_wp2_with fail
        go_ret
        exact ⟨ret_int (by rw [HEJ.out]; simp [idxI]), m, rfl⟩

set_option maxHeartbeats 1000000 in
theorem contains_any (v : Value) (l : List Int) (y : Int) (w : World) (hR : RdI w v l) :
    Calls Try.prog 104 #[v, .int .i64 y] w fun e w' => e = .returned (.bool (decide (y ∈ l))) ∧ ∃ m, w' = w.drewN m := by
  have h1 := idxI_mem l y l.length 0 (by omega)
  have h2 := index_any v l y w hR
  rw [List.drop_zero] at h1
  generalize idxI l y l.length 0 = E at *
  have H1 := Lib.hid h1
  have H2 := Lib.hid h2
  clear h1 h2 hR
  go_enter Try.func104, Try.ntmps104
  go_wp2_with fail
  refine H2.out.mono ?_
  rintro e w2 ⟨rfl, m, rfl⟩
  go_wp2_with fail
  go_ret
  exact ⟨ret_bool (by simp only [decide_eq_decide]; exact H1.out), m, rfl⟩
end Go.Proofs.Ytblbfpokkpkcjaa
