/- The contract of the first error of some (package loglaw2). -/
import Derived.Test.YtefbkdbjfgccpaaChk
namespace Go.Proofs.Ytefbkdbjfgccpaa
open Go.RowKit
set_option linter.unusedVariables false
set_option linter.unusedSimpArgs false

def firstErr : List Int → Int
  | [] => 0
  | x :: l => if x ≠ 0 then x else firstErr l

set_option maxRecDepth 100000 in
set_option maxHeartbeats 1000000 in
theorem errs_any (w : World) (b : Nat) (xs : List Int) (hB : Blk w b 32 (xs.map (Value.int .i64)).toArray) (hx : xs.length ≤ 1000) :
    Calls Try.prog 9 #[.slice (some ⟨b, 0, none⟩) xs.length xs.length] w fun e w' => e = .returned (.int .i64 (firstErr xs)) ∧ w = w' := by
  have HB := Lib.hid hB
  clear hB
  go_enter Try.func9, Try.ntmps9
  go_wp2_with fail
  go_loop [7] (fun i => ∃ j : Nat, j ≤ xs.length ∧ i = .int .i64 (j : Int) ∧ firstErr xs = firstErr (xs.drop j)) (fun i => xs.length - (intOf i).toNat)
  case atStart => exact ⟨0, by omega, rfl, by simp⟩
  case round =>
    obtain ⟨j, hj, rfl, hf⟩ := hrel
    have HF := Lib.hid hf
    clear hf
    by_cases hlt : j < xs.length
    · have hc : w.cell? ⟨b, j, none⟩ = some (.int .i64 xs[j]) := by rw [HB.out.cell]; simp [hlt]
      have hd : firstErr (xs.drop j) = if xs[j] ≠ 0 then xs[j] else firstErr (xs.drop (j + 1)) := by rw [List.drop_eq_getElem_cons hlt]; rfl
      generalize xs[j] = x at *
      have HD := Lib.hid hd
      clear hd
      by_cases hx0 : x = 0
      · have hx1 : (x != 0) = false := by simpa using hx0
        have HX := Lib.hid hx0
        clear hx0
        go_wp2_with fail
        go_round
        case rel => exact ⟨j + 1, by omega, by go_num, by rw [HF.out, HD.out, if_neg (by rw [HX.out]; simp)]⟩
        case measure => simp [intOf]; omega
      · have hx1 : (x != 0) = true := by simpa using hx0
        have HX := Lib.hid hx0
        clear hx0
        go_wp2_with fail
        go_ret
        exact ⟨ret_int (by rw [HF.out, HD.out, if_pos HX.out]), rfl⟩
    · obtain rfl : j = xs.length := by omega
      go_wp2_with fail
      go_ret
      exact ⟨ret_int (by rw [HF.out]; simp [firstErr]), rfl⟩
end Go.Proofs.Ytefbkdbjfgccpaa
