/- slices.IndexFunc over the function that asks whether a sample says something else of an alarm. -/
import Derived.Test.YtjoknaglhahbaaaSays
namespace Go.Proofs.Ytjoknaglhahbaaa
open Go.RowKit
set_option linter.unusedVariables false
set_option linter.unusedSimpArgs false

/-- The index of the first sample that says something else; -1: there is none. -/
def idxP (x : Alm) (c : Int) (l : List Smp) : Int := if sameP x c l = [] then -1 else (l.length : Int) - ((sameP x c l).length : Int)
theorem sameP_drop (x : Alm) (c : Int) (l : List Smp) (j : Nat) (hj : j < l.length) : sameP x c (l.drop j) = if sayF x (atS l j) = c then sameP x c (l.drop (j + 1)) else l.drop j := by
  rw [List.drop_eq_getElem_cons hj, atS_eq l j hj]
  unfold sameP
  rw [List.dropWhile_cons]
  by_cases h : sayF x (atS l j) = c <;> simp [h]
theorem drop_long (l : List Smp) (j : Nat) (hj : j < l.length) : (l.drop j).length = l.length - j ∧ l.drop j ≠ [] := by
  refine ⟨by simp, fun h => ?_⟩
  have := congrArg List.length h
  simp at this; omega

set_option maxRecDepth 100000 in
set_option maxHeartbeats 2000000 in
theorem indexA_any (x : Alm) (c : Int) (bx bw : Nat) (v : Value) (l : List Smp) (w : World) (hR : RdS w 45 v l) (hlong : l.length ≤ 5000) (hx : AlmIn x) (hl : ∀ i, i < l.length → -1000000 ≤ (atS l i).v ∧ (atS l i).v ≤ 1000000)
    (hX : Blk w bx 37 (almCells x)) (hW : Blk w bw 3 #[.int .i64 c]) :
    Calls Try.prog 28 #[v, .func (.func 57) #[] #[.pointer (some ⟨bx, 0, none⟩), .pointer (some ⟨bw, 0, none⟩)]] w fun e w' => e = .returned (.int .i64 (idxP x c l)) ∧ Below w.heap.size w w' := by
  have HP := Lib.hid (fun (i : Nat) (hi : i < l.length) (W : World) (hb : Below w.heap.size w W) => runs11_any x (atS l i) bx bw c W hx (hl i hi) (hX.below hb hX.lt) (hW.below hb hW.lt))
  have hcf := enter_runs11
  obtain ⟨pa, ca, rfl⟩ := hR.lenv
  have HR := Lib.hid hR
  clear hR hX hW hl
  go_enter Try.func28, Try.ntmps28
  go_wp2_with fail
  go_loopw [8] (fun si wr => ∃ j : Nat, j ≤ l.length ∧ si = .int .i64 (j : Int) ∧ sameP x c (l.drop j) = sameP x c l ∧ Below w.heap.size w wr) (fun si _ => l.length - (intOf si).toNat)
  case atStart => exact ⟨0, by omega, rfl, by simp, Below.refl _ _⟩
  case round =>
    obtain ⟨j, hj, rfl, hidx, hbr⟩ := hrel
    have HIDX := Lib.hid hidx
    clear hidx
    by_cases hlt : j < l.length
    · have hRr : RdS wr 45 (.slice pa l.length ca) l := Rd.below HR.out hbr
      obtain ⟨b, off, c', hv, hc1, hc2, hblt, hcell⟩ := RdS.at_ hRr (by omega)
      simp only [Value.slice.injEq, true_and] at hv
      obtain ⟨rfl, rfl⟩ := hv
      obtain ⟨c0, c1', c2⟩ := hcell j hlt
      have hstep := sameP_drop x c l j hlt
      have hcall := HP.out j hlt _ hbr
      have hdl := drop_long l j hlt
      have HDL := Lib.hid hdl
      have HSTEP := Lib.hid hstep
      generalize atS l j = y at *
      generalize sayF x y = Y at *
      have HC := Lib.hid hcall
      clear hcell hRr hstep hcall hdl
      unfold maxLen at hc2
      by_cases hY : Y = c
      · have hd : decide (Y ≠ c) = false := by simpa using hY
        rw [hd] at HC
        have HS := Lib.hid (show sameP x c (l.drop (j + 1)) = sameP x c l by rw [← HIDX.out, HSTEP.out, if_pos hY])
        clear hY hd
        go_wp2_with fail
        refine HC.out.mono ?_
        rintro e w2 ⟨rfl, hb2⟩
        go_wp2_with fail
        go_roundw
        case rel => exact ⟨j + 1, by omega, by go_num, HS.out, hbr.trans (hb2.mono hbr.size)⟩
        case measure => simp [intOf]; omega
      · have hd : decide (Y ≠ c) = true := by simpa using hY
        rw [hd] at HC
        have HS := Lib.hid (show idxP x c l = (j : Int) by
          have h1 : sameP x c l = l.drop j := by rw [← HIDX.out, HSTEP.out, if_neg hY]
          unfold idxP
          rw [h1, if_neg HDL.out.2, HDL.out.1]
          omega)
        clear hY hd
        go_wp2_with fail
        refine HC.out.mono ?_
        rintro e w2 ⟨rfl, hb2⟩
        go_wp2_with fail
        go_ret
        exact ⟨ret_int (by rw [HS.out]), hbr.trans (hb2.mono hbr.size)⟩
    · obtain rfl : j = l.length := by omega
      have HS := Lib.hid (show idxP x c l = -1 by
        unfold idxP
        rw [if_pos (by rw [← HIDX.out]; simp [sameP])])
      go_wp2_with fail
      go_ret
      exact ⟨ret_int (by rw [HS.out]), hbr⟩
end Go.Proofs.Ytjoknaglhahbaaa
