/- The contracts of Stuck (package sample), and of its reference. -/
import Derived.Test.YtjkncmhmmafmjaaRun
import Derived.Laws.EntriesVeiled
namespace Go.Proofs.Ytjkncmhmmafmjaa
open Go.RowKit
set_option linter.unusedVariables false
set_option linter.unusedSimpArgs false

theorem ownDrewN {w : World} {base n : Nat} {e : TypeId} {v : Value} {size : Nat} {xs : List Value} (h : w.ownsRow base e size v n xs) (m : Nat) : (w.drewN m).ownsRow base e size v n xs := h

/-- The windows of the runs from index i on. -/
def stuckF (l : List Smp) (least : Int) (i : Nat) : List (Int × Int) :=
  if h : i < l.length then (if least ≤ (runE l i : Int) - (i : Int) then [((atS l i).t, (atS l (runE l i - 1)).t + 1)] else []) ++ stuckF l least (runE l i) else []
  termination_by l.length - i
  decreasing_by
    have := runE_gt l i
    have := runE_le l i h
    omega
theorem stuckF_step (l : List Smp) (least : Int) (i : Nat) (h : i < l.length) :
    stuckF l least i = (if least ≤ (runE l i : Int) - (i : Int) then [((atS l i).t, (atS l (runE l i - 1)).t + 1)] else []) ++ stuckF l least (runE l i) := by
  rw [stuckF, dif_pos h]
theorem stuckF_end (l : List Smp) (least : Int) (i : Nat) (h : l.length ≤ i) : stuckF l least i = [] := by
  rw [stuckF, dif_neg (by omega)]
theorem stuckF_len (l : List Smp) (least : Int) (i : Nat) (h : i ≤ l.length) : (stuckF l least i).length ≤ l.length - i := by
  rcases Nat.lt_or_ge i l.length with hlt | hge
  · rw [stuckF_step l least i hlt]
    have h1 := runE_gt l i
    have h2 := runE_le l i hlt
    have h3 := stuckF_len l least (runE l i) h2
    split <;> simp <;> omega
  · rw [stuckF_end l least i hge]; simp
  termination_by l.length - i

def stuckE (l : List Smp) (least : Int) : Int := orE (serErr l) (if inB least 2 5000 = true then 0 else 1)
def stuckR (l : List Smp) (least : Int) : List (Int × Int) := if stuckE l least = 0 then stuckF l least 0 else []
theorem serErr_at {l : List Smp} (h : serErr l = 0) (i : Nat) : 0 ≤ (atS l i).t ∧ (atS l i).t ≤ 345686399999 := by
  obtain ⟨_, hall⟩ := serErr_good h
  rcases Nat.lt_or_ge i l.length with hi | hi
  · rw [← atS_eq l i hi]; exact (smpErr_good (hall _ (List.getElem_mem hi))).1
  · simp [atS, List.getD_eq_getElem?_getD, List.getElem?_eq_none hi]

set_option maxRecDepth 100000 in
set_option maxHeartbeats 4000000 in
theorem stuck_any (v : Value) (l : List Smp) (least : Int) (w : World) (hR : RdS w 27 v l) :
    Calls Try.prog 24 #[v, .int .i64 least] w fun e w' => ∃ v', e = .returned (.tuple #[v', .int .i64 (stuckE l least)]) ∧ RdW w' v' (stuckR l least) ∧ Below w.heap.size w w' := by
  have hEd : stuckE l least = orE (serErr l) (if inB least 2 5000 = true then 0 else 1) := rfl
  have hRd : stuckR l least = if stuckE l least = 0 then stuckF l least 0 else [] := rfl
  have HED := Lib.hid hEd
  have HRD := Lib.hid hRd
  clear hEd hRd
  by_cases hS : serErr l = 0
  · have hS' : (serErr l != 0) = false := by simpa using hS
    have hat := serErr_at hS
    have hlong := (serErr_good hS).1
    have HS := Lib.hid hS
    have HAT := Lib.hid hat
    clear hS hat
    by_cases hl : inB least 2 5000 = true
    · have hE0 : stuckE l least = 0 := by rw [HED.out, orE, if_neg (by rw [HS.out]; simp), if_pos hl]
      have HE0 := Lib.hid hE0
      have hl2 := inB_true.1 hl
      clear hE0
      go_enter Try.func24, Try.ntmps24
      go_wp2_with fail
      refine (checkSeries_any v l _ hR).mono ?_
      rintro e w1 ⟨rfl, hb1⟩
      have hR1 : RdS w1 27 v l := Rd.below hR hb1
      obtain ⟨hlen1, pa, ca, rfl, na1, na2, ca3⟩ := hR1
      have HR1 := Lib.hid (show RdS w1 27 (.slice pa l.length ca) l from ⟨hlen1, pa, ca, rfl, na1, na2, ca3⟩)
      clear hlen1 ca3
      go_wp2_with (go_at_call 64; refine (within_any _ _ _ _).mono ?_; rintro e w' ⟨rfl, rfl⟩)
      go_loopw [7, 8] (fun sv si wr => ∃ (j : Nat) (acc : List (Int × Int)), j ≤ l.length ∧ si = .int .i64 (j : Int) ∧ wr.ownsRow w1.heap.size 32 2 sv acc.length (pairCells acc) ∧ acc ++ stuckF l least j = stuckF l least 0 ∧ acc.length ≤ j ∧ Below w1.heap.size w1 wr) (fun _ si _ => l.length - (intOf si).toNat)
      case atStart => exact ⟨0, [], by omega, rfl, World.ownsRow_nil _ _ _ _, rfl, by simp, Below.refl _ _⟩
      case round =>
        obtain ⟨j, acc, hj, rfl, hown, hacc, hal, hb1r⟩ := hrel
        have hwz := hb1r.size
        have HACC := Lib.hid hacc
        clear hacc
        by_cases hlt : j < l.length
        · have hRr : RdS wr 27 (.slice pa l.length ca) l := Rd.below HR1.out hb1r
          have hgt := runE_gt l j
          have hle := runE_le l j hlt
          have hstep := stuckF_step l least j hlt
          have t0 := HAT.out j
          have t1 := HAT.out (runE l j - 1)
          obtain ⟨b, off, c, hv, hc1, hc2, hblt, hcell⟩ := RdS.at_ hRr (by omega)
          simp only [Value.slice.injEq, true_and] at hv
          obtain ⟨rfl, rfl⟩ := hv
          obtain ⟨c0, _, _⟩ := hcell j hlt
          obtain ⟨d0, _, _⟩ := hcell (runE l j - 1) (by omega)
          have hre := runEnd_any (.slice (some ⟨b, off, none⟩) l.length ca) l j wr hRr hlt hlong
          generalize runE l j = E at *
          generalize atS l j = x at *
          generalize atS l (E - 1) = y at *
          have HSTEP := Lib.hid hstep
          have HRE := Lib.hid hre
          clear hstep hre hcell hRr
          unfold maxLen at hc2
          have hE0 : (1 : Int) ≤ (E : Int) := by omega
          have hE1 : (0 : Int) ≤ (E : Int) - 1 := by omega
          have hE2 : (E : Int) - 1 < (l.length : Int) := by omega
          have hE3 : ((E : Int) - 1).toNat = E - 1 := by omega
          go_wp2_with fail
          refine HRE.out.mono ?_
          rintro e w2 ⟨rfl, m2, rfl⟩
          by_cases hge : least ≤ (E : Int) - (j : Int)
          · have a1 : IntKind.i64.wrap ((E : Int) - 1) = (E : Int) - 1 := IntWalk.i64_in _ (by omega)
            have a2 : IntKind.i64.wrap (y.t + 1) = y.t + 1 := IntWalk.i64_in _ (by omega)
            go_wp2_with fail
            go_region_law (refine step_append_win rfl (.tmp 30) (.tmp 44) rfl w1.heap.size u7 acc.length acc (by simp [Act.eval, Act.put]) (by exact ownDrewN (hown.alloc _) _) wr.heap.size (by simp [Act.eval, Act.put]) (x.t, y.t + 1) (by exact Blk.new _ _ _) (by omega) (by simp; omega) ?_; intro v3 w3 hown3 hgrow3)
            all_goals
              have hb3 : Below w1.heap.size w1 w3 := (bdrewN (hb1r.alloc hwz _) _).trans (below_grown (ownDrewN (hown.alloc _) _) (by simp; omega) hgrow3)
              clear hgrow3 a1 a2
              go_wp2_with fail
              go_roundw
              case rel => exact ⟨E, acc ++ [(x.t, y.t + 1)], hle, rfl, by rw [List.length_append]; exact hown3, by rw [← HACC.out, HSTEP.out, if_pos hge]; simp, by simp; omega, hb3⟩
              case measure => simp [intOf]; omega
          · go_wp2_with fail
            go_roundw
            case rel => exact ⟨E, acc, hle, rfl, ownDrewN hown _, by rw [← HACC.out, HSTEP.out, if_neg (by omega)]; rfl, by omega, bdrewN hb1r _⟩
            case measure => simp [intOf]; omega
        · obtain rfl : j = l.length := by omega
          have hfin : acc = stuckF l least 0 := by have := HACC.out; rw [stuckF_end l least l.length (Nat.le_refl _)] at this; simpa using this
          have HFIN := Lib.hid hfin
          have hrd : RdW wr u7 acc := Rd.of_own hown
          clear hfin hown
          go_wp2_with fail
          go_ret2
          refine ⟨u7, by rw [HE0.out]; rfl, ?_, hb1.trans (hb1r.mono hb1.size)⟩
          rw [HRD.out, if_pos HE0.out, ← HFIN.out]; exact hrd
    · have hE1 : stuckE l least = 1 := by rw [HED.out, orE, if_neg (by rw [HS.out]; simp), if_neg hl]
      have HE1 := Lib.hid hE1
      have hl' : inB least 2 5000 = false := by simpa using hl
      clear hE1 hl
      go_enter Try.func24, Try.ntmps24
      go_wp2_with fail
      refine (checkSeries_any v l _ hR).mono ?_
      rintro e w1 ⟨rfl, hb1⟩
      go_wp2_with (go_at_call 64; refine (within_any _ _ _ _).mono ?_; rintro e w' ⟨rfl, rfl⟩)
      go_ret2
      refine ⟨.slice none 0 0, by rw [HE1.out]; rfl, ?_, hb1⟩
      rw [HRD.out, HE1.out, if_neg (by omega)]; exact Rd.nil _ _ _
  · have hS' : (serErr l != 0) = true := by simpa using hS
    have hE1 : stuckE l least = serErr l := by rw [HED.out, orE, if_pos hS]
    have HE1 := Lib.hid hE1
    have HS := Lib.hid hS
    clear hE1 hS
    go_enter Try.func24, Try.ntmps24
    go_wp2_with fail
    refine (checkSeries_any v l _ hR).mono ?_
    rintro e w1 ⟨rfl, hb1⟩
    go_wp2_with fail
    go_ret2
    refine ⟨.slice none 0 0, by rw [HE1.out]; rfl, ?_, hb1⟩
    rw [HRD.out, HE1.out, if_neg HS.out]; exact Rd.nil _ _ _
end Go.Proofs.Ytjkncmhmmafmjaa
