/- The contract of the reference of Stuck. -/
import Derived.Test.YtjkncmhmmafmjaaStuck
namespace Go.Proofs.Ytjkncmhmmafmjaa
open Go.RowKit
set_option linter.unusedVariables false

set_option maxRecDepth 100000 in
set_option maxHeartbeats 4000000 in
theorem same_any (i k p : Nat) (v : Value) (l : List Smp) (w : World) (hR : RdS w 27 v l) (hP : w.cell? ⟨p, 0, none⟩ = some v) (hi : i < l.length) (hk : k < l.length) (hlong : l.length ≤ 5000) :
    Calls Try.prog 71 #[.int .i64 (i : Int), .int .i64 (k : Int), .pointer (some ⟨p, 0, none⟩)] w fun e w' => e = .returned (.bool (sameB (atS l i) (atS l k))) ∧ ∃ m, w' = w.drewN m := by
  obtain ⟨b, off, c, rfl, hc1, hc2, hblt, hcell⟩ := RdS.at_ hR (by omega)
  unfold maxLen at hc2
  obtain ⟨a0, a1, a2⟩ := hcell i hi
  obtain ⟨c0, c1, c2⟩ := hcell k hk
  have hi' : (i : Int) < (l.length : Int) := by omega
  have hk' : (k : Int) < (l.length : Int) := by omega
  clear hcell hR
  have hs : sameB (atS l i) (atS l k) = decide ((atS l i).v = (atS l k).v ∧ (atS l i).q ≠ 2 ∧ (atS l k).q ≠ 2) := rfl
  generalize atS l i = x at *
  generalize atS l k = y at *
  generalize sameB x y = R at *
  have HS := Lib.hid hs
  clear hs
  by_cases h1 : x.v = y.v
  · have h1' : (x.v == y.v) = true := by simpa using h1
    by_cases h2 : x.q = 2
    · have h2' : (x.q != 2) = false := by simpa using h2
      have hR : R = false := by rw [HS.out]; simp [h2]
      have HR := Lib.hid hR
      clear h1 h2 hR
      go_enter Try.func71, Try.ntmps71
      go_wp2_with fail
      go_quiet (fail)
      go_wp2_with fail
      go_ret
      exact ⟨ret_bool HR.out.symm, _, rfl⟩
    · have h2' : (x.q != 2) = true := by simpa using h2
      by_cases h3 : y.q = 2
      · have h3' : (y.q != 2) = false := by simpa using h3
        have hR : R = false := by rw [HS.out]; simp [h3]
        have HR := Lib.hid hR
        clear h1 h2 h3 hR
        go_enter Try.func71, Try.ntmps71
        go_wp2_with fail
        go_quiet (fail)
        go_wp2_with fail
        go_ret
        exact ⟨ret_bool HR.out.symm, _, rfl⟩
      · have h3' : (y.q != 2) = true := by simpa using h3
        have hR : R = true := by rw [HS.out]; simp [h1, h2, h3]
        have HR := Lib.hid hR
        clear h1 h2 h3 hR
        go_enter Try.func71, Try.ntmps71
        go_wp2_with fail
        go_quiet (fail)
        go_wp2_with fail
        go_ret
        exact ⟨ret_bool HR.out.symm, _, rfl⟩
  · have h1' : (x.v == y.v) = false := by simpa using h1
    have hR : R = false := by rw [HS.out]; simp [h1]
    have HR := Lib.hid hR
    clear h1 hR
    go_enter Try.func71, Try.ntmps71
    go_wp2_with fail
    go_quiet (fail)
    go_wp2_with fail
    go_ret
    exact ⟨ret_bool HR.out.symm, _, rfl⟩

set_option maxRecDepth 100000 in
set_option maxHeartbeats 4000000 in
theorem stuckOf_any (v : Value) (l : List Smp) (least : Int) (w : World) (hR : RdS w 27 v l) (hat : ∀ i, 0 ≤ (atS l i).t ∧ (atS l i).t ≤ 345686399999) (hlong : l.length ≤ 5000) (hl2 : 2 ≤ least ∧ least ≤ 5000) :
    Calls Try.prog 29 #[v, .int .i64 least] w fun e w' => ∃ v', e = .returned v' ∧ RdW w' v' (stuckF l least 0) ∧ Below w.heap.size w w' := by
  have hmf : ∀ (fn : Fn) (first cap : Array Value) (w : World), (Instr.makeFunc fn first cap).run Try.prog w = .ok (.func fn first cap) w := fun _ _ _ _ => rfl
  obtain ⟨hlen1, pa, ca, rfl, na1, na2, ca3⟩ := hR
  have HR := Lib.hid (show RdS w 27 (.slice pa l.length ca) l from ⟨hlen1, pa, ca, rfl, na1, na2, ca3⟩)
  have HAT := Lib.hid hat
  clear hlen1 ca3 hat
  go_enter Try.func29, Try.ntmps29
  go_wp2_with fail
  go_loopw [6, 7] (fun sv si wr => ∃ (j : Nat) (acc : List (Int × Int)), j ≤ l.length ∧ si = .int .i64 (j : Int) ∧ wr.ownsRow (w.heap.size + 1) 32 2 sv acc.length (pairCells acc) ∧ acc ++ stuckF l least j = stuckF l least 0 ∧ acc.length ≤ j ∧ Below (w.heap.size + 1) (w.alloc (.cells #[.slice pa l.length ca] 29)) wr) (fun _ si _ => l.length - (intOf si).toNat)
  case atStart => exact ⟨0, [], by omega, rfl, World.ownsRow_nil _ _ _ _, rfl, by simp, Below.refl _ _⟩
  case round =>
    obtain ⟨j, acc, hj, rfl, hown, hacc, hal, hbr⟩ := hrel
    have HACC := Lib.hid hacc
    clear hacc
    have hbwr : Below w.heap.size w wr := ((Below.refl _ w).alloc (Nat.le_refl _) _).trans (hbr.mono (by omega))
    have hwz : w.heap.size + 1 ≤ wr.heap.size := by have := hbr.size; simpa using this
    have hbox : wr.cell? ⟨w.heap.size, 0, none⟩ = some (.slice pa l.length ca) := ((Blk.new w 29 #[.slice pa l.length ca]).below hbr (by omega)).cell 0
    by_cases hlt : j < l.length
    · have hRr : RdS wr 27 (.slice pa l.length ca) l := Rd.below HR.out hbwr
      have hstep := stuckF_step l least j hlt
      have hrun0 : runE l j = j + 1 + runL (atS l j) (l.drop (j + 1)) := rfl
      have hgt := runE_gt l j
      have hle := runE_le l j hlt
      have t0 := HAT.out j
      have t1 := HAT.out (runE l j - 1)
      obtain ⟨b, off, c, hv, hc1, hc2, hblt, hcell⟩ := RdS.at_ hRr (by omega)
      simp only [Value.slice.injEq, true_and] at hv
      obtain ⟨rfl, rfl⟩ := hv
      obtain ⟨c0, _, _⟩ := hcell j hlt
      obtain ⟨d0, _, _⟩ := hcell (runE l j - 1) (by omega)
      generalize hE : runE l j = E at *
      generalize hx : atS l j = x at *
      generalize hy : atS l (E - 1) = y at *
      have HX := Lib.hid hx
      have HSTEP := Lib.hid hstep
      have HRUN0 := Lib.hid hrun0
      have HRR := Lib.hid hRr
      clear hstep hrun0 hcell hRr hE hx hy
      unfold maxLen at hc2
      go_wp2_with fail
      go_loopw [8] (fun sk wk => ∃ (k m : Nat), j ≤ k ∧ k < l.length ∧ sk = .int .i64 (k : Int) ∧ E = k + 1 + runL (atS l k) (l.drop (k + 1)) ∧ wk = wr.drewN m) (fun sk _ => l.length - (intOf sk).toNat)
      case atStart => exact ⟨j, 0, Nat.le_refl _, hlt, rfl, by rw [HX.out]; exact HRUN0.out, rfl⟩
      case round =>
        obtain ⟨k, m, hjk, hkl, rfl, hrun, rfl⟩ := hrel
        have HRUN := Lib.hid hrun
        clear hrun
        by_cases hk1 : k + 1 < l.length
        · have hd := runL_drop l (atS l k) (k + 1) hk1
          have hsm := same_any k (k + 1) w.heap.size (.slice (some ⟨b, off, none⟩) l.length ca) l (wr.drewN m) (Rd.drewN HRR.out m) hbox (by omega) hk1 hlong
          have hcast : ((k + 1 : Nat) : Int) = (k : Int) + 1 := by omega
          rw [hcast] at hsm
          have HD := Lib.hid hd
          have HSM := Lib.hid hsm
          clear hd hsm hcast
          generalize hsb : sameB (atS l k) (atS l (k + 1)) = sb at *
          clear hsb
          cases sb
          · go_wp2_with fail
            refine HSM.out.mono ?_
            rintro e w2 ⟨rfl, m2, rfl⟩
            obtain rfl : E = k + 1 := by rw [HRUN.out, HD.out]; simp
            simp only [Nat.add_sub_cancel] at d0
            have hkl' : (k : Int) < (l.length : Int) := by omega
            have hjl' : (j : Int) < (l.length : Int) := by omega
            by_cases hge : least ≤ (k : Int) - (j : Int) + 1
            · have a2 : IntKind.i64.wrap (y.t + 1) = y.t + 1 := IntWalk.i64_in _ (by omega)
              go_wp2_with fail
              go_region_law (refine step_append_win rfl (.tmp 35) (.tmp 48) rfl (w.heap.size + 1) u6 acc.length acc (by simp [Act.eval, Act.put]) (by exact ownDrewN (hown.alloc _) _) wr.heap.size (by simp [Act.eval, Act.put]) (x.t, y.t + 1) (by exact Blk.new _ _ _) (by omega) (by simp; omega) ?_; intro v3 w3 hown3 hgrow3)
              all_goals
                have hb3 : Below (w.heap.size + 1) (w.alloc (.cells #[.slice (some ⟨b, off, none⟩) l.length ca] 29)) w3 := (bdrewN (hbr.alloc hwz _) _).trans (below_grown (ownDrewN (hown.alloc _) _) (by simp; omega) hgrow3)
                clear hgrow3 a2
                go_wp2_with fail
                go_roundw
                case rel => exact ⟨k + 1, acc ++ [(x.t, y.t + 1)], hle, by go_num, by rw [List.length_append]; exact hown3, by rw [← HACC.out, HSTEP.out, if_pos (by omega)]; simp, by simp; omega, hb3⟩
                case measure => simp [intOf]; omega
            · go_wp2_with fail
              go_roundw
              case rel => exact ⟨k + 1, acc, hle, by go_num, ownDrewN hown _, by rw [← HACC.out, HSTEP.out, if_neg (by omega)]; rfl, by omega, bdrewN hbr _⟩
              case measure => simp [intOf]; omega
          · go_wp2_with fail
            refine HSM.out.mono ?_
            rintro e w2 ⟨rfl, m2, rfl⟩
            go_wp2_with fail
            go_roundw
            case rel => exact ⟨k + 1, _, by omega, hk1, by go_num, by rw [HRUN.out, HD.out]; simp; omega, rfl⟩
            case measure => simp [intOf]; omega
        · have hnil : runL (atS l k) (l.drop (k + 1)) = 0 := by rw [List.drop_of_length_le (by omega)]; rfl
          have HNIL := Lib.hid hnil
          clear hnil
          obtain rfl : E = k + 1 := by rw [HRUN.out, HNIL.out]
          simp only [Nat.add_sub_cancel] at d0
          have hkl' : (k : Int) < (l.length : Int) := by omega
          have hjl' : (j : Int) < (l.length : Int) := by omega
          by_cases hge : least ≤ (k : Int) - (j : Int) + 1
          · have a2 : IntKind.i64.wrap (y.t + 1) = y.t + 1 := IntWalk.i64_in _ (by omega)
            go_wp2_with fail
            go_region_law (refine step_append_win rfl (.tmp 35) (.tmp 48) rfl (w.heap.size + 1) u6 acc.length acc (by simp [Act.eval, Act.put]) (by exact ownDrewN (hown.alloc _) _) wr.heap.size (by simp [Act.eval, Act.put]) (x.t, y.t + 1) (by exact Blk.new _ _ _) (by omega) (by simp; omega) ?_; intro v3 w3 hown3 hgrow3)
            all_goals
              have hb3 : Below (w.heap.size + 1) (w.alloc (.cells #[.slice (some ⟨b, off, none⟩) l.length ca] 29)) w3 := (bdrewN (hbr.alloc hwz _) _).trans (below_grown (ownDrewN (hown.alloc _) _) (by simp; omega) hgrow3)
              clear hgrow3 a2
              go_wp2_with fail
              go_roundw
              case rel => exact ⟨k + 1, acc ++ [(x.t, y.t + 1)], hle, by go_num, by rw [List.length_append]; exact hown3, by rw [← HACC.out, HSTEP.out, if_pos (by omega)]; simp, by simp; omega, hb3⟩
              case measure => simp [intOf]; omega
          · go_wp2_with fail
            go_roundw
            case rel => exact ⟨k + 1, acc, hle, by go_num, ownDrewN hown _, by rw [← HACC.out, HSTEP.out, if_neg (by omega)]; rfl, by omega, bdrewN hbr _⟩
            case measure => simp [intOf]; omega
    · obtain rfl : j = l.length := by omega
      have hfin : acc = stuckF l least 0 := by have := HACC.out; rw [stuckF_end l least l.length (Nat.le_refl _)] at this; simpa using this
      have HFIN := Lib.hid hfin
      have hrd : RdW wr u6 acc := Rd.of_own hown
      clear hfin hown
      go_wp2_with fail
      go_ret
      refine ⟨u6, rfl, ?_, hbwr⟩
      rw [← HFIN.out]; exact hrd
end Go.Proofs.Ytjkncmhmmafmjaa
