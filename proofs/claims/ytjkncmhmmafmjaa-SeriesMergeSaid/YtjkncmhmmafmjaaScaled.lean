/- The contracts of the references of Scale and Limit. -/
import Derived.Test.YtjkncmhmmafmjaaLimit
namespace Go.Proofs.Ytjkncmhmmafmjaa
open Go.RowKit
set_option linter.unusedVariables false
set_option linter.unusedSimpArgs false

theorem rnd_ref (n d : Int) (hd : 1 ≤ d) : (2 * max n (-n) + d) / (2 * d) * sgn n = rnd n d := by
  unfold sgn rnd rndP
  rcases Int.lt_trichotomy n 0 with h | h | h
  · rw [if_pos h, if_pos h, show max n (-n) = -n from by omega]; omega
  · subst h
    simp
    rw [Int.ediv_eq_zero_of_lt (by omega) (by omega)]
  · rw [if_neg (by omega), if_pos h, if_neg (by omega), show max n (-n) = n from by omega]; omega

theorem cellsOf_setv (l : List Smp) (i : Nat) (x : Smp) (h : l[i]? = some x) (u : Int) : (cellsOf l).set (i * 3 + 1) (.int .i64 u) = cellsOf (l.set i ⟨x.t, u, x.q⟩) := by
  induction l generalizing i with
  | nil => simp at h
  | cons y l ih =>
    cases i with
    | zero => simp at h; subst h; simp [Smp.cells]
    | succ i =>
      have := ih i (by simpa using h)
      rw [show (i + 1) * 3 + 1 = i * 3 + 1 + 3 from by omega]
      simp [Smp.cells, this]
theorem cellsOf_setq (l : List Smp) (i : Nat) (x : Smp) (h : l[i]? = some x) (u : Int) : (cellsOf l).set (i * 3 + 2) (.int .i64 u) = cellsOf (l.set i ⟨x.t, x.v, u⟩) := by
  induction l generalizing i with
  | nil => simp at h
  | cons y l ih =>
    cases i with
    | zero => simp at h; subst h; simp [Smp.cells]
    | succ i =>
      have := ih i (by simpa using h)
      rw [show (i + 1) * 3 + 2 = i * 3 + 2 + 3 from by omega]
      simp [Smp.cells, this]
theorem own_putv {w : World} {base g cap n : Nat} {e : TypeId} {l : List Smp} (h : w.ownsRow base e 3 (.slice (some ⟨g, 0, none⟩) n cap) n (cellsOf l)) (i : Nat) (x : Smp) (hx : l[i]? = some x) (u : Int) :
    (w.setCell ⟨g, i * 3 + 1, none⟩ (.int .i64 u)).ownsRow base e 3 (.slice (some ⟨g, 0, none⟩) n cap) n (cellsOf (l.set i ⟨x.t, u, x.q⟩)) := by
  have := (h.stored (i * 3 + 1) (.int .i64 u)).1
  rwa [cellsOf_setv l i x hx u] at this
theorem own_putq {w : World} {base g cap n : Nat} {e : TypeId} {l : List Smp} (h : w.ownsRow base e 3 (.slice (some ⟨g, 0, none⟩) n cap) n (cellsOf l)) (i : Nat) (x : Smp) (hx : l[i]? = some x) (u : Int) :
    (w.setCell ⟨g, i * 3 + 2, none⟩ (.int .i64 u)).ownsRow base e 3 (.slice (some ⟨g, 0, none⟩) n cap) n (cellsOf (l.set i ⟨x.t, x.v, u⟩)) := by
  have := (h.stored (i * 3 + 2) (.int .i64 u)).1
  rwa [cellsOf_setq l i x hx u] at this
theorem own_drewN {w : World} {base n : Nat} {e : TypeId} {v : Value} {size : Nat} {xs : List Value} (h : w.ownsRow base e size v n xs) (m : Nat) : (w.drewN m).ownsRow base e size v n xs := h
theorem set_at (l : List Smp) (i : Nat) (x y : Smp) (hx : l[i]? = some x) : (l.set i y)[i]? = some y := by
  have h : i < l.length := by
    rcases Nat.lt_or_ge i l.length with h | h
    · exact h
    · rw [List.getElem?_eq_none h] at hx; cases hx
  simp [h]

set_option maxRecDepth 100000 in
set_option maxHeartbeats 2000000 in
theorem scaledOf_any (v : Value) (l : List Smp) (n d o : Int) (w : World) (hR : RdS w 27 v l) (hlong : l.length ≤ 5000) (hall : ∀ x ∈ l, -1000000 ≤ x.v ∧ x.v ≤ 1000000)
    (hn : -1000000 ≤ n ∧ n ≤ 1000000) (hd : 1 ≤ d ∧ d ≤ 1000000) (ho : -1000000 ≤ o ∧ o ≤ 1000000) :
    Calls Try.prog 37 #[v, .agg #[.int .i64 n, .int .i64 d], .int .i64 o] w fun e w' =>
      ∃ v', e = .returned v' ∧ RdS w' 27 v' (l.map (good (scaleF n d o))) ∧ Below w.heap.size w w' := by
  have hBf := Blk.new w 48 #[.int .i64 n, .int .i64 d]
  have HBF := Lib.hid hBf
  have HALL := Lib.hid hall
  clear hBf hall
  go_enter Try.func37, Try.ntmps37
  go_wp2_with fail
  refine (clone_any v l _ (Rd.alloc hR _) (by omega)).mono ?_
  rintro e w1 ⟨v1, rfl, hown0, hb1⟩
  have hown : w1.ownsRow (w.heap.size + 1) 27 3 v1 l.length (cellsOf l) := by simpa using hown0
  have hbf1 : Blk w1 w.heap.size 48 #[.int .i64 n, .int .i64 d] := HBF.out.below hb1 (by simp)
  have hbw1 : Below (w.heap.size + 1) (w.alloc (.cells #[.int .i64 n, .int .i64 d] 48)) w1 := hb1.mono (by simp)
  have HBF1 := Lib.hid hbf1
  clear hown0 hb1 hbf1
  rcases Nat.eq_zero_or_pos l.length with h0 | h0
  · obtain rfl := List.eq_nil_of_length_eq_zero h0
    have hr := Rd.of_own hown
    obtain ⟨_, a, c, rfl, _, _, _⟩ := Rd.of_own hown
    go_wp2_with fail
    refine wp_loop_rounds 1 ?_
    rw [rounds_succ]
    go_wp2_with fail
    go_ret
    exact ⟨_, rfl, hr, ((Below.refl _ w).alloc (Nat.le_refl _) _).trans (hbw1.mono (by omega))⟩
  · obtain ⟨g, cap, rfl, hg, hc1, hc2⟩ := own_form hown h0
    unfold maxLen at hc2
    go_wp2_with fail
    go_loopw [16] (fun i wr => ∃ j : Nat, j ≤ l.length ∧ i = .int .i64 (j : Int) ∧ wr.ownsRow (w.heap.size + 1) 27 3 (.slice (some ⟨g, 0, none⟩) l.length cap) l.length (cellsOf (eachTo (good (scaleF n d o)) l j)) ∧ Below (w.heap.size + 1) w1 wr) (fun i _ => l.length - (intOf i).toNat)
    case atStart => exact ⟨0, by omega, rfl, by rw [eachTo_none]; exact hown, Below.refl _ _⟩
    case round =>
      obtain ⟨j, hj, rfl, hown, hwr⟩ := hrel
      have hbfr : Blk wr w.heap.size 48 #[.int .i64 n, .int .i64 d] := HBF1.out.below hwr (by omega)
      have e0 : wr.cell? ⟨w.heap.size, 0, none⟩ = some (.int .i64 n) := hbfr.cell 0
      have e1 : wr.cell? ⟨w.heap.size, 1, none⟩ = some (.int .i64 d) := hbfr.cell 1
      have hlr : w.heap.size < wr.heap.size := hbfr.lt
      clear hbfr
      by_cases hlt : j < l.length
      · obtain ⟨c0, c1', c2'⟩ := own_cells hown (eachTo_length _ _ _) j hlt
        rw [eachTo_at _ _ _ hlt] at c0 c1' c2'
        have f1 := hown.frozenAt (j * 3 + 1)
        have f2 := hown.frozenAt (j * 3 + 2)
        have hgr : g < wr.heap.size := (hown.lt g rfl).2
        have hxb := HALL.out l[j] (List.getElem_mem hlt)
        have hset := eachTo_set (good (scaleF n d o)) l j hlt
        have hsame := eachTo_same (good (scaleF n d o)) l j hlt
        have hat : (eachTo (good (scaleF n d o)) l j)[j]? = some l[j] := by rw [List.getElem?_eq_getElem (by rw [eachTo_length]; exact hlt), eachTo_at _ _ _ hlt]
        have hgood : good (scaleF n d o) l[j] = if l[j].q = 2 then l[j] else scaleF n d o l[j] := rfl
        generalize l[j] = x at *
        have HSET := Lib.hid hset
        have HSAME := Lib.hid hsame
        have HG := Lib.hid hgood
        have HAT := Lib.hid hat
        clear hset hsame hgood hat
        by_cases hq : x.q = 2
        · have hq' : (x.q == 2) = true := by simpa using hq
          have HQ := Lib.hid hq
          clear hq
          go_wp2_with fail
          go_roundw
          case rel =>
            refine ⟨j + 1, by omega, by go_num, ?_, hwr.alloc (by omega) _⟩
            rw [← HSAME.out (by rw [HG.out, if_pos HQ.out])]
            exact hown.alloc _
          case measure => simp [intOf]; omega
        · have hq' : (x.q == 2) = false := by simpa using hq
          have HQ := Lib.hid hq
          have hm1 := mul_range x.v n 1000000 hxb hn (by omega)
          have hm2 := mul_range o d 1000000 ho ⟨by omega, hd.2⟩ (by omega)
          clear hq
          go_wp2_with fail
          have hz : -3000000000000 ≤ x.v * n + o * d ∧ x.v * n + o * d ≤ 3000000000000 := by omega
          have hsc : good (scaleF n d o) x = if inB (rnd (x.v * n + o * d) d) (-1000000) 1000000 = true then ⟨x.t, rnd (x.v * n + o * d) d, x.q⟩ else ⟨x.t, 0, 2⟩ := by rw [HG.out, if_neg HQ.out]; rfl
          generalize x.v * n + o * d = z at *
          have HSC := Lib.hid hsc
          clear hsc
          rcases Int.lt_trichotomy z 0 with hneg | hneg | hneg
          · obtain ⟨m, rfl⟩ : ∃ m, z = -m := ⟨-z, by omega⟩
            have hrd : rnd (-m) d = -(rndP m d) := by unfold rnd; rw [if_pos hneg, Int.neg_neg]
            have hsg : ∀ w' : World, Calls Try.prog 76 #[.int .i64 (-m)] w' fun e w'' => e = .returned (.int .i64 (-1)) ∧ w'' = w' := fun w' => (sign_any _ w').mono fun e w'' h => ⟨by rw [h.1, sgn, if_pos hneg], h.2.symm⟩
            have hq1 := rndP_range m d (by omega) hd.1
            have hqd : (2 * m + d).tdiv (2 * d) = rndP m d := Int.tdiv_eq_ediv_of_nonneg (by omega)
            generalize rndP m d = Q at *
            have a1 : IntKind.i64.wrap m = m := IntWalk.i64_in _ (by omega)
            have a2 : IntKind.i64.wrap (2 * m) = 2 * m := IntWalk.i64_in _ (by omega)
            have a3 : IntKind.i64.wrap (2 * m + d) = 2 * m + d := IntWalk.i64_in _ (by omega)
            have a4 : IntKind.i64.wrap (2 * d) = 2 * d := IntWalk.i64_in _ (by omega)
            have a5 : IntKind.i64.wrap Q = Q := IntWalk.i64_in _ (by omega)
            have a6 : IntKind.i64.wrap (-Q) = -Q := IntWalk.i64_in _ (by omega)
            have a7 : -m < m := by omega
            have a8 : (2 * d == 0) = false := by rw [beq_eq_false_iff_ne]; omega
            have HRD := Lib.hid hrd
            have HSG := Lib.hid hsg
            clear hrd hsg
            go_quiet ((go_at_call 76; exact Calls.quiet_of_same (HSG.out _)))
            clear a1 a2 a3 a4 a5 a6 a7 a8 hqd
            by_cases hin : inB (-Q) (-1000000) 1000000 = true
            · go_wp2_with (go_at_call 51; refine (in_any _ _ _ _).mono ?_; rintro e w' ⟨rfl, rfl⟩)
              go_roundw
              case rel =>
                refine ⟨j + 1, by omega, by go_num, ?_, Below.setCell (bdrewN (hwr.alloc (by omega) _) _) hg _⟩
                rw [← HSET.out, HSC.out, HRD.out, if_pos hin]
                exact own_putv (own_drewN (hown.alloc _) _) j x HAT.out (-Q)
              case measure => simp [intOf]; omega
            · have hin' : inB (-Q) (-1000000) 1000000 = false := by simpa using hin
              go_wp2_with (go_at_call 51; refine (in_any _ _ _ _).mono ?_; rintro e w' ⟨rfl, rfl⟩)
              go_roundw
              case rel =>
                refine ⟨j + 1, by omega, by go_num, ?_, Below.setCell (Below.setCell (Below.setCell (bdrewN (hwr.alloc (by omega) _) _) hg _) hg _) hg _⟩
                rw [← HSET.out, HSC.out, HRD.out, if_neg hin]
                have h1 := own_putv (own_drewN (hown.alloc (.cells #[.int .i64 x.t, .int .i64 x.v, .int .i64 x.q] 27)) nq) j x HAT.out (-Q)
                have h2 := own_putv h1 j _ (set_at _ _ _ _ HAT.out) 0
                have h3 := own_putq h2 j _ (set_at _ _ _ _ (set_at _ _ _ _ HAT.out)) 2
                simp only [List.set_set] at h3
                exact h3
              case measure => simp [intOf]; omega
          · subst hneg
            have hrd : rnd 0 d = 0 := by unfold rnd rndP; rw [if_neg (by omega)]; exact Int.ediv_eq_zero_of_lt (by omega) (by omega)
            have hsg : ∀ w' : World, Calls Try.prog 76 #[.int .i64 0] w' fun e w'' => e = .returned (.int .i64 0) ∧ w'' = w' := fun w' => (sign_any _ w').mono fun e w'' h => ⟨h.1, h.2.symm⟩
            have hqd : d.tdiv (2 * d) = 0 := by rw [Int.tdiv_eq_ediv_of_nonneg (by omega)]; exact Int.ediv_eq_zero_of_lt (by omega) (by omega)
            have a0 : IntKind.i64.wrap 0 = 0 := IntWalk.i64_in _ (by omega)
            have a3 : IntKind.i64.wrap d = d := IntWalk.i64_in _ (by omega)
            have a4 : IntKind.i64.wrap (2 * d) = 2 * d := IntWalk.i64_in _ (by omega)
            have a8 : (2 * d == 0) = false := by rw [beq_eq_false_iff_ne]; omega
            have HRD := Lib.hid hrd
            have HSG := Lib.hid hsg
            clear hrd hsg
            go_quiet ((go_at_call 76; exact Calls.quiet_of_same (HSG.out _)))
            clear a0 a3 a4 a8 hqd
            by_cases hin : inB 0 (-1000000) 1000000 = true
            · go_wp2_with (go_at_call 51; refine (in_any _ _ _ _).mono ?_; rintro e w' ⟨rfl, rfl⟩)
              go_roundw
              case rel =>
                refine ⟨j + 1, by omega, by go_num, ?_, Below.setCell (bdrewN (hwr.alloc (by omega) _) _) hg _⟩
                rw [← HSET.out, HSC.out, HRD.out, if_pos hin]
                exact own_putv (own_drewN (hown.alloc _) _) j x HAT.out 0
              case measure => simp [intOf]; omega
            · have hin' : inB 0 (-1000000) 1000000 = false := by simpa using hin
              go_wp2_with (go_at_call 51; refine (in_any _ _ _ _).mono ?_; rintro e w' ⟨rfl, rfl⟩)
              go_roundw
              case rel =>
                refine ⟨j + 1, by omega, by go_num, ?_, Below.setCell (Below.setCell (Below.setCell (bdrewN (hwr.alloc (by omega) _) _) hg _) hg _) hg _⟩
                rw [← HSET.out, HSC.out, HRD.out, if_neg hin]
                have h1 := own_putv (own_drewN (hown.alloc (.cells #[.int .i64 x.t, .int .i64 x.v, .int .i64 x.q] 27)) nq) j x HAT.out 0
                have h2 := own_putv h1 j _ (set_at _ _ _ _ HAT.out) 0
                have h3 := own_putq h2 j _ (set_at _ _ _ _ (set_at _ _ _ _ HAT.out)) 2
                simp only [List.set_set] at h3
                exact h3
              case measure => simp [intOf]; omega
          · have hrd : rnd z d = rndP z d := by unfold rnd; rw [if_neg (by omega)]
            have hsg : ∀ w' : World, Calls Try.prog 76 #[.int .i64 z] w' fun e w'' => e = .returned (.int .i64 1) ∧ w'' = w' := fun w' => (sign_any _ w').mono fun e w'' h => ⟨by rw [h.1, sgn, if_neg (by omega), if_pos hneg], h.2.symm⟩
            have hq1 := rndP_range z d (by omega) hd.1
            have hqd : (2 * z + d).tdiv (2 * d) = rndP z d := Int.tdiv_eq_ediv_of_nonneg (by omega)
            generalize rndP z d = Q at *
            have a1 : IntKind.i64.wrap (-z) = -z := IntWalk.i64_in _ (by omega)
            have a2 : IntKind.i64.wrap (2 * z) = 2 * z := IntWalk.i64_in _ (by omega)
            have a3 : IntKind.i64.wrap (2 * z + d) = 2 * z + d := IntWalk.i64_in _ (by omega)
            have a4 : IntKind.i64.wrap (2 * d) = 2 * d := IntWalk.i64_in _ (by omega)
            have a5 : IntKind.i64.wrap Q = Q := IntWalk.i64_in _ (by omega)
            have a7 : ¬ z < -z := by omega
            have a8 : (2 * d == 0) = false := by rw [beq_eq_false_iff_ne]; omega
            have HRD := Lib.hid hrd
            have HSG := Lib.hid hsg
            clear hrd hsg
            go_quiet ((go_at_call 76; exact Calls.quiet_of_same (HSG.out _)))
            clear a1 a2 a3 a4 a5 a7 a8 hqd
            by_cases hin : inB Q (-1000000) 1000000 = true
            · go_wp2_with (go_at_call 51; refine (in_any _ _ _ _).mono ?_; rintro e w' ⟨rfl, rfl⟩)
              go_roundw
              case rel =>
                refine ⟨j + 1, by omega, by go_num, ?_, Below.setCell (bdrewN (hwr.alloc (by omega) _) _) hg _⟩
                rw [← HSET.out, HSC.out, HRD.out, if_pos hin]
                exact own_putv (own_drewN (hown.alloc _) _) j x HAT.out Q
              case measure => simp [intOf]; omega
            · have hin' : inB Q (-1000000) 1000000 = false := by simpa using hin
              go_wp2_with (go_at_call 51; refine (in_any _ _ _ _).mono ?_; rintro e w' ⟨rfl, rfl⟩)
              go_roundw
              case rel =>
                refine ⟨j + 1, by omega, by go_num, ?_, Below.setCell (Below.setCell (Below.setCell (bdrewN (hwr.alloc (by omega) _) _) hg _) hg _) hg _⟩
                rw [← HSET.out, HSC.out, HRD.out, if_neg hin]
                have h1 := own_putv (own_drewN (hown.alloc (.cells #[.int .i64 x.t, .int .i64 x.v, .int .i64 x.q] 27)) nq) j x HAT.out Q
                have h2 := own_putv h1 j _ (set_at _ _ _ _ HAT.out) 0
                have h3 := own_putq h2 j _ (set_at _ _ _ _ (set_at _ _ _ _ HAT.out)) 2
                simp only [List.set_set] at h3
                exact h3
              case measure => simp [intOf]; omega
      · obtain rfl : j = l.length := by omega
        rw [eachTo_all] at hown
        go_wp2_with fail
        go_ret
        have hr : RdS wr 27 (.slice (some ⟨g, 0, none⟩) l.length cap) (l.map (good (scaleF n d o))) := by
          unfold RdS
          rw [List.length_map]
          exact Rd.of_own hown
        exact ⟨_, rfl, hr, ((Below.refl _ w).alloc (Nat.le_refl _) _).trans ((hbw1.trans hwr).mono (by omega))⟩

set_option maxRecDepth 100000 in
set_option maxHeartbeats 2000000 in
theorem limitedOf_any (v : Value) (l : List Smp) (lo hi : Int) (w : World) (hR : RdS w 27 v l) (hlong : l.length ≤ 5000) (hlh : lo ≤ hi) :
    Calls Try.prog 38 #[v, .int .i64 lo, .int .i64 hi] w fun e w' =>
      ∃ v', e = .returned v' ∧ RdS w' 27 v' (l.map (good (limitF lo hi))) ∧ Below w.heap.size w w' := by
  go_enter Try.func38, Try.ntmps38
  go_wp2_with fail
  refine (clone_any v l _ hR (by omega)).mono ?_
  rintro e w1 ⟨v1, rfl, hown, hb1⟩
  rcases Nat.eq_zero_or_pos l.length with h0 | h0
  · obtain rfl := List.eq_nil_of_length_eq_zero h0
    have hr := Rd.of_own hown
    obtain ⟨_, a, c, rfl, _, _, _⟩ := Rd.of_own hown
    go_wp2_with fail
    refine wp_loop_rounds 1 ?_
    rw [rounds_succ]
    go_wp2_with fail
    go_ret
    exact ⟨_, rfl, hr, hb1⟩
  · obtain ⟨g, cap, rfl, hg, hc1, hc2⟩ := own_form hown h0
    unfold maxLen at hc2
    go_wp2_with fail
    go_loopw [15] (fun i wr => ∃ j : Nat, j ≤ l.length ∧ i = .int .i64 (j : Int) ∧ wr.ownsRow w.heap.size 27 3 (.slice (some ⟨g, 0, none⟩) l.length cap) l.length (cellsOf (eachTo (good (limitF lo hi)) l j)) ∧ Below w.heap.size w wr) (fun i _ => l.length - (intOf i).toNat)
    case atStart => exact ⟨0, by omega, rfl, by rw [eachTo_none]; exact hown, hb1⟩
    case round =>
      obtain ⟨j, hj, rfl, hown, hwr⟩ := hrel
      by_cases hlt : j < l.length
      · obtain ⟨c0, c1', c2'⟩ := own_cells hown (eachTo_length _ _ _) j hlt
        rw [eachTo_at _ _ _ hlt] at c0 c1' c2'
        have f1 := hown.frozenAt (j * 3 + 1)
        have f2 := hown.frozenAt (j * 3 + 2)
        have hgr : g < wr.heap.size := (hown.lt g rfl).2
        have hset := eachTo_set (good (limitF lo hi)) l j hlt
        have hsame := eachTo_same (good (limitF lo hi)) l j hlt
        have hat : (eachTo (good (limitF lo hi)) l j)[j]? = some l[j] := by rw [List.getElem?_eq_getElem (by rw [eachTo_length]; exact hlt), eachTo_at _ _ _ hlt]
        have hgood : good (limitF lo hi) l[j] = if l[j].q = 2 then l[j] else if min (max l[j].v lo) hi = l[j].v then l[j] else ⟨l[j].t, min (max l[j].v lo) hi, 1⟩ := rfl
        generalize l[j] = x at *
        have HSET := Lib.hid hset
        have HSAME := Lib.hid hsame
        have HG := Lib.hid hgood
        have HAT := Lib.hid hat
        clear hset hsame hgood hat
        obtain ⟨u, hu, hulo, huhi, hug⟩ : ∃ u, u = min (max x.v lo) hi ∧ (x.v < lo → u = lo) ∧ (hi < x.v → u = hi) ∧ (lo ≤ x.v → x.v ≤ hi → u = x.v) := ⟨_, rfl, by omega, by omega, by omega⟩
        by_cases hq : x.q = 2
        · have hq' : (x.q != 2) = false := by simpa using hq
          have HQ := Lib.hid hq
          have HU := Lib.hid (And.intro hulo (And.intro huhi hug))
          clear hq hu hulo huhi hug
          rcases Int.lt_or_le x.v lo with hv | hv
          · go_wp2_with fail
            go_roundw
            case rel =>
              refine ⟨j + 1, by omega, by go_num, ?_, hwr.alloc hwr.size _⟩
              rw [← HSAME.out (by rw [HG.out, if_pos HQ.out])]
              exact hown.alloc _
            case measure => simp [intOf]; omega
          · rcases Int.lt_or_le hi x.v with hv2 | hv2
            · go_wp2_with fail
              go_roundw
              case rel =>
                refine ⟨j + 1, by omega, by go_num, ?_, hwr.alloc hwr.size _⟩
                rw [← HSAME.out (by rw [HG.out, if_pos HQ.out])]
                exact hown.alloc _
              case measure => simp [intOf]; omega
            · go_wp2_with fail
              go_roundw
              case rel =>
                refine ⟨j + 1, by omega, by go_num, ?_, hwr.alloc hwr.size _⟩
                rw [← HSAME.out (by rw [HG.out, if_pos HQ.out])]
                exact hown.alloc _
              case measure => simp [intOf]; omega
        · have hq' : (x.q != 2) = true := by simpa using hq
          have HQ := Lib.hid hq
          have HU := Lib.hid hu
          clear hq hu
          rcases Int.lt_or_le x.v lo with hv | hv
          · obtain rfl := hulo hv
            have hne : (u != x.v) = true := by rw [bne_iff_ne]; omega
            clear hulo huhi hug
            go_wp2_with fail
            go_roundw
            case rel =>
              refine ⟨j + 1, by omega, by go_num, ?_, Below.alloc (Below.setCell (Below.setCell hwr hg _) hg _) (by simpa [World.setCell] using hwr.size) _⟩
              rw [← HSET.out, HG.out, if_neg HQ.out, ← HU.out, if_neg (by omega)]
              have h1 := own_putv hown j x HAT.out u
              have h2 := own_putq h1 j _ (set_at _ _ _ _ HAT.out) 1
              simp only [List.set_set] at h2
              exact h2.alloc _
            case measure => simp [intOf]; omega
          · rcases Int.lt_or_le hi x.v with hv2 | hv2
            · obtain rfl := huhi hv2
              have hne : (u != x.v) = true := by rw [bne_iff_ne]; omega
              clear hulo huhi hug
              go_wp2_with fail
              go_roundw
              case rel =>
                refine ⟨j + 1, by omega, by go_num, ?_, Below.alloc (Below.setCell (Below.setCell hwr hg _) hg _) (by simpa [World.setCell] using hwr.size) _⟩
                rw [← HSET.out, HG.out, if_neg HQ.out, ← HU.out, if_neg (by omega)]
                have h1 := own_putv hown j x HAT.out u
                have h2 := own_putq h1 j _ (set_at _ _ _ _ HAT.out) 1
                simp only [List.set_set] at h2
                exact h2.alloc _
              case measure => simp [intOf]; omega
            · have hux := hug hv hv2
              have HUX := Lib.hid hux
              clear hulo huhi hug hux
              go_wp2_with fail
              go_roundw
              case rel =>
                refine ⟨j + 1, by omega, by go_num, ?_, hwr.alloc hwr.size _⟩
                rw [← HSAME.out (by rw [HG.out, if_neg HQ.out, ← HU.out, if_pos HUX.out])]
                exact hown.alloc _
              case measure => simp [intOf]; omega
      · obtain rfl : j = l.length := by omega
        rw [eachTo_all] at hown
        go_wp2_with fail
        go_ret
        have hr : RdS wr 27 (.slice (some ⟨g, 0, none⟩) l.length cap) (l.map (good (limitF lo hi))) := by
          unfold RdS
          rw [List.length_map]
          exact Rd.of_own hown
        exact ⟨_, rfl, hr, hwr⟩
end Go.Proofs.Ytjkncmhmmafmjaa
