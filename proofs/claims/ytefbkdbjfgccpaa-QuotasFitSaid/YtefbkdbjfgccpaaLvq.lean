/- The contracts of Cost and Fit (package retain). -/
import Derived.Test.YtefbkdbjfgccpaaLvs
import Derived.Test.YtefbkdbjfgccpaaLvc
namespace Go.Proofs.Ytefbkdbjfgccpaa
open Go.RowKit
set_option linter.unusedVariables false
set_option linter.unusedSimpArgs false

/-- The error of Cost. -/
def costE (l : List (Int × Int)) (rate : Int) : Int := if lvsErr l ≠ 0 then lvsErr l else if inB rate 1 1000000 = true then 0 else 1
def costV (l : List (Int × Int)) (rate : Int) : Int := if costE l rate = 0 then lvSum rate l else 0
theorem costE_ok {l : List (Int × Int)} {rate : Int} (h : costE l rate = 0) : lvsErr l = 0 ∧ (1 ≤ rate ∧ rate ≤ 1000000) := by
  unfold costE at h
  split at h
  · rename_i h1; exact absurd h h1
  · rename_i h1
    split at h
    · rename_i h2; exact ⟨Classical.not_not.1 h1, inB_true.1 h2⟩
    · omega

set_option maxRecDepth 100000 in
set_option maxHeartbeats 1000000 in
theorem cost_any (rate : Int) (v : Value) (l : List (Int × Int)) (w : World) (hR : RdLvl w v l) (hsm : ∀ x ∈ l, -9000000000000000000 ≤ x.1 ∧ x.1 ≤ 9000000000000000000) :
    Calls Try.prog 7 #[v, .int .i64 rate] w fun e w' => e = .returned (.tuple #[.int .i64 (costV l rate), .int .i64 (costE l rate)]) ∧ Below w.heap.size w w' := by
  have hCL := checkLevels_any v l w hR hsm
  have hEd : costE l rate = if lvsErr l ≠ 0 then lvsErr l else if inB rate 1 1000000 = true then 0 else 1 := rfl
  have hVd : costV l rate = if costE l rate = 0 then lvSum rate l else 0 := rfl
  by_cases hE : lvsErr l = 0
  · have hgood := goodL hE
    have hne : l ≠ [] := fun h => by rw [h] at hE; simp [lvsErr] at hE
    have h0 : 0 < l.length := List.length_pos_iff.2 hne
    obtain ⟨b, off, c, rfl, hc1, hc2, hblt, hcell⟩ := RdLvl.cells hR h0
    unfold maxLen at hc2
    rw [hE] at hCL
    rw [if_neg (by rw [hE]; simp)] at hEd
    have HCL := Lib.hid hCL
    have HC := Lib.hid hcell
    have HG := Lib.hid hgood
    clear hCL hcell hgood hE hR hsm hne
    cases hi : inB rate 1 1000000 with
    | false =>
      have HEV := Lib.hid (show costV l rate = 0 ∧ costE l rate = 1 from by rw [hVd, hEd, hi]; simp)
      have HI := Lib.hid hi
      clear hEd hVd hi
      go_enter Try.func7, Try.ntmps7
      go_wp2_with fail
      refine HCL.out.mono ?_
      rintro e w1 ⟨rfl, hb1⟩
      go_wp2_with (go_at_call 19; refine (within_any _ _ _ _).mono ?_; rintro e w' ⟨rfl, rfl⟩; have hi' := HI.out)
      go_ret2
      exact ⟨by rw [HEV.out.1, HEV.out.2]; rfl, hb1⟩
    | true =>
      have hr := inB_true.1 hi
      have HEV := Lib.hid (show costV l rate = lvSum rate l ∧ costE l rate = 0 from by rw [hVd, hEd, hi]; simp)
      have HI := Lib.hid hi
      have h6 := HG.out.few
      have HL : Hid (∀ x ∈ l, LvOk x) := Lib.hid HG.out.ok
      clear hEd hVd hi
      go_enter Try.func7, Try.ntmps7
      go_wp2_with fail
      refine HCL.out.mono ?_
      rintro e w1 ⟨rfl, hb1⟩
      go_wp2_with (go_at_call 19; refine (within_any _ _ _ _).mono ?_; rintro e w' ⟨rfl, rfl⟩; have hi' := HI.out)
      go_loopw [7, 20] (fun s i wr => ∃ j : Nat, j ≤ l.length ∧ i = .int .i64 (j : Int) ∧ s = .int .i64 (lvSum rate (l.take j)) ∧ Below w.heap.size w wr) (fun _ i _ => l.length - (intOf i).toNat)
      case atStart => exact ⟨0, by omega, rfl, rfl, hb1⟩
      case round =>
        clear hb1
        obtain ⟨j, hj, rfl, rfl, hwr⟩ := hrel
        by_cases hlt : j < l.length
        · obtain ⟨c0, c1⟩ := HC.out j hlt
          rw [← hwr.cell (p := ⟨b, off + j * 2, none⟩) hblt] at c0
          rw [← hwr.cell (p := ⟨b, off + j * 2 + 1, none⟩) hblt] at c1
          have hx := HL.out _ (List.getElem_mem hlt)
          have hs1 := lvSum_takeB hr HL.out h6 (j + 1)
          have hs0 := lvSum_takeB hr HL.out h6 j
          have hst := lvSum_take (rate := rate) hlt
          generalize l[j] = x at *
          generalize lvSum rate (l.take j) = S at *
          obtain ⟨S1, hS1⟩ : ∃ S1, S1 = lvSum rate (l.take (j + 1)) := ⟨_, rfl⟩
          rw [← hS1] at hs1 hst
          have HS1 := Lib.hid hS1
          have hcb := cost_bounds hr hx
          generalize hC : lvCost rate x = C at *
          have hws : IntKind.i64.wrap (S + C) = S1 := by rw [← hst]; exact IntWalk.i64_in _ (by omega)
          have HQ := Lib.hid (fun W => costOf_any x rate hr hx W)
          rw [hC] at HQ
          have HST := Lib.hid hst
          clear hst hx hC hS1
          go_wp2_with fail
          refine (HQ.out _).mono ?_
          rintro e w2 ⟨rfl, hb2⟩
          have hw2 : Below w.heap.size w w2 := (hwr.alloc hwr.size _).trans (hb2.mono (by have := hwr.size; simp; omega))
          clear hb2 hwr
          go_wp2_with fail
          go_roundw
          case rel => exact ⟨j + 1, by omega, by go_num, by rw [HS1.out], hw2⟩
          case measure => simp [intOf]; omega
        · obtain rfl : j = l.length := by omega
          go_wp2_with fail
          go_ret2
          exact ⟨by rw [HEV.out.1, HEV.out.2, List.take_length]; rfl, hwr⟩
  · rw [if_pos hE] at hEd
    have HEV := Lib.hid (show costV l rate = 0 ∧ costE l rate = lvsErr l from by rw [hVd, hEd, if_neg hE]; simp)
    have hE' : (lvsErr l != 0) = true := by simpa using hE
    have HCL := Lib.hid hCL
    generalize lvsErr l = E at *
    obtain ⟨pa, ca, rfl⟩ := hR.lenv
    clear hCL hEd hVd hE hR hsm
    go_enter Try.func7, Try.ntmps7
    go_wp2_with fail
    refine HCL.out.mono ?_
    rintro e w1 ⟨rfl, hb1⟩
    go_wp2_with fail
    go_ret2
    exact ⟨by rw [HEV.out.1, HEV.out.2]; rfl, hb1⟩

/-- The error of Fit. -/
def fitE (l : List (Int × Int)) (rate quota : Int) : Int := if costE l rate ≠ 0 then costE l rate else if inB quota 1 1000000 = true then 0 else 1
/-- Do the levels fit? -/
def fitB (l : List (Int × Int)) (rate quota : Int) : Bool := decide (fitE l rate quota = 0) && decide (lvSum rate (fitTo rate quota l l.length) ≤ quota)
def fitR (l : List (Int × Int)) (rate quota : Int) : List (Int × Int) := if fitB l rate quota = true then fitTo rate quota l l.length else []

theorem own_baseL {w : World} {B B' : Nat} {e : TypeId} {size n : Nat} {v : Value} {xs : List Value} (h : w.ownsRow B e size v n xs) (hB : B' ≤ B) : w.ownsRow B' e size v n xs := by
  obtain ⟨h1, h2⟩ := h
  refine ⟨h1, ?_⟩
  rcases h2 with h2 | ⟨g, cap, cur, rfl, hb, hh, hn, hm, hs, hx⟩
  · exact .inl h2
  · exact .inr ⟨g, cap, cur, rfl, Nat.le_trans hB hb, hh, hn, hm, hs, hx⟩
theorem own_upL {w w' : World} {base : Nat} {e : TypeId} {size n : Nat} {v : Value} {xs : List Value} (h : w.ownsRow base e size v n xs) (hb : Below w.heap.size w w') : w'.ownsRow base e size v n xs :=
  own_keep h fun b _ _ hh => hb.block b (lt_of_heap hh)
theorem own_keepL {w : World} {base g c : Nat} {F : List (Int × Int)} (h : w.ownsRow base 31 2 (.slice (some ⟨g, 0, none⟩) F.length c) F.length (lvlCells F)) (j : Nat) (hj : j < F.length) (k : Int) :
    (w.setCell ⟨g, j * 2 + 1, none⟩ (.int .i64 k)).ownsRow base 31 2 (.slice (some ⟨g, 0, none⟩) F.length c) F.length (lvlCells (F.set j ((F.getD j (0, 0)).1, k))) := by
  have h1 := (h.stored (j * 2 + 1) (.int .i64 k)).1
  have h2 := lvlCells_set F j hj ((F.getD j (0, 0)).1, k)
  have h3 : (lvlCells F).set (j * 2) (.int .i64 (F.getD j (0, 0)).1) = lvlCells F := by
    obtain ⟨e0, _⟩ := lvlCells_get F j hj
    rw [getD_at hj]
    obtain ⟨hlt, he⟩ := List.getElem?_eq_some_iff.1 e0
    rw [← he]
    exact List.set_getElem_self hlt
  rw [h3] at h2
  rwa [h2] at h1

set_option maxRecDepth 100000 in
set_option maxHeartbeats 4000000 in
theorem fit_any (rate quota : Int) (v : Value) (l : List (Int × Int)) (w : World) (hR : RdLvl w v l) (hsm : ∀ x ∈ l, -9000000000000000000 ≤ x.1 ∧ x.1 ≤ 9000000000000000000) :
    Calls Try.prog 8 #[v, .int .i64 rate, .int .i64 quota] w fun e w' => ∃ v', e = .returned (.tuple #[v', .bool (fitB l rate quota), .int .i64 (fitE l rate quota)]) ∧ RdLvl w' v' (fitR l rate quota) ∧ Below w.heap.size w w' := by
  have hCO := cost_any rate v l w hR hsm
  have hEd : fitE l rate quota = if costE l rate ≠ 0 then costE l rate else if inB quota 1 1000000 = true then 0 else 1 := rfl
  have hBd : fitB l rate quota = (decide (fitE l rate quota = 0) && decide (lvSum rate (fitTo rate quota l l.length) ≤ quota)) := rfl
  have hRd : fitR l rate quota = if fitB l rate quota = true then fitTo rate quota l l.length else [] := rfl
  by_cases hE : costE l rate = 0
  · obtain ⟨hE1, hr⟩ := costE_ok hE
    have hgood := goodL hE1
    have hne : l ≠ [] := fun h => by rw [h] at hE1; simp [lvsErr] at hE1
    have h0 : 0 < l.length := List.length_pos_iff.2 hne
    have h6 := hgood.few
    have hVE : costV l rate = lvSum rate l := by unfold costV; rw [if_pos hE]
    rw [hVE, hE] at hCO
    have hCLN := fun (W : World) (hB : Below w.heap.size w W) => cloneL_any v l W (Rd.below hR hB) (by omega)
    obtain ⟨b, off, c, rfl, hc1, hc2, hblt, hcell⟩ := RdLvl.cells hR h0
    unfold maxLen at hc2
    rw [if_neg (by rw [hE]; simp)] at hEd
    have HCO := Lib.hid hCO
    have HCLN := Lib.hid hCLN
    have HC := Lib.hid hcell
    have HG := Lib.hid hgood
    clear hCO hCLN hcell hgood hE hE1 hVE hR hsm hne
    cases hi : inB quota 1 1000000 with
    | false =>
      have hE2 : fitE l rate quota = 1 := by rw [hEd, hi]; simp
      have hB2 : fitB l rate quota = false := by rw [hBd, hE2]; simp
      have HEV := Lib.hid (show fitB l rate quota = false ∧ fitE l rate quota = 1 ∧ fitR l rate quota = [] from ⟨hB2, hE2, by rw [hRd, hB2]; simp⟩)
      have HI := Lib.hid hi
      clear hEd hBd hRd hi hE2 hB2
      go_enter Try.func8, Try.ntmps8
      go_wp2_with fail
      refine HCO.out.mono ?_
      rintro e w1 ⟨rfl, hb1⟩
      go_wp2_with (go_at_call 19; refine (within_any _ _ _ _).mono ?_; rintro e w' ⟨rfl, rfl⟩; have hi' := HI.out)
      go_ret3
      exact ⟨_, by rw [HEV.out.1, HEV.out.2.1]; rfl, by rw [HEV.out.2.2]; exact Rd.nil _ _ _, hb1⟩
    | true =>
      have hq := inB_true.1 hi
      have hE2 : fitE l rate quota = 0 := by rw [hEd, hi]; simp
      have hB2 : fitB l rate quota = decide (lvSum rate (fitTo rate quota l l.length) ≤ quota) := by rw [hBd, hE2]; simp
      have HE2 := Lib.hid hE2
      have HB2 := Lib.hid hB2
      have HR2 := Lib.hid hRd
      have HI := Lib.hid hi
      clear hEd hBd hRd hi hE2 hB2
      go_enter Try.func8, Try.ntmps8
      go_wp2_with fail
      refine HCO.out.mono ?_
      rintro e w1 ⟨rfl, hb1⟩
      go_wp2_with (go_at_call 19; refine (within_any _ _ _ _).mono ?_; rintro e w' ⟨rfl, rfl⟩; have hi' := HI.out)
      refine (HCLN.out w1 hb1).mono ?_
      rintro e w2 ⟨vf, rfl, hof, hb2⟩
      obtain ⟨g1, cap1, rfl, hg1, hd1, hd2⟩ := own_form hof (by omega)
      unfold maxLen at hd2
      have hw2 : Below w.heap.size w w2 := hb1.trans (hb2.mono hb1.size)
      have hof2 : w2.ownsRow w.heap.size 31 2 (.slice (some ⟨g1, 0, none⟩) l.length cap1) l.length (lvlCells l) := own_baseL hof hb1.size
      have hgw : w.heap.size ≤ g1 := Nat.le_trans hb1.size hg1
      clear hb1 hb2 hof
      go_wp2_with fail
      go_loopw [9, 12, 32] (fun t a i wr => ∃ j : Nat, j ≤ l.length ∧ i = .int .i64 (j : Int) ∧ t = .int .i64 (lvSum rate (fitTo rate quota l j)) ∧ a = .int .i64 (lst (fitTo rate quota l j) j) ∧ wr.ownsRow w.heap.size 31 2 (.slice (some ⟨g1, 0, none⟩) l.length cap1) l.length (lvlCells (fitTo rate quota l j)) ∧ Below w.heap.size w wr) (fun _ _ i _ => l.length - (intOf i).toNat)
      case atStart => exact ⟨0, by omega, rfl, rfl, rfl, hof2, hw2⟩
      case round =>
        clear hof2 hw2
        obtain ⟨j, hj, rfl, rfl, rfl, hown, hwr⟩ := hrel
        have hF := fitI_to (quota := quota) hr HG.out j hj
        have hTB := lvSum_bounds hr _ hF.ok
        have hFl := hF.len
        rw [hFl] at hTB
        by_cases hlt : j < l.length
        · obtain ⟨c0, c1⟩ := HC.out j hlt
          rw [← hwr.cell (p := ⟨b, off + j * 2, none⟩) hblt] at c0
          rw [← hwr.cell (p := ⟨b, off + j * 2 + 1, none⟩) hblt] at c1
          by_cases hle : lvSum rate (fitTo rate quota l j) ≤ quota
          · have hfin : fitTo rate quota l l.length = fitTo rate quota l j := by
              have := fit_stop hle (l.length - j)
              rwa [show j + (l.length - j) = l.length from by omega] at this
            have hfb : fitB l rate quota = true := by rw [HB2.out, hfin]; simpa using hle
            have HEND := Lib.hid (show fitB l rate quota = true ∧ fitR l rate quota = fitTo rate quota l j from ⟨hfb, by rw [HR2.out, if_pos hfb, hfin]⟩)
            generalize fitTo rate quota l j = F at *
            generalize lvSum rate F = T at *
            generalize lst F j = A at *
            generalize l[j] = x at *
            have HOWN := Lib.hid hown
            clear hown hfin hfb hF
            go_wp2_with fail
            go_ret3
            exact ⟨_, by rw [HEND.out.1, HE2.out]; rfl, by rw [HEND.out.2]; unfold RdLvl; rw [hFl]; exact (Rd.of_own HOWN.out).alloc _, hwr.alloc hwr.size _⟩
          · have hst := lst_le HG.out hF hlt
            have hok := hF.ok _ (mem_getD (by rw [hFl]; exact hlt))
            have hsame := hF.same j (Nat.le_refl _)
            have hcs := cost_sum hr _ j (by rw [hFl]; exact hlt) hF.ok
            have hcb := cost_bounds hr hok
            have hK := fitK_le hr HG.out hF hlt hle
            have hF2 := fitI_step (quota := quota) hr HG.out hF hlt
            have hTB2 := lvSum_bounds hr _ hF2.ok
            have hset := lvSum_set rate ((fitTo rate quota l j).getD j (0, 0) |>.1, fitK rate quota (fitTo rate quota l j) j) (fitTo rate quota l j) j (by rw [hFl]; exact hlt)
            have hstep : fitTo rate quota l (j + 1) = (fitTo rate quota l j).set j (((fitTo rate quota l j).getD j (0, 0)).1, fitK rate quota (fitTo rate quota l j) j) := by
              show fitS rate quota (fitTo rate quota l j) j = _
              unfold fitS; rw [if_neg hle]
            have hKd : fitK rate quota (fitTo rate quota l j) j = max (lst (fitTo rate quota l j) j) (lng rate ((fitTo rate quota l j).getD j (0, 0)).1 (max (quota - (lvSum rate (fitTo rate quota l j) - lvCost rate ((fitTo rate quota l j).getD j (0, 0)))) 0)) := rfl
            have hnl : lst (fitTo rate quota l (j + 1)) (j + 1) = fitK rate quota (fitTo rate quota l j) j + 1 := by
              unfold lst
              rw [if_neg (by omega), hstep]
              simp [List.getD_eq_getElem?_getD, hFl, hlt]
            have hl2 : (fitS rate quota (fitTo rate quota l j) j) = fitTo rate quota l (j + 1) := rfl
            have hF2l : (fitTo rate quota l (j + 1)).length = l.length := hF2.len
            rw [hl2, hF2l] at hTB2
            rw [← hstep] at hset
            rw [show l.getD j (0, 0) = l[j] from getD_at hlt] at hsame
            have hput := fun (W : World) (h : W.ownsRow w.heap.size 31 2 (.slice (some ⟨g1, 0, none⟩) l.length cap1) l.length (lvlCells (fitTo rate quota l j))) => (show (W.setCell ⟨g1, j * 2 + 1, none⟩ (.int .i64 (fitK rate quota (fitTo rate quota l j) j))).ownsRow w.heap.size 31 2 (.slice (some ⟨g1, 0, none⟩) l.length cap1) l.length (lvlCells (fitTo rate quota l (j + 1))) from by
              rw [hstep, ← hFl]
              exact own_keepL (by rw [hFl]; exact h) j (by rw [hFl]; exact hlt) _)
            have hcw := fun (W : World) (h : W.ownsRow w.heap.size 31 2 (.slice (some ⟨g1, 0, none⟩) l.length cap1) l.length (lvlCells (fitTo rate quota l j))) => own_lvl h hFl j hlt
            rw [show (fitTo rate quota l j)[j]'(by rw [hFl]; exact hlt) = (fitTo rate quota l j).getD j (0, 0) from (getD_at _).symm] at hcw
            have hokK : LvOk (((fitTo rate quota l j).getD j (0, 0)).1, fitK rate quota (fitTo rate quota l j) j) := ⟨hok.1, by simp only; omega, by have := hok.2.2; simp only; omega⟩
            obtain ⟨K, hKe⟩ : ∃ K, K = fitK rate quota (fitTo rate quota l j) j := ⟨_, rfl⟩
            obtain ⟨T2, hT2⟩ : ∃ T2, T2 = lvSum rate (fitTo rate quota l (j + 1)) := ⟨_, rfl⟩
            rw [← hKe] at hset hKd hnl hput hK hokK
            rw [← hT2] at hTB2 hset
            rw [← hsame] at c0 c1
            have hget2 : (fitTo rate quota l (j + 1)).getD j (0, 0) = (((fitTo rate quota l j).getD j (0, 0)).1, K) := by
              rw [hstep, ← hKe]; simp [List.getD_eq_getElem?_getD, hFl, hlt]
            have hPW0 := fun (W : World) (h : W.ownsRow w.heap.size 31 2 (.slice (some ⟨g1, 0, none⟩) l.length cap1) l.length (lvlCells (fitTo rate quota l (j + 1)))) => own_lvl h hF2l j hlt
            rw [show (fitTo rate quota l (j + 1))[j]'(by rw [hF2l]; exact hlt) = (fitTo rate quota l (j + 1)).getD j (0, 0) from (getD_at _).symm, hget2] at hPW0
            have HPW := Lib.hid hPW0
            clear hPW0 hget2
            have HPUT := Lib.hid hput
            have HCW := Lib.hid hcw
            have HNL := Lib.hid hnl
            have HT2 := Lib.hid hT2
            clear hput hcw hnl hT2 hstep hKe hl2 hF2l hF2 hF hsame
            have HOWN := Lib.hid hown
            clear hown
            generalize fitTo rate quota l j = F at *
            generalize F.getD j (0, 0) = x at *
            generalize lvSum rate F = T at *
            generalize lst F j = A at *
            obtain ⟨s, k⟩ := x
            simp only at c0 c1 hst hok hK hKd hset hokK
            have HQ1 := Lib.hid (fun W => costOf_any (s, k) rate hr hok W)
            have HQ2 := Lib.hid (fun W => costOf_any (s, K) rate hr hokK W)
            have hcb2 := cost_bounds hr hokK
            generalize lvCost rate (s, k) = C at *
            generalize lvCost rate (s, K) = C2 at *
            have hs := hok.1
            simp only at hs
            obtain ⟨O, hO⟩ : ∃ O, O = T - C := ⟨_, rfl⟩
            have hwO : IntKind.i64.wrap (T - C) = O := by rw [hO]; exact IntWalk.i64_in _ (by omega)
            obtain ⟨R, hR⟩ : ∃ R, R = quota - O := ⟨_, rfl⟩
            have hwR : IntKind.i64.wrap (quota - O) = R := by rw [hR]; exact IntWalk.i64_in _ (by omega)
            have hwT : IntKind.i64.wrap (O + C2) = T2 := by rw [show O + C2 = T2 from by omega]; exact IntWalk.i64_in _ (by omega)
            have hwK : IntKind.i64.wrap (K + 1) = K + 1 := IntWalk.i64_in _ (by have := hokK.2; simp only at this; omega)
            rw [← hO, ← hR] at hK hKd
            have hRq : R ≤ 1000000 := by omega
            have hKb : 1 ≤ K ∧ K ≤ 345686400000 := by have := hokK.2; simpa using this
            have hAb : 1 ≤ A ∧ A ≤ 345686400000 := by have := hok.2.2; simp only at this; omega
            have i1 : (0 : Int) ≤ (j : Int) := by omega
            have i2 : (j : Int) < (l.length : Int) := by omega
            have hTq : quota < T := by omega
            have HOR := Lib.hid (show O = T - C ∧ R = quota - O from ⟨hO, hR⟩)
            clear hset hcs hTB hTB2 hle hst hO hR
            by_cases hRa : 0 ≤ R
            · have hlgb := lng_bounds (rate := rate) (s := s) (q := R) hr hs (by omega)
              have HLG := Lib.hid (fun W => longest_any s rate R hr hs (by omega) W)
              rw [show max R 0 = R from by omega] at hKd hK
              generalize lng rate s R = G at *
              by_cases hG : G ≤ A
              · obtain rfl : K = A := by omega
                clear hKd hK
                go_wp2_with fail
                refine (HQ1.out _).mono ?_
                rintro e w3 ⟨rfl, hb3⟩
                have hwr3 : Below w.heap.size w w3 := (hwr.alloc hwr.size _).trans (hb3.mono (by have := hwr.size; simp; omega))
                have hB3 : Blk w3 wr.heap.size 31 #[.int .i64 s, .int .i64 k] := (Blk.new wr 31 #[.int .i64 s, .int .i64 k]).below hb3 (by simp)
                have how3 := own_upL (HOWN.out.alloc (.cells #[.int .i64 s, .int .i64 k] 31)) hb3
                obtain ⟨d0, d1⟩ := HCW.out w3 how3
                have f1 := how3.frozenAt (j * 2 + 1)
                have b0 : w3.cell? ⟨wr.heap.size, 0, none⟩ = some (.int .i64 s) := hB3.cell 0
                have hp3 := HPUT.out w3 how3
                obtain ⟨p0, p1⟩ := HPW.out _ hp3
                have hwr4 := hwr3.setCell (p := ⟨g1, j * 2 + 1, none⟩) hgw (.int .i64 K)
                have HP3 := Lib.hid hp3
                clear hb3 hwr hB3 how3 hp3
                go_wp2_with (go_at_call 22; refine (HLG.out _).mono ?_; rintro e w' ⟨rfl, rfl⟩)
                clear p0 p1 d0 d1 f1 b0
                generalize w3.setCell ⟨g1, j * 2 + 1, none⟩ (.int .i64 K) = w4 at *
                refine (HQ2.out _).mono ?_
                rintro e w5 ⟨rfl, hb5⟩
                have how5 := own_upL HP3.out hb5
                have hwr5 := hwr4.trans (hb5.mono hwr4.size)
                obtain ⟨p0, p1⟩ := HPW.out _ how5
                clear hb5 hwr4 HP3
                have HOW5 := Lib.hid how5
                clear how5
                go_wp2_with fail
                go_roundw
                case rel => exact ⟨j + 1, by omega, by go_num, by rw [HT2.out], by rw [HNL.out], HOW5.out, hwr5⟩
                case measure => simp [intOf]; omega
              · obtain rfl : K = G := by omega
                clear hKd hK
                go_wp2_with fail
                refine (HQ1.out _).mono ?_
                rintro e w3 ⟨rfl, hb3⟩
                have hwr3 : Below w.heap.size w w3 := (hwr.alloc hwr.size _).trans (hb3.mono (by have := hwr.size; simp; omega))
                have hB3 : Blk w3 wr.heap.size 31 #[.int .i64 s, .int .i64 k] := (Blk.new wr 31 #[.int .i64 s, .int .i64 k]).below hb3 (by simp)
                have how3 := own_upL (HOWN.out.alloc (.cells #[.int .i64 s, .int .i64 k] 31)) hb3
                obtain ⟨d0, d1⟩ := HCW.out w3 how3
                have f1 := how3.frozenAt (j * 2 + 1)
                have b0 : w3.cell? ⟨wr.heap.size, 0, none⟩ = some (.int .i64 s) := hB3.cell 0
                have hp3 := HPUT.out w3 how3
                obtain ⟨p0, p1⟩ := HPW.out _ hp3
                have hwr4 := hwr3.setCell (p := ⟨g1, j * 2 + 1, none⟩) hgw (.int .i64 K)
                have HP3 := Lib.hid hp3
                clear hb3 hwr hB3 how3 hp3
                go_wp2_with (go_at_call 22; refine (HLG.out _).mono ?_; rintro e w' ⟨rfl, rfl⟩)
                clear p0 p1 d0 d1 f1 b0
                generalize w3.setCell ⟨g1, j * 2 + 1, none⟩ (.int .i64 K) = w4 at *
                refine (HQ2.out _).mono ?_
                rintro e w5 ⟨rfl, hb5⟩
                have how5 := own_upL HP3.out hb5
                have hwr5 := hwr4.trans (hb5.mono hwr4.size)
                obtain ⟨p0, p1⟩ := HPW.out _ how5
                clear hb5 hwr4 HP3
                have HOW5 := Lib.hid how5
                clear how5
                go_wp2_with fail
                go_roundw
                case rel => exact ⟨j + 1, by omega, by go_num, by rw [HT2.out], by rw [HNL.out], HOW5.out, hwr5⟩
                case measure => simp [intOf]; omega
            · have hlgb := lng_bounds (rate := rate) (s := s) (q := 0) hr hs (by omega)
              have HLG := Lib.hid (fun W => longest_any s rate 0 hr hs (by omega) W)
              rw [show max R 0 = 0 from by omega] at hKd hK
              generalize lng rate s 0 = G at *
              by_cases hG : G ≤ A
              · obtain rfl : K = A := by omega
                clear hKd hK
                go_wp2_with fail
                refine (HQ1.out _).mono ?_
                rintro e w3 ⟨rfl, hb3⟩
                have hwr3 : Below w.heap.size w w3 := (hwr.alloc hwr.size _).trans (hb3.mono (by have := hwr.size; simp; omega))
                have hB3 : Blk w3 wr.heap.size 31 #[.int .i64 s, .int .i64 k] := (Blk.new wr 31 #[.int .i64 s, .int .i64 k]).below hb3 (by simp)
                have how3 := own_upL (HOWN.out.alloc (.cells #[.int .i64 s, .int .i64 k] 31)) hb3
                obtain ⟨d0, d1⟩ := HCW.out w3 how3
                have f1 := how3.frozenAt (j * 2 + 1)
                have b0 : w3.cell? ⟨wr.heap.size, 0, none⟩ = some (.int .i64 s) := hB3.cell 0
                have hp3 := HPUT.out w3 how3
                obtain ⟨p0, p1⟩ := HPW.out _ hp3
                have hwr4 := hwr3.setCell (p := ⟨g1, j * 2 + 1, none⟩) hgw (.int .i64 K)
                have HP3 := Lib.hid hp3
                clear hb3 hwr hB3 how3 hp3
                go_wp2_with (go_at_call 22; refine (HLG.out _).mono ?_; rintro e w' ⟨rfl, rfl⟩)
                clear p0 p1 d0 d1 f1 b0
                generalize w3.setCell ⟨g1, j * 2 + 1, none⟩ (.int .i64 K) = w4 at *
                refine (HQ2.out _).mono ?_
                rintro e w5 ⟨rfl, hb5⟩
                have how5 := own_upL HP3.out hb5
                have hwr5 := hwr4.trans (hb5.mono hwr4.size)
                obtain ⟨p0, p1⟩ := HPW.out _ how5
                clear hb5 hwr4 HP3
                have HOW5 := Lib.hid how5
                clear how5
                go_wp2_with fail
                go_roundw
                case rel => exact ⟨j + 1, by omega, by go_num, by rw [HT2.out], by rw [HNL.out], HOW5.out, hwr5⟩
                case measure => simp [intOf]; omega
              · obtain rfl : K = G := by omega
                clear hKd hK
                go_wp2_with fail
                refine (HQ1.out _).mono ?_
                rintro e w3 ⟨rfl, hb3⟩
                have hwr3 : Below w.heap.size w w3 := (hwr.alloc hwr.size _).trans (hb3.mono (by have := hwr.size; simp; omega))
                have hB3 : Blk w3 wr.heap.size 31 #[.int .i64 s, .int .i64 k] := (Blk.new wr 31 #[.int .i64 s, .int .i64 k]).below hb3 (by simp)
                have how3 := own_upL (HOWN.out.alloc (.cells #[.int .i64 s, .int .i64 k] 31)) hb3
                obtain ⟨d0, d1⟩ := HCW.out w3 how3
                have f1 := how3.frozenAt (j * 2 + 1)
                have b0 : w3.cell? ⟨wr.heap.size, 0, none⟩ = some (.int .i64 s) := hB3.cell 0
                have hp3 := HPUT.out w3 how3
                obtain ⟨p0, p1⟩ := HPW.out _ hp3
                have hwr4 := hwr3.setCell (p := ⟨g1, j * 2 + 1, none⟩) hgw (.int .i64 K)
                have HP3 := Lib.hid hp3
                clear hb3 hwr hB3 how3 hp3
                go_wp2_with (go_at_call 22; refine (HLG.out _).mono ?_; rintro e w' ⟨rfl, rfl⟩)
                clear p0 p1 d0 d1 f1 b0
                generalize w3.setCell ⟨g1, j * 2 + 1, none⟩ (.int .i64 K) = w4 at *
                refine (HQ2.out _).mono ?_
                rintro e w5 ⟨rfl, hb5⟩
                have how5 := own_upL HP3.out hb5
                have hwr5 := hwr4.trans (hb5.mono hwr4.size)
                obtain ⟨p0, p1⟩ := HPW.out _ how5
                clear hb5 hwr4 HP3
                have HOW5 := Lib.hid how5
                clear how5
                go_wp2_with fail
                go_roundw
                case rel => exact ⟨j + 1, by omega, by go_num, by rw [HT2.out], by rw [HNL.out], HOW5.out, hwr5⟩
                case measure => simp [intOf]; omega
        · obtain rfl : j = l.length := by omega
          by_cases hle : lvSum rate (fitTo rate quota l l.length) ≤ quota
          · have hfb : fitB l rate quota = true := by rw [HB2.out]; simpa using hle
            have HEND := Lib.hid (show fitB l rate quota = true ∧ fitR l rate quota = fitTo rate quota l l.length from ⟨hfb, by rw [HR2.out, if_pos hfb]⟩)
            generalize fitTo rate quota l l.length = F at *
            generalize lvSum rate F = T at *
            generalize lst F l.length = A at *
            have HOWN := Lib.hid hown
            clear hown hfb hF
            go_wp2_with fail
            go_ret3
            exact ⟨_, by rw [HEND.out.1, HE2.out]; rfl, by rw [HEND.out.2]; unfold RdLvl; rw [hFl]; exact Rd.of_own HOWN.out, hwr⟩
          · have hfb : fitB l rate quota = false := by rw [HB2.out]; simpa using hle
            have HEND := Lib.hid (show fitB l rate quota = false ∧ fitR l rate quota = [] from ⟨hfb, by rw [HR2.out, hfb]; simp⟩)
            generalize fitTo rate quota l l.length = F at *
            generalize lvSum rate F = T at *
            generalize lst F l.length = A at *
            clear hfb hF hown
            go_wp2_with fail
            go_ret3
            exact ⟨_, by rw [HEND.out.1, HE2.out]; rfl, by rw [HEND.out.2]; exact Rd.nil _ _ _, hwr⟩
  · rw [if_pos hE] at hEd
    have hE2 : fitE l rate quota = costE l rate := hEd
    have hB2 : fitB l rate quota = false := by rw [hBd, hE2]; simp [hE]
    have HEV := Lib.hid (show fitB l rate quota = false ∧ fitE l rate quota = costE l rate ∧ fitR l rate quota = [] from ⟨hB2, hE2, by rw [hRd, hB2]; simp⟩)
    have hE' : (costE l rate != 0) = true := by simpa using hE
    have HCO := Lib.hid hCO
    generalize costE l rate = E at *
    generalize costV l rate = V at *
    obtain ⟨pa, ca, rfl⟩ := hR.lenv
    clear hCO hEd hBd hRd hE hR hsm hE2 hB2
    go_enter Try.func8, Try.ntmps8
    go_wp2_with fail
    refine HCO.out.mono ?_
    rintro e w1 ⟨rfl, hb1⟩
    go_wp2_with fail
    go_ret3
    exact ⟨_, by rw [HEV.out.1, HEV.out.2.1]; rfl, by rw [HEV.out.2.2]; exact Rd.nil _ _ _, hb1⟩
end Go.Proofs.Ytefbkdbjfgccpaa
