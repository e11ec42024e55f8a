/- The contract of slices.CompactFunc at samples, by moment: on a row of the call's own. -/
import Derived.Test.YtjkncmhmmafmjaaDele
import Derived.Test.YtjkncmhmmafmjaaCpt
import Derived.Deep.RegionWith
namespace Go.Proofs.Ytjkncmhmmafmjaa
open Go.RowKit
set_option linter.unusedVariables false
set_option linter.unusedSimpArgs false

set_option maxRecDepth 100000 in
set_option maxHeartbeats 1000000 in
theorem mergedOf2_any (x y : Smp) (w : World) : Calls Try.prog 57 #[x.agg, y.agg] w fun e w' => e = .returned (.bool (decide (x.t = y.t))) ∧ Below w.heap.size w w' := by
  unfold Smp.agg
  go_enter Try.func57, Try.ntmps57
  go_wp2_with fail
  go_ret
  exact ⟨ret_bool (by rw [Bool.eq_iff_iff]; simp), ((Below.refl _ w).alloc (Nat.le_refl _) _).alloc (by simp) _⟩
theorem enter_mergedOf2 (args : Array Value) (w : World) : (callFunc 57 args).run Try.prog w = .ok (.enter 57 args) w := by kernel_rfl

theorem cpt_snoc (p : Option Int) (l : List Smp) (x : Smp) : cpt p (l ++ [x]) = if (l.getLast?.map Smp.t).or p = some x.t then cpt p l else cpt p l ++ [x] := by
  induction l generalizing p with
  | nil =>
    rw [List.nil_append]
    by_cases hp : p = some x.t <;> simp [cpt, hp]
  | cons y r ih =>
    rw [List.cons_append]
    have e : ((y :: r).getLast?.map Smp.t).or p = (r.getLast?.map Smp.t).or (some y.t) := by
      cases r with
      | nil => simp
      | cons z r => simp [List.getLast?_cons]
    rw [e]
    unfold cpt
    by_cases hp : p = some y.t
    · rw [if_pos hp, if_pos hp, ih p, hp]
    · rw [if_neg hp, if_neg hp, ih (some y.t)]
      split <;> simp
theorem cpt_step (l : List Smp) (j : Nat) (h1 : 1 ≤ j) (h : j < l.length) : cpt none (l.take (j + 1)) = if (atS l j).t = (atS l (j - 1)).t then cpt none (l.take j) else cpt none (l.take j) ++ [atS l j] := by
  rw [List.take_succ_eq_append_getElem h, cpt_snoc, atS_eq l j h]
  have e : (l.take j).getLast? = some (atS l (j - 1)) := by
    rw [List.getLast?_eq_getElem?, List.length_take, Nat.min_eq_left (by omega), List.getElem?_take_of_lt (by omega), List.getElem?_eq_getElem (by omega), atS_eq l (j - 1) (by omega)]
  rw [e]
  simp only [Option.map_some, Option.some_or, Option.some.injEq]
  by_cases hc : (atS l (j - 1)).t = (atS l j).t
  · rw [if_pos hc, if_pos hc.symm]
  · rw [if_neg hc, if_neg (fun h => hc h.symm)]
theorem cpt_one (l : List Smp) (h : l.length < 2) : cpt none l = l := by
  cases l with
  | nil => rfl
  | cons x r =>
    obtain rfl : r = [] := List.eq_nil_of_length_eq_zero (by simp at h; omega)
    simp [cpt]

/-- What the row holds in the inner loop: the kept ones of the first j, then anything, then the rest from j - 1 on. -/
def Tidy (l row : List Smp) (k j : Nat) : Prop :=
  row.length = l.length ∧ k < j ∧ j ≤ l.length ∧ row.take k = cpt none (l.take j) ∧ row.drop (j - 1) = l.drop (j - 1)
theorem tidy_at {l row : List Smp} {k j i : Nat} (h : Tidy l row k j) (hj : j - 1 ≤ i) (hi : i < l.length) : row[i]? = some (atS l i) := by
  have e := congrArg (fun x => x[i - (j - 1)]?) h.2.2.2.2
  simp only [List.getElem?_drop] at e
  rw [show j - 1 + (i - (j - 1)) = i from by omega] at e
  rw [e, List.getElem?_eq_getElem hi, atS_eq l i hi]
theorem tidy_start {l : List Smp} {k : Nat} (h1 : 1 ≤ k) (h : k < l.length) (hc : cpt none (l.take k) = l.take k) (he : (atS l k).t = (atS l (k - 1)).t) : Tidy l l k (k + 1) :=
  ⟨rfl, by omega, by omega, by rw [cpt_step l k h1 h, if_pos he, hc], rfl⟩
theorem tidy_skip {l row : List Smp} {k j : Nat} (h : Tidy l row k j) (hj : j < l.length) (he : (atS l j).t = (atS l (j - 1)).t) : Tidy l row k (j + 1) := by
  obtain ⟨h1, h2, h3, h4, h5⟩ := h
  refine ⟨h1, by omega, by omega, by rw [cpt_step l j (by omega) hj, if_pos he, h4], ?_⟩
  have := congrArg (List.drop 1) h5
  rw [List.drop_drop, List.drop_drop] at this
  rw [show j + 1 - 1 = j - 1 + 1 from by omega]
  exact this
theorem tidy_put {l row : List Smp} {k j : Nat} (h : Tidy l row k j) (hj : j < l.length) (he : (atS l j).t ≠ (atS l (j - 1)).t) : Tidy l (row.set k (atS l j)) (k + 1) (j + 1) := by
  obtain ⟨h1, h2, h3, h4, h5⟩ := h
  refine ⟨by simpa using h1, by omega, by omega, ?_, ?_⟩
  · rw [cpt_step l j (by omega) hj, if_neg he, ← h4, List.take_succ_eq_append_getElem (by simp; omega)]
    simp [List.take_set_of_le]
  · rw [show j + 1 - 1 = j from by omega, List.drop_set_of_lt (by omega)]
    have := congrArg (List.drop 1) h5
    rw [List.drop_drop, List.drop_drop, show j - 1 + 1 = j from by omega] at this
    exact this

set_option maxRecDepth 100000 in
set_option maxHeartbeats 4000000 in
theorem compactFunc_any (v : Value) (l : List Smp) (w : World) (base : Nat) (hown : w.ownsRow base 27 3 v l.length (cellsOf l)) (hbase : base ≤ w.heap.size) (hlong : l.length ≤ 10000) :
    Calls Try.prog 56 #[v, .func (.func 57) #[] #[]] w fun e w' => ∃ v', e = .returned v' ∧ RdS w' 27 v' (cpt none l) ∧ Below base w w' := by
  have hcf := enter_mergedOf2
  have hR : RdS w 27 v l := Rd.of_own hown
  by_cases h2 : l.length < 2
  · obtain ⟨pa, ca, rfl⟩ : ∃ pa ca, v = .slice pa l.length ca := by obtain ⟨_, pa, ca, rfl, _⟩ := hR; exact ⟨pa, ca, rfl⟩
    have hc1 := cpt_one l h2
    have HC := Lib.hid hc1
    have HR := Lib.hid hR
    clear hc1 hR hown
    go_enter Try.func56, Try.ntmps56
    go_wp2_with fail
    go_ret
    exact ⟨_, rfl, by rw [HC.out]; exact HR.out, Below.refl _ _⟩
  · obtain ⟨g, cap, rfl, hg, hc1, hc2⟩ := own_form hown (by omega)
    have hc2' := hc2
    have h2' : ¬ ((l.length : Int) < 2) := by omega
    have h2b : decide ((l.length : Int) < 2) = false := by simpa using h2'
    unfold maxLen at hc2
    clear hR
    go_enter Try.func56, Try.ntmps56
    go_wp2_with fail
    go_loopw [5] (fun sk wr => ∃ k : Nat, 1 ≤ k ∧ k ≤ l.length ∧ sk = .int .i64 (k : Int) ∧ cpt none (l.take k) = l.take k ∧ wr.ownsRow base 27 3 (.slice (some ⟨g, 0, none⟩) l.length cap) l.length (cellsOf l) ∧ Below base w wr) (fun sk _ => l.length - (intOf sk).toNat)
    case atStart => exact ⟨1, by omega, by omega, rfl, cpt_one _ (by simp; omega), hown, Below.refl _ _⟩
    case round =>
      clear hown
      obtain ⟨k, hk1, hk, rfl, hcp, hown, hbr⟩ := hrel
      by_cases hlt : k < l.length
      · obtain ⟨c0, c1, c2⟩ := own_cells hown rfl k hlt
        obtain ⟨d0, d1, d2⟩ := own_cells hown rfl (k - 1) (by omega)
        have hst := fun he => tidy_start hk1 hlt hcp he
        have hsn := cpt_step l k hk1 hlt
        have htk : l.take (k + 1) = l.take k ++ [atS l k] := by rw [List.take_succ_eq_append_getElem hlt, atS_eq l k hlt]
        rw [atS_eq l k hlt] at c0 c1 c2
        rw [atS_eq l (k - 1) (by omega)] at d0 d1 d2
        generalize hx : atS l k = x at *
        generalize hy : atS l (k - 1) = y at *
        have hgr : g < wr.heap.size := (hown.lt g rfl).2
        have HST := Lib.hid hst
        have HSN := Lib.hid hsn
        have HTK := Lib.hid htk
        have HCP := Lib.hid hcp
        have HX := Lib.hid hx
        have HY := Lib.hid hy
        have HOWN := Lib.hid hown
        have k0 : (1 : Int) ≤ (k : Int) := by omega
        have k1 : (0 : Int) ≤ (k : Int) - 1 := by omega
        have k2 : (k : Int) - 1 < (l.length : Int) := by omega
        have k3 : ((k : Int) - 1).toNat = k - 1 := by omega
        have k4 : IntKind.i64.wrap ((k : Int) - 1) = (k : Int) - 1 := IntWalk.i64_in _ (by omega)
        clear hst hsn htk hcp hx hy hown
        go_wp2_with fail
        go_region_with (first
          | (refine (mergedOf2_any x y _).mono ?_; rintro e w2 ⟨rfl, hb2⟩; have hb2' : Below wr.heap.size wr w2 := ⟨hb2.os, hb2.tape, hb2.output, hb2.size, hb2.block⟩; clear hb2))
        all_goals
          have hown2 := own_below HOWN.out hb2'
          have hbr2 : Below base w w2 := hbr.trans (hb2'.mono (by have := hbr.size; omega))
          clear hb2' c0 c1 c2 d0 d1 d2
          by_cases he : x.t = y.t
          · have he' : decide (x.t = y.t) = true := by simpa using he
            have hti := HST.out he
            have HTI := Lib.hid hti
            rw [he']
            have hcap : ¬ cap = k := by omega
            clear he he' hti
            go_wp2_with fail
            go_loopw [5, 7] (fun sk sj wq => ∃ (i j : Nat) (row : List Smp), 1 ≤ j ∧ k + j ≤ l.length ∧ sk = .int .i64 (i : Int) ∧ sj = .int .i64 (j : Int) ∧ Tidy l row i (k + j) ∧ wq.ownsRow base 27 3 (.slice (some ⟨g, 0, none⟩) l.length cap) l.length (cellsOf row) ∧ Below base w wq) (fun _ sj _ => l.length - (intOf sj).toNat)
            case atStart => exact ⟨k, 1, l, by omega, by omega, rfl, rfl, HTI.out, hown2, hbr2⟩
            case round =>
              clear hown2 hbr2 k0 k1 k2 k3 k4 HSN HTK HCP HX HY HST HTI
              obtain ⟨i, j, row, hj1, hjl, rfl, rfl, hT, hown, hbq⟩ := hrel
              have hrl : row.length = l.length := hT.1
              have hij : i < k + j := hT.2.1
              have HT := Lib.hid hT
              clear hT
              by_cases hlt2 : k + j < l.length
              · have at1 := tidy_at HT.out (by omega : k + j - 1 ≤ k + j) hlt2
                have at2 := tidy_at HT.out (Nat.le_refl _) (by omega)
                have e1 : row[k + j]'(by omega) = atS l (k + j) := by rw [List.getElem?_eq_getElem (by omega)] at at1; exact Option.some.inj at1
                have e2 : row[k + j - 1]'(by omega) = atS l (k + j - 1) := by rw [List.getElem?_eq_getElem (by omega)] at at2; exact Option.some.inj at2
                obtain ⟨c0, c1, c2⟩ := own_cells hown hrl (k + j) hlt2
                obtain ⟨d0, d1, d2⟩ := own_cells hown hrl (k + j - 1) (by omega)
                rw [e1, show (k + j) * 3 = k * 3 + j * 3 from by omega] at c0 c1 c2
                rw [e2, show (k + j - 1) * 3 = k * 3 + (j - 1) * 3 from by omega] at d0 d1 d2
                have hsk := fun he => tidy_skip HT.out hlt2 he
                have hpt := fun he => tidy_put HT.out hlt2 he
                clear at1 at2
                have hgq : g < wr.heap.size := (hown.lt g rfl).2
                have hatq := fun (w2 : World) (h : w2.ownsRow base 27 3 (.slice (some ⟨g, 0, none⟩) l.length cap) l.length (cellsOf row)) => own_cells h hrl (k + j) hlt2
                rw [e1, show (k + j) * 3 = k * 3 + j * 3 from by omega] at hatq
                clear e1 e2
                generalize atS l (k + j) = p at *
                generalize atS l (k + j - 1) = q at *
                have HSK := Lib.hid hsk
                have HPT := Lib.hid hpt
                have HOWN2 := Lib.hid hown
                have HRL := Lib.hid hrl
                have HATQ := Lib.hid hatq
                have m0 : (1 : Int) ≤ (j : Int) := by omega
                have m1 : (0 : Int) ≤ (j : Int) - 1 := by omega
                have m2 : (j : Int) - 1 < ((l.length - k : Nat) : Int) := by omega
                have m3 : ((j : Int) - 1).toNat = j - 1 := by omega
                have m4 : IntKind.i64.wrap ((j : Int) - 1) = (j : Int) - 1 := IntWalk.i64_in _ (by omega)
                have m5 : (j : Int) < ((l.length - k : Nat) : Int) := by omega
                clear hsk hpt hown hrl hatq
                go_wp2_with fail
                go_region_with (first
                  | (refine (mergedOf2_any p q _).mono ?_; rintro e w3 ⟨rfl, hb3⟩; have hb3' : Below wr.heap.size wr w3 := ⟨hb3.os, hb3.tape, hb3.output, hb3.size, hb3.block⟩; clear hb3))
                all_goals
                  have hown3 := own_below HOWN2.out hb3'
                  have hbr3 : Below base w w3 := hbq.trans (hb3'.mono (by have := hbq.size; omega))
                  clear hb3' c0 c1 c2 d0 d1 d2
                  by_cases he : p.t = q.t
                  · have he' : decide (p.t = q.t) = true := by simpa using he
                    have hti := HSK.out he
                    have HTI := Lib.hid hti
                    rw [he']
                    clear he he' hti
                    go_wp2_with fail
                    go_roundw
                    case rel => exact ⟨i, j + 1, row, by omega, by omega, rfl, by go_num, HTI.out, hown3, hbr3⟩
                    case measure => simp [intOf]; omega
                  · have he' : decide (p.t = q.t) = false := by simpa using he
                    have hti := HPT.out he
                    have HTI := Lib.hid hti
                    obtain ⟨c0, c1, c2⟩ := HATQ.out w3 hown3
                    have f0 := hown3.frozenAt (i * 3)
                    have f1 := hown3.frozenAt (i * 3 + 1)
                    have f2 := hown3.frozenAt (i * 3 + 2)
                    obtain ⟨k0, k1, k2⟩ := own_cells hown3 HRL.out i (by omega)
                    have hput := own_put (w := w3) (l := row) (by rw [HRL.out]; exact hown3) i (by rw [HRL.out]; omega) p
                    rw [HRL.out] at hput
                    have HPUT := Lib.hid hput
                    generalize row[i]'(by have := HRL.out; omega) = z at *
                    rw [he']
                    have hil : (i : Int) < (l.length : Int) := by omega
                    clear he he' hti hput
                    go_wp2_with fail
                    go_roundw
                    case rel => exact ⟨i + 1, j + 1, row.set i p, by omega, by omega, by go_num, by go_num, HTI.out, HPUT.out, by (repeat (refine Below.setCell ?_ hg _)); exact hbr3⟩
                    case measure => simp [intOf]; omega
              · have hjl2 : k + j = l.length := by omega
                have hT2 := HT.out
                rw [hjl2] at hT2
                have hend : row.take i = cpt none l := by have := hT2.2.2.2.1; rwa [List.take_length] at this
                have HE := Lib.hid hend
                have hcells : ∃ cur : Array Value, wr.heap[g]? = some (.cells cur 27 (0, 0)) ∧ l.length * 3 ≤ cur.size ∧ cur.toList.take (l.length * 3) = cellsOf row := by
                  obtain ⟨_, h | ⟨g', cap', cur, hv, hb, hh, hn, hm, hs, hx⟩⟩ := hown
                  · exact absurd h.2 (by omega)
                  · simp only [Value.slice.injEq, Option.some.injEq, Addr.mk.injEq, and_true, true_and] at hv
                    obtain ⟨rfl, rfl⟩ := hv
                    exact ⟨cur, hh, by omega, hx⟩
                obtain ⟨cur, hh, hs, hx⟩ := hcells
                obtain ⟨w3, hr, ⟨cur', hh', hsame⟩, hgrow⟩ := run_clear_smp wr 0 g i (l.length - i) (cap - i) cur hh (by omega) (by omega)
                have hb3 := hbq.trans (below_grown hown (by have := hbq.size; omega) hgrow)
                have hfin : RdS w3 27 (.slice (some ⟨g, 0, none⟩) i cap) (cpt none l) := by
                  rw [← hend]
                  refine own_rd ⟨cur', hh', fun j hj => ?_⟩ (by omega) (by omega) hc2' (by omega)
                  rw [hsame j hj, ← hx, List.getElem?_take_of_lt (by omega)]
                  simp
                have HF := Lib.hid hfin
                have hcapi : ¬ cap = i := by omega
                have hkl : ¬ ((j : Int) < ((l.length - k : Nat) : Int)) := by omega
                clear hrl hend hh hs hx hh' hsame hgrow hfin hown hT2 hjl2
                go_wp2_with fail
                go_ret
                exact ⟨_, rfl, HF.out, hb3⟩
          · have he' : decide (x.t = y.t) = false := by simpa using he
            rw [he']
            have hsn2 := HSN.out
            rw [if_neg he] at hsn2
            have HSN2 := Lib.hid hsn2
            clear he he' hsn2
            go_wp2_with fail
            go_roundw
            case rel => exact ⟨k + 1, by omega, by omega, by go_num, by rw [HSN2.out, HTK.out, HCP.out], hown2, hbr2⟩
            case measure => simp [intOf]; omega
      · obtain rfl : k = l.length := by omega
        have hR : RdS wr 27 _ l := Rd.of_own hown
        rw [List.take_length] at hcp
        have HR := Lib.hid hR
        have HCP := Lib.hid hcp
        clear hR hcp hown
        go_wp2_with fail
        go_ret
        exact ⟨_, rfl, by rw [HCP.out]; exact HR.out, hbr⟩
end Go.Proofs.Ytjkncmhmmafmjaa
