/- AboveOf (the reference), for a right series and a right window. -/
import Derived.Test.YtgbnjbbjgkfefaaAbm
import Derived.Deep.DeepCutAuto
namespace Go.Proofs.Ytgbnjbbjgkfefaa
open Go.RowKit
set_option linter.unusedVariables false
set_option linter.unusedSimpArgs false

/-- The row of windows that the call owns. -/
structure AbK (w1 : World) (o : Value) (out : List (Int × Int)) (w : World) : Prop where
  own : w.ownsRow w1.heap.size 76 2 o out.length (wdwCells out)
  bl : Below w1.heap.size w1 w
theorem AbK.step {w1 w w' : World} {o : Value} {out : List (Int × Int)} (h : AbK w1 o out w) (hb : Below w.heap.size w w') : AbK w1 o out w' :=
  ⟨own_keep h.own fun b _ _ hh => hb.block b (lt_of_heap hh), h.bl.trans (hb.mono h.bl.size)⟩
theorem AbK.grown {w1 w w' : World} {o o' : Value} {out out' : List (Int × Int)} (h : AbK w1 o out w) (hg : w.grownBy w' o.ownBlock) (ho : w'.ownsRow w1.heap.size 76 2 o' out'.length (wdwCells out')) : AbK w1 o' out' w' :=
  ⟨ho, h.bl.trans (below_grown h.own h.bl.size hg)⟩
theorem wdw_last {l : List (Int × Int)} {m : Nat} (hm : m < l.length) (b : Int) : (wdwCells l).set (m * 2 + 1) (.int .i64 b) = wdwCells (l.set m (l[m].1, b)) := by
  rw [← wdwCells_set l m hm (l[m].1, b)]
  congr 1
  have h0 := (wdwCells_get l m hm).1
  obtain ⟨hlt2, h0⟩ := List.getElem?_eq_some_iff.1 h0
  rw [← h0, List.set_getElem_self]

set_option maxRecDepth 100000 in
set_option maxHeartbeats 4000000 in
theorem aboveOf_any (v : Value) (l : List Smp) (f t L : Int) (w : World) (hR : RdS w 71 v l) (hS : serErr l = 0) (hW : 0 ≤ f ∧ f ≤ t ∧ t ≤ 345686400000) :
    Calls Try.prog 73 #[v, .agg #[.int .i64 f, .int .i64 t], .int .i64 L] w fun e w' => ∃ vr, e = .returned (.tuple #[vr, .int .i64 (aboV l f t L).2]) ∧ RdWdw w' vr (aboV l f t L).1 ∧ Below w.heap.size w w' := by
  have hbw : Below w.heap.size w (w.alloc (.cells #[.int .i64 f, .int .i64 t] 76)) := (Below.refl _ w).alloc (Nat.le_refl _) _
  have hva := valuedR_any v l f t _ (Rd.alloc hR (.cells #[.int .i64 f, .int .i64 t] 76)) hS hW
  have hlong := (serErr_good hS).1
  have hvl := valL_long l f t
  have hok := valL_ok (f := f) (t := t) hS
  have hch : Chain f (valL l f t) := (strL_chain (serErr_rise hS)).filter _
  have hag : aboV l f t L = abS L (valL l f t) := rfl
  rw [hag]
  clear hag
  generalize valL l f t = R at *
  have HVA := Lib.hid hva
  have HOK := Lib.hid hok
  have HCH := Lib.hid hch
  clear hva hR hok hch
  have hmx : Try.prog.follows .mixedOrders = true := by kernel_rfl
  go_enter Try.func73, Try.ntmps73
  go_wp2_with fail
  refine HVA.out.mono ?_
  rintro e w1 ⟨vr, rfl, hrd, hb1⟩
  obtain ⟨pr, cr, rfl⟩ := hrd.lenv
  have hb := hbw.trans (hb1.mono hbw.size)
  have HRD := Lib.hid hrd
  clear HVA hbw hb1 hrd
  go_wp2_with fail
  go_loopw [8, 9, 17] (fun o s i wr => ∃ k : Nat, k ≤ R.length ∧ i = .int .i64 (k : Int) ∧ s = .int .i64 (abS L (R.take k)).2 ∧ AbK w1 o (abS L (R.take k)).1 wr) (fun _ _ i _ => R.length - (intOf i).toNat)
  case atStart => exact ⟨0, by omega, rfl, rfl, World.ownsRow_nil _ _ _ _, Below.refl _ _⟩
  case round =>
    obtain ⟨k, hk, rfl, rfl, hst⟩ := hrel
    have hbk := abS_long L hW.1 hW.2.2 (R.take k) (fun x hx => HOK.out x (List.mem_of_mem_take hx))
    by_cases hkl : k < R.length
    · have hRr : RdStr wr _ R := Rd.below HRD.out hst.bl
      obtain ⟨b, off, c, hv, hc1, hc2, hblt, hcell⟩ := RdStr.at_ hRr (by omega)
      cases hv
      unfold maxLen at hc2
      obtain ⟨c0, c1, c2, c3, c4⟩ := hcell k hkl
      have hx := HOK.out _ (atT_mem R k hkl)
      unfold StrOk at hx
      have hT := abS_take L R k hkl
      have hbf := chain_before HCH.out k hkl
      have hlast := abS_le L (atT R k).a (R.take k) hbf.2
      have hjr := jnF_ref (b := (atT R k).b) hlast
      have hlg := fun w => rlong_eq (atT R k).a (atT R k).b w ⟨by omega, by omega, by omega⟩
      rw [List.length_take] at hbk
      generalize atT R k = x at *
      generalize hAk : abS L (R.take k) = A at *
      have HT := Lib.hid hT
      have HJR := Lib.hid hjr
      have HST := Lib.hid hst
      have bX := Blk.new wr 175 #[.int .i64 x.a, .int .i64 x.b, .int .i64 x.s.t, .int .i64 x.s.v, .int .i64 x.s.q]
      have hst5 := hst.step ((Below.refl _ wr).alloc (Nat.le_refl _) (.cells #[.int .i64 x.a, .int .i64 x.b, .int .i64 x.s.t, .int .i64 x.s.v, .int .i64 x.s.q] 175))
      have HST5 := Lib.hid hst5
      clear hcell hRr hT hjr hlast hbf hAk hst
      by_cases hvL : x.s.v ≤ L
      · have HV := Lib.hid hvL
        go_wp2_with fail
        go_roundw
        case rel => exact ⟨k + 1, by omega, by go_num, by rw [HT.out]; unfold abT; rw [if_neg (by have := HV.out; omega)], by rw [HT.out]; unfold abT; rw [if_neg (by have := HV.out; omega)]; exact HST5.out⟩
        case measure => simp [intOf]; omega
      · have hAT : abT L A x.s.v x.a x.b = (jnF A.1 x.a x.b, A.2 + (x.b - x.a)) := by unfold abT; rw [if_pos (by omega)]
        have HAT := Lib.hid hAT
        clear hAT hst5
        go_upto_region 8 with (go_at_call 123; refine (hlg _).mono ?_; rintro e wk ⟨rfl, rfl⟩)
        have hst6 := HST5.out.step ((Below.refl _ _).alloc (Nat.le_refl _) (.cells #[.int .i64 x.a, .int .i64 x.b] 76))
        have bX6 := bX.alloc (.cells #[.int .i64 x.a, .int .i64 x.b] 76)
        generalize (wr.alloc (.cells #[.int .i64 x.a, .int .i64 x.b, .int .i64 x.s.t, .int .i64 x.s.v, .int .i64 x.s.q] 175)).alloc (.cells #[.int .i64 x.a, .int .i64 x.b] 76) = w6 at *
        generalize wr.heap.size = n5 at *
        have d0 := bX6.cell 0
        have d1 := bX6.cell 1
        have z5 := bX6.lt
        clear c0 c1 c2 c3 c4 bX
        have HO6 := Lib.hid hst6
        have HOA := Lib.hid (hst6.step ((Below.refl _ _).alloc (Nat.le_refl _) (.cells #[.int .i64 x.a, .int .i64 x.b] 76)))
        have HBA := Lib.hid (Blk.new w6 76 #[.int .i64 x.a, .int .i64 x.b])
        obtain ⟨po, co, hu8⟩ : ∃ po co, u8 = .slice po A.1.length co := RdWdw.lenv (Rd.of_own hst6.own)
        have HOD := Lib.hid (HOA.out.step (show Below (w6.alloc (.cells #[.int .i64 x.a, .int .i64 x.b] 76)).heap.size (w6.alloc (.cells #[.int .i64 x.a, .int .i64 x.b] 76)) (w6.alloc (.cells #[.int .i64 x.a, .int .i64 x.b] 76)).drew from ⟨rfl, rfl, rfl, Nat.le_refl _, fun _ _ => rfl⟩))
        by_cases hn : A.1 = []
        · have hJ : jnF A.1 x.a x.b = A.1 ++ [(x.a, x.b)] := by rw [HJR.out, if_neg (fun h => h.1 hn)]
          have HJ := Lib.hid hJ
          have hnl : A.1.length = 0 := by rw [hn]; rfl
          clear hJ hst6 hn
          subst hu8
          go_wp2_with fail
          go_region
          all_goals
            go_wp2_with (at_builtin; go_loud (refine wpList_append_wdw rfl (.tmp 55) (.tmp 58) rfl w1.heap.size (.slice po A.1.length co) A.1.length A.1 rfl (by exact HOD.out.own) w6.heap.size rfl (x.a, x.b) (by exact HBA.out) (by omega) (by exact HOD.out.bl.size) ?_); intro v1 wd hown1 hgrow1)
            have hkd : AbK w1 v1 (A.1 ++ [(x.a, x.b)]) wd := HOD.out.grown hgrow1 (by simpa using hown1)
            clear hown1 hgrow1
            go_roundw
            case rel => exact ⟨k + 1, by omega, by go_num, by rw [HT.out, HAT.out], by rw [HT.out, HAT.out]; dsimp only; rw [HJ.out]; exact hkd⟩
            case measure => simp [intOf]; omega
        · obtain ⟨g, cap, hv8, hbg, hnc, hcm⟩ := own_form hst6.own (by have := List.length_pos_iff.2 hn; omega)
          rw [hu8] at hv8
          cases hv8
          subst hu8
          unfold maxLen at hcm
          have hpos := List.length_pos_iff.2 hn
          obtain ⟨m, hm⟩ : ∃ m : Nat, (A.1.length : Int) - 1 = (m : Int) := ⟨A.1.length - 1, by omega⟩
          have hml : m < A.1.length := by omega
          have hmE : A.1.length - 1 = m := by omega
          have hgt : A.1.getD m (0, 0) = A.1[m] := by simp [List.getD_eq_getElem?_getD, List.getElem?_eq_getElem hml]
          obtain ⟨y0, y1⟩ := own_wdw hst6.own rfl m hml
          have hJ2 : jnF A.1 x.a x.b = if A.1[m].2 = x.a then A.1.set m (A.1[m].1, x.b) else A.1 ++ [(x.a, x.b)] := by rw [HJR.out, hmE, hgt]; simp [hn]
          have HWL := Lib.hid (wdw_last hml x.b)
          have hglt := (hst6.own.lt g rfl).2
          have f1 := hst6.own.frozenAt (m * 2 + 1)
          generalize A.1[m] = y at *
          have i1 : (0 : Int) ≤ (m : Int) := by omega
          have i2 : (m : Int) < (A.1.length : Int) := by omega
          have HJ2 := Lib.hid hJ2
          clear hJ2 hgt hmE hst6 hn
          by_cases hya : y.2 = x.a
          · have HJ := Lib.hid (show jnF A.1 x.a x.b = A.1.set m (y.1, x.b) by rw [HJ2.out, if_pos hya])
            have hya' : (y.2 == x.a) = true := by simpa using hya
            have hst7 : AbK w1 (.slice (some ⟨g, 0, none⟩) A.1.length co) (A.1.set m (y.1, x.b)) (w6.setCell ⟨g, m * 2 + 1, none⟩ (.int .i64 x.b)) := ⟨by have := (HO6.out.own.stored (m * 2 + 1) (.int .i64 x.b)).1; rw [HWL.out] at this; simpa using this, HO6.out.bl.setCell hbg _⟩
            have HST7 := Lib.hid hst7
            clear hst7 hya
            go_wp2_with fail
            go_region
            all_goals
              go_wp2_with fail
              go_roundw
              case rel => exact ⟨k + 1, by omega, by go_num, by rw [HT.out, HAT.out], by rw [HT.out, HAT.out]; dsimp only; rw [HJ.out]; exact HST7.out.step ⟨rfl, rfl, rfl, Nat.le_refl _, fun _ _ => rfl⟩⟩
              case measure => simp [intOf]; omega
          · have HJ := Lib.hid (show jnF A.1 x.a x.b = A.1 ++ [(x.a, x.b)] by rw [HJ2.out, if_neg hya])
            have hya' : (y.2 == x.a) = false := by simpa using hya
            clear hya
            go_wp2_with fail
            go_region
            all_goals
              go_wp2_with (at_builtin; go_loud (refine wpList_append_wdw rfl (.tmp 55) (.tmp 58) rfl w1.heap.size (.slice (some ⟨g, 0, none⟩) A.1.length co) A.1.length A.1 rfl (by exact HOD.out.own) w6.heap.size rfl (x.a, x.b) (by exact HBA.out) (by omega) (by exact HOD.out.bl.size) ?_); intro v1 wd hown1 hgrow1)
              have hkd : AbK w1 v1 (A.1 ++ [(x.a, x.b)]) wd := HOD.out.grown hgrow1 (by simpa using hown1)
              clear hown1 hgrow1
              go_roundw
              case rel => exact ⟨k + 1, by omega, by go_num, by rw [HT.out, HAT.out], by rw [HT.out, HAT.out]; dsimp only; rw [HJ.out]; exact hkd⟩
              case measure => simp [intOf]; omega
    · have hkE : k = R.length := by omega
      subst hkE
      have HTL := Lib.hid (show R.take R.length = R from List.take_length)
      go_wp2_with fail
      refine bodyPost_ret (v := .tuple #[u8, .int .i64 (abS L (R.take R.length)).2]) (by simp [results, Try.results73, go_sem]) rfl ⟨u8, by rw [HTL.out], by rw [← HTL.out]; exact Rd.of_own hst.own, hb.trans (hst.bl.mono hb.size)⟩
end Go.Proofs.Ytgbnjbbjgkfefaa
