/- The contract of the closure of FitOf (the reference). No condition beyond the contracts'. -/
import Derived.Test.YtefbkdbjfgccpaaLvq
import Derived.Deep.RegionHeld3
namespace Go.Proofs.Ytefbkdbjfgccpaa
open Go.RowKit
set_option linter.unusedVariables false
set_option linter.unusedSimpArgs false

theorem enter_fitOf1 (args : Array Value) (w : World) : (callFunc 26 args).run Try.prog w = .ok (.enter 26 args) w := by kernel_rfl
theorem lvBlk_set {w : World} {b g o : Nat} {t : TypeId} {cs : Array Value} (h : Blk w b t cs) (hb : b ≠ g) (u : Value) : Blk (w.setCell ⟨g, o, none⟩ u) b t cs := (Below.heap_setCell _ _ _ _ hb).trans h
theorem LvOk.setK {F : List (Int × Int)} {j : Nat} {k : Int} (hF : ∀ x ∈ F, LvOk x) (hj : j < F.length) (hk : 1 ≤ k ∧ k ≤ 345686400000) : ∀ x ∈ F.set j ((F.getD j (0, 0)).1, k), LvOk x := fun x hx => by
  rcases List.mem_or_eq_of_mem_set hx with h | h
  · exact hF x h
  · rw [h]; exact ⟨(hF _ (mem_getD hj)).1, hk⟩

set_option maxRecDepth 100000 in
set_option maxHeartbeats 2000000 in
theorem fits_any (rate quota : Int) (hr : 1 ≤ rate ∧ rate ≤ 1000000) (F : List (Int × Int)) (j : Nat) (hj : j < F.length) (h6 : F.length ≤ 6) (hok : ∀ x ∈ F, LvOk x) (k : Int) (hk : 1 ≤ k ∧ k ≤ 345686400000)
    (br bq bo bi : Nat) (v : Value) (w : World) (h4 : Blk w br 3 #[.int .i64 rate]) (h5 : Blk w bq 3 #[.int .i64 quota]) (h8 : Blk w bo 26 #[v]) (h9 : Blk w bi 3 #[.int .i64 (j : Int)]) (hR : RdLvl w v F) :
    Calls Try.prog 26 #[.int .i64 k, .pointer (some ⟨bo, 0, none⟩), .pointer (some ⟨bi, 0, none⟩), .pointer (some ⟨br, 0, none⟩), .pointer (some ⟨bq, 0, none⟩)] w fun e w' =>
      e = .returned (.bool (decide (lvSum rate (F.set j ((F.getD j (0, 0)).1, k)) ≤ quota))) ∧ Below w.heap.size w w' := by
  have hcl := cloneL_any v F w hR (by omega)
  obtain ⟨pa, ca, rfl⟩ := hR.lenv
  have HCL := Lib.hid hcl
  have c8 : w.cell? ⟨bo, 0, none⟩ = some (.slice pa F.length ca) := h8.cell 0
  have hok2 := LvOk.setK hok hj hk
  have HOK2 := Lib.hid hok2
  have hF2l : (F.set j ((F.getD j (0, 0)).1, k)).length = F.length := List.length_set
  clear hcl hR hok hok2
  go_enter Try.func26, Try.ntmps26
  go_wp2_with fail
  refine HCL.out.mono ?_
  rintro e w1 ⟨v1, rfl, hof, hb1⟩
  obtain ⟨g1, cap1, rfl, hg1, hd1, hd2⟩ := own_form hof (by omega)
  unfold maxLen at hd2
  have e4 := h4.below hb1 h4.lt
  have e5 := h5.below hb1 h5.lt
  have e9 := h9.below hb1 h9.lt
  have c9 : w1.cell? ⟨bi, 0, none⟩ = some (.int .i64 (j : Int)) := e9.cell 0
  obtain ⟨d0, d1⟩ := own_lvl hof rfl j hj
  have f1 := hof.frozenAt (j * 2 + 1)
  have hput := own_keepL hof j hj k
  have hb2 := hb1.setCell (p := ⟨g1, j * 2 + 1, none⟩) hg1 (.int .i64 k)
  have n4 := lvBlk_set (o := j * 2 + 1) e4 (g := g1) (by have := h4.lt; omega) (.int .i64 k)
  have n5 := lvBlk_set (o := j * 2 + 1) e5 (g := g1) (by have := h5.lt; omega) (.int .i64 k)
  have i1 : (0 : Int) ≤ (j : Int) := by omega
  have i2 : (j : Int) < (F.length : Int) := by omega
  have hrd : RdLvl (w1.setCell ⟨g1, j * 2 + 1, none⟩ (.int .i64 k)) (.slice (some ⟨g1, 0, none⟩) F.length cap1) (F.set j ((F.getD j (0, 0)).1, k)) := by unfold RdLvl; rw [hF2l]; exact Rd.of_own hput
  have hcs := fun (W : World) (h : RdLvl W (.slice (some ⟨g1, 0, none⟩) F.length cap1) (F.set j ((F.getD j (0, 0)).1, k))) => rcostSum_any rate hr _ _ W h HOK2.out (by rw [hF2l]; exact h6)
  obtain ⟨T2, hT2⟩ : ∃ T2, T2 = lvSum rate (F.set j ((F.getD j (0, 0)).1, k)) := ⟨_, rfl⟩
  rw [← hT2] at hcs
  have HCS := Lib.hid hcs
  have HT2 := Lib.hid hT2
  clear hcs hT2
  have HRD := Lib.hid hrd
  clear hput hrd hof hb1 e4 e5 e9 h8 h9
  have HB2 := Lib.hid hb2
  have N4 := Lib.hid n4
  have N5 := Lib.hid n5
  clear hb2 n4 n5
  go_wp2_with fail
  generalize w1.setCell ⟨g1, j * 2 + 1, none⟩ (.int .i64 k) = w2 at *
  have c4 : w2.cell? ⟨br, 0, none⟩ = some (.int .i64 rate) := N4.out.cell 0
  have c5 : w2.cell? ⟨bq, 0, none⟩ = some (.int .i64 quota) := N5.out.cell 0
  go_region_held3 (fun w' => w'.cell? ⟨br, 0, none⟩ = some (.int .i64 rate) ∧ w'.cell? ⟨bq, 0, none⟩ = some (.int .i64 quota))
    (first | exact ⟨c4, c5⟩ | exact ⟨hk4, hk5⟩ | go_keep)
    (first
    | (go_at_call 12; (with_reducible refine (HCS.out _ ?_).mono ?_); (focus (exact HRD.out; done)); rintro e wk ⟨rfl, hbk⟩; have hbk2 := HB2.out.trans ((lv_undrew hbk).mono HB2.out.size); have hk4 : wk.cell? ⟨br, 0, none⟩ = some (.int .i64 rate) := (N4.out.below (lv_undrew hbk) N4.out.lt).cell 0; have hk5 : wk.cell? ⟨bq, 0, none⟩ = some (.int .i64 quota) := (N5.out.below (lv_undrew hbk) N5.out.lt).cell 0))
  go_wp2_with fail
  go_ret
  exact ⟨by rw [← HT2.out]; rfl, hbk2⟩
end Go.Proofs.Ytefbkdbjfgccpaa
