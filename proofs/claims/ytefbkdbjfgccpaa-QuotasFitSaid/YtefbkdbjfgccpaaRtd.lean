/- retained() is true: Bins at one sample. -/
import Derived.Test.YtefbkdbjfgccpaaBnv
import Derived.Test.YtefbkdbjfgccpaaLvk
import Derived.Deep.RegionWith
import Derived.BigQuiet
namespace Go.Proofs.Ytefbkdbjfgccpaa
open Go.RowKit
set_option linter.unusedVariables false
set_option linter.unusedSimpArgs false

theorem own_baseR {w : World} {B B' : Nat} {e : TypeId} {size n : Nat} {v : Value} {xs : List Value} (h : w.ownsRow B e size v n xs) (hB : B' ≤ B) : w.ownsRow B' e size v n xs := by
  obtain ⟨h1, h2⟩ := h
  refine ⟨h1, ?_⟩
  rcases h2 with h2 | ⟨g, cap, cur, rfl, hb, hh, hn, hm, hs, hx⟩
  · exact .inl h2
  · exact .inr ⟨g, cap, cur, rfl, Nat.le_trans hB hb, hh, hn, hm, hs, hx⟩

set_option maxRecDepth 100000 in
set_option maxHeartbeats 1000000 in
theorem gathered_lit (w : World) : Calls Try.prog 37 #[.slice none 0 0, .agg #[.int .i64 5, .int .i64 3, .int .i64 1, .int .i64 0, .int .i64 3, .int .i64 3], .int .i64 10] w fun e w' =>
    ∃ v', e = .returned v' ∧ w'.ownsRow w.heap.size 59 6 v' 1 (binCells [⟨0, 3, 1, 0, 3, 3⟩]) ∧ Below w.heap.size w w' := by
  have hw0 : IntKind.i64.wrap 0 = 0 := by decide
  have hw1 : IntKind.i64.wrap (0 - 1) = -1 := by decide
  have hw2 : IntKind.i64.wrap (-1) = -1 := by decide
  go_enter Try.func37, Try.ntmps37
  go_wp2_with fail
  go_region_with fail
  all_goals
    have hb1 : Below w.heap.size w (w.alloc (.cells #[.int .i64 0, .int .i64 3, .int .i64 1, .int .i64 0, .int .i64 3, .int .i64 3] 59)).drew := ((Below.refl _ w).alloc (Nat.le_refl _) _).trans ⟨rfl, rfl, rfl, Nat.le_refl _, fun _ _ => rfl⟩
    have hB : Blk (w.alloc (.cells #[.int .i64 0, .int .i64 3, .int .i64 1, .int .i64 0, .int .i64 3, .int .i64 3] 59)).drew w.heap.size 59 #[.int .i64 0, .int .i64 3, .int .i64 1, .int .i64 0, .int .i64 3, .int .i64 3] := Blk.new w _ _
    generalize (w.alloc (.cells #[.int .i64 0, .int .i64 3, .int .i64 1, .int .i64 0, .int .i64 3, .int .i64 3] 59)).drew = w1 at *
    have c0 : w1.cell? ⟨w.heap.size, 0, none⟩ = some (.int .i64 0) := hB.cell 0
    have c1 : w1.cell? ⟨w.heap.size, 1, none⟩ = some (.int .i64 3) := hB.cell 1
    have c2 : w1.cell? ⟨w.heap.size, 2, none⟩ = some (.int .i64 1) := hB.cell 2
    have c3 : w1.cell? ⟨w.heap.size, 3, none⟩ = some (.int .i64 0) := hB.cell 3
    have c4 : w1.cell? ⟨w.heap.size, 4, none⟩ = some (.int .i64 3) := hB.cell 4
    have c5 : w1.cell? ⟨w.heap.size, 5, none⟩ = some (.int .i64 3) := hB.cell 5
    go_wp2_with fail
    go_quiet (fail)
    have hb2 : Below w.heap.size w (w1.drewN nq) := hb1.trans ⟨rfl, rfl, rfl, Nat.le_refl _, fun _ _ => rfl⟩
    have hB2 : Blk (w1.drewN nq) w.heap.size 59 #[.int .i64 0, .int .i64 3, .int .i64 1, .int .i64 0, .int .i64 3, .int .i64 3] := hB
    clear c0 c1 c2 c3 c4 c5 hB hb1
    generalize w1.drewN nq = w2 at *
    have c0 : w2.cell? ⟨w.heap.size, 0, none⟩ = some (.int .i64 0) := hB2.cell 0
    have c1 : w2.cell? ⟨w.heap.size, 1, none⟩ = some (.int .i64 3) := hB2.cell 1
    have c2 : w2.cell? ⟨w.heap.size, 2, none⟩ = some (.int .i64 1) := hB2.cell 2
    have c3 : w2.cell? ⟨w.heap.size, 3, none⟩ = some (.int .i64 0) := hB2.cell 3
    have c4 : w2.cell? ⟨w.heap.size, 4, none⟩ = some (.int .i64 3) := hB2.cell 4
    have c5 : w2.cell? ⟨w.heap.size, 5, none⟩ = some (.int .i64 3) := hB2.cell 5
    have hsz := hb2.size
    go_wp2_with (at_builtin; go_loud (refine wpList_append_bin rfl (.tmp 31) (.tmp 33) rfl w.heap.size (.slice none 0 0) 0 [] rfl (World.ownsRow_nil _ _ _ _) w2.heap.size rfl ⟨0, 3, 1, 0, 3, 3⟩ (by exact Blk.new _ _ _) (by omega) (by simp; omega) ?_); intro v1 wd hown hgrow)
    have hb3 : Below w.heap.size w wd := (hb2.alloc hsz (.cells #[.int .i64 0, .int .i64 3, .int .i64 1, .int .i64 0, .int .i64 3, .int .i64 3] 59)).trans ((Below.refl _ _).grown hgrow (by simp; omega) (fun k hk => by simp [Value.ownBlock] at hk))
    have HOWN := Lib.hid hown
    clear hown hgrow
    go_wp2_with fail
    go_ret
    exact ⟨_, rfl, HOWN.out, hb3⟩

set_option maxRecDepth 100000 in
set_option maxHeartbeats 1000000 in
theorem rolled_lit (w : World) (b : Nat) (hB : Blk w b 56 #[.int .i64 5, .int .i64 3, .int .i64 0]) : Calls Try.prog 35 #[.slice (some ⟨b, 0, none⟩) 1 1, .int .i64 10] w fun e w' =>
    ∃ v', e = .returned v' ∧ w'.ownsRow w.heap.size 59 6 v' 1 (binCells [⟨0, 3, 1, 0, 3, 3⟩]) ∧ Below w.heap.size w w' := by
  have c0 : w.cell? ⟨b, 0, none⟩ = some (.int .i64 5) := hB.cell 0
  have c1 : w.cell? ⟨b, 1, none⟩ = some (.int .i64 3) := hB.cell 1
  have c2 : w.cell? ⟨b, 2, none⟩ = some (.int .i64 0) := hB.cell 2
  have hlt := hB.lt
  go_enter Try.func35, Try.ntmps35
  go_wp2_with fail
  refine wp_loop_rounds 2 ?_
  rw [rounds_succ]
  go_wp2_with fail
  refine (gathered_lit _).mono ?_
  rintro e w2 ⟨v', rfl, hown, hb2⟩
  have hb3 : Below w.heap.size w w2 := (((Below.refl _ w).alloc (Nat.le_refl _) (.cells #[.int .i64 5, .int .i64 3, .int .i64 0] 56)).alloc (by simp) (.cells #[.int .i64 5, .int .i64 3, .int .i64 1, .int .i64 0, .int .i64 3, .int .i64 3] 59)).trans (hb2.mono (by simp; omega))
  have hown2 : w2.ownsRow w.heap.size 59 6 v' 1 (binCells [⟨0, 3, 1, 0, 3, 3⟩]) := own_baseR hown (by simp; omega)
  have HOWN := Lib.hid hown2
  have HB3 := Lib.hid hb3
  clear hown hown2 hb2 hb3 c0 c1 c2
  go_wp2_with fail
  rw [rounds_succ]
  go_wp2_with fail
  go_ret
  exact ⟨_, rfl, HOWN.out, HB3.out⟩

set_option maxRecDepth 100000 in
set_option maxHeartbeats 1000000 in
theorem retained_any (w : World) : Calls Try.prog 15 #[] w fun e w' => e = .returned (.bool true) ∧ Below w.heap.size w w' := by
  have hbins : ∀ (W : World) (b : Nat), Blk W b 56 #[.int .i64 5, .int .i64 3, .int .i64 0] → Calls Try.prog 27 #[.slice (some ⟨b, 0, none⟩) 1 1, .int .i64 10] W fun e w' => ∃ v', e = .returned (.tuple #[v', .int .i64 0]) ∧ w'.ownsRow W.heap.size 59 6 v' 1 (binCells [⟨0, 3, 1, 0, 3, 3⟩]) ∧ Below W.heap.size W w' := by
    intro W b hB
    have hR : RdS W 56 (.slice (some ⟨b, 0, none⟩) 1 1) [⟨5, 3, 0⟩] := ⟨rfl, some ⟨b, 0, none⟩, 1, rfl, Nat.le_refl _, by simp [maxLen], fun _ => ⟨b, 0, _, (0, 0), rfl, hB, fun j hj => by rw [Nat.zero_add]; simp [Smp.cells]⟩⟩
    have hCS := checkSeries_any _ [⟨5, 3, 0⟩] W hR
    rw [show serErr [⟨5, 3, 0⟩] = 0 from by simp [serErr, serFrom, smpErr, inB, notAfter]] at hCS
    have hst : stepB 10 = true := by decide
    have hIS := fun w' => isStep_any 10 w'
    rw [hst] at hIS
    have HCS := Lib.hid hCS
    have HIS := Lib.hid hIS
    have HB := Lib.hid hB
    clear hCS hIS hst hR hB
    go_enter Try.func27, Try.ntmps27
    go_wp2_with fail
    refine HCS.out.mono ?_
    rintro e w1 ⟨rfl, hb1⟩
    have hB1 := HB.out.below hb1 HB.out.lt
    go_wp2_with fail
    refine (HIS.out _).mono ?_
    rintro e w' ⟨rfl, rfl⟩
    go_wp2_with fail
    refine (rolled_lit _ b hB1).mono ?_
    rintro e w2 ⟨v', rfl, hown, hb2⟩
    have hown2 := own_baseR hown hb1.size
    have hb3 := hb1.trans (hb2.mono hb1.size)
    have HOWN := Lib.hid hown2
    clear hown hown2 hb1 hb2
    go_wp2_with fail
    go_ret2
    exact ⟨_, rfl, HOWN.out, hb3⟩
  have HBI := Lib.hid hbins
  clear hbins
  go_enter Try.func15, Try.ntmps15
  go_wp2_with fail
  refine (HBI.out _ _ (Blk.new w _ _)).mono ?_
  rintro e w2 ⟨v', rfl, hown, hb2⟩
  obtain ⟨q, c, rfl, hq, hc1, hc2⟩ := own_form hown (by omega)
  obtain ⟨c0, c1, _⟩ := own_bin hown rfl 0 (by omega)
  have c1' : w2.cell? ⟨q, 1, none⟩ = some (.int .i64 3) := by simpa using c1
  have hb3 : Below w.heap.size w w2 := ((Below.refl _ w).alloc (Nat.le_refl _) (.cells #[.int .i64 5, .int .i64 3, .int .i64 0] 56)).trans (hb2.mono (by simp))
  clear hown hb2 c0 c1
  go_wp2_with fail
  go_ret
  exact ⟨rfl, hb3⟩
end Go.Proofs.Ytefbkdbjfgccpaa
