import Derived.Test.YtmcojidaimeijaaBz03
/- The contracts of accepts and add of a span (package compress). -/

namespace Go.Proofs.Ytmcojidaimeijaa
open Go.RowKit
set_option linter.unusedVariables false
set_option linter.unusedSimpArgs false

def accI (m : Int) (P x : Smp) (lo hi : Int × Int) : Bool := (decide (x.t - P.t ≤ m) && !slt (x.v - P.v, x.t - P.t) lo) && !slt hi (x.v - P.v, x.t - P.t)
/-- What accepts keeps: the span, the sample, the line. -/
structure KA (w0 : World) (s bx n : Nat) (cs : Array Value) (x : Smp) (ln : Int × Int) (w : World) : Prop where
  sp : Blk w s 162 cs
  bx : Blk w bx 57 #[.int .i64 x.t, .int .i64 x.v, .int .i64 x.q]
  ln : Blk w n 160 #[.int .i64 ln.1, .int .i64 ln.2]
  bl : Below w0.heap.size w0 w
theorem KA.step {w0 w w' : World} {s bx n : Nat} {cs : Array Value} {x : Smp} {ln : Int × Int} (hb : Below w.heap.size w w') (h : KA w0 s bx n cs x ln w) : KA w0 s bx n cs x ln w' :=
  ⟨h.sp.below hb h.sp.lt, h.bx.below hb h.bx.lt, h.ln.below hb h.ln.lt, h.bl.trans (hb.mono h.bl.size)⟩
theorem KA.drew {w0 w : World} {s bx n : Nat} {cs : Array Value} {x : Smp} {ln : Int × Int} (h : KA w0 s bx n cs x ln w) : KA w0 s bx n cs x ln w.drew := h.step (w' := w.drew) (show Below w.heap.size w w.drew from ⟨rfl, rfl, rfl, Nat.le_refl _, fun _ _ => rfl⟩)

set_option maxRecDepth 100000 in
set_option maxHeartbeats 4000000 in
theorem accepts_any (s : Nat) (d m : Int) (P x : Smp) (b : Bool) (lo hi : Int × Int) (w : World) (hs : Blk w s 162 (spanCells d m P b false lo hi)) (hP : FitP P) (hx : FitP x) (hlo : FitS lo) (hhi : FitS hi) :
    Calls Try.prog 126 #[.pointer (some ⟨s, 0, none⟩), .agg #[.int .i64 x.t, .int .i64 x.v, .int .i64 x.q]] w fun e w' => e = .returned (.bool (accI m P x lo hi)) ∧ Below w.heap.size w w' := by
  have hk : KN w s w.heap.size (spanCells d m P b false lo hi) x (w.alloc (.cells #[.int .i64 x.t, .int .i64 x.v, .int .i64 x.q] 57)) :=
    ⟨hs.alloc _, Blk.new _ _ _, (Below.refl _ w).alloc (Nat.le_refl _) _⟩
  have hsl : FitS (x.v - P.v, x.t - P.t) := by unfold FitP at hP hx; unfold FitS; simp only; omega
  clear hs
  have hwt : IntKind.i64.wrap (x.t - P.t) = x.t - P.t := by unfold FitP at hP hx; exact IntWalk.i64_in _ (by omega)
  have hA : accI m P x lo hi = ((decide (x.t - P.t ≤ m) && !slt (x.v - P.v, x.t - P.t) lo) && !slt hi (x.v - P.v, x.t - P.t)) := rfl
  have HA := Lib.hid hA
  have HPX := Lib.hid (And.intro hP hx)
  clear hA hP hx
  go_enter Try.func126, Try.ntmps126
  go_upto_region 2 with (go_at_call 146; (with_reducible refine (slopeTo_any s d m P x b false lo hi 0 _ hk.sp HPX.out.1 HPX.out.2 (by omega)).mono ?_); rintro e wa ⟨rfl, hba⟩; have hk2 := KN.step hba hk; clear hba)
  have hka : KA w s w.heap.size wa.heap.size (spanCells d m P b false lo hi) x (x.v - P.v, x.t - P.t) (wa.alloc (.cells #[.int .i64 (x.v - P.v), .int .i64 (x.t - P.t)] 160)) :=
    ⟨hk2.sp.alloc _, hk2.bx.alloc _, Blk.new _ _ _, hk2.bl.alloc hk2.bl.size _⟩
  clear hk hk2
  generalize wa.alloc (.cells #[.int .i64 (x.v - P.v), .int .i64 (x.t - P.t)] 160) = wb at *
  generalize wa.heap.size = n at *
  have hS0 : (wb.drew).cell? ⟨s, 2, none⟩ = some (.int .i64 P.t) ∧ (wb.drew).cell? ⟨s, 1, none⟩ = some (.int .i64 m) ∧ (wb.drew).cell? ⟨s, 6, none⟩ = some (.bool false) ∧ (wb.drew).cell? ⟨s, 7, none⟩ = some (.int .i64 lo.1) ∧ (wb.drew).cell? ⟨s, 8, none⟩ = some (.int .i64 lo.2) ∧ (wb.drew).cell? ⟨s, 9, none⟩ = some (.int .i64 hi.1) ∧ (wb.drew).cell? ⟨s, 10, none⟩ = some (.int .i64 hi.2) ∧ (wb.drew).cell? ⟨w.heap.size, 0, none⟩ = some (.int .i64 x.t) ∧ (wb.drew).cell? ⟨n, 0, none⟩ = some (.int .i64 (x.v - P.v)) ∧ (wb.drew).cell? ⟨n, 1, none⟩ = some (.int .i64 (x.t - P.t)) := ⟨(hka.drew).sp.cell 2, (hka.drew).sp.cell 1, (hka.drew).sp.cell 6, (hka.drew).sp.cell 7, (hka.drew).sp.cell 8, (hka.drew).sp.cell 9, (hka.drew).sp.cell 10, (hka.drew).bx.cell 0, (hka.drew).ln.cell 0, (hka.drew).ln.cell 1⟩
  have hb1 := fun w => below_slope (x.v - P.v, x.t - P.t) lo w hsl hlo
  have hb2 := fun w => below_slope hi (x.v - P.v, x.t - P.t) w hhi hsl
  have tok1 : True := trivial
  by_cases hL : x.t - P.t ≤ m
  · have hL' : decide (x.t - P.t ≤ m) = true := by simpa using hL
    cases h1 : slt (x.v - P.v, x.t - P.t) lo
    · rw [h1] at hb1
      have HE := Lib.hid (show accI m P x lo hi = !slt hi (x.v - P.v, x.t - P.t) by rw [HA.out, h1, hL']; rfl)
      generalize slt hi (x.v - P.v, x.t - P.t) = s2 at *
      generalize slt (x.v - P.v, x.t - P.t) lo = s1 at *
      clear h1 HA
      go_region_held3 (fun w' => (w').cell? ⟨s, 2, none⟩ = some (.int .i64 P.t) ∧ (w').cell? ⟨s, 1, none⟩ = some (.int .i64 m) ∧ (w').cell? ⟨s, 6, none⟩ = some (.bool false) ∧ (w').cell? ⟨s, 7, none⟩ = some (.int .i64 lo.1) ∧ (w').cell? ⟨s, 8, none⟩ = some (.int .i64 lo.2) ∧ (w').cell? ⟨s, 9, none⟩ = some (.int .i64 hi.1) ∧ (w').cell? ⟨s, 10, none⟩ = some (.int .i64 hi.2) ∧ (w').cell? ⟨w.heap.size, 0, none⟩ = some (.int .i64 x.t) ∧ (w').cell? ⟨n, 0, none⟩ = some (.int .i64 (x.v - P.v)) ∧ (w').cell? ⟨n, 1, none⟩ = some (.int .i64 (x.t - P.t)))
        (first | with_reducible exact hSk | with_reducible exact hSj | with_reducible exact hS0)
        (first
        | (go_at_call 147; have _t := tok1; (with_reducible refine (hb1 _).mono ?_); rintro e wj ⟨rfl, hbj⟩; have hkj := KA.step hbj hka.drew; have hSj : (wj).cell? ⟨s, 2, none⟩ = some (.int .i64 P.t) ∧ (wj).cell? ⟨s, 1, none⟩ = some (.int .i64 m) ∧ (wj).cell? ⟨s, 6, none⟩ = some (.bool false) ∧ (wj).cell? ⟨s, 7, none⟩ = some (.int .i64 lo.1) ∧ (wj).cell? ⟨s, 8, none⟩ = some (.int .i64 lo.2) ∧ (wj).cell? ⟨s, 9, none⟩ = some (.int .i64 hi.1) ∧ (wj).cell? ⟨s, 10, none⟩ = some (.int .i64 hi.2) ∧ (wj).cell? ⟨w.heap.size, 0, none⟩ = some (.int .i64 x.t) ∧ (wj).cell? ⟨n, 0, none⟩ = some (.int .i64 (x.v - P.v)) ∧ (wj).cell? ⟨n, 1, none⟩ = some (.int .i64 (x.t - P.t)) := ⟨(hkj).sp.cell 2, (hkj).sp.cell 1, (hkj).sp.cell 6, (hkj).sp.cell 7, (hkj).sp.cell 8, (hkj).sp.cell 9, (hkj).sp.cell 10, (hkj).bx.cell 0, (hkj).ln.cell 0, (hkj).ln.cell 1⟩; clear tok1 hbj)
        | (go_at_call 147; (with_reducible refine (hb2 _).mono ?_); rintro e wk ⟨rfl, hbk⟩; have hkk := KA.step hbk hkj; have hSk : (wk).cell? ⟨s, 2, none⟩ = some (.int .i64 P.t) ∧ (wk).cell? ⟨s, 1, none⟩ = some (.int .i64 m) ∧ (wk).cell? ⟨s, 6, none⟩ = some (.bool false) ∧ (wk).cell? ⟨s, 7, none⟩ = some (.int .i64 lo.1) ∧ (wk).cell? ⟨s, 8, none⟩ = some (.int .i64 lo.2) ∧ (wk).cell? ⟨s, 9, none⟩ = some (.int .i64 hi.1) ∧ (wk).cell? ⟨s, 10, none⟩ = some (.int .i64 hi.2) ∧ (wk).cell? ⟨w.heap.size, 0, none⟩ = some (.int .i64 x.t) ∧ (wk).cell? ⟨n, 0, none⟩ = some (.int .i64 (x.v - P.v)) ∧ (wk).cell? ⟨n, 1, none⟩ = some (.int .i64 (x.t - P.t)) := ⟨(hkk).sp.cell 2, (hkk).sp.cell 1, (hkk).sp.cell 6, (hkk).sp.cell 7, (hkk).sp.cell 8, (hkk).sp.cell 9, (hkk).sp.cell 10, (hkk).bx.cell 0, (hkk).ln.cell 0, (hkk).ln.cell 1⟩; clear hbk))
      go_wp2_with fail
      go_ret
      exact ⟨ret_bool HE.out.symm, hkk.bl⟩
    · rw [h1] at hb1
      have HE := Lib.hid (show accI m P x lo hi = false by rw [HA.out, h1, hL']; rfl)
      clear HA h1 hb2
      refine wp_region_held_drew (S := fun w' => (w').cell? ⟨s, 2, none⟩ = some (.int .i64 P.t) ∧ (w').cell? ⟨s, 1, none⟩ = some (.int .i64 m) ∧ (w').cell? ⟨s, 6, none⟩ = some (.bool false) ∧ (w').cell? ⟨s, 7, none⟩ = some (.int .i64 lo.1) ∧ (w').cell? ⟨s, 8, none⟩ = some (.int .i64 lo.2) ∧ (w').cell? ⟨s, 9, none⟩ = some (.int .i64 hi.1) ∧ (w').cell? ⟨s, 10, none⟩ = some (.int .i64 hi.2) ∧ (w').cell? ⟨w.heap.size, 0, none⟩ = some (.int .i64 x.t) ∧ (w').cell? ⟨n, 0, none⟩ = some (.int .i64 (x.v - P.v)) ∧ (w').cell? ⟨n, 1, none⟩ = some (.int .i64 (x.t - P.t))) (by kernel_rfl) hS0 (fun hHeld => ?_)
      refine wpAnyH_take (i := 0) (v := ?v0) rfl (by kernel_rfl) (by kernel_rfl) (by kernel_rfl) (fun _ _ _ h => h) (Or.inl ⟨by kernel_rfl, ?y0⟩) (by assumption) ?r0
      case y0 => (intro w' hSw; (try dsimp only at hSw); go_split_ands; go_simp; try (with_reducible rfl))
      try simp only [List.getElem_toArray, List.getElem_cons_zero, List.getElem_cons_succ, Act.put, List.setIfInBounds_toArray, List.set_cons_zero, List.set_cons_succ]
      refine wpAnyH_take (i := 1) (v := ?v1) rfl (by kernel_rfl) (by kernel_rfl) (by kernel_rfl) (fun _ _ _ h => h) (Or.inl ⟨by kernel_rfl, ?y1⟩) (by assumption) ?r1
      case y1 => (intro w' hSw; (try dsimp only at hSw); go_split_ands; go_simp; try (with_reducible rfl))
      try simp only [List.getElem_toArray, List.getElem_cons_zero, List.getElem_cons_succ, Act.put, List.setIfInBounds_toArray, List.set_cons_zero, List.set_cons_succ]
      refine wpAnyH_take (i := 2) (v := ?v2) rfl (by kernel_rfl) (by kernel_rfl) (by kernel_rfl) (fun _ _ _ h => h) (Or.inl ⟨by kernel_rfl, ?y2⟩) (by assumption) ?r2
      case y2 => (intro w' hSw; (try dsimp only at hSw); go_split_ands; go_simp; try (with_reducible rfl))
      try simp only [List.getElem_toArray, List.getElem_cons_zero, List.getElem_cons_succ, Act.put, List.setIfInBounds_toArray, List.set_cons_zero, List.set_cons_succ]
      refine wpAnyH_take (i := 3) (v := ?v3) rfl (by kernel_rfl) (by kernel_rfl) (by kernel_rfl) (fun _ _ _ h => h) (Or.inl ⟨by kernel_rfl, ?y3⟩) (by assumption) ?r3
      case y3 => (intro w' hSw; (try dsimp only at hSw); go_split_ands; go_simp; try (with_reducible rfl))
      try simp only [List.getElem_toArray, List.getElem_cons_zero, List.getElem_cons_succ, Act.put, List.setIfInBounds_toArray, List.set_cons_zero, List.set_cons_succ]
      refine wpAnyH_take (i := 4) (v := ?v4) rfl (by kernel_rfl) (by kernel_rfl) (by kernel_rfl) (fun _ _ _ h => h) (Or.inl ⟨by kernel_rfl, ?y4⟩) (by assumption) ?r4
      case y4 => (intro w' hSw; (try dsimp only at hSw); go_split_ands; go_simp; try (with_reducible rfl))
      try simp only [List.getElem_toArray, List.getElem_cons_zero, List.getElem_cons_succ, Act.put, List.setIfInBounds_toArray, List.set_cons_zero, List.set_cons_succ]
      refine wpAnyH_take (i := 5) (v := ?v5) rfl (by kernel_rfl) (by kernel_rfl) (by kernel_rfl) (fun _ _ _ h => h) (Or.inl ⟨by kernel_rfl, ?y5⟩) (by assumption) ?r5
      case y5 => (intro w' hSw; (try dsimp only at hSw); go_split_ands; go_simp; try (with_reducible rfl))
      try simp only [List.getElem_toArray, List.getElem_cons_zero, List.getElem_cons_succ, Act.put, List.setIfInBounds_toArray, List.set_cons_zero, List.set_cons_succ]
      refine wpAnyH_take (i := 6) (v := ?v6) rfl (by kernel_rfl) (by kernel_rfl) (by kernel_rfl) (fun _ _ _ h => h) (Or.inl ⟨by kernel_rfl, ?y6⟩) (by assumption) ?r6
      case y6 => (intro w' hSw; (try dsimp only at hSw); go_split_ands; go_simp; try (with_reducible rfl))
      try simp only [List.getElem_toArray, List.getElem_cons_zero, List.getElem_cons_succ, Act.put, List.setIfInBounds_toArray, List.set_cons_zero, List.set_cons_succ]
      refine wpAnyH_take (i := 7) (v := ?v7) rfl (by kernel_rfl) (by kernel_rfl) (by kernel_rfl) (fun _ _ _ h => h) (Or.inl ⟨by kernel_rfl, ?y7⟩) (by assumption) ?r7
      case y7 => (intro w' hSw; (try dsimp only at hSw); go_split_ands; go_simp; try (with_reducible rfl))
      try simp only [List.getElem_toArray, List.getElem_cons_zero, List.getElem_cons_succ, Act.put, List.setIfInBounds_toArray, List.set_cons_zero, List.set_cons_succ]
      refine wpAnyH_take (i := 8) (v := ?v8) rfl (by kernel_rfl) (by kernel_rfl) (by kernel_rfl) (fun _ _ _ h => h) (Or.inl ⟨by kernel_rfl, ?y8⟩) (by assumption) ?r8
      case y8 => (intro w' hSw; (try dsimp only at hSw); go_split_ands; go_simp; try (with_reducible rfl))
      try simp only [List.getElem_toArray, List.getElem_cons_zero, List.getElem_cons_succ, Act.put, List.setIfInBounds_toArray, List.set_cons_zero, List.set_cons_succ]
      refine wpAnyH_take (i := 9) (v := ?v9) rfl (by kernel_rfl) (by kernel_rfl) (by kernel_rfl) (fun _ _ _ h => h) (Or.inl ⟨by kernel_rfl, ?y9⟩) (by assumption) ?r9
      case y9 => (intro w' hSw; (try dsimp only at hSw); go_split_ands; go_simp; try (with_reducible rfl))
      try simp only [List.getElem_toArray, List.getElem_cons_zero, List.getElem_cons_succ, Act.put, List.setIfInBounds_toArray, List.set_cons_zero, List.set_cons_succ]
      refine wpAnyH_take (i := 10) (v := ?v10) rfl (by kernel_rfl) (by kernel_rfl) (by kernel_rfl) (fun _ _ _ h => h) (Or.inl ⟨by kernel_rfl, ?y10⟩) (by assumption) ?r10
      case y10 => (intro w' hSw; (try dsimp only at hSw); go_split_ands; go_simp; try (with_reducible rfl))
      try simp only [List.getElem_toArray, List.getElem_cons_zero, List.getElem_cons_succ, Act.put, List.setIfInBounds_toArray, List.set_cons_zero, List.set_cons_succ]
      refine wpAnyH_take (i := 11) (v := ?v11) rfl (by kernel_rfl) (by kernel_rfl) (by kernel_rfl) (fun _ _ _ h => h) (Or.inl ⟨by kernel_rfl, ?y11⟩) (by assumption) ?r11
      case y11 => (intro w' hSw; (try dsimp only at hSw); go_split_ands; go_simp; try (with_reducible rfl))
      try simp only [List.getElem_toArray, List.getElem_cons_zero, List.getElem_cons_succ, Act.put, List.setIfInBounds_toArray, List.set_cons_zero, List.set_cons_succ]
      refine wpAnyH_take (i := 12) (v := ?v12) rfl (by kernel_rfl) (by kernel_rfl) (by kernel_rfl) (fun _ _ _ h => h) (Or.inl ⟨by kernel_rfl, ?y12⟩) (by assumption) ?r12
      case y12 => (intro w' hSw; (try dsimp only at hSw); go_split_ands; go_simp; try (with_reducible rfl))
      try simp only [List.getElem_toArray, List.getElem_cons_zero, List.getElem_cons_succ, Act.put, List.setIfInBounds_toArray, List.set_cons_zero, List.set_cons_succ]
      refine wpAnyH_take (i := 13) (v := ?v13) rfl (by kernel_rfl) (by kernel_rfl) (by kernel_rfl) (fun _ _ _ h => h) (Or.inl ⟨by kernel_rfl, ?y13⟩) (by assumption) ?r13
      case y13 => (intro w' hSw; (try dsimp only at hSw); go_split_ands; go_simp; try (with_reducible rfl))
      try simp only [List.getElem_toArray, List.getElem_cons_zero, List.getElem_cons_succ, Act.put, List.setIfInBounds_toArray, List.set_cons_zero, List.set_cons_succ]
      refine wpAnyH_take (i := 14) (v := ?v14) rfl (by kernel_rfl) (by kernel_rfl) (by kernel_rfl) (fun _ _ _ h => h) (Or.inl ⟨by kernel_rfl, ?y14⟩) (by assumption) ?r14
      case y14 => (intro w' hSw; (try dsimp only at hSw); go_split_ands; go_simp; try (with_reducible rfl))
      try simp only [List.getElem_toArray, List.getElem_cons_zero, List.getElem_cons_succ, Act.put, List.setIfInBounds_toArray, List.set_cons_zero, List.set_cons_succ]
      refine wpAnyH_take (i := 15) (v := ?v15) rfl (by kernel_rfl) (by kernel_rfl) (by kernel_rfl) (fun _ _ _ h => h) (Or.inl ⟨by kernel_rfl, ?y15⟩) (by assumption) ?r15
      case y15 => (intro w' hSw; (try dsimp only at hSw); go_split_ands; go_simp; try (with_reducible rfl))
      try simp only [List.getElem_toArray, List.getElem_cons_zero, List.getElem_cons_succ, Act.put, List.setIfInBounds_toArray, List.set_cons_zero, List.set_cons_succ]
      refine wpAnyH_take (i := 16) (v := ?v16) rfl (by kernel_rfl) (by kernel_rfl) (by kernel_rfl) (fun _ _ _ h => h) (Or.inl ⟨by kernel_rfl, ?y16⟩) (by assumption) ?r16
      case y16 => (intro w' hSw; (try dsimp only at hSw); go_split_ands; go_simp; try (with_reducible rfl))
      try simp only [List.getElem_toArray, List.getElem_cons_zero, List.getElem_cons_succ, Act.put, List.setIfInBounds_toArray, List.set_cons_zero, List.set_cons_succ]
      refine wpAnyH_take (i := 17) (v := ?v17) rfl (by kernel_rfl) (by kernel_rfl) (by kernel_rfl) (fun _ _ _ h => h) (Or.inl ⟨by kernel_rfl, ?y17⟩) (by assumption) ?r17
      case y17 => (intro w' hSw; (try dsimp only at hSw); go_split_ands; go_simp; try (with_reducible rfl))
      try simp only [List.getElem_toArray, List.getElem_cons_zero, List.getElem_cons_succ, Act.put, List.setIfInBounds_toArray, List.set_cons_zero, List.set_cons_succ]
      refine wpAnyH_take (i := 18) (v := ?v18) rfl (by kernel_rfl) (by kernel_rfl) (by kernel_rfl) (fun _ _ _ h => h) (Or.inl ⟨by kernel_rfl, ?y18⟩) (by assumption) ?r18
      case y18 => (intro w' hSw; (try dsimp only at hSw); go_split_ands; go_simp; try (with_reducible rfl))
      try simp only [List.getElem_toArray, List.getElem_cons_zero, List.getElem_cons_succ, Act.put, List.setIfInBounds_toArray, List.set_cons_zero, List.set_cons_succ]
      refine wpAnyH_take (i := 19) (v := ?v19) rfl (by kernel_rfl) (by kernel_rfl) (by kernel_rfl) (fun _ _ _ h => h) (Or.inl ⟨by kernel_rfl, ?y19⟩) (by assumption) ?r19
      case y19 => (intro w' hSw; (try dsimp only at hSw); go_split_ands; go_simp; try (with_reducible rfl))
      try simp only [List.getElem_toArray, List.getElem_cons_zero, List.getElem_cons_succ, Act.put, List.setIfInBounds_toArray, List.set_cons_zero, List.set_cons_succ]
      refine wpAnyH_take (i := 20) (v := ?v20) rfl (by kernel_rfl) (by kernel_rfl) (by kernel_rfl) (fun _ _ _ h => h) (Or.inl ⟨by kernel_rfl, ?y20⟩) (by assumption) ?r20
      case y20 => (intro w' hSw; (try dsimp only at hSw); go_split_ands; go_simp; try (with_reducible rfl))
      try simp only [List.getElem_toArray, List.getElem_cons_zero, List.getElem_cons_succ, Act.put, List.setIfInBounds_toArray, List.set_cons_zero, List.set_cons_succ]
      refine wpAnyH_take (i := 21) (v := ?v21) rfl (by kernel_rfl) (by kernel_rfl) (by kernel_rfl) (fun _ _ _ h => h) (Or.inl ⟨by kernel_rfl, ?y21⟩) (by assumption) ?r21
      case y21 => (intro w' hSw; (try dsimp only at hSw); go_split_ands; go_simp; try (with_reducible rfl))
      try simp only [List.getElem_toArray, List.getElem_cons_zero, List.getElem_cons_succ, Act.put, List.setIfInBounds_toArray, List.set_cons_zero, List.set_cons_succ]
      refine wpAnyH_take (i := 22) (v := ?v22) rfl (by kernel_rfl) (by kernel_rfl) (by kernel_rfl) (fun _ _ _ h => h) (Or.inl ⟨by kernel_rfl, ?y22⟩) (by assumption) ?r22
      case y22 => (intro w' hSw; (try dsimp only at hSw); go_split_ands; go_simp; try (with_reducible rfl))
      try simp only [List.getElem_toArray, List.getElem_cons_zero, List.getElem_cons_succ, Act.put, List.setIfInBounds_toArray, List.set_cons_zero, List.set_cons_succ]
      refine wpAnyH_take (i := 23) (v := ?v23) rfl (by kernel_rfl) (by kernel_rfl) (by kernel_rfl) (fun _ _ _ h => h) (Or.inl ⟨by kernel_rfl, ?y23⟩) (by assumption) ?r23
      case y23 => (intro w' hSw; (try dsimp only at hSw); go_split_ands; go_simp; try (with_reducible rfl))
      try simp only [List.getElem_toArray, List.getElem_cons_zero, List.getElem_cons_succ, Act.put, List.setIfInBounds_toArray, List.set_cons_zero, List.set_cons_succ]
      refine wpAnyH_take (i := 24) (v := ?v24) rfl (by kernel_rfl) (by kernel_rfl) (by kernel_rfl) (fun _ _ _ h => h) (Or.inl ⟨by kernel_rfl, ?y24⟩) (by assumption) ?r24
      case y24 => (intro w' hSw; (try dsimp only at hSw); go_split_ands; go_simp; try (with_reducible rfl))
      try simp only [List.getElem_toArray, List.getElem_cons_zero, List.getElem_cons_succ, Act.put, List.setIfInBounds_toArray, List.set_cons_zero, List.set_cons_succ]
      refine wpAnyH_take (i := 25) (v := ?v25) rfl (by kernel_rfl) (by kernel_rfl) (by kernel_rfl) (fun _ _ _ h => h) (Or.inl ⟨by kernel_rfl, ?y25⟩) (by assumption) ?r25
      case y25 => (intro w' hSw; (try dsimp only at hSw); go_split_ands; go_simp; try (with_reducible rfl))
      try simp only [List.getElem_toArray, List.getElem_cons_zero, List.getElem_cons_succ, Act.put, List.setIfInBounds_toArray, List.set_cons_zero, List.set_cons_succ]
      refine wpAnyH_take (i := 26) (v := ?v26) rfl (by kernel_rfl) (by kernel_rfl) (by kernel_rfl) (fun _ _ _ h => h) (Or.inl ⟨by kernel_rfl, ?y26⟩) (by assumption) ?r26
      case y26 => (intro w' hSw; (try dsimp only at hSw); go_split_ands; go_simp; try (with_reducible rfl))
      try simp only [List.getElem_toArray, List.getElem_cons_zero, List.getElem_cons_succ, Act.put, List.setIfInBounds_toArray, List.set_cons_zero, List.set_cons_succ]
      refine wpAnyH_ready (rs := [27]) (by kernel_rfl) (by simp) ?_
      refine AllReadyH.cons rfl (fun K hK => ?_) AllReadyH.nil
      go_simp
      (with_reducible refine (hb1 _).mono ?_)
      rintro e wj ⟨rfl, hbj⟩
      have hkj := KA.step hbj hka.drew
      have hSj : (wj).cell? ⟨s, 2, none⟩ = some (.int .i64 P.t) ∧ (wj).cell? ⟨s, 1, none⟩ = some (.int .i64 m) ∧ (wj).cell? ⟨s, 6, none⟩ = some (.bool false) ∧ (wj).cell? ⟨s, 7, none⟩ = some (.int .i64 lo.1) ∧ (wj).cell? ⟨s, 8, none⟩ = some (.int .i64 lo.2) ∧ (wj).cell? ⟨s, 9, none⟩ = some (.int .i64 hi.1) ∧ (wj).cell? ⟨s, 10, none⟩ = some (.int .i64 hi.2) ∧ (wj).cell? ⟨w.heap.size, 0, none⟩ = some (.int .i64 x.t) ∧ (wj).cell? ⟨n, 0, none⟩ = some (.int .i64 (x.v - P.v)) ∧ (wj).cell? ⟨n, 1, none⟩ = some (.int .i64 (x.t - P.t)) := ⟨(hkj).sp.cell 2, (hkj).sp.cell 1, (hkj).sp.cell 6, (hkj).sp.cell 7, (hkj).sp.cell 8, (hkj).sp.cell 9, (hkj).sp.cell 10, (hkj).bx.cell 0, (hkj).ln.cell 0, (hkj).ln.cell 1⟩
      go_wp2_with fail
      refine hK.out _ _ hSj (fun hHeld2 => ?_)
      clear hK K hHeld hbj
      try simp only [List.getElem_toArray, List.getElem_cons_zero, List.getElem_cons_succ, Act.put, List.setIfInBounds_toArray, List.set_cons_zero, List.set_cons_succ]
      refine wpAnyH_take (i := 28) (v := ?v28) rfl (by kernel_rfl) (by kernel_rfl) (by kernel_rfl) (fun _ _ _ h => h) (Or.inl ⟨by kernel_rfl, ?y28⟩) (by assumption) ?r28
      case y28 => (intro w' hSw; (try dsimp only at hSw); go_split_ands; go_simp; try (with_reducible rfl))
      try simp only [List.getElem_toArray, List.getElem_cons_zero, List.getElem_cons_succ, Act.put, List.setIfInBounds_toArray, List.set_cons_zero, List.set_cons_succ]
      refine wpAnyH_take (i := 29) (v := ?v29) rfl (by kernel_rfl) (by kernel_rfl) (by kernel_rfl) (fun _ _ _ h => h) (Or.inl ⟨by kernel_rfl, ?y29⟩) (by assumption) ?r29
      case y29 => (intro w' hSw; (try dsimp only at hSw); go_split_ands; go_simp; try (with_reducible rfl))
      try simp only [List.getElem_toArray, List.getElem_cons_zero, List.getElem_cons_succ, Act.put, List.setIfInBounds_toArray, List.set_cons_zero, List.set_cons_succ]
      refine wpAnyH_take (i := 30) (v := ?v30) rfl (by kernel_rfl) (by kernel_rfl) (by kernel_rfl) (fun _ _ _ h => h) (Or.inl ⟨by kernel_rfl, ?y30⟩) (by assumption) ?r30
      case y30 => (intro w' hSw; (try dsimp only at hSw); go_split_ands; go_simp; try (with_reducible rfl))
      try simp only [List.getElem_toArray, List.getElem_cons_zero, List.getElem_cons_succ, Act.put, List.setIfInBounds_toArray, List.set_cons_zero, List.set_cons_succ]
      refine wpAnyH_take (i := 31) (v := undef) rfl (by kernel_rfl) (by kernel_rfl) (by kernel_rfl) (fun _ _ _ h => h) (Or.inr ⟨by kernel_rfl, rfl⟩) (by assumption) ?r31
      try simp only [List.getElem_toArray, List.getElem_cons_zero, List.getElem_cons_succ, Act.put, List.setIfInBounds_toArray, List.set_cons_zero, List.set_cons_succ]
      refine wpAnyH_take (i := 32) (v := undef) rfl (by kernel_rfl) (by kernel_rfl) (by kernel_rfl) (fun _ _ _ h => h) (Or.inr ⟨by kernel_rfl, rfl⟩) (by assumption) ?r32
      try simp only [List.getElem_toArray, List.getElem_cons_zero, List.getElem_cons_succ, Act.put, List.setIfInBounds_toArray, List.set_cons_zero, List.set_cons_succ]
      refine wpAnyH_take (i := 33) (v := undef) rfl (by kernel_rfl) (by kernel_rfl) (by kernel_rfl) (fun _ _ _ h => h) (Or.inr ⟨by kernel_rfl, rfl⟩) (by assumption) ?r33
      try simp only [List.getElem_toArray, List.getElem_cons_zero, List.getElem_cons_succ, Act.put, List.setIfInBounds_toArray, List.set_cons_zero, List.set_cons_succ]
      refine wpAnyH_take (i := 34) (v := undef) rfl (by kernel_rfl) (by kernel_rfl) (by kernel_rfl) (fun _ _ _ h => h) (Or.inr ⟨by kernel_rfl, rfl⟩) (by assumption) ?r34
      try simp only [List.getElem_toArray, List.getElem_cons_zero, List.getElem_cons_succ, Act.put, List.setIfInBounds_toArray, List.set_cons_zero, List.set_cons_succ]
      refine wpAnyH_take (i := 35) (v := undef) rfl (by kernel_rfl) (by kernel_rfl) (by kernel_rfl) (fun _ _ _ h => h) (Or.inr ⟨by kernel_rfl, rfl⟩) (by assumption) ?r35
      try simp only [List.getElem_toArray, List.getElem_cons_zero, List.getElem_cons_succ, Act.put, List.setIfInBounds_toArray, List.set_cons_zero, List.set_cons_succ]
      refine wpAnyH_take (i := 36) (v := undef) rfl (by kernel_rfl) (by kernel_rfl) (by kernel_rfl) (fun _ _ _ h => h) (Or.inr ⟨by kernel_rfl, rfl⟩) (by assumption) ?r36
      try simp only [List.getElem_toArray, List.getElem_cons_zero, List.getElem_cons_succ, Act.put, List.setIfInBounds_toArray, List.set_cons_zero, List.set_cons_succ]
      refine wpAnyH_take (i := 37) (v := undef) rfl (by kernel_rfl) (by kernel_rfl) (by kernel_rfl) (fun _ _ _ h => h) (Or.inr ⟨by kernel_rfl, rfl⟩) (by assumption) ?r37
      try simp only [List.getElem_toArray, List.getElem_cons_zero, List.getElem_cons_succ, Act.put, List.setIfInBounds_toArray, List.set_cons_zero, List.set_cons_succ]
      refine wpAnyH_take (i := 38) (v := ?v38) rfl (by kernel_rfl) (by kernel_rfl) (by kernel_rfl) (fun _ _ _ h => h) (Or.inl ⟨by kernel_rfl, ?y38⟩) (by assumption) ?r38
      case y38 => (intro w' hSw; (try dsimp only at hSw); go_split_ands; go_simp; try (with_reducible rfl))
      try simp only [List.getElem_toArray, List.getElem_cons_zero, List.getElem_cons_succ, Act.put, List.setIfInBounds_toArray, List.set_cons_zero, List.set_cons_succ]
      refine wpAnyH_take (i := 39) (v := ?v39) rfl (by kernel_rfl) (by kernel_rfl) (by kernel_rfl) (fun _ _ _ h => h) (Or.inl ⟨by kernel_rfl, ?y39⟩) (by assumption) ?r39
      case y39 => (intro w' hSw; (try dsimp only at hSw); go_split_ands; go_simp; try (with_reducible rfl))
      try simp only [List.getElem_toArray, List.getElem_cons_zero, List.getElem_cons_succ, Act.put, List.setIfInBounds_toArray, List.set_cons_zero, List.set_cons_succ]
      refine wpAnyH_done (by kernel_rfl) ?_ _
      go_wp2_with fail
      go_ret
      exact ⟨ret_bool HE.out.symm, hkj.bl⟩
  · have hL' : decide (x.t - P.t ≤ m) = false := by simpa using hL
    have HE := Lib.hid (show accI m P x lo hi = false by rw [HA.out, hL']; rfl)
    clear HA hb1 hb2
    have c1 : wb.cell? ⟨s, 6, none⟩ = some (.bool false) := hka.sp.cell 6
    have c2 : wb.cell? ⟨s, 2, none⟩ = some (.int .i64 P.t) := hka.sp.cell 2
    have c3 : wb.cell? ⟨s, 1, none⟩ = some (.int .i64 m) := hka.sp.cell 1
    have c4 : wb.cell? ⟨w.heap.size, 0, none⟩ = some (.int .i64 x.t) := hka.bx.cell 0
    clear hS0 tok1
    go_quiet (fail)
    go_wp2_with fail
    go_ret
    exact ⟨ret_bool HE.out.symm, bdrewN hka.bl _⟩
end Go.Proofs.Ytmcojidaimeijaa

/- The contract of add of a span (package compress). -/

namespace Go.Proofs.Ytmcojidaimeijaa
open Go.RowKit
set_option linter.unusedVariables false
set_option linter.unusedSimpArgs false

set_option maxRecDepth 100000 in
set_option maxHeartbeats 2000000 in
theorem spanAdd_any (s : Nat) (d m : Int) (P x : Smp) (b : Bool) (lo hi : Int × Int) (w : World) (hs : Blk w s 162 (spanCells d m P b false lo hi)) (hP : FitP P) (hx : FitP x) (hq : x.q = P.q) (hd : 0 ≤ d ∧ d ≤ 2000000) (hlo : FitS lo) (hhi : FitS hi) :
    Calls Try.prog 108 #[.pointer (some ⟨s, 0, none⟩), .agg #[.int .i64 x.t, .int .i64 x.v, .int .i64 x.q]] w fun e w' => e = .returned (.bool (!b || accI m P x lo hi)) ∧
      Blk w' s 162 (spanCells d m P true false (lowN b lo (x.v + -d - P.v, x.t - P.t)) (highN b hi (x.v + d - P.v, x.t - P.t))) ∧ But s w w' := by
  have hk : KN w s w.heap.size (spanCells d m P b false lo hi) x (w.alloc (.cells #[.int .i64 x.t, .int .i64 x.v, .int .i64 x.q] 57)) :=
    ⟨hs.alloc _, Blk.new _ _ _, (Below.refl _ w).alloc (Nat.le_refl _) _⟩
  have hsw : s < w.heap.size := hs.lt
  have hqq : (x.q != P.q) = false := by rw [hq]; simp
  clear hs hq
  go_enter Try.func108, Try.ntmps108
  go_wp2_with fail
  generalize w.alloc (.cells #[.int .i64 x.t, .int .i64 x.v, .int .i64 x.q] 57) = wa at *
  have c4 : wa.cell? ⟨s, 4, none⟩ = some (.int .i64 P.q) := hk.sp.cell 4
  have c6 : wa.cell? ⟨s, 6, none⟩ = some (.bool false) := hk.sp.cell 6
  have f6 : wa.frozen? ⟨s, 6, none⟩ = false := hk.sp.frozen 6
  have a2 : wa.cell? ⟨w.heap.size, 2, none⟩ = some (.int .i64 x.q) := hk.bx.cell 2
  have hne : w.heap.size ≠ s := by omega
  go_region
  go_upto_region 2 with fail
  have hsp2 : Blk ((wa.setCell ⟨s, 6, none⟩ (.bool false)).drew) s 162 (spanCells d m P b false lo hi) := (hk.sp.set_ 6 (.bool false)).drew
  have hbx2 : Blk ((wa.setCell ⟨s, 6, none⟩ (.bool false)).drew) w.heap.size 57 #[.int .i64 x.t, .int .i64 x.v, .int .i64 x.q] := (hk.bx.setOther hne _).drew
  have hbt2 : But s w ((wa.setCell ⟨s, 6, none⟩ (.bool false)).drew) := (((But.refl s w).below hk.bl).setCell (.inl rfl) _).drew
  generalize (wa.setCell ⟨s, 6, none⟩ (.bool false)).drew = wb at *
  clear hk c4 c6 f6 a2
  have c5 : wb.cell? ⟨s, 5, none⟩ = some (.bool b) := hsp2.cell 5
  have a0 : wb.cell? ⟨w.heap.size, 0, none⟩ = some (.int .i64 x.t) := hbx2.cell 0
  have a1 : wb.cell? ⟨w.heap.size, 1, none⟩ = some (.int .i64 x.v) := hbx2.cell 1
  have a2 : wb.cell? ⟨w.heap.size, 2, none⟩ = some (.int .i64 x.q) := hbx2.cell 2
  cases b
  · have hnr := fun (w : World) (h : Blk w s 162 (spanCells d m P false false lo hi)) => narrow_any s d m P x false false lo hi w h hP hx hd hlo hhi
    have HP := Lib.hid (And.intro hP (And.intro hx (And.intro hlo hhi)))
    clear hP hx hlo hhi
    go_wp2_with fail
    refine (hnr _ hsp2).mono ?_
    rintro e wc ⟨rfl, hsp3, hbt3⟩
    clear hnr
    go_wp2_with fail
    go_ret
    exact ⟨rfl, hsp3, hbt2.trans hbt3⟩
  · have hac := fun (w : World) (h : Blk w s 162 (spanCells d m P true false lo hi)) => accepts_any s d m P x true lo hi w h hP hx hlo hhi
    have hnr := fun (w : World) (h : Blk w s 162 (spanCells d m P true false lo hi)) => narrow_any s d m P x true false lo hi w h hP hx hd hlo hhi
    have HP := Lib.hid (And.intro hP (And.intro hx (And.intro hlo hhi)))
    clear hP hx hlo hhi
    go_wp2_with fail
    refine (hac _ hsp2).mono ?_
    rintro e wc ⟨rfl, hbc⟩
    have hsp3 := hsp2.below hbc hsp2.lt
    have hbx3 := hbx2.below hbc hbx2.lt
    have b0 : wc.cell? ⟨w.heap.size, 0, none⟩ = some (.int .i64 x.t) := hbx3.cell 0
    have b1 : wc.cell? ⟨w.heap.size, 1, none⟩ = some (.int .i64 x.v) := hbx3.cell 1
    have b2 : wc.cell? ⟨w.heap.size, 2, none⟩ = some (.int .i64 x.q) := hbx3.cell 2
    have hbt3 := hbt2.below hbc
    clear hac hbc a0 a1 a2 c5 hsp2 hbx2 hbt2
    go_wp2_with fail
    refine (hnr _ hsp3).mono ?_
    rintro e wd ⟨rfl, hsp4, hbt4⟩
    clear hnr
    go_wp2_with fail
    go_ret
    exact ⟨rfl, hsp4, hbt3.trans hbt4⟩
end Go.Proofs.Ytmcojidaimeijaa

/- The contracts of a compressor's holds and process (package compress). -/

namespace Go.Proofs.Ytmcojidaimeijaa
open Go.RowKit
set_option linter.unusedVariables false
set_option linter.unusedSimpArgs false

def compCells (d m : Int) (sp : Option Addr) (H : Smp) : Array Value := #[.int .i64 d, .int .i64 m, .pointer sp, .int .i64 H.t, .int .i64 H.v, .int .i64 H.q]
/-- Nothing but the blocks c and s has turned. -/
structure But2 (c s : Nat) (w w' : World) : Prop where
  os : w'.os = w.os
  tape : w'.tape = w.tape
  output : w'.output = w.output
  size : w.heap.size ≤ w'.heap.size
  block : ∀ b, b < w.heap.size → b ≠ c → b ≠ s → w'.heap[b]? = w.heap[b]?
theorem But2.of_but {c s g : Nat} {w w' : World} (h : But g w w') (hg : g = c ∨ g = s) : But2 c s w w' :=
  ⟨h.os, h.tape, h.output, h.size, fun b h1 h2 h3 => h.block b h1 (by rcases hg with rfl | rfl <;> assumption)⟩
theorem But2.of_below {c s : Nat} {w w' : World} (h : Below w.heap.size w w') : But2 c s w w' := ⟨h.os, h.tape, h.output, h.size, fun b h1 _ _ => h.block b h1⟩
theorem But2.trans {c s : Nat} {a b d : World} (h : But2 c s a b) (k : But2 c s b d) : But2 c s a d :=
  ⟨k.os.trans h.os, k.tape.trans h.tape, k.output.trans h.output, Nat.le_trans h.size k.size, fun i hi hc hs => (k.block i (Nat.lt_of_lt_of_le hi h.size) hc hs).trans (h.block i hi hc hs)⟩
theorem But2.fresh {c s g : Nat} {a b d : World} (h : But2 c s a b) (k : But2 c g b d) (hg : a.heap.size ≤ g) : But2 c s a d :=
  ⟨k.os.trans h.os, k.tape.trans h.tape, k.output.trans h.output, Nat.le_trans h.size k.size, fun i hi hc hs => (k.block i (Nat.lt_of_lt_of_le hi h.size) hc (by omega)).trans (h.block i hi hc hs)⟩

set_option maxRecDepth 100000 in
set_option maxHeartbeats 400000 in
theorem holds_none (c : Nat) (d m : Int) (H : Smp) (w : World) (hc : Blk w c 119 (compCells d m none H)) :
    Calls Try.prog 71 #[.pointer (some ⟨c, 0, none⟩)] w fun e w' => e = .returned (.bool false) ∧ w = w' := by
  have c2 : w.cell? ⟨c, 2, none⟩ = some (.pointer none) := hc.cell 2
  clear hc
  go_enter Try.func71, Try.ntmps71
  go_wp2_with fail
  go_ret
  exact ⟨rfl, rfl⟩
set_option maxRecDepth 100000 in
set_option maxHeartbeats 400000 in
theorem holds_some (c s : Nat) (d m : Int) (H P : Smp) (b : Bool) (lo hi : Int × Int) (w : World) (hc : Blk w c 119 (compCells d m (some ⟨s, 0, none⟩) H)) (hs : Blk w s 162 (spanCells d m P b false lo hi)) :
    Calls Try.prog 71 #[.pointer (some ⟨c, 0, none⟩)] w fun e w' => e = .returned (.bool b) ∧ w = w' := by
  have c2 : w.cell? ⟨c, 2, none⟩ = some (.pointer (some ⟨s, 0, none⟩)) := hc.cell 2
  have s5 : w.cell? ⟨s, 5, none⟩ = some (.bool b) := hs.cell 5
  clear hc hs
  go_enter Try.func71, Try.ntmps71
  go_wp2_with fail
  go_ret
  exact ⟨rfl, rfl⟩

/-- What process keeps: the compressor, the sample. -/
structure KP (w0 : World) (c bx : Nat) (cc : Array Value) (x : Smp) (w : World) : Prop where
  cp : Blk w c 119 cc
  bx : Blk w bx 57 #[.int .i64 x.t, .int .i64 x.v, .int .i64 x.q]
  bl : Below w0.heap.size w0 w
theorem KP.step {w0 w w' : World} {c bx : Nat} {cc : Array Value} {x : Smp} (hb : Below w.heap.size w w') (h : KP w0 c bx cc x w) : KP w0 c bx cc x w' :=
  ⟨h.cp.below hb h.cp.lt, h.bx.below hb h.bx.lt, h.bl.trans (hb.mono h.bl.size)⟩
theorem KP.drew {w0 w : World} {c bx : Nat} {cc : Array Value} {x : Smp} (h : KP w0 c bx cc x w) : KP w0 c bx cc x w.drew := h.step (w' := w.drew) (show Below w.heap.size w w.drew from ⟨rfl, rfl, rfl, Nat.le_refl _, fun _ _ => rfl⟩)
theorem KP.drewN {w0 w : World} {c bx : Nat} {cc : Array Value} {x : Smp} (h : KP w0 c bx cc x w) (n : Nat) : KP w0 c bx cc x (w.drewN n) := h.step (w' := w.drewN n) (show Below w.heap.size w (w.drewN n) from ⟨rfl, rfl, rfl, Nat.le_refl _, fun _ _ => rfl⟩)

set_option maxRecDepth 100000 in
set_option maxHeartbeats 2000000 in
/-- The first sample. -/
theorem process_none (c : Nat) (d m : Int) (H x : Smp) (w : World) (hc : Blk w c 119 (compCells d m none H)) :
    Calls Try.prog 70 #[.pointer (some ⟨c, 0, none⟩), .agg #[.int .i64 x.t, .int .i64 x.v, .int .i64 x.q]] w fun e w' => ∃ g, e = .returned (.tuple #[.bool false, .bool true]) ∧ w.heap.size ≤ g ∧
      Blk w' c 119 (compCells d m (some ⟨g, 0, none⟩) x) ∧ Blk w' g 162 (spanCells d m x false false (0, 0) (0, 0)) ∧ But c w w' := by
  have hk : KP w c w.heap.size (compCells d m none H) x (w.alloc (.cells #[.int .i64 x.t, .int .i64 x.v, .int .i64 x.q] 57)) :=
    ⟨hc.alloc _, Blk.new _ _ _, (Below.refl _ w).alloc (Nat.le_refl _) _⟩
  have hcw : c < w.heap.size := hc.lt
  have hne : w.heap.size ≠ c := by omega
  clear hc
  go_enter Try.func70, Try.ntmps70
  go_wp2_with fail
  generalize w.alloc (.cells #[.int .i64 x.t, .int .i64 x.v, .int .i64 x.q] 57) = wa at *
  have c2 : wa.cell? ⟨c, 2, none⟩ = some (.pointer none) := hk.cp.cell 2
  go_quiet (fail)
  go_upto_region 3 with (go_at_call 71; refine (holds_none c d m H _ (hk.drewN _).cp).mono ?_; rintro e w' ⟨rfl, rfl⟩)
  have hkb := hk.drewN nq
  generalize wa.drewN nq = wb at *
  have hS0 : (wb.drew).cell? ⟨c, 0, none⟩ = some (.int .i64 d) ∧ (wb.drew).cell? ⟨c, 1, none⟩ = some (.int .i64 m) ∧ (wb.drew).cell? ⟨w.heap.size, 0, none⟩ = some (.int .i64 x.t) ∧ (wb.drew).cell? ⟨w.heap.size, 1, none⟩ = some (.int .i64 x.v) ∧ (wb.drew).cell? ⟨w.heap.size, 2, none⟩ = some (.int .i64 x.q) := ⟨(hkb.drew).cp.cell 0, (hkb.drew).cp.cell 1, (hkb.drew).bx.cell 0, (hkb.drew).bx.cell 1, (hkb.drew).bx.cell 2⟩
  go_region_held3 (fun w' => (w').cell? ⟨c, 0, none⟩ = some (.int .i64 d) ∧ (w').cell? ⟨c, 1, none⟩ = some (.int .i64 m) ∧ (w').cell? ⟨w.heap.size, 0, none⟩ = some (.int .i64 x.t) ∧ (w').cell? ⟨w.heap.size, 1, none⟩ = some (.int .i64 x.v) ∧ (w').cell? ⟨w.heap.size, 2, none⟩ = some (.int .i64 x.q))
    (first | with_reducible exact hSp _ | with_reducible exact hSk | with_reducible exact hS0)
    (first
    | (go_at_call 107; (with_reducible refine (newSpan_any d m x _).mono ?_); rintro e wk ⟨g, rfl, hg, hzg, hbk⟩; have hkk := KP.step hbk hkb.drew; have hSk : (wk).cell? ⟨c, 0, none⟩ = some (.int .i64 d) ∧ (wk).cell? ⟨c, 1, none⟩ = some (.int .i64 m) ∧ (wk).cell? ⟨w.heap.size, 0, none⟩ = some (.int .i64 x.t) ∧ (wk).cell? ⟨w.heap.size, 1, none⟩ = some (.int .i64 x.v) ∧ (wk).cell? ⟨w.heap.size, 2, none⟩ = some (.int .i64 x.q) := ⟨(hkk).cp.cell 0, (hkk).cp.cell 1, (hkk).bx.cell 0, (hkk).bx.cell 1, (hkk).bx.cell 2⟩; have k2 : wk.cell? ⟨c, 2, none⟩ = some (.pointer none) := hkk.cp.cell 2; have f2 : wk.frozen? ⟨c, 2, none⟩ = false := hkk.cp.frozen 2; have hbt := (But.refl c w).below hkk.bl; have hcs := hkk.cp.set_ 2 (.pointer (some ⟨g, 0, none⟩)); have hbs := hkk.bx.setOther (p := ⟨c, 2, none⟩) hne (.pointer (some ⟨g, 0, none⟩)); have hSp : ∀ u, (wk.setCell ⟨c, 2, none⟩ u).cell? ⟨c, 0, none⟩ = some (.int .i64 d) ∧ (wk.setCell ⟨c, 2, none⟩ u).cell? ⟨c, 1, none⟩ = some (.int .i64 m) ∧ (wk.setCell ⟨c, 2, none⟩ u).cell? ⟨w.heap.size, 0, none⟩ = some (.int .i64 x.t) ∧ (wk.setCell ⟨c, 2, none⟩ u).cell? ⟨w.heap.size, 1, none⟩ = some (.int .i64 x.v) ∧ (wk.setCell ⟨c, 2, none⟩ u).cell? ⟨w.heap.size, 2, none⟩ = some (.int .i64 x.q) := fun u => ⟨(hkk.cp.set_ 2 u).cell 0, (hkk.cp.set_ 2 u).cell 1, (hkk.bx.setOther hne u).cell 0, (hkk.bx.setOther hne u).cell 1, (hkk.bx.setOther hne u).cell 2⟩; clear hbk))

  have hgw : w.heap.size ≤ g := Nat.le_trans hkb.bl.size hg
  have hgc : g ≠ c := by omega
  have hzs := hzg.setOther (p := ⟨c, 2, none⟩) hgc (.pointer (some ⟨g, 0, none⟩))
  have hbtl := hbt.setCell (p := ⟨c, 2, none⟩) (.inl rfl) (.pointer (some ⟨g, 0, none⟩))
  go_upto_region 8 with fail
  generalize wk.setCell ⟨c, 2, none⟩ (.pointer (some ⟨g, 0, none⟩)) = wl at *
  have hcl : Blk wl c 119 (compCells d m (some ⟨g, 0, none⟩) H) := hcs
  have e3 : wl.cell? ⟨c, 3, none⟩ = some (.int .i64 H.t) := hcl.cell 3
  have e4 : wl.cell? ⟨c, 4, none⟩ = some (.int .i64 H.v) := hcl.cell 4
  have e5 : wl.cell? ⟨c, 5, none⟩ = some (.int .i64 H.q) := hcl.cell 5
  have g3 : wl.frozen? ⟨c, 3, none⟩ = false := hcl.frozen 3
  have g4 : wl.frozen? ⟨c, 4, none⟩ = false := hcl.frozen 4
  have g5 : wl.frozen? ⟨c, 5, none⟩ = false := hcl.frozen 5
  have y0 : wl.cell? ⟨w.heap.size, 0, none⟩ = some (.int .i64 x.t) := hbs.cell 0
  have y1 : wl.cell? ⟨w.heap.size, 1, none⟩ = some (.int .i64 x.v) := hbs.cell 1
  have y2 : wl.cell? ⟨w.heap.size, 2, none⟩ = some (.int .i64 x.q) := hbs.cell 2
  clear k2 f2 hSk hS0 hSp hkk hkb
  go_wp2_with fail
  go_ret2
  refine ⟨_, rfl, hgw, ((hcl.set_ 3 (.int .i64 x.t)).set_ 4 (.int .i64 x.v)).set_ 5 (.int .i64 x.q), ?_, ?_⟩
  · exact ((hzs.setOther hgc _).setOther hgc _).setOther hgc _
  · exact ((hbtl.setCell (.inl rfl) _).setCell (.inl rfl) _).setCell (.inl rfl) _

set_option maxRecDepth 100000 in
set_option maxHeartbeats 2000000 in
/-- Another quality. -/
theorem process_qual (c s : Nat) (d m : Int) (H P x : Smp) (b : Bool) (lo hi : Int × Int) (w : World) (hc : Blk w c 119 (compCells d m (some ⟨s, 0, none⟩) H)) (hs : Blk w s 162 (spanCells d m P b false lo hi)) (hq : P.q ≠ x.q) :
    Calls Try.prog 70 #[.pointer (some ⟨c, 0, none⟩), .agg #[.int .i64 x.t, .int .i64 x.v, .int .i64 x.q]] w fun e w' => ∃ g, e = .returned (.tuple #[.bool b, .bool true]) ∧ w.heap.size ≤ g ∧
      Blk w' c 119 (compCells d m (some ⟨g, 0, none⟩) x) ∧ Blk w' g 162 (spanCells d m x false false (0, 0) (0, 0)) ∧ But c w w' := by
  have hk : KP w c w.heap.size (compCells d m (some ⟨s, 0, none⟩) H) x (w.alloc (.cells #[.int .i64 x.t, .int .i64 x.v, .int .i64 x.q] 57)) :=
    ⟨hc.alloc _, Blk.new _ _ _, (Below.refl _ w).alloc (Nat.le_refl _) _⟩
  have hs2 := hs.alloc (.cells #[.int .i64 x.t, .int .i64 x.v, .int .i64 x.q] 57)
  have hcw : c < w.heap.size := hc.lt
  have hne : w.heap.size ≠ c := by omega
  have hqq : (P.q != x.q) = true := by simpa using hq
  clear hc hs hq
  go_enter Try.func70, Try.ntmps70
  go_wp2_with fail
  generalize w.alloc (.cells #[.int .i64 x.t, .int .i64 x.v, .int .i64 x.q] 57) = wa at *
  have c2 : wa.cell? ⟨c, 2, none⟩ = some (.pointer (some ⟨s, 0, none⟩)) := hk.cp.cell 2
  have s4 : wa.cell? ⟨s, 4, none⟩ = some (.int .i64 P.q) := hs2.cell 4
  have a2 : wa.cell? ⟨w.heap.size, 2, none⟩ = some (.int .i64 x.q) := hk.bx.cell 2
  go_quiet (fail)
  go_upto_region 3 with (go_at_call 71; refine (holds_some c s d m H P b lo hi _ (hk.drewN _).cp (hs2.drewN _)).mono ?_; rintro e w' ⟨rfl, rfl⟩)
  clear s4 a2 c2
  have hkb := hk.drewN nq
  generalize wa.drewN nq = wb at *
  have hS0 : (wb.drew).cell? ⟨c, 0, none⟩ = some (.int .i64 d) ∧ (wb.drew).cell? ⟨c, 1, none⟩ = some (.int .i64 m) ∧ (wb.drew).cell? ⟨w.heap.size, 0, none⟩ = some (.int .i64 x.t) ∧ (wb.drew).cell? ⟨w.heap.size, 1, none⟩ = some (.int .i64 x.v) ∧ (wb.drew).cell? ⟨w.heap.size, 2, none⟩ = some (.int .i64 x.q) := ⟨(hkb.drew).cp.cell 0, (hkb.drew).cp.cell 1, (hkb.drew).bx.cell 0, (hkb.drew).bx.cell 1, (hkb.drew).bx.cell 2⟩
  go_region_held3 (fun w' => (w').cell? ⟨c, 0, none⟩ = some (.int .i64 d) ∧ (w').cell? ⟨c, 1, none⟩ = some (.int .i64 m) ∧ (w').cell? ⟨w.heap.size, 0, none⟩ = some (.int .i64 x.t) ∧ (w').cell? ⟨w.heap.size, 1, none⟩ = some (.int .i64 x.v) ∧ (w').cell? ⟨w.heap.size, 2, none⟩ = some (.int .i64 x.q))
    (first | with_reducible exact hSp _ | with_reducible exact hSk | with_reducible exact hS0)
    (first
    | (go_at_call 107; (with_reducible refine (newSpan_any d m x _).mono ?_); rintro e wk ⟨g, rfl, hg, hzg, hbk⟩; have hkk := KP.step hbk hkb.drew; have hSk : (wk).cell? ⟨c, 0, none⟩ = some (.int .i64 d) ∧ (wk).cell? ⟨c, 1, none⟩ = some (.int .i64 m) ∧ (wk).cell? ⟨w.heap.size, 0, none⟩ = some (.int .i64 x.t) ∧ (wk).cell? ⟨w.heap.size, 1, none⟩ = some (.int .i64 x.v) ∧ (wk).cell? ⟨w.heap.size, 2, none⟩ = some (.int .i64 x.q) := ⟨(hkk).cp.cell 0, (hkk).cp.cell 1, (hkk).bx.cell 0, (hkk).bx.cell 1, (hkk).bx.cell 2⟩; have k2 : wk.cell? ⟨c, 2, none⟩ = some (.pointer (some ⟨s, 0, none⟩)) := hkk.cp.cell 2; have f2 : wk.frozen? ⟨c, 2, none⟩ = false := hkk.cp.frozen 2; have hbt := (But.refl c w).below hkk.bl; have hcs := hkk.cp.set_ 2 (.pointer (some ⟨g, 0, none⟩)); have hbs := hkk.bx.setOther (p := ⟨c, 2, none⟩) hne (.pointer (some ⟨g, 0, none⟩)); have hSp : ∀ u, (wk.setCell ⟨c, 2, none⟩ u).cell? ⟨c, 0, none⟩ = some (.int .i64 d) ∧ (wk.setCell ⟨c, 2, none⟩ u).cell? ⟨c, 1, none⟩ = some (.int .i64 m) ∧ (wk.setCell ⟨c, 2, none⟩ u).cell? ⟨w.heap.size, 0, none⟩ = some (.int .i64 x.t) ∧ (wk.setCell ⟨c, 2, none⟩ u).cell? ⟨w.heap.size, 1, none⟩ = some (.int .i64 x.v) ∧ (wk.setCell ⟨c, 2, none⟩ u).cell? ⟨w.heap.size, 2, none⟩ = some (.int .i64 x.q) := fun u => ⟨(hkk.cp.set_ 2 u).cell 0, (hkk.cp.set_ 2 u).cell 1, (hkk.bx.setOther hne u).cell 0, (hkk.bx.setOther hne u).cell 1, (hkk.bx.setOther hne u).cell 2⟩; clear hbk))

  have hgw : w.heap.size ≤ g := Nat.le_trans hkb.bl.size hg
  have hgc : g ≠ c := by omega
  have hzs := hzg.setOther (p := ⟨c, 2, none⟩) hgc (.pointer (some ⟨g, 0, none⟩))
  have hbtl := hbt.setCell (p := ⟨c, 2, none⟩) (.inl rfl) (.pointer (some ⟨g, 0, none⟩))
  go_upto_region 8 with fail
  generalize wk.setCell ⟨c, 2, none⟩ (.pointer (some ⟨g, 0, none⟩)) = wl at *
  have hcl : Blk wl c 119 (compCells d m (some ⟨g, 0, none⟩) H) := hcs
  have e3 : wl.cell? ⟨c, 3, none⟩ = some (.int .i64 H.t) := hcl.cell 3
  have e4 : wl.cell? ⟨c, 4, none⟩ = some (.int .i64 H.v) := hcl.cell 4
  have e5 : wl.cell? ⟨c, 5, none⟩ = some (.int .i64 H.q) := hcl.cell 5
  have g3 : wl.frozen? ⟨c, 3, none⟩ = false := hcl.frozen 3
  have g4 : wl.frozen? ⟨c, 4, none⟩ = false := hcl.frozen 4
  have g5 : wl.frozen? ⟨c, 5, none⟩ = false := hcl.frozen 5
  have y0 : wl.cell? ⟨w.heap.size, 0, none⟩ = some (.int .i64 x.t) := hbs.cell 0
  have y1 : wl.cell? ⟨w.heap.size, 1, none⟩ = some (.int .i64 x.v) := hbs.cell 1
  have y2 : wl.cell? ⟨w.heap.size, 2, none⟩ = some (.int .i64 x.q) := hbs.cell 2
  clear k2 f2 hSk hS0 hSp hkk hkb
  go_wp2_with fail
  go_ret2
  refine ⟨_, rfl, hgw, ((hcl.set_ 3 (.int .i64 x.t)).set_ 4 (.int .i64 x.v)).set_ 5 (.int .i64 x.q), ?_, ?_⟩
  · exact ((hzs.setOther hgc _).setOther hgc _).setOther hgc _
  · exact ((hbtl.setCell (.inl rfl) _).setCell (.inl rfl) _).setCell (.inl rfl) _
end Go.Proofs.Ytmcojidaimeijaa

/- The contract of a compressor's process at a sample of the same quality (package compress). -/

namespace Go.Proofs.Ytmcojidaimeijaa
open Go.RowKit
set_option linter.unusedVariables false
set_option linter.unusedSimpArgs false

theorem But2.set_ {c s : Nat} {w w' : World} (h : But2 c s w w') (i : Nat) (u : Value) : But2 c s w (w'.setCell ⟨c, i, none⟩ u) :=
  h.trans (But2.of_but ((But.refl c w').setCell (.inl rfl) u) (.inl rfl))

set_option maxRecDepth 100000 in
set_option maxHeartbeats 2000000 in
/-- It is accepted. -/
theorem process_open (c s : Nat) (d m : Int) (H P x : Smp) (b : Bool) (lo hi : Int × Int) (w : World) (hc : Blk w c 119 (compCells d m (some ⟨s, 0, none⟩) H)) (hs : Blk w s 162 (spanCells d m P b false lo hi)) (hq : x.q = P.q)
    (hP : FitP P) (hx : FitP x) (hd : 0 ≤ d ∧ d ≤ 2000000) (hlo : FitS lo) (hhi : FitS hi) (hB : (!b || accI m P x lo hi) = true) :
    Calls Try.prog 70 #[.pointer (some ⟨c, 0, none⟩), .agg #[.int .i64 x.t, .int .i64 x.v, .int .i64 x.q]] w fun e w' => e = .returned (.tuple #[.bool false, .bool false]) ∧
      Blk w' c 119 (compCells d m (some ⟨s, 0, none⟩) x) ∧ Blk w' s 162 (spanCells d m P true false (lowN b lo (x.v + -d - P.v, x.t - P.t)) (highN b hi (x.v + d - P.v, x.t - P.t))) ∧ But2 c s w w' := by
  have hk : KP w c w.heap.size (compCells d m (some ⟨s, 0, none⟩) H) x (w.alloc (.cells #[.int .i64 x.t, .int .i64 x.v, .int .i64 x.q] 57)) :=
    ⟨hc.alloc _, Blk.new _ _ _, (Below.refl _ w).alloc (Nat.le_refl _) _⟩
  have hs2 := hs.alloc (.cells #[.int .i64 x.t, .int .i64 x.v, .int .i64 x.q] 57)
  have hcw : c < w.heap.size := hc.lt
  have hsw : s < w.heap.size := hs.lt
  have hcs : c ≠ s := by
    rintro rfl
    exact hc.no (e := 162) (by decide) _ _ hs
  have hne : w.heap.size ≠ c := by omega
  have hns : w.heap.size ≠ s := by omega
  have hqq : (P.q != x.q) = false := by rw [hq]; simp
  have hadd := fun (w : World) (h : Blk w s 162 (spanCells d m P b false lo hi)) => spanAdd_any s d m P x b lo hi w h hP hx hq hd hlo hhi
  rw [hB] at hadd
  have HADD := Lib.hid hadd
  clear hc hs hq hadd hB
  go_enter Try.func70, Try.ntmps70
  go_wp2_with fail
  generalize w.alloc (.cells #[.int .i64 x.t, .int .i64 x.v, .int .i64 x.q] 57) = wa at *
  have c2 : wa.cell? ⟨c, 2, none⟩ = some (.pointer (some ⟨s, 0, none⟩)) := hk.cp.cell 2
  have s4 : wa.cell? ⟨s, 4, none⟩ = some (.int .i64 P.q) := hs2.cell 4
  have a2 : wa.cell? ⟨w.heap.size, 2, none⟩ = some (.int .i64 x.q) := hk.bx.cell 2
  go_quiet (fail)
  go_upto_region 4 with fail
  have hkb := hk.drewN nq
  have hsb := hs2.drewN nq
  generalize wa.drewN nq = wb at *
  clear c2 s4 a2 hk hs2
  have hS0 : (wb.drew).cell? ⟨c, 2, none⟩ = some (.pointer (some ⟨s, 0, none⟩)) ∧ (wb.drew).cell? ⟨w.heap.size, 0, none⟩ = some (.int .i64 x.t) ∧ (wb.drew).cell? ⟨w.heap.size, 1, none⟩ = some (.int .i64 x.v) ∧ (wb.drew).cell? ⟨w.heap.size, 2, none⟩ = some (.int .i64 x.q) := ⟨(hkb.drew).cp.cell 2, (hkb.drew).bx.cell 0, (hkb.drew).bx.cell 1, (hkb.drew).bx.cell 2⟩
  go_region_held3 (fun w' => (w').cell? ⟨c, 2, none⟩ = some (.pointer (some ⟨s, 0, none⟩)) ∧ (w').cell? ⟨w.heap.size, 0, none⟩ = some (.int .i64 x.t) ∧ (w').cell? ⟨w.heap.size, 1, none⟩ = some (.int .i64 x.v) ∧ (w').cell? ⟨w.heap.size, 2, none⟩ = some (.int .i64 x.q))
    (first | with_reducible exact hSk | with_reducible exact hS0)
    (first
    | (go_at_call 108; (with_reducible refine (HADD.out _ hsb.drew).mono ?_); rintro e wk ⟨rfl, hzk, hbk⟩; have hck := hkb.cp.drew.but hbk hcs; have hxk := hkb.bx.drew.but hbk hns; have hSk : (wk).cell? ⟨c, 2, none⟩ = some (.pointer (some ⟨s, 0, none⟩)) ∧ (wk).cell? ⟨w.heap.size, 0, none⟩ = some (.int .i64 x.t) ∧ (wk).cell? ⟨w.heap.size, 1, none⟩ = some (.int .i64 x.v) ∧ (wk).cell? ⟨w.heap.size, 2, none⟩ = some (.int .i64 x.q) := ⟨hck.cell 2, hxk.cell 0, hxk.cell 1, hxk.cell 2⟩; have hbt : But2 c s w wk := (But2.of_below (hkb.drew.bl)).trans (But2.of_but hbk (.inr rfl)); clear hbk))
  go_upto_region 8 with fail
  have e3 : wk.cell? ⟨c, 3, none⟩ = some (.int .i64 H.t) := hck.cell 3
  have e4 : wk.cell? ⟨c, 4, none⟩ = some (.int .i64 H.v) := hck.cell 4
  have e5 : wk.cell? ⟨c, 5, none⟩ = some (.int .i64 H.q) := hck.cell 5
  have g3 : wk.frozen? ⟨c, 3, none⟩ = false := hck.frozen 3
  have g4 : wk.frozen? ⟨c, 4, none⟩ = false := hck.frozen 4
  have g5 : wk.frozen? ⟨c, 5, none⟩ = false := hck.frozen 5
  have y0 : wk.cell? ⟨w.heap.size, 0, none⟩ = some (.int .i64 x.t) := hxk.cell 0
  have y1 : wk.cell? ⟨w.heap.size, 1, none⟩ = some (.int .i64 x.v) := hxk.cell 1
  have y2 : wk.cell? ⟨w.heap.size, 2, none⟩ = some (.int .i64 x.q) := hxk.cell 2
  clear hSk hS0 hkb
  go_wp2_with fail
  go_ret2
  refine ⟨rfl, ((hck.set_ 3 (.int .i64 x.t)).set_ 4 (.int .i64 x.v)).set_ 5 (.int .i64 x.q), ?_, ?_⟩
  · exact ((hzk.setOther hcs.symm _).setOther hcs.symm _).setOther hcs.symm _
  · exact ((hbt.set_ 3 _).set_ 4 _).set_ 5 _

set_option maxRecDepth 100000 in
set_option maxHeartbeats 4000000 in
/-- It is not accepted: the held sample is the new pivot. -/
theorem process_shut (c s : Nat) (d m : Int) (H P x : Smp) (b : Bool) (lo hi : Int × Int) (w : World) (hc : Blk w c 119 (compCells d m (some ⟨s, 0, none⟩) H)) (hs : Blk w s 162 (spanCells d m P b false lo hi)) (hq : x.q = P.q)
    (hP : FitP P) (hx : FitP x) (hd : 0 ≤ d ∧ d ≤ 2000000) (hlo : FitS lo) (hhi : FitS hi) (hB : (!b || accI m P x lo hi) = false) (hH : FitP H) (hHq : x.q = H.q) :
    Calls Try.prog 70 #[.pointer (some ⟨c, 0, none⟩), .agg #[.int .i64 x.t, .int .i64 x.v, .int .i64 x.q]] w fun e w' => ∃ g, e = .returned (.tuple #[.bool true, .bool false]) ∧ w.heap.size ≤ g ∧
      Blk w' c 119 (compCells d m (some ⟨g, 0, none⟩) x) ∧ Blk w' g 162 (spanCells d m H true false (x.v + -d - H.v, x.t - H.t) (x.v + d - H.v, x.t - H.t)) ∧ But2 c s w w' := by
  have hf0 : FitS (0, 0) := by unfold FitS; simp
  have hadd2 := fun (g : Nat) (w : World) (h : Blk w g 162 (spanCells d m H false false (0, 0) (0, 0))) => spanAdd_any g d m H x false (0, 0) (0, 0) w h hH hx hHq hd hf0 hf0
  have HADD2 := Lib.hid hadd2
  clear hadd2 hHq
  have hk : KP w c w.heap.size (compCells d m (some ⟨s, 0, none⟩) H) x (w.alloc (.cells #[.int .i64 x.t, .int .i64 x.v, .int .i64 x.q] 57)) :=
    ⟨hc.alloc _, Blk.new _ _ _, (Below.refl _ w).alloc (Nat.le_refl _) _⟩
  have hs2 := hs.alloc (.cells #[.int .i64 x.t, .int .i64 x.v, .int .i64 x.q] 57)
  have hcw : c < w.heap.size := hc.lt
  have hsw : s < w.heap.size := hs.lt
  have hcs : c ≠ s := by
    rintro rfl
    exact hc.no (e := 162) (by decide) _ _ hs
  have hne : w.heap.size ≠ c := by omega
  have hns : w.heap.size ≠ s := by omega
  have hqq : (P.q != x.q) = false := by rw [hq]; simp
  have hadd := fun (w : World) (h : Blk w s 162 (spanCells d m P b false lo hi)) => spanAdd_any s d m P x b lo hi w h hP hx hq hd hlo hhi
  rw [hB] at hadd
  have HADD := Lib.hid hadd
  clear hc hs hq hadd hB
  go_enter Try.func70, Try.ntmps70
  go_wp2_with fail
  generalize w.alloc (.cells #[.int .i64 x.t, .int .i64 x.v, .int .i64 x.q] 57) = wa at *
  have c2 : wa.cell? ⟨c, 2, none⟩ = some (.pointer (some ⟨s, 0, none⟩)) := hk.cp.cell 2
  have s4 : wa.cell? ⟨s, 4, none⟩ = some (.int .i64 P.q) := hs2.cell 4
  have a2 : wa.cell? ⟨w.heap.size, 2, none⟩ = some (.int .i64 x.q) := hk.bx.cell 2
  go_quiet (fail)
  go_upto_region 4 with fail
  have hkb := hk.drewN nq
  have hsb := hs2.drewN nq
  generalize wa.drewN nq = wb at *
  clear c2 s4 a2 hk hs2
  have hS0 : (wb.drew).cell? ⟨c, 2, none⟩ = some (.pointer (some ⟨s, 0, none⟩)) ∧ (wb.drew).cell? ⟨w.heap.size, 0, none⟩ = some (.int .i64 x.t) ∧ (wb.drew).cell? ⟨w.heap.size, 1, none⟩ = some (.int .i64 x.v) ∧ (wb.drew).cell? ⟨w.heap.size, 2, none⟩ = some (.int .i64 x.q) := ⟨(hkb.drew).cp.cell 2, (hkb.drew).bx.cell 0, (hkb.drew).bx.cell 1, (hkb.drew).bx.cell 2⟩
  go_region_held3 (fun w' => (w').cell? ⟨c, 2, none⟩ = some (.pointer (some ⟨s, 0, none⟩)) ∧ (w').cell? ⟨w.heap.size, 0, none⟩ = some (.int .i64 x.t) ∧ (w').cell? ⟨w.heap.size, 1, none⟩ = some (.int .i64 x.v) ∧ (w').cell? ⟨w.heap.size, 2, none⟩ = some (.int .i64 x.q))
    (first | with_reducible exact hSk | with_reducible exact hS0)
    (first
    | (go_at_call 108; (with_reducible refine (HADD.out _ hsb.drew).mono ?_); rintro e wk ⟨rfl, hzk, hbk⟩; have hck := hkb.cp.drew.but hbk hcs; have hxk := hkb.bx.drew.but hbk hns; have hSk : (wk).cell? ⟨c, 2, none⟩ = some (.pointer (some ⟨s, 0, none⟩)) ∧ (wk).cell? ⟨w.heap.size, 0, none⟩ = some (.int .i64 x.t) ∧ (wk).cell? ⟨w.heap.size, 1, none⟩ = some (.int .i64 x.v) ∧ (wk).cell? ⟨w.heap.size, 2, none⟩ = some (.int .i64 x.q) := ⟨hck.cell 2, hxk.cell 0, hxk.cell 1, hxk.cell 2⟩; have hbt : But2 c s w wk := (But2.of_below (hkb.drew.bl)).trans (But2.of_but hbk (.inr rfl)); clear hbk))
  go_upto_region 6 with fail
  have hSz0 : (wk.drew).cell? ⟨c, 0, none⟩ = some (.int .i64 d) ∧ (wk.drew).cell? ⟨c, 1, none⟩ = some (.int .i64 m) ∧ (wk.drew).cell? ⟨c, 3, none⟩ = some (.int .i64 H.t) ∧ (wk.drew).cell? ⟨c, 4, none⟩ = some (.int .i64 H.v) ∧ (wk.drew).cell? ⟨c, 5, none⟩ = some (.int .i64 H.q) := ⟨(hck.drew).cell 0, (hck.drew).cell 1, (hck.drew).cell 3, (hck.drew).cell 4, (hck.drew).cell 5⟩
  clear hSk hS0 hkb hsb HADD
  go_region_held3 (fun w' => (w').cell? ⟨c, 0, none⟩ = some (.int .i64 d) ∧ (w').cell? ⟨c, 1, none⟩ = some (.int .i64 m) ∧ (w').cell? ⟨c, 3, none⟩ = some (.int .i64 H.t) ∧ (w').cell? ⟨c, 4, none⟩ = some (.int .i64 H.v) ∧ (w').cell? ⟨c, 5, none⟩ = some (.int .i64 H.q))
    (first | with_reducible exact hSp _ | with_reducible exact hSm | with_reducible exact hSz0)
    (first
    | (go_at_call 107; (with_reducible refine (newSpan_any d m H _).mono ?_); rintro e wm ⟨g, rfl, hg, hzg, hbm⟩; have hcm := hck.drew.below hbm hck.drew.lt; have hxm := hxk.drew.below hbm hxk.drew.lt; have hSm : (wm).cell? ⟨c, 0, none⟩ = some (.int .i64 d) ∧ (wm).cell? ⟨c, 1, none⟩ = some (.int .i64 m) ∧ (wm).cell? ⟨c, 3, none⟩ = some (.int .i64 H.t) ∧ (wm).cell? ⟨c, 4, none⟩ = some (.int .i64 H.v) ∧ (wm).cell? ⟨c, 5, none⟩ = some (.int .i64 H.q) := ⟨(hcm).cell 0, (hcm).cell 1, (hcm).cell 3, (hcm).cell 4, (hcm).cell 5⟩; have k2 : wm.cell? ⟨c, 2, none⟩ = some (.pointer (some ⟨s, 0, none⟩)) := hcm.cell 2; have f2 : wm.frozen? ⟨c, 2, none⟩ = false := hcm.frozen 2; have hSp : ∀ u, (wm.setCell ⟨c, 2, none⟩ u).cell? ⟨c, 0, none⟩ = some (.int .i64 d) ∧ (wm.setCell ⟨c, 2, none⟩ u).cell? ⟨c, 1, none⟩ = some (.int .i64 m) ∧ (wm.setCell ⟨c, 2, none⟩ u).cell? ⟨c, 3, none⟩ = some (.int .i64 H.t) ∧ (wm.setCell ⟨c, 2, none⟩ u).cell? ⟨c, 4, none⟩ = some (.int .i64 H.v) ∧ (wm.setCell ⟨c, 2, none⟩ u).cell? ⟨c, 5, none⟩ = some (.int .i64 H.q) := fun u => ⟨(hcm.set_ 2 u).cell 0, (hcm.set_ 2 u).cell 1, (hcm.set_ 2 u).cell 3, (hcm.set_ 2 u).cell 4, (hcm.set_ 2 u).cell 5⟩; have hbtm : But2 c s w wm := hbt.trans (But2.of_below ⟨hbm.os, hbm.tape, hbm.output, hbm.size, hbm.block⟩); clear hbm))
  have hgw : w.heap.size ≤ g := Nat.le_trans hbt.size hg
  have hgc : g ≠ c := by omega
  have hgx : w.heap.size ≠ g := by
    rintro rfl
    exact hxm.no (e := 162) (by decide) _ _ hzg
  have hcn := hcm.set_ 2 (.pointer (some ⟨g, 0, none⟩))
  have hzn := hzg.setOther (p := ⟨c, 2, none⟩) hgc (.pointer (some ⟨g, 0, none⟩))
  have hxn := hxm.setOther (p := ⟨c, 2, none⟩) hne (.pointer (some ⟨g, 0, none⟩))
  have hbtn := hbtm.set_ 2 (.pointer (some ⟨g, 0, none⟩))
  clear k2 f2 hSm hSp hSz0 hcm hzg hxm hbtm hck hxk hzk hbt
  go_upto_region 7 with fail
  generalize wm.setCell ⟨c, 2, none⟩ (.pointer (some ⟨g, 0, none⟩)) = wn at *
  have hcn' : Blk wn c 119 (compCells d m (some ⟨g, 0, none⟩) H) := hcn
  clear hcn
  have hSn0 : (wn.drew).cell? ⟨c, 2, none⟩ = some (.pointer (some ⟨g, 0, none⟩)) ∧ (wn.drew).cell? ⟨w.heap.size, 0, none⟩ = some (.int .i64 x.t) ∧ (wn.drew).cell? ⟨w.heap.size, 1, none⟩ = some (.int .i64 x.v) ∧ (wn.drew).cell? ⟨w.heap.size, 2, none⟩ = some (.int .i64 x.q) := ⟨hcn'.drew.cell 2, hxn.drew.cell 0, hxn.drew.cell 1, hxn.drew.cell 2⟩
  go_region_held3 (fun w' => (w').cell? ⟨c, 2, none⟩ = some (.pointer (some ⟨g, 0, none⟩)) ∧ (w').cell? ⟨w.heap.size, 0, none⟩ = some (.int .i64 x.t) ∧ (w').cell? ⟨w.heap.size, 1, none⟩ = some (.int .i64 x.v) ∧ (w').cell? ⟨w.heap.size, 2, none⟩ = some (.int .i64 x.q))
    (first | with_reducible exact hSo | with_reducible exact hSn0)
    (first
    | (go_at_call 108; (with_reducible refine (HADD2.out g _ hzn.drew).mono ?_); rintro e wo ⟨rfl, hzo, hbo⟩; have hco := hcn'.drew.but hbo hgc.symm; have hxo := hxn.drew.but hbo hgx; have hSo : (wo).cell? ⟨c, 2, none⟩ = some (.pointer (some ⟨g, 0, none⟩)) ∧ (wo).cell? ⟨w.heap.size, 0, none⟩ = some (.int .i64 x.t) ∧ (wo).cell? ⟨w.heap.size, 1, none⟩ = some (.int .i64 x.v) ∧ (wo).cell? ⟨w.heap.size, 2, none⟩ = some (.int .i64 x.q) := ⟨hco.cell 2, hxo.cell 0, hxo.cell 1, hxo.cell 2⟩; have hbto : But2 c s w wo := hbtn.fresh (But2.of_but (show But g wn wo from ⟨hbo.os, hbo.tape, hbo.output, hbo.size, hbo.block⟩) (.inr rfl)) hgw; clear hbo))
  go_upto_region 8 with fail
  have e3 : wo.cell? ⟨c, 3, none⟩ = some (.int .i64 H.t) := hco.cell 3
  have e4 : wo.cell? ⟨c, 4, none⟩ = some (.int .i64 H.v) := hco.cell 4
  have e5 : wo.cell? ⟨c, 5, none⟩ = some (.int .i64 H.q) := hco.cell 5
  have g3 : wo.frozen? ⟨c, 3, none⟩ = false := hco.frozen 3
  have g4 : wo.frozen? ⟨c, 4, none⟩ = false := hco.frozen 4
  have g5 : wo.frozen? ⟨c, 5, none⟩ = false := hco.frozen 5
  have y0 : wo.cell? ⟨w.heap.size, 0, none⟩ = some (.int .i64 x.t) := hxo.cell 0
  have y1 : wo.cell? ⟨w.heap.size, 1, none⟩ = some (.int .i64 x.v) := hxo.cell 1
  have y2 : wo.cell? ⟨w.heap.size, 2, none⟩ = some (.int .i64 x.q) := hxo.cell 2
  clear hSo hSn0
  go_wp2_with fail
  go_ret2
  refine ⟨g, rfl, hgw, ((hco.set_ 3 (.int .i64 x.t)).set_ 4 (.int .i64 x.v)).set_ 5 (.int .i64 x.q), ?_, ?_⟩
  · exact ((hzo.setOther hgc _).setOther hgc _).setOther hgc _
  · exact ((hbto.set_ 3 _).set_ 4 _).set_ 5 _
end Go.Proofs.Ytmcojidaimeijaa

/- A compressor's state after some samples, and what process does to it (package compress). -/

namespace Go.Proofs.Ytmcojidaimeijaa
open Go.RowKit
set_option linter.unusedVariables false
set_option linter.unusedSimpArgs false

/-- Only compressors and spans from block B on have turned. -/
structure Cg (B : Nat) (w w' : World) : Prop where
  bl : Below B w w'
  ty : ∀ (b : Nat) (cur : Array Value) (t : TypeId) (fr : Nat × Nat), w.heap[b]? = some (Obj.cells cur t fr) → t ≠ 119 → t ≠ 162 → w'.heap[b]? = w.heap[b]?
theorem Cg.refl (B : Nat) (w : World) : Cg B w w := ⟨Below.refl _ _, fun _ _ _ _ _ _ _ => rfl⟩
theorem Cg.trans {B : Nat} {a b d : World} (h : Cg B a b) (k : Cg B b d) : Cg B a d :=
  ⟨h.bl.trans k.bl, fun i cur t fr hi h1 h2 => (k.ty i cur t fr ((h.ty i cur t fr hi h1 h2).trans hi) h1 h2).trans (h.ty i cur t fr hi h1 h2)⟩
theorem Cg.of_below {B : Nat} {w w' : World} (h : Below w.heap.size w w') (hB : B ≤ w.heap.size) : Cg B w w' := ⟨h.mono hB, fun b _ _ _ hh _ _ => h.block b (lt_of_heap hh)⟩
theorem Cg.of_but2 {B c s : Nat} {w w' : World} {cc cs : Array Value} (h : But2 c s w w') (hc : Blk w c 119 cc) (hs : Blk w s 162 cs) (h1 : B ≤ c) (h2 : B ≤ s) : Cg B w w' :=
  ⟨⟨h.os, h.tape, h.output, h.size, fun i hi => h.block i (by have := hc.lt; omega) (by omega) (by omega)⟩, fun b cur t fr hh t1 t2 => h.block b (lt_of_heap hh)
    (by rintro rfl; exact hc.no (Ne.symm t1) _ _ hh) (by rintro rfl; exact hs.no (Ne.symm t2) _ _ hh)⟩
theorem Cg.of_but {B c : Nat} {w w' : World} {cc : Array Value} (h : But c w w') (hc : Blk w c 119 cc) (h1 : B ≤ c) : Cg B w w' :=
  ⟨⟨h.os, h.tape, h.output, h.size, fun i hi => h.block i (by have := hc.lt; omega) (by omega)⟩, fun b cur t fr hh t1 t2 => h.block b (lt_of_heap hh) (by rintro rfl; exact hc.no (Ne.symm t1) _ _ hh)⟩
theorem Cg.own {B base : Nat} {w w' : World} {e : TypeId} {size n : Nat} {v : Value} {xs : List Value} (h : Cg B w w') (ho : w.ownsRow base e size v n xs) (h1 : e ≠ 119) (h2 : e ≠ 162) : w'.ownsRow base e size v n xs :=
  own_keep ho fun b cur fr hh => h.ty b cur e fr hh h1 h2
theorem Cg.blk {B b : Nat} {w w' : World} {t : TypeId} {cs : Array Value} (h : Cg B w w') (hb : Blk w b t cs) (h1 : t ≠ 119) (h2 : t ≠ 162) : Blk w' b t cs := (h.ty b cs t _ hb h1 h2).trans hb

/-- What a series that was taken fits into. -/
structure FitL (l : List Smp) : Prop where
  ok : Okl l
  fit : ∀ i, i < l.length → FitP (atS l i)

/-- Block c is a compressor that has taken the samples l. -/
def CompSt (B : Nat) (w : World) (c : Nat) (d m : Int) (l : List Smp) : Prop :=
  B ≤ c ∧ ((l = [] ∧ ∃ H, Blk w c 119 (compCells d m none H)) ∨
    (0 < l.length ∧ ∃ s lo hi, B ≤ s ∧ Blk w c 119 (compCells d m (some ⟨s, 0, none⟩) (atS l (l.length - 1))) ∧
      Blk w s 162 (spanCells d m (atS l (piv d m l)) (beg d m l) false lo hi) ∧ FitS lo ∧ FitS hi ∧ (beg d m l = true → IsLow d l (piv d m l) l.length lo ∧ IsHigh d l (piv d m l) l.length hi)))
theorem CompSt.keep {B c : Nat} {w w' : World} {d m : Int} {l : List Smp} (h : CompSt B w c d m l) (hk : ∀ b, B ≤ b → b < w.heap.size → ∀ cur t fr, w.heap[b]? = some (Obj.cells cur t fr) → (t = 119 ∨ t = 162) → w'.heap[b]? = w.heap[b]?) : CompSt B w' c d m l := by
  obtain ⟨h0, h1⟩ := h
  refine ⟨h0, ?_⟩
  rcases h1 with ⟨rfl, H, hc⟩ | ⟨hl, s, lo, hi, hs0, hc, hs, h2⟩
  · exact .inl ⟨rfl, H, (hk c h0 hc.lt _ _ _ hc (.inl rfl)).trans hc⟩
  · exact .inr ⟨hl, s, lo, hi, hs0, (hk c h0 hc.lt _ _ _ hc (.inl rfl)).trans hc, (hk s hs0 hs.lt _ _ _ hs (.inr rfl)).trans hs, h2⟩
theorem CompSt.below {B c : Nat} {w w' : World} {d m : Int} {l : List Smp} (h : CompSt B w c d m l) (hb : Below w.heap.size w w') : CompSt B w' c d m l := h.keep fun b _ hlt _ _ _ _ _ => hb.block b hlt
theorem CompSt.but {B c g : Nat} {w w' : World} {d m : Int} {l : List Smp} (h : CompSt B w c d m l) (hb : But g w w') (hg : g < B) : CompSt B w' c d m l := h.keep fun b h1 hlt _ _ _ _ _ => hb.block b hlt (by omega)

theorem slope_fit {l : List Smp} {p j : Nat} {u : Int} (hl : FitL l) (hp : p < l.length) (hj : j < l.length) (hu : -2000000 ≤ u ∧ u ≤ 2000000) : FitS (slopeI l p j u) := by
  have h1 := hl.fit p hp
  have h2 := hl.fit j hj
  unfold FitP at h1 h2
  unfold FitS slopeI
  simp only
  omega
theorem FitL.snoc_left {l : List Smp} {x : Smp} (h : FitL (l ++ [x])) : FitL l := by
  have e := fun i (hi : i < l.length) => atS_snoc l x i hi
  refine ⟨⟨fun i k hik hk => ?_, fun j hj hq => ?_⟩, fun i hi => ?_⟩
  · have := h.ok.lt i k hik (by simp; omega); rwa [e i (by omega), e k hk] at this
  · have := h.ok.bad j (by simp; omega); rw [e j hj] at this; exact this hq
  · have := h.fit i (by simp; omega); rwa [e i hi] at this

theorem accI_eq {m : Int} {l : List Smp} {x : Smp} {p : Nat} {lo hi : Int × Int} (hp : p < l.length) : accI m (atS l p) x lo hi = accB m (l ++ [x]) p l.length lo hi := by
  unfold accI accB slopeI
  rw [atS_last, atS_snoc l x p hp, Int.add_zero]
theorem slope_last {l : List Smp} {x : Smp} {p : Nat} {u : Int} (hp : p < l.length) : slopeI (l ++ [x]) p l.length u = (x.v + u - (atS l p).v, x.t - (atS l p).t) := by
  unfold slopeI; rw [atS_last, atS_snoc l x p hp]
/-- What process returns, and what it leaves. -/
def ProcEnd (B c : Nat) (d m : Int) (l : List Smp) (x : Smp) (w : World) (e : Ending) (w' : World) : Prop :=
  ∃ bf nw : Bool, e = .returned (.tuple #[.bool bf, .bool nw]) ∧ arch d m (l ++ [x]) = arch d m l ++ ((if bf = true then [atS l (l.length - 1)] else []) ++ (if nw = true then [x] else [])) ∧ CompSt B w' c d m (l ++ [x]) ∧ Cg B w w' ∧ (bf = true → 0 < l.length)

theorem process_step (B c : Nat) (d m : Int) (l : List Smp) (x : Smp) (w : World) (hS : CompSt B w c d m l) (hl : FitL (l ++ [x])) (hd : 0 ≤ d ∧ d ≤ 2000000) (hBw : B ≤ w.heap.size) :
    Calls Try.prog 70 #[.pointer (some ⟨c, 0, none⟩), .agg #[.int .i64 x.t, .int .i64 x.v, .int .i64 x.q]] w (ProcEnd B c d m l x w) := by
  have hf0 : FitS (0, 0) := by unfold FitS; simp
  have hlast : atS (l ++ [x]) ((l ++ [x]).length - 1) = x := by rw [List.length_append, List.length_singleton, Nat.add_sub_cancel]; exact atS_last l x
  have hlen : (l ++ [x]).length = l.length + 1 := by simp
  obtain ⟨hBc, hS⟩ := hS
  rcases hS with ⟨rfl, H, hc⟩ | ⟨hl0, s, lo, hi, hBs, hc, hs, hlo, hhi, hbd⟩
  · refine (process_none c d m H x w hc).mono ?_
    rintro e w' ⟨g, rfl, hg, hc', hs', hb⟩
    obtain ⟨f1, f2⟩ := first_step (d := d) (m := m) (x := x)
    have hbeg : beg d m ([] ++ [x]) = false := by unfold beg; rw [f2]; simp
    refine ⟨false, true, rfl, by rw [f1]; simp [arch, compTo, choI], ⟨hBc, .inr ⟨by simp, g, (0, 0), (0, 0), by omega, ?_, ?_, hf0, hf0, fun h => by rw [hbeg] at h; cases h⟩⟩, Cg.of_but hb hc hBc, fun h => by cases h⟩
    · rw [hlast]; exact hc'
    · rw [f2, hbeg]; exact hs'
  · have hp := piv_lt (d := d) (m := m) hl0
    have hll := hl.snoc_left
    have hheld := atS_snoc l x (l.length - 1) (by omega)
    have hfx : FitP x := by have := hl.fit l.length (by simp); rwa [atS_last] at this
    have hfp := hll.fit _ hp
    have hfh := hll.fit (l.length - 1) (by omega)
    have hpe := atS_snoc l x (piv d m l) hp
    by_cases hq : x.q = (atS l (piv d m l)).q
    · have hqual : ∀ j, piv d m l ≤ j → j < l.length → (atS l j).q = (atS l (piv d m l)).q := compTo_qual d m l l.length hl0
      by_cases hB : (!beg d m l || accI m (atS l (piv d m l)) x lo hi) = true
      · refine (process_open c s d m _ _ x _ lo hi w hc hs hq hfp hfx hd hlo hhi hB).mono ?_
        rintro e w' ⟨rfl, hc', hs', hb⟩
        have hso : shut d m (l ++ [x]) (piv d m l) l.length = false ∨ beg d m l = false := by
          cases hbg : beg d m l
          · exact .inr rfl
          · have hb1 : piv d m l + 1 < l.length := by unfold beg at hbg; simpa using hbg
            have hq2 : ∀ j, piv d m l ≤ j → j ≤ l.length → (atS (l ++ [x]) j).q = (atS (l ++ [x]) (piv d m l)).q := by
              intro j h1 h2
              rw [hpe]
              by_cases hj : j = l.length
              · subst hj; rw [atS_last]; exact hq
              · rw [atS_snoc l x j (by omega)]; exact hqual j h1 (by omega)
            have ha := acc_shut hl.ok hd.1 (by simp) hb1 (isLow_snoc (Nat.le_refl _) (hbd hbg).1) (isHigh_snoc (Nat.le_refl _) (hbd hbg).2) hq2 (m := m)
            rw [hbg, accI_eq hp, ha] at hB
            left
            simpa using hB
        obtain ⟨f1, f2⟩ := open_step (d := d) (m := m) hl0 hq hso
        have hbeg : beg d m (l ++ [x]) = true := by unfold beg; rw [f2, hlen]; simp; omega
        have hfs := slope_fit (p := piv d m l) (j := l.length) (u := -d) hl (by simp; omega) (by simp) (by omega)
        have hfs2 := slope_fit (p := piv d m l) (j := l.length) (u := d) hl (by simp; omega) (by simp) (by omega)
        rw [slope_last hp] at hfs hfs2
        refine ⟨false, false, rfl, by rw [f1]; simp, ⟨hBc, .inr ⟨by simp, s, _, _, hBs, by rw [hlast]; exact hc', by rw [f2, hbeg, hpe]; exact hs', ?_, ?_, fun _ => ⟨?_, ?_⟩⟩⟩, Cg.of_but2 hb hc hs hBc hBs, fun h => by cases h⟩
        · unfold lowN; split
          · exact hfs
          · exact hlo
        · unfold highN; split
          · exact hfs2
          · exact hhi
        · rw [f2, hlen]
          cases hbg : beg d m l
          · have hb1 : piv d m l + 1 = l.length := by unfold beg at hbg; simp at hbg; omega
            have := low_first d (l ++ [x]) (piv d m l)
            rw [hb1, slope_last hp, show piv d m l + 2 = l.length + 1 by omega] at this
            unfold lowN; rw [if_pos (.inl rfl)]; exact this
          · have := low_next hl.ok.lt (by simp) hp (isLow_snoc (x := x) (Nat.le_refl _) (hbd hbg).1)
            rw [slope_last hp] at this
            unfold lowN
            simpa using this
        · rw [f2, hlen]
          cases hbg : beg d m l
          · have hb1 : piv d m l + 1 = l.length := by unfold beg at hbg; simp at hbg; omega
            have := high_first d (l ++ [x]) (piv d m l)
            rw [hb1, slope_last hp, show piv d m l + 2 = l.length + 1 by omega] at this
            unfold highN; rw [if_pos (.inl rfl)]; exact this
          · have := high_next hl.ok.lt (by simp) hp (isHigh_snoc (x := x) (Nat.le_refl _) (hbd hbg).2)
            rw [slope_last hp] at this
            unfold highN
            simpa using this
      · have hB' : (!beg d m l || accI m (atS l (piv d m l)) x lo hi) = false := by simpa using hB
        have hhq : x.q = (atS l (l.length - 1)).q := by rw [hqual (l.length - 1) (by omega) (by omega)]; exact hq
        refine (process_shut c s d m _ _ x _ lo hi w hc hs hq hfp hfx hd hlo hhi hB' hfh hhq).mono ?_
        rintro e w' ⟨g, rfl, hg, hc', hs', hb⟩
        have hbg : beg d m l = true := by
          cases h : beg d m l
          · rw [h] at hB'; simp at hB'
          · rfl
        have hb1 : piv d m l + 1 < l.length := by unfold beg at hbg; simpa using hbg
        have hq2 : ∀ j, piv d m l ≤ j → j ≤ l.length → (atS (l ++ [x]) j).q = (atS (l ++ [x]) (piv d m l)).q := by
          intro j h1 h2
          rw [hpe]
          by_cases hj : j = l.length
          · subst hj; rw [atS_last]; exact hq
          · rw [atS_snoc l x j (by omega)]; exact hqual j h1 (by omega)
        have ha := acc_shut hl.ok hd.1 (by simp) hb1 (isLow_snoc (Nat.le_refl _) (hbd hbg).1) (isHigh_snoc (Nat.le_refl _) (hbd hbg).2) hq2 (m := m)
        have hsh : shut d m (l ++ [x]) (piv d m l) l.length = true := by
          rw [hbg, accI_eq hp, ha] at hB'
          simpa using hB'
        obtain ⟨f1, f2⟩ := shut_step (d := d) (m := m) hl0 hq hsh hbg
        have hbeg : beg d m (l ++ [x]) = true := by unfold beg; rw [f2, hlen]; simp; omega
        have hpl : l.length - 1 < l.length := by omega
        have hfs := slope_fit (p := l.length - 1) (j := l.length) (u := -d) hl (by simp; omega) (by simp) (by omega)
        have hfs2 := slope_fit (p := l.length - 1) (j := l.length) (u := d) hl (by simp; omega) (by simp) (by omega)
        rw [slope_last hpl] at hfs hfs2
        have h1 := low_first d (l ++ [x]) (l.length - 1)
        have h2 := high_first d (l ++ [x]) (l.length - 1)
        rw [show l.length - 1 + 1 = l.length by omega, slope_last hpl, show l.length - 1 + 2 = l.length + 1 by omega] at h1 h2
        refine ⟨true, false, rfl, by rw [f1]; simp, ⟨hBc, .inr ⟨by simp, g, _, _, by omega, by rw [hlast]; exact hc', by rw [f2, hbeg, hheld]; exact hs', hfs, hfs2, fun _ => ?_⟩⟩, Cg.of_but2 hb hc hs hBc hBs, fun _ => hl0⟩
        rw [f2, hlen]
        exact ⟨h1, h2⟩
    · refine (process_qual c s d m _ _ x _ lo hi w hc hs (fun h => hq h.symm)).mono ?_
      rintro e w' ⟨g, rfl, hg, hc', hs', hb⟩
      obtain ⟨f1, f2⟩ := qual_step (d := d) (m := m) hl0 hq
      have hbeg : beg d m (l ++ [x]) = false := by unfold beg; rw [f2, hlen]; simp
      refine ⟨beg d m l, true, rfl, by rw [f1]; simp, ⟨hBc, .inr ⟨by simp, g, (0, 0), (0, 0), by omega, ?_, ?_, hf0, hf0, fun h => by rw [hbeg] at h; cases h⟩⟩, Cg.of_but hb hc hBc, fun _ => hl0⟩
      · rw [hlast]; exact hc'
      · rw [f2, hbeg, atS_last]; exact hs'
end Go.Proofs.Ytmcojidaimeijaa
