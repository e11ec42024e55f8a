import Derived.Test.YtmcojidaimeijaaBt05
/- The contracts of accepts and add of a span (package compress). -/

namespace Go.Proofs.Ytmcojidaimeijaa
open Go.RowKit
set_option linter.unusedVariables false
set_option linter.unusedSimpArgs false

def accI (m : Int) (P x : Smp) (lo hi : Int × Int) : Bool := (decide (x.t - P.t ≤ m) && !slt (x.v - P.v, x.t - P.t) lo) && !slt hi (x.v - P.v, x.t - P.t)
/-- What accepts keeps: the span, the sample, the line. -/
structure KA (w0 : World) (s bx n : Nat) (cs : Array Value) (x : Smp) (ln : Int × Int) (w : World) : Prop where
  sp : Blk w s 162 cs
  bx : Blk w bx 57 #[.int .i64 x.t, .int .i64 x.v, .int .i64 x.q]
  ln : Blk w n 160 #[.int .i64 ln.1, .int .i64 ln.2]
  bl : Below w0.heap.size w0 w
theorem KA.step {w0 w w' : World} {s bx n : Nat} {cs : Array Value} {x : Smp} {ln : Int × Int} (hb : Below w.heap.size w w') (h : KA w0 s bx n cs x ln w) : KA w0 s bx n cs x ln w' :=
  ⟨h.sp.below hb h.sp.lt, h.bx.below hb h.bx.lt, h.ln.below hb h.ln.lt, h.bl.trans (hb.mono h.bl.size)⟩
theorem KA.drew {w0 w : World} {s bx n : Nat} {cs : Array Value} {x : Smp} {ln : Int × Int} (h : KA w0 s bx n cs x ln w) : KA w0 s bx n cs x ln w.drew := h.step (w' := w.drew) (show Below w.heap.size w w.drew from ⟨rfl, rfl, rfl, Nat.le_refl _, fun _ _ => rfl⟩)

set_option maxRecDepth 100000 in
set_option maxHeartbeats 4000000 in
theorem accepts_any (s : Nat) (d m : Int) (P x : Smp) (b : Bool) (lo hi : Int × Int) (w : World) (hs : Blk w s 162 (spanCells d m P b false lo hi)) (hP : FitP P) (hx : FitP x) (hlo : FitS lo) (hhi : FitS hi) :
    Calls Try.prog 126 #[.pointer (some ⟨s, 0, none⟩), .agg #[.int .i64 x.t, .int .i64 x.v, .int .i64 x.q]] w fun e w' => e = .returned (.bool (accI m P x lo hi)) ∧ Below w.heap.size w w' := by
  have hk : KN w s w.heap.size (spanCells d m P b false lo hi) x (w.alloc (.cells #[.int .i64 x.t, .int .i64 x.v, .int .i64 x.q] 57)) :=
    ⟨hs.alloc _, Blk.new _ _ _, (Below.refl _ w).alloc (Nat.le_refl _) _⟩
  have hsl : FitS (x.v - P.v, x.t - P.t) := by unfold FitP at hP hx; unfold FitS; simp only; omega
  clear hs
  have hwt : IntKind.i64.wrap (x.t - P.t) = x.t - P.t := by unfold FitP at hP hx; exact IntWalk.i64_in _ (by omega)
  have hA : accI m P x lo hi = ((decide (x.t - P.t ≤ m) && !slt (x.v - P.v, x.t - P.t) lo) && !slt hi (x.v - P.v, x.t - P.t)) := rfl
  have HA := Lib.hid hA
  have HPX := Lib.hid (And.intro hP hx)
  clear hA hP hx
  go_enter Try.func126, Try.ntmps126
  go_upto_region 2 with (go_at_call 146; (with_reducible refine (slopeTo_any s d m P x b false lo hi 0 _ hk.sp HPX.out.1 HPX.out.2 (by omega)).mono ?_); rintro e wa ⟨rfl, hba⟩; have hk2 := KN.step hba hk; clear hba)
  have hka : KA w s w.heap.size wa.heap.size (spanCells d m P b false lo hi) x (x.v - P.v, x.t - P.t) (wa.alloc (.cells #[.int .i64 (x.v - P.v), .int .i64 (x.t - P.t)] 160)) :=
    ⟨hk2.sp.alloc _, hk2.bx.alloc _, Blk.new _ _ _, hk2.bl.alloc hk2.bl.size _⟩
  clear hk hk2
  generalize wa.alloc (.cells #[.int .i64 (x.v - P.v), .int .i64 (x.t - P.t)] 160) = wb at *
  generalize wa.heap.size = n at *
  have hS0 : (wb.drew).cell? ⟨s, 2, none⟩ = some (.int .i64 P.t) ∧ (wb.drew).cell? ⟨s, 1, none⟩ = some (.int .i64 m) ∧ (wb.drew).cell? ⟨s, 6, none⟩ = some (.bool false) ∧ (wb.drew).cell? ⟨s, 7, none⟩ = some (.int .i64 lo.1) ∧ (wb.drew).cell? ⟨s, 8, none⟩ = some (.int .i64 lo.2) ∧ (wb.drew).cell? ⟨s, 9, none⟩ = some (.int .i64 hi.1) ∧ (wb.drew).cell? ⟨s, 10, none⟩ = some (.int .i64 hi.2) ∧ (wb.drew).cell? ⟨w.heap.size, 0, none⟩ = some (.int .i64 x.t) ∧ (wb.drew).cell? ⟨n, 0, none⟩ = some (.int .i64 (x.v - P.v)) ∧ (wb.drew).cell? ⟨n, 1, none⟩ = some (.int .i64 (x.t - P.t)) := ⟨(hka.drew).sp.cell 2, (hka.drew).sp.cell 1, (hka.drew).sp.cell 6, (hka.drew).sp.cell 7, (hka.drew).sp.cell 8, (hka.drew).sp.cell 9, (hka.drew).sp.cell 10, (hka.drew).bx.cell 0, (hka.drew).ln.cell 0, (hka.drew).ln.cell 1⟩
  have hb1 := fun w => below_slope (x.v - P.v, x.t - P.t) lo w hsl hlo
  have hb2 := fun w => below_slope hi (x.v - P.v, x.t - P.t) w hhi hsl
  have tok1 : True := trivial
  by_cases hL : x.t - P.t ≤ m
  · have hL' : decide (x.t - P.t ≤ m) = true := by simpa using hL
    cases h1 : slt (x.v - P.v, x.t - P.t) lo
    · rw [h1] at hb1
      have HE := Lib.hid (show accI m P x lo hi = !slt hi (x.v - P.v, x.t - P.t) by rw [HA.out, h1, hL']; rfl)
      generalize slt hi (x.v - P.v, x.t - P.t) = s2 at *
      generalize slt (x.v - P.v, x.t - P.t) lo = s1 at *
      clear h1 HA
      go_region_held3 (fun w' => (w').cell? ⟨s, 2, none⟩ = some (.int .i64 P.t) ∧ (w').cell? ⟨s, 1, none⟩ = some (.int .i64 m) ∧ (w').cell? ⟨s, 6, none⟩ = some (.bool false) ∧ (w').cell? ⟨s, 7, none⟩ = some (.int .i64 lo.1) ∧ (w').cell? ⟨s, 8, none⟩ = some (.int .i64 lo.2) ∧ (w').cell? ⟨s, 9, none⟩ = some (.int .i64 hi.1) ∧ (w').cell? ⟨s, 10, none⟩ = some (.int .i64 hi.2) ∧ (w').cell? ⟨w.heap.size, 0, none⟩ = some (.int .i64 x.t) ∧ (w').cell? ⟨n, 0, none⟩ = some (.int .i64 (x.v - P.v)) ∧ (w').cell? ⟨n, 1, none⟩ = some (.int .i64 (x.t - P.t)))
        (first | with_reducible exact hSk | with_reducible exact hSj | with_reducible exact hS0)
        (first
        | (go_at_call 147; have _t := tok1; (with_reducible refine (hb1 _).mono ?_); rintro e wj ⟨rfl, hbj⟩; have hkj := KA.step hbj hka.drew; have hSj : (wj).cell? ⟨s, 2, none⟩ = some (.int .i64 P.t) ∧ (wj).cell? ⟨s, 1, none⟩ = some (.int .i64 m) ∧ (wj).cell? ⟨s, 6, none⟩ = some (.bool false) ∧ (wj).cell? ⟨s, 7, none⟩ = some (.int .i64 lo.1) ∧ (wj).cell? ⟨s, 8, none⟩ = some (.int .i64 lo.2) ∧ (wj).cell? ⟨s, 9, none⟩ = some (.int .i64 hi.1) ∧ (wj).cell? ⟨s, 10, none⟩ = some (.int .i64 hi.2) ∧ (wj).cell? ⟨w.heap.size, 0, none⟩ = some (.int .i64 x.t) ∧ (wj).cell? ⟨n, 0, none⟩ = some (.int .i64 (x.v - P.v)) ∧ (wj).cell? ⟨n, 1, none⟩ = some (.int .i64 (x.t - P.t)) := ⟨(hkj).sp.cell 2, (hkj).sp.cell 1, (hkj).sp.cell 6, (hkj).sp.cell 7, (hkj).sp.cell 8, (hkj).sp.cell 9, (hkj).sp.cell 10, (hkj).bx.cell 0, (hkj).ln.cell 0, (hkj).ln.cell 1⟩; clear tok1 hbj)
        | (go_at_call 147; (with_reducible refine (hb2 _).mono ?_); rintro e wk ⟨rfl, hbk⟩; have hkk := KA.step hbk hkj; have hSk : (wk).cell? ⟨s, 2, none⟩ = some (.int .i64 P.t) ∧ (wk).cell? ⟨s, 1, none⟩ = some (.int .i64 m) ∧ (wk).cell? ⟨s, 6, none⟩ = some (.bool false) ∧ (wk).cell? ⟨s, 7, none⟩ = some (.int .i64 lo.1) ∧ (wk).cell? ⟨s, 8, none⟩ = some (.int .i64 lo.2) ∧ (wk).cell? ⟨s, 9, none⟩ = some (.int .i64 hi.1) ∧ (wk).cell? ⟨s, 10, none⟩ = some (.int .i64 hi.2) ∧ (wk).cell? ⟨w.heap.size, 0, none⟩ = some (.int .i64 x.t) ∧ (wk).cell? ⟨n, 0, none⟩ = some (.int .i64 (x.v - P.v)) ∧ (wk).cell? ⟨n, 1, none⟩ = some (.int .i64 (x.t - P.t)) := ⟨(hkk).sp.cell 2, (hkk).sp.cell 1, (hkk).sp.cell 6, (hkk).sp.cell 7, (hkk).sp.cell 8, (hkk).sp.cell 9, (hkk).sp.cell 10, (hkk).bx.cell 0, (hkk).ln.cell 0, (hkk).ln.cell 1⟩; clear hbk))
      go_wp2_with fail
      go_ret
      exact ⟨ret_bool HE.out.symm, hkk.bl⟩
    · rw [h1] at hb1
      have HE := Lib.hid (show accI m P x lo hi = false by rw [HA.out, h1, hL']; rfl)
      clear HA h1 hb2
      refine wp_region_held_drew (S := fun w' => (w').cell? ⟨s, 2, none⟩ = some (.int .i64 P.t) ∧ (w').cell? ⟨s, 1, none⟩ = some (.int .i64 m) ∧ (w').cell? ⟨s, 6, none⟩ = some (.bool false) ∧ (w').cell? ⟨s, 7, none⟩ = some (.int .i64 lo.1) ∧ (w').cell? ⟨s, 8, none⟩ = some (.int .i64 lo.2) ∧ (w').cell? ⟨s, 9, none⟩ = some (.int .i64 hi.1) ∧ (w').cell? ⟨s, 10, none⟩ = some (.int .i64 hi.2) ∧ (w').cell? ⟨w.heap.size, 0, none⟩ = some (.int .i64 x.t) ∧ (w').cell? ⟨n, 0, none⟩ = some (.int .i64 (x.v - P.v)) ∧ (w').cell? ⟨n, 1, none⟩ = some (.int .i64 (x.t - P.t))) (by kernel_rfl) hS0 (fun hHeld => ?_)
      refine wpAnyH_take (i := 0) (v := ?v0) rfl (by kernel_rfl) (by kernel_rfl) (by kernel_rfl) (fun _ _ _ h => h) (Or.inl ⟨by kernel_rfl, ?y0⟩) (by assumption) ?r0
      case y0 => (intro w' hSw; (try dsimp only at hSw); go_split_ands; go_simp; try (with_reducible rfl))
      try simp only [List.getElem_toArray, List.getElem_cons_zero, List.getElem_cons_succ, Act.put, List.setIfInBounds_toArray, List.set_cons_zero, List.set_cons_succ]
      refine wpAnyH_take (i := 1) (v := ?v1) rfl (by kernel_rfl) (by kernel_rfl) (by kernel_rfl) (fun _ _ _ h => h) (Or.inl ⟨by kernel_rfl, ?y1⟩) (by assumption) ?r1
      case y1 => (intro w' hSw; (try dsimp only at hSw); go_split_ands; go_simp; try (with_reducible rfl))
      try simp only [List.getElem_toArray, List.getElem_cons_zero, List.getElem_cons_succ, Act.put, List.setIfInBounds_toArray, List.set_cons_zero, List.set_cons_succ]
      refine wpAnyH_take (i := 2) (v := ?v2) rfl (by kernel_rfl) (by kernel_rfl) (by kernel_rfl) (fun _ _ _ h => h) (Or.inl ⟨by kernel_rfl, ?y2⟩) (by assumption) ?r2
      case y2 => (intro w' hSw; (try dsimp only at hSw); go_split_ands; go_simp; try (with_reducible rfl))
      try simp only [List.getElem_toArray, List.getElem_cons_zero, List.getElem_cons_succ, Act.put, List.setIfInBounds_toArray, List.set_cons_zero, List.set_cons_succ]
      refine wpAnyH_take (i := 3) (v := ?v3) rfl (by kernel_rfl) (by kernel_rfl) (by kernel_rfl) (fun _ _ _ h => h) (Or.inl ⟨by kernel_rfl, ?y3⟩) (by assumption) ?r3
      case y3 => (intro w' hSw; (try dsimp only at hSw); go_split_ands; go_simp; try (with_reducible rfl))
      try simp only [List.getElem_toArray, List.getElem_cons_zero, List.getElem_cons_succ, Act.put, List.setIfInBounds_toArray, List.set_cons_zero, List.set_cons_succ]
      refine wpAnyH_take (i := 4) (v := ?v4) rfl (by kernel_rfl) (by kernel_rfl) (by kernel_rfl) (fun _ _ _ h => h) (Or.inl ⟨by kernel_rfl, ?y4⟩) (by assumption) ?r4
      case y4 => (intro w' hSw; (try dsimp only at hSw); go_split_ands; go_simp; try (with_reducible rfl))
      try simp only [List.getElem_toArray, List.getElem_cons_zero, List.getElem_cons_succ, Act.put, List.setIfInBounds_toArray, List.set_cons_zero, List.set_cons_succ]
      refine wpAnyH_take (i := 5) (v := ?v5) rfl (by kernel_rfl) (by kernel_rfl) (by kernel_rfl) (fun _ _ _ h => h) (Or.inl ⟨by kernel_rfl, ?y5⟩) (by assumption) ?r5
      case y5 => (intro w' hSw; (try dsimp only at hSw); go_split_ands; go_simp; try (with_reducible rfl))
      try simp only [List.getElem_toArray, List.getElem_cons_zero, List.getElem_cons_succ, Act.put, List.setIfInBounds_toArray, List.set_cons_zero, List.set_cons_succ]
      refine wpAnyH_take (i := 6) (v := ?v6) rfl (by kernel_rfl) (by kernel_rfl) (by kernel_rfl) (fun _ _ _ h => h) (Or.inl ⟨by kernel_rfl, ?y6⟩) (by assumption) ?r6
      case y6 => (intro w' hSw; (try dsimp only at hSw); go_split_ands; go_simp; try (with_reducible rfl))
      try simp only [List.getElem_toArray, List.getElem_cons_zero, List.getElem_cons_succ, Act.put, List.setIfInBounds_toArray, List.set_cons_zero, List.set_cons_succ]
      refine wpAnyH_take (i := 7) (v := ?v7) rfl (by kernel_rfl) (by kernel_rfl) (by kernel_rfl) (fun _ _ _ h => h) (Or.inl ⟨by kernel_rfl, ?y7⟩) (by assumption) ?r7
      case y7 => (intro w' hSw; (try dsimp only at hSw); go_split_ands; go_simp; try (with_reducible rfl))
      try simp only [List.getElem_toArray, List.getElem_cons_zero, List.getElem_cons_succ, Act.put, List.setIfInBounds_toArray, List.set_cons_zero, List.set_cons_succ]
      refine wpAnyH_take (i := 8) (v := ?v8) rfl (by kernel_rfl) (by kernel_rfl) (by kernel_rfl) (fun _ _ _ h => h) (Or.inl ⟨by kernel_rfl, ?y8⟩) (by assumption) ?r8
      case y8 => (intro w' hSw; (try dsimp only at hSw); go_split_ands; go_simp; try (with_reducible rfl))
      try simp only [List.getElem_toArray, List.getElem_cons_zero, List.getElem_cons_succ, Act.put, List.setIfInBounds_toArray, List.set_cons_zero, List.set_cons_succ]
      refine wpAnyH_take (i := 9) (v := ?v9) rfl (by kernel_rfl) (by kernel_rfl) (by kernel_rfl) (fun _ _ _ h => h) (Or.inl ⟨by kernel_rfl, ?y9⟩) (by assumption) ?r9
      case y9 => (intro w' hSw; (try dsimp only at hSw); go_split_ands; go_simp; try (with_reducible rfl))
      try simp only [List.getElem_toArray, List.getElem_cons_zero, List.getElem_cons_succ, Act.put, List.setIfInBounds_toArray, List.set_cons_zero, List.set_cons_succ]
      refine wpAnyH_take (i := 10) (v := ?v10) rfl (by kernel_rfl) (by kernel_rfl) (by kernel_rfl) (fun _ _ _ h => h) (Or.inl ⟨by kernel_rfl, ?y10⟩) (by assumption) ?r10
      case y10 => (intro w' hSw; (try dsimp only at hSw); go_split_ands; go_simp; try (with_reducible rfl))
      try simp only [List.getElem_toArray, List.getElem_cons_zero, List.getElem_cons_succ, Act.put, List.setIfInBounds_toArray, List.set_cons_zero, List.set_cons_succ]
      refine wpAnyH_take (i := 11) (v := ?v11) rfl (by kernel_rfl) (by kernel_rfl) (by kernel_rfl) (fun _ _ _ h => h) (Or.inl ⟨by kernel_rfl, ?y11⟩) (by assumption) ?r11
      case y11 => (intro w' hSw; (try dsimp only at hSw); go_split_ands; go_simp; try (with_reducible rfl))
      try simp only [List.getElem_toArray, List.getElem_cons_zero, List.getElem_cons_succ, Act.put, List.setIfInBounds_toArray, List.set_cons_zero, List.set_cons_succ]
      refine wpAnyH_take (i := 12) (v := ?v12) rfl (by kernel_rfl) (by kernel_rfl) (by kernel_rfl) (fun _ _ _ h => h) (Or.inl ⟨by kernel_rfl, ?y12⟩) (by assumption) ?r12
      case y12 => (intro w' hSw; (try dsimp only at hSw); go_split_ands; go_simp; try (with_reducible rfl))
      try simp only [List.getElem_toArray, List.getElem_cons_zero, List.getElem_cons_succ, Act.put, List.setIfInBounds_toArray, List.set_cons_zero, List.set_cons_succ]
      refine wpAnyH_take (i := 13) (v := ?v13) rfl (by kernel_rfl) (by kernel_rfl) (by kernel_rfl) (fun _ _ _ h => h) (Or.inl ⟨by kernel_rfl, ?y13⟩) (by assumption) ?r13
      case y13 => (intro w' hSw; (try dsimp only at hSw); go_split_ands; go_simp; try (with_reducible rfl))
      try simp only [List.getElem_toArray, List.getElem_cons_zero, List.getElem_cons_succ, Act.put, List.setIfInBounds_toArray, List.set_cons_zero, List.set_cons_succ]
      refine wpAnyH_take (i := 14) (v := ?v14) rfl (by kernel_rfl) (by kernel_rfl) (by kernel_rfl) (fun _ _ _ h => h) (Or.inl ⟨by kernel_rfl, ?y14⟩) (by assumption) ?r14
      case y14 => (intro w' hSw; (try dsimp only at hSw); go_split_ands; go_simp; try (with_reducible rfl))
      try simp only [List.getElem_toArray, List.getElem_cons_zero, List.getElem_cons_succ, Act.put, List.setIfInBounds_toArray, List.set_cons_zero, List.set_cons_succ]
      refine wpAnyH_take (i := 15) (v := ?v15) rfl (by kernel_rfl) (by kernel_rfl) (by kernel_rfl) (fun _ _ _ h => h) (Or.inl ⟨by kernel_rfl, ?y15⟩) (by assumption) ?r15
      case y15 => (intro w' hSw; (try dsimp only at hSw); go_split_ands; go_simp; try (with_reducible rfl))
      try simp only [List.getElem_toArray, List.getElem_cons_zero, List.getElem_cons_succ, Act.put, List.setIfInBounds_toArray, List.set_cons_zero, List.set_cons_succ]
      refine wpAnyH_take (i := 16) (v := ?v16) rfl (by kernel_rfl) (by kernel_rfl) (by kernel_rfl) (fun _ _ _ h => h) (Or.inl ⟨by kernel_rfl, ?y16⟩) (by assumption) ?r16
      case y16 => (intro w' hSw; (try dsimp only at hSw); go_split_ands; go_simp; try (with_reducible rfl))
      try simp only [List.getElem_toArray, List.getElem_cons_zero, List.getElem_cons_succ, Act.put, List.setIfInBounds_toArray, List.set_cons_zero, List.set_cons_succ]
      refine wpAnyH_take (i := 17) (v := ?v17) rfl (by kernel_rfl) (by kernel_rfl) (by kernel_rfl) (fun _ _ _ h => h) (Or.inl ⟨by kernel_rfl, ?y17⟩) (by assumption) ?r17
      case y17 => (intro w' hSw; (try dsimp only at hSw); go_split_ands; go_simp; try (with_reducible rfl))
      try simp only [List.getElem_toArray, List.getElem_cons_zero, List.getElem_cons_succ, Act.put, List.setIfInBounds_toArray, List.set_cons_zero, List.set_cons_succ]
      refine wpAnyH_take (i := 18) (v := ?v18) rfl (by kernel_rfl) (by kernel_rfl) (by kernel_rfl) (fun _ _ _ h => h) (Or.inl ⟨by kernel_rfl, ?y18⟩) (by assumption) ?r18
      case y18 => (intro w' hSw; (try dsimp only at hSw); go_split_ands; go_simp; try (with_reducible rfl))
      try simp only [List.getElem_toArray, List.getElem_cons_zero, List.getElem_cons_succ, Act.put, List.setIfInBounds_toArray, List.set_cons_zero, List.set_cons_succ]
      refine wpAnyH_take (i := 19) (v := ?v19) rfl (by kernel_rfl) (by kernel_rfl) (by kernel_rfl) (fun _ _ _ h => h) (Or.inl ⟨by kernel_rfl, ?y19⟩) (by assumption) ?r19
      case y19 => (intro w' hSw; (try dsimp only at hSw); go_split_ands; go_simp; try (with_reducible rfl))
      try simp only [List.getElem_toArray, List.getElem_cons_zero, List.getElem_cons_succ, Act.put, List.setIfInBounds_toArray, List.set_cons_zero, List.set_cons_succ]
      refine wpAnyH_take (i := 20) (v := ?v20) rfl (by kernel_rfl) (by kernel_rfl) (by kernel_rfl) (fun _ _ _ h => h) (Or.inl ⟨by kernel_rfl, ?y20⟩) (by assumption) ?r20
      case y20 => (intro w' hSw; (try dsimp only at hSw); go_split_ands; go_simp; try (with_reducible rfl))
      try simp only [List.getElem_toArray, List.getElem_cons_zero, List.getElem_cons_succ, Act.put, List.setIfInBounds_toArray, List.set_cons_zero, List.set_cons_succ]
      refine wpAnyH_take (i := 21) (v := ?v21) rfl (by kernel_rfl) (by kernel_rfl) (by kernel_rfl) (fun _ _ _ h => h) (Or.inl ⟨by kernel_rfl, ?y21⟩) (by assumption) ?r21
      case y21 => (intro w' hSw; (try dsimp only at hSw); go_split_ands; go_simp; try (with_reducible rfl))
      try simp only [List.getElem_toArray, List.getElem_cons_zero, List.getElem_cons_succ, Act.put, List.setIfInBounds_toArray, List.set_cons_zero, List.set_cons_succ]
      refine wpAnyH_take (i := 22) (v := ?v22) rfl (by kernel_rfl) (by kernel_rfl) (by kernel_rfl) (fun _ _ _ h => h) (Or.inl ⟨by kernel_rfl, ?y22⟩) (by assumption) ?r22
      case y22 => (intro w' hSw; (try dsimp only at hSw); go_split_ands; go_simp; try (with_reducible rfl))
      try simp only [List.getElem_toArray, List.getElem_cons_zero, List.getElem_cons_succ, Act.put, List.setIfInBounds_toArray, List.set_cons_zero, List.set_cons_succ]
      refine wpAnyH_take (i := 23) (v := ?v23) rfl (by kernel_rfl) (by kernel_rfl) (by kernel_rfl) (fun _ _ _ h => h) (Or.inl ⟨by kernel_rfl, ?y23⟩) (by assumption) ?r23
      case y23 => (intro w' hSw; (try dsimp only at hSw); go_split_ands; go_simp; try (with_reducible rfl))
      try simp only [List.getElem_toArray, List.getElem_cons_zero, List.getElem_cons_succ, Act.put, List.setIfInBounds_toArray, List.set_cons_zero, List.set_cons_succ]
      refine wpAnyH_take (i := 24) (v := ?v24) rfl (by kernel_rfl) (by kernel_rfl) (by kernel_rfl) (fun _ _ _ h => h) (Or.inl ⟨by kernel_rfl, ?y24⟩) (by assumption) ?r24
      case y24 => (intro w' hSw; (try dsimp only at hSw); go_split_ands; go_simp; try (with_reducible rfl))
      try simp only [List.getElem_toArray, List.getElem_cons_zero, List.getElem_cons_succ, Act.put, List.setIfInBounds_toArray, List.set_cons_zero, List.set_cons_succ]
      refine wpAnyH_take (i := 25) (v := ?v25) rfl (by kernel_rfl) (by kernel_rfl) (by kernel_rfl) (fun _ _ _ h => h) (Or.inl ⟨by kernel_rfl, ?y25⟩) (by assumption) ?r25
      case y25 => (intro w' hSw; (try dsimp only at hSw); go_split_ands; go_simp; try (with_reducible rfl))
      try simp only [List.getElem_toArray, List.getElem_cons_zero, List.getElem_cons_succ, Act.put, List.setIfInBounds_toArray, List.set_cons_zero, List.set_cons_succ]
      refine wpAnyH_take (i := 26) (v := ?v26) rfl (by kernel_rfl) (by kernel_rfl) (by kernel_rfl) (fun _ _ _ h => h) (Or.inl ⟨by kernel_rfl, ?y26⟩) (by assumption) ?r26
      case y26 => (intro w' hSw; (try dsimp only at hSw); go_split_ands; go_simp; try (with_reducible rfl))
      try simp only [List.getElem_toArray, List.getElem_cons_zero, List.getElem_cons_succ, Act.put, List.setIfInBounds_toArray, List.set_cons_zero, List.set_cons_succ]
      refine wpAnyH_ready (rs := [27]) (by kernel_rfl) (by simp) ?_
      refine AllReadyH.cons rfl (fun K hK => ?_) AllReadyH.nil
      go_simp
      (with_reducible refine (hb1 _).mono ?_)
      rintro e wj ⟨rfl, hbj⟩
      have hkj := KA.step hbj hka.drew
      have hSj : (wj).cell? ⟨s, 2, none⟩ = some (.int .i64 P.t) ∧ (wj).cell? ⟨s, 1, none⟩ = some (.int .i64 m) ∧ (wj).cell? ⟨s, 6, none⟩ = some (.bool false) ∧ (wj).cell? ⟨s, 7, none⟩ = some (.int .i64 lo.1) ∧ (wj).cell? ⟨s, 8, none⟩ = some (.int .i64 lo.2) ∧ (wj).cell? ⟨s, 9, none⟩ = some (.int .i64 hi.1) ∧ (wj).cell? ⟨s, 10, none⟩ = some (.int .i64 hi.2) ∧ (wj).cell? ⟨w.heap.size, 0, none⟩ = some (.int .i64 x.t) ∧ (wj).cell? ⟨n, 0, none⟩ = some (.int .i64 (x.v - P.v)) ∧ (wj).cell? ⟨n, 1, none⟩ = some (.int .i64 (x.t - P.t)) := ⟨(hkj).sp.cell 2, (hkj).sp.cell 1, (hkj).sp.cell 6, (hkj).sp.cell 7, (hkj).sp.cell 8, (hkj).sp.cell 9, (hkj).sp.cell 10, (hkj).bx.cell 0, (hkj).ln.cell 0, (hkj).ln.cell 1⟩
      go_wp2_with fail
      refine hK.out _ _ hSj (fun hHeld2 => ?_)
      clear hK K hHeld hbj
      try simp only [List.getElem_toArray, List.getElem_cons_zero, List.getElem_cons_succ, Act.put, List.setIfInBounds_toArray, List.set_cons_zero, List.set_cons_succ]
      refine wpAnyH_take (i := 28) (v := ?v28) rfl (by kernel_rfl) (by kernel_rfl) (by kernel_rfl) (fun _ _ _ h => h) (Or.inl ⟨by kernel_rfl, ?y28⟩) (by assumption) ?r28
      case y28 => (intro w' hSw; (try dsimp only at hSw); go_split_ands; go_simp; try (with_reducible rfl))
      try simp only [List.getElem_toArray, List.getElem_cons_zero, List.getElem_cons_succ, Act.put, List.setIfInBounds_toArray, List.set_cons_zero, List.set_cons_succ]
      refine wpAnyH_take (i := 29) (v := ?v29) rfl (by kernel_rfl) (by kernel_rfl) (by kernel_rfl) (fun _ _ _ h => h) (Or.inl ⟨by kernel_rfl, ?y29⟩) (by assumption) ?r29
      case y29 => (intro w' hSw; (try dsimp only at hSw); go_split_ands; go_simp; try (with_reducible rfl))
      try simp only [List.getElem_toArray, List.getElem_cons_zero, List.getElem_cons_succ, Act.put, List.setIfInBounds_toArray, List.set_cons_zero, List.set_cons_succ]
      refine wpAnyH_take (i := 30) (v := ?v30) rfl (by kernel_rfl) (by kernel_rfl) (by kernel_rfl) (fun _ _ _ h => h) (Or.inl ⟨by kernel_rfl, ?y30⟩) (by assumption) ?r30
      case y30 => (intro w' hSw; (try dsimp only at hSw); go_split_ands; go_simp; try (with_reducible rfl))
      try simp only [List.getElem_toArray, List.getElem_cons_zero, List.getElem_cons_succ, Act.put, List.setIfInBounds_toArray, List.set_cons_zero, List.set_cons_succ]
      refine wpAnyH_take (i := 31) (v := undef) rfl (by kernel_rfl) (by kernel_rfl) (by kernel_rfl) (fun _ _ _ h => h) (Or.inr ⟨by kernel_rfl, rfl⟩) (by assumption) ?r31
      try simp only [List.getElem_toArray, List.getElem_cons_zero, List.getElem_cons_succ, Act.put, List.setIfInBounds_toArray, List.set_cons_zero, List.set_cons_succ]
      refine wpAnyH_take (i := 32) (v := undef) rfl (by kernel_rfl) (by kernel_rfl) (by kernel_rfl) (fun _ _ _ h => h) (Or.inr ⟨by kernel_rfl, rfl⟩) (by assumption) ?r32
      try simp only [List.getElem_toArray, List.getElem_cons_zero, List.getElem_cons_succ, Act.put, List.setIfInBounds_toArray, List.set_cons_zero, List.set_cons_succ]
      refine wpAnyH_take (i := 33) (v := undef) rfl (by kernel_rfl) (by kernel_rfl) (by kernel_rfl) (fun _ _ _ h => h) (Or.inr ⟨by kernel_rfl, rfl⟩) (by assumption) ?r33
      try simp only [List.getElem_toArray, List.getElem_cons_zero, List.getElem_cons_succ, Act.put, List.setIfInBounds_toArray, List.set_cons_zero, List.set_cons_succ]
      refine wpAnyH_take (i := 34) (v := undef) rfl (by kernel_rfl) (by kernel_rfl) (by kernel_rfl) (fun _ _ _ h => h) (Or.inr ⟨by kernel_rfl, rfl⟩) (by assumption) ?r34
      try simp only [List.getElem_toArray, List.getElem_cons_zero, List.getElem_cons_succ, Act.put, List.setIfInBounds_toArray, List.set_cons_zero, List.set_cons_succ]
      refine wpAnyH_take (i := 35) (v := undef) rfl (by kernel_rfl) (by kernel_rfl) (by kernel_rfl) (fun _ _ _ h => h) (Or.inr ⟨by kernel_rfl, rfl⟩) (by assumption) ?r35
      try simp only [List.getElem_toArray, List.getElem_cons_zero, List.getElem_cons_succ, Act.put, List.setIfInBounds_toArray, List.set_cons_zero, List.set_cons_succ]
      refine wpAnyH_take (i := 36) (v := undef) rfl (by kernel_rfl) (by kernel_rfl) (by kernel_rfl) (fun _ _ _ h => h) (Or.inr ⟨by kernel_rfl, rfl⟩) (by assumption) ?r36
      try simp only [List.getElem_toArray, List.getElem_cons_zero, List.getElem_cons_succ, Act.put, List.setIfInBounds_toArray, List.set_cons_zero, List.set_cons_succ]
      refine wpAnyH_take (i := 37) (v := undef) rfl (by kernel_rfl) (by kernel_rfl) (by kernel_rfl) (fun _ _ _ h => h) (Or.inr ⟨by kernel_rfl, rfl⟩) (by assumption) ?r37
      try simp only [List.getElem_toArray, List.getElem_cons_zero, List.getElem_cons_succ, Act.put, List.setIfInBounds_toArray, List.set_cons_zero, List.set_cons_succ]
      refine wpAnyH_take (i := 38) (v := ?v38) rfl (by kernel_rfl) (by kernel_rfl) (by kernel_rfl) (fun _ _ _ h => h) (Or.inl ⟨by kernel_rfl, ?y38⟩) (by assumption) ?r38
      case y38 => (intro w' hSw; (try dsimp only at hSw); go_split_ands; go_simp; try (with_reducible rfl))
      try simp only [List.getElem_toArray, List.getElem_cons_zero, List.getElem_cons_succ, Act.put, List.setIfInBounds_toArray, List.set_cons_zero, List.set_cons_succ]
      refine wpAnyH_take (i := 39) (v := ?v39) rfl (by kernel_rfl) (by kernel_rfl) (by kernel_rfl) (fun _ _ _ h => h) (Or.inl ⟨by kernel_rfl, ?y39⟩) (by assumption) ?r39
      case y39 => (intro w' hSw; (try dsimp only at hSw); go_split_ands; go_simp; try (with_reducible rfl))
      try simp only [List.getElem_toArray, List.getElem_cons_zero, List.getElem_cons_succ, Act.put, List.setIfInBounds_toArray, List.set_cons_zero, List.set_cons_succ]
      refine wpAnyH_done (by kernel_rfl) ?_ _
      go_wp2_with fail
      go_ret
      exact ⟨ret_bool HE.out.symm, hkj.bl⟩
  · have hL' : decide (x.t - P.t ≤ m) = false := by simpa using hL
    have HE := Lib.hid (show accI m P x lo hi = false by rw [HA.out, hL']; rfl)
    clear HA hb1 hb2
    have c1 : wb.cell? ⟨s, 6, none⟩ = some (.bool false) := hka.sp.cell 6
    have c2 : wb.cell? ⟨s, 2, none⟩ = some (.int .i64 P.t) := hka.sp.cell 2
    have c3 : wb.cell? ⟨s, 1, none⟩ = some (.int .i64 m) := hka.sp.cell 1
    have c4 : wb.cell? ⟨w.heap.size, 0, none⟩ = some (.int .i64 x.t) := hka.bx.cell 0
    clear hS0 tok1
    go_quiet (fail)
    go_wp2_with fail
    go_ret
    exact ⟨ret_bool HE.out.symm, bdrewN hka.bl _⟩
end Go.Proofs.Ytmcojidaimeijaa

/- The contract of add of a span (package compress). -/

namespace Go.Proofs.Ytmcojidaimeijaa
open Go.RowKit
set_option linter.unusedVariables false
set_option linter.unusedSimpArgs false

set_option maxRecDepth 100000 in
set_option maxHeartbeats 2000000 in
theorem spanAdd_any (s : Nat) (d m : Int) (P x : Smp) (b : Bool) (lo hi : Int × Int) (w : World) (hs : Blk w s 162 (spanCells d m P b false lo hi)) (hP : FitP P) (hx : FitP x) (hq : x.q = P.q) (hd : 0 ≤ d ∧ d ≤ 2000000) (hlo : FitS lo) (hhi : FitS hi) :
    Calls Try.prog 108 #[.pointer (some ⟨s, 0, none⟩), .agg #[.int .i64 x.t, .int .i64 x.v, .int .i64 x.q]] w fun e w' => e = .returned (.bool (!b || accI m P x lo hi)) ∧
      Blk w' s 162 (spanCells d m P true false (lowN b lo (x.v + -d - P.v, x.t - P.t)) (highN b hi (x.v + d - P.v, x.t - P.t))) ∧ But s w w' := by
  have hk : KN w s w.heap.size (spanCells d m P b false lo hi) x (w.alloc (.cells #[.int .i64 x.t, .int .i64 x.v, .int .i64 x.q] 57)) :=
    ⟨hs.alloc _, Blk.new _ _ _, (Below.refl _ w).alloc (Nat.le_refl _) _⟩
  have hsw : s < w.heap.size := hs.lt
  have hqq : (x.q != P.q) = false := by rw [hq]; simp
  clear hs hq
  go_enter Try.func108, Try.ntmps108
  go_wp2_with fail
  generalize w.alloc (.cells #[.int .i64 x.t, .int .i64 x.v, .int .i64 x.q] 57) = wa at *
  have c4 : wa.cell? ⟨s, 4, none⟩ = some (.int .i64 P.q) := hk.sp.cell 4
  have c6 : wa.cell? ⟨s, 6, none⟩ = some (.bool false) := hk.sp.cell 6
  have f6 : wa.frozen? ⟨s, 6, none⟩ = false := hk.sp.frozen 6
  have a2 : wa.cell? ⟨w.heap.size, 2, none⟩ = some (.int .i64 x.q) := hk.bx.cell 2
  have hne : w.heap.size ≠ s := by omega
  go_region
  go_upto_region 2 with fail
  have hsp2 : Blk ((wa.setCell ⟨s, 6, none⟩ (.bool false)).drew) s 162 (spanCells d m P b false lo hi) := (hk.sp.set_ 6 (.bool false)).drew
  have hbx2 : Blk ((wa.setCell ⟨s, 6, none⟩ (.bool false)).drew) w.heap.size 57 #[.int .i64 x.t, .int .i64 x.v, .int .i64 x.q] := (hk.bx.setOther hne _).drew
  have hbt2 : But s w ((wa.setCell ⟨s, 6, none⟩ (.bool false)).drew) := (((But.refl s w).below hk.bl).setCell (.inl rfl) _).drew
  generalize (wa.setCell ⟨s, 6, none⟩ (.bool false)).drew = wb at *
  clear hk c4 c6 f6 a2
  have c5 : wb.cell? ⟨s, 5, none⟩ = some (.bool b) := hsp2.cell 5
  have a0 : wb.cell? ⟨w.heap.size, 0, none⟩ = some (.int .i64 x.t) := hbx2.cell 0
  have a1 : wb.cell? ⟨w.heap.size, 1, none⟩ = some (.int .i64 x.v) := hbx2.cell 1
  have a2 : wb.cell? ⟨w.heap.size, 2, none⟩ = some (.int .i64 x.q) := hbx2.cell 2
  cases b
  · have hnr := fun (w : World) (h : Blk w s 162 (spanCells d m P false false lo hi)) => narrow_any s d m P x false false lo hi w h hP hx hd hlo hhi
    have HP := Lib.hid (And.intro hP (And.intro hx (And.intro hlo hhi)))
    clear hP hx hlo hhi
    go_wp2_with fail
    refine (hnr _ hsp2).mono ?_
    rintro e wc ⟨rfl, hsp3, hbt3⟩
    clear hnr
    go_wp2_with fail
    go_ret
    exact ⟨rfl, hsp3, hbt2.trans hbt3⟩
  · have hac := fun (w : World) (h : Blk w s 162 (spanCells d m P true false lo hi)) => accepts_any s d m P x true lo hi w h hP hx hlo hhi
    have hnr := fun (w : World) (h : Blk w s 162 (spanCells d m P true false lo hi)) => narrow_any s d m P x true false lo hi w h hP hx hd hlo hhi
    have HP := Lib.hid (And.intro hP (And.intro hx (And.intro hlo hhi)))
    clear hP hx hlo hhi
    go_wp2_with fail
    refine (hac _ hsp2).mono ?_
    rintro e wc ⟨rfl, hbc⟩
    have hsp3 := hsp2.below hbc hsp2.lt
    have hbx3 := hbx2.below hbc hbx2.lt
    have b0 : wc.cell? ⟨w.heap.size, 0, none⟩ = some (.int .i64 x.t) := hbx3.cell 0
    have b1 : wc.cell? ⟨w.heap.size, 1, none⟩ = some (.int .i64 x.v) := hbx3.cell 1
    have b2 : wc.cell? ⟨w.heap.size, 2, none⟩ = some (.int .i64 x.q) := hbx3.cell 2
    have hbt3 := hbt2.below hbc
    clear hac hbc a0 a1 a2 c5 hsp2 hbx2 hbt2
    go_wp2_with fail
    refine (hnr _ hsp3).mono ?_
    rintro e wd ⟨rfl, hsp4, hbt4⟩
    clear hnr
    go_wp2_with fail
    go_ret
    exact ⟨rfl, hsp4, hbt3.trans hbt4⟩
end Go.Proofs.Ytmcojidaimeijaa
