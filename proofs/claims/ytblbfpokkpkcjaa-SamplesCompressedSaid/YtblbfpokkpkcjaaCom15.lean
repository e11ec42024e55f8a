import Derived.Test.YtblbfpokkpkcjaaCom14
import Derived.Test.YtblbfpokkpkcjaaCom11
/- Plain mathematics of the compression: which indices one more sample archives. -/

namespace Go.Proofs.Ytblbfpokkpkcjaa
set_option linter.unusedVariables false
set_option linter.unusedSimpArgs false

theorem choI_inj {l : List Smp} (ho : Okl l) {a b : List Int} (ha : ∀ x ∈ a, 0 ≤ x ∧ x < (l.length : Int)) (hb : ∀ x ∈ b, 0 ≤ x ∧ x < (l.length : Int)) (h : choI l a = choI l b) : a = b := by
  induction a generalizing b with
  | nil =>
    cases b with
    | nil => rfl
    | cons y r => simp [choI] at h
  | cons x r ih =>
    cases b with
    | nil => simp [choI] at h
    | cons y s =>
      simp only [choI, List.map_cons, List.cons.injEq] at h
      obtain ⟨h1, h2⟩ := h
      have hx := ha x (by simp)
      have hy := hb y (by simp)
      have e : x.toNat = y.toNat := by
        rcases Nat.lt_trichotomy x.toNat y.toNat with h3 | h3 | h3
        · have := ho.lt x.toNat y.toNat h3 (by omega); rw [h1] at this; omega
        · exact h3
        · have := ho.lt y.toNat x.toNat h3 (by omega); rw [h1] at this; omega
      have e2 : x = y := by omega
      rw [e2, ih (fun z hz => ha z (by simp [hz])) (fun z hz => hb z (by simp [hz])) h2]
theorem atS_take (l : List Smp) (k i : Nat) (h : i < k) : atS (l.take k) i = atS l i := by
  unfold atS
  rw [List.getD_eq_getElem?_getD, List.getD_eq_getElem?_getD, List.getElem?_take_of_lt h]
theorem choI_take (l : List Smp) (k : Nat) (X : List Int) (h : ∀ x ∈ X, 0 ≤ x ∧ x < (k : Int)) : choI (l.take k) X = choI l X := by
  unfold choI
  refine List.map_congr_left fun x hx => ?_
  have := h x hx
  exact atS_take l k x.toNat (by omega)
theorem compTo_take (d m : Int) (l : List Smp) (k : Nat) (hk : k ≤ l.length) : compTo d m (l.take k) k = compTo d m l k := by
  have h := compTo_snoc d m (l.take k) (l.drop k) k (by simp; omega)
  rw [List.take_append_drop] at h
  exact h.symm
theorem compTo_range (d m : Int) (l : List Smp) (k : Nat) : ∀ x ∈ (compTo d m l k).1, 0 ≤ x ∧ x < (k : Int) := by
  rcases Nat.eq_zero_or_pos k with rfl | hk
  · intro x hx; simp [compTo] at hx
  · exact (compTo_inv d m l k hk).2.2.1
theorem arch_take (d m : Int) (l : List Smp) (k : Nat) (hk : k ≤ l.length) : arch d m (l.take k) = choI l (compTo d m l k).1 := by
  unfold arch
  rw [List.length_take, Nat.min_eq_left hk, compTo_take d m l k hk, choI_take l k _ (compTo_range d m l k)]
theorem take_more (l : List Smp) (k : Nat) (hk : k < l.length) : l.take k ++ [atS l k] = l.take (k + 1) := by
  rw [List.take_succ_eq_append_getElem hk]
  simp [atS, hk]
theorem idx_step {d m : Int} {l : List Smp} (ho : Okl l) {k : Nat} (hk : k < l.length) {bf nw : Bool}
    (h : arch d m (l.take k ++ [atS l k]) = arch d m (l.take k) ++ ((if bf = true then [atS (l.take k) ((l.take k).length - 1)] else []) ++ (if nw = true then [atS l k] else []))) (hb : bf = true → 0 < (l.take k).length) :
    (compTo d m l (k + 1)).1 = (compTo d m l k).1 ++ ((if bf = true then [((k : Int) - 1)] else []) ++ (if nw = true then [(k : Int)] else [])) := by
  have hl : (l.take k).length = k := by simp; omega
  rw [take_more l k hk, arch_take d m l (k + 1) hk, arch_take d m l k (by omega), hl] at h
  rw [hl] at hb
  refine choI_inj ho ?_ ?_ ?_
  · intro x hx; have := compTo_range d m l (k + 1) x hx; omega
  · intro x hx
    rcases List.mem_append.1 hx with h1 | h1
    · have := compTo_range d m l k x h1; omega
    · rcases List.mem_append.1 h1 with h2 | h2
      · cases bf <;> simp at h2
        have := hb rfl; omega
      · cases nw <;> simp at h2
        omega
  · rw [h, choI_app, choI_app]
    congr 1
    congr 1
    · cases bf
      · rfl
      · have h0 := hb rfl
        simp only [if_true, choI, List.map_cons, List.map_nil]
        rw [atS_take l k (k - 1) (by omega), show ((k : Int) - 1).toNat = k - 1 by omega]
    · cases nw
      · rfl
      · simp [choI]
theorem idx_end {d m : Int} {l : List Smp} (ho : Okl l) (hx : choI l (compressed d m l) = arch d m l ++ (if 0 < l.length ∧ beg d m l = true then [atS l (l.length - 1)] else [])) (hr : ∀ x ∈ compressed d m l, 0 ≤ x ∧ x < (l.length : Int)) :
    compressed d m l = (compTo d m l l.length).1 ++ (if 0 < l.length ∧ beg d m l = true then [((l.length : Int) - 1)] else []) := by
  refine choI_inj ho hr ?_ ?_
  · intro x hx
    rcases List.mem_append.1 hx with h1 | h1
    · exact compTo_range d m l l.length x h1
    · split at h1
      · rename_i h; simp at h1; omega
      · simp at h1
  · rw [hx, choI_app]
    congr 1
    split
    · rename_i h
      simp only [choI, List.map_cons, List.map_nil]
      rw [show ((l.length : Int) - 1).toNat = l.length - 1 by omega]
    · rfl
theorem compressed_range (d m : Int) (l : List Smp) : ∀ x ∈ compressed d m l, 0 ≤ x ∧ x < (l.length : Int) := by
  intro x hx
  unfold compressed at hx
  split at hx
  · simp at hx
  · unfold keepI at hx
    have hr := compTo_range d m l l.length
    simp only at hx
    split at hx
    · exact hr x hx
    · rcases List.mem_append.1 hx with h1 | h1
      · exact hr x h1
      · simp at h1; omega
end Go.Proofs.Ytblbfpokkpkcjaa

/- The contract of add of a span (package compress), of samples of any quality. -/

namespace Go.Proofs.Ytblbfpokkpkcjaa
open Go.RowKit
set_option linter.unusedVariables false
set_option linter.unusedSimpArgs false

set_option maxRecDepth 100000 in
set_option maxHeartbeats 2000000 in
theorem acceptsT_any (s : Nat) (d m : Int) (P x : Smp) (b : Bool) (lo hi : Int × Int) (w : World) (hs : Blk w s 206 (spanCells d m P b true lo hi)) (hP : FitP P) (hx : FitP x) :
    Calls Try.prog 193 #[.pointer (some ⟨s, 0, none⟩), .agg #[.int .i64 x.t, .int .i64 x.v, .int .i64 x.q]] w fun e w' => e = .returned (.bool false) ∧ Below w.heap.size w w' := by
  have hbw : Below w.heap.size w (w.alloc (.cells #[.int .i64 x.t, .int .i64 x.v, .int .i64 x.q] 71)) := (Below.refl _ w).alloc (Nat.le_refl _) _
  have hbx : Blk (w.alloc (.cells #[.int .i64 x.t, .int .i64 x.v, .int .i64 x.q] 71)) w.heap.size 71 #[.int .i64 x.t, .int .i64 x.v, .int .i64 x.q] := Blk.new _ _ _
  have hsp := hs.alloc (.cells #[.int .i64 x.t, .int .i64 x.v, .int .i64 x.q] 71)
  have hst := slopeTo_any s d m P x b true lo hi 0 _ hsp hP hx (by omega)
  clear hs
  have HST := Lib.hid hst
  clear hst hP hx
  go_enter Try.func193, Try.ntmps193
  go_upto_region 1 with fail
  generalize w.alloc (.cells #[.int .i64 x.t, .int .i64 x.v, .int .i64 x.q] 71) = w1 at *
  have a0 := hbx.cell 0
  have a1 := hbx.cell 1
  have a2 := hbx.cell 2
  go_wp2_with fail
  refine HST.out.mono ?_
  rintro e w2 ⟨rfl, hb2⟩
  have hsp2 := (hsp.below hb2 hsp.lt).alloc (.cells #[.int .i64 (x.v - P.v), .int .i64 (x.t - P.t)] 204)
  have hbe := (hbw.trans (hb2.mono hbw.size)).alloc (by have := hbw.size; have := hb2.size; omega) (.cells #[.int .i64 (x.v - P.v), .int .i64 (x.t - P.t)] 204)
  go_upto_region 2 with fail
  generalize w2.alloc (.cells #[.int .i64 (x.v - P.v), .int .i64 (x.t - P.t)] 204) = w3 at *
  have c6 : w3.cell? ⟨s, 6, none⟩ = some (.bool true) := hsp2.cell 6
  clear a0 a1 a2 hbx hsp
  go_region
  all_goals go_wp2_with fail
  all_goals go_ret
  all_goals exact ⟨rfl, hbe.drew⟩

set_option maxRecDepth 100000 in
set_option maxHeartbeats 2000000 in
theorem spanAddT_any (s : Nat) (d m : Int) (P x : Smp) (b mx : Bool) (lo hi : Int × Int) (w : World) (hs : Blk w s 206 (spanCells d m P b mx lo hi)) (hP : FitP P) (hx : FitP x) (hq : mx = true ∨ x.q ≠ P.q) (hd : 0 ≤ d ∧ d ≤ 2000000) (hlo : FitS lo) (hhi : FitS hi) :
    Calls Try.prog 168 #[.pointer (some ⟨s, 0, none⟩), .agg #[.int .i64 x.t, .int .i64 x.v, .int .i64 x.q]] w fun e w' => e = .returned (.bool (!b)) ∧
      Blk w' s 206 (spanCells d m P true true (lowN b lo (x.v + -d - P.v, x.t - P.t)) (highN b hi (x.v + d - P.v, x.t - P.t))) ∧ But s w w' := by
  have hk : KN w s w.heap.size (spanCells d m P b mx lo hi) x (w.alloc (.cells #[.int .i64 x.t, .int .i64 x.v, .int .i64 x.q] 71)) :=
    ⟨hs.alloc _, Blk.new _ _ _, (Below.refl _ w).alloc (Nat.le_refl _) _⟩
  have hsw : s < w.heap.size := hs.lt
  clear hs
  go_enter Try.func168, Try.ntmps168
  go_wp2_with fail
  generalize w.alloc (.cells #[.int .i64 x.t, .int .i64 x.v, .int .i64 x.q] 71) = wa at *
  have c4 : wa.cell? ⟨s, 4, none⟩ = some (.int .i64 P.q) := hk.sp.cell 4
  have c6 : wa.cell? ⟨s, 6, none⟩ = some (.bool mx) := hk.sp.cell 6
  have f6 : wa.frozen? ⟨s, 6, none⟩ = false := hk.sp.frozen 6
  have a2 : wa.cell? ⟨w.heap.size, 2, none⟩ = some (.int .i64 x.q) := hk.bx.cell 2
  have hne : w.heap.size ≠ s := by omega
  have hsp2 : Blk ((wa.setCell ⟨s, 6, none⟩ (.bool true)).drew) s 206 (spanCells d m P b true lo hi) := (hk.sp.set_ 6 (.bool true)).drew
  have hbx2 : Blk ((wa.setCell ⟨s, 6, none⟩ (.bool true)).drew) w.heap.size 71 #[.int .i64 x.t, .int .i64 x.v, .int .i64 x.q] := (hk.bx.setOther hne _).drew
  have hbt2 : But s w ((wa.setCell ⟨s, 6, none⟩ (.bool true)).drew) := (((But.refl s w).below hk.bl).setCell (.inl rfl) _).drew
  go_cut [] from 6 (fun wx => ∃ W, W = wx ∧ Blk W s 206 (spanCells d m P b true lo hi) ∧ Blk W w.heap.size 71 #[.int .i64 x.t, .int .i64 x.v, .int .i64 x.q] ∧ But s w W)
  case first =>
    cases mx
    · have hqq : (x.q != P.q) = true := by simpa using hq.resolve_left (by simp)
      clear hq
      go_region
      all_goals go_wp2_with fail
      all_goals go_meet
      all_goals exact ⟨_, rfl, hsp2, hbx2, hbt2⟩
    · clear hq
      go_region
      all_goals go_wp2_with fail
      all_goals go_meet
      all_goals exact ⟨_, rfl, hsp2, hbx2, hbt2⟩
  case rest =>
  obtain ⟨wb, rfl, hsp2, hbx2, hbt2⟩ := hcut
  clear hk c4 c6 f6 a2
  have c5 : wb.cell? ⟨s, 5, none⟩ = some (.bool b) := hsp2.cell 5
  have a0 : wb.cell? ⟨w.heap.size, 0, none⟩ = some (.int .i64 x.t) := hbx2.cell 0
  have a1 : wb.cell? ⟨w.heap.size, 1, none⟩ = some (.int .i64 x.v) := hbx2.cell 1
  have a2 : wb.cell? ⟨w.heap.size, 2, none⟩ = some (.int .i64 x.q) := hbx2.cell 2
  cases b
  · have hnr := fun (w : World) (h : Blk w s 206 (spanCells d m P false true lo hi)) => narrow_any s d m P x false true lo hi w h hP hx hd hlo hhi
    have HP := Lib.hid (And.intro hP (And.intro hx (And.intro hlo hhi)))
    clear hP hx hlo hhi
    go_wp2_with fail
    refine (hnr _ hsp2).mono ?_
    rintro e wc ⟨rfl, hsp3, hbt3⟩
    clear hnr
    go_wp2_with fail
    go_ret
    exact ⟨rfl, hsp3, hbt2.trans hbt3⟩
  · have hac := fun (w : World) (h : Blk w s 206 (spanCells d m P true true lo hi)) => acceptsT_any s d m P x true lo hi w h hP hx
    have hnr := fun (w : World) (h : Blk w s 206 (spanCells d m P true true lo hi)) => narrow_any s d m P x true true lo hi w h hP hx hd hlo hhi
    have HP := Lib.hid (And.intro hP (And.intro hx (And.intro hlo hhi)))
    clear hP hx hlo hhi
    go_wp2_with fail
    refine (hac _ hsp2).mono ?_
    rintro e wc ⟨rfl, hbc⟩
    have hsp3 := hsp2.below hbc hsp2.lt
    have hbx3 := hbx2.below hbc hbx2.lt
    have b0 : wc.cell? ⟨w.heap.size, 0, none⟩ = some (.int .i64 x.t) := hbx3.cell 0
    have b1 : wc.cell? ⟨w.heap.size, 1, none⟩ = some (.int .i64 x.v) := hbx3.cell 1
    have b2 : wc.cell? ⟨w.heap.size, 2, none⟩ = some (.int .i64 x.q) := hbx3.cell 2
    have hbt3 := hbt2.below hbc
    clear hac hbc a0 a1 a2 c5 hsp2 hbx2 hbt2
    go_wp2_with fail
    refine (hnr _ hsp3).mono ?_
    rintro e wd ⟨rfl, hsp4, hbt4⟩
    clear hnr
    go_wp2_with fail
    go_ret
    exact ⟨rfl, hsp4, hbt3.trans hbt4⟩
end Go.Proofs.Ytblbfpokkpkcjaa
