import Derived.Test.YtblbfpokkpkcjaaCom13
/- A compressor's state after some samples, and what process does to it (package compress). -/

namespace Go.Proofs.Ytblbfpokkpkcjaa
open Go.RowKit
set_option linter.unusedVariables false
set_option linter.unusedSimpArgs false

/-- Only compressors and spans from block B on have turned. -/
structure Cg (B : Nat) (w w' : World) : Prop where
  bl : Below B w w'
  ty : ∀ (b : Nat) (cur : Array Value) (t : TypeId) (fr : Nat × Nat), w.heap[b]? = some (Obj.cells cur t fr) → t ≠ 152 → t ≠ 206 → w'.heap[b]? = w.heap[b]?
theorem Cg.refl (B : Nat) (w : World) : Cg B w w := ⟨Below.refl _ _, fun _ _ _ _ _ _ _ => rfl⟩
theorem Cg.trans {B : Nat} {a b d : World} (h : Cg B a b) (k : Cg B b d) : Cg B a d :=
  ⟨h.bl.trans k.bl, fun i cur t fr hi h1 h2 => (k.ty i cur t fr ((h.ty i cur t fr hi h1 h2).trans hi) h1 h2).trans (h.ty i cur t fr hi h1 h2)⟩
theorem Cg.of_below {B : Nat} {w w' : World} (h : Below w.heap.size w w') (hB : B ≤ w.heap.size) : Cg B w w' := ⟨h.mono hB, fun b _ _ _ hh _ _ => h.block b (lt_of_heap hh)⟩
theorem Cg.of_but2 {B c s : Nat} {w w' : World} {cc cs : Array Value} (h : But2 c s w w') (hc : Blk w c 152 cc) (hs : Blk w s 206 cs) (h1 : B ≤ c) (h2 : B ≤ s) : Cg B w w' :=
  ⟨⟨h.os, h.tape, h.output, h.size, fun i hi => h.block i (by have := hc.lt; omega) (by omega) (by omega)⟩, fun b cur t fr hh t1 t2 => h.block b (lt_of_heap hh)
    (by rintro rfl; exact hc.no (Ne.symm t1) _ _ hh) (by rintro rfl; exact hs.no (Ne.symm t2) _ _ hh)⟩
theorem Cg.of_but {B c : Nat} {w w' : World} {cc : Array Value} (h : But c w w') (hc : Blk w c 152 cc) (h1 : B ≤ c) : Cg B w w' :=
  ⟨⟨h.os, h.tape, h.output, h.size, fun i hi => h.block i (by have := hc.lt; omega) (by omega)⟩, fun b cur t fr hh t1 t2 => h.block b (lt_of_heap hh) (by rintro rfl; exact hc.no (Ne.symm t1) _ _ hh)⟩
theorem Cg.own {B base : Nat} {w w' : World} {e : TypeId} {size n : Nat} {v : Value} {xs : List Value} (h : Cg B w w') (ho : w.ownsRow base e size v n xs) (h1 : e ≠ 152) (h2 : e ≠ 206) : w'.ownsRow base e size v n xs :=
  own_keep ho fun b cur fr hh => h.ty b cur e fr hh h1 h2
theorem Cg.blk {B b : Nat} {w w' : World} {t : TypeId} {cs : Array Value} (h : Cg B w w') (hb : Blk w b t cs) (h1 : t ≠ 152) (h2 : t ≠ 206) : Blk w' b t cs := (h.ty b cs t _ hb h1 h2).trans hb

/-- What a series that was taken fits into. -/
structure FitL (l : List Smp) : Prop where
  ok : Okl l
  fit : ∀ i, i < l.length → FitP (atS l i)

/-- Block c is a compressor that has taken the samples l. -/
def CompSt (B : Nat) (w : World) (c : Nat) (d m : Int) (l : List Smp) : Prop :=
  B ≤ c ∧ ((l = [] ∧ ∃ H, Blk w c 152 (compCells d m none H)) ∨
    (0 < l.length ∧ ∃ s lo hi, B ≤ s ∧ Blk w c 152 (compCells d m (some ⟨s, 0, none⟩) (atS l (l.length - 1))) ∧
      Blk w s 206 (spanCells d m (atS l (piv d m l)) (beg d m l) false lo hi) ∧ FitS lo ∧ FitS hi ∧ (beg d m l = true → IsLow d l (piv d m l) l.length lo ∧ IsHigh d l (piv d m l) l.length hi)))
theorem CompSt.keep {B c : Nat} {w w' : World} {d m : Int} {l : List Smp} (h : CompSt B w c d m l) (hk : ∀ b, B ≤ b → b < w.heap.size → ∀ cur t fr, w.heap[b]? = some (Obj.cells cur t fr) → (t = 152 ∨ t = 206) → w'.heap[b]? = w.heap[b]?) : CompSt B w' c d m l := by
  obtain ⟨h0, h1⟩ := h
  refine ⟨h0, ?_⟩
  rcases h1 with ⟨rfl, H, hc⟩ | ⟨hl, s, lo, hi, hs0, hc, hs, h2⟩
  · exact .inl ⟨rfl, H, (hk c h0 hc.lt _ _ _ hc (.inl rfl)).trans hc⟩
  · exact .inr ⟨hl, s, lo, hi, hs0, (hk c h0 hc.lt _ _ _ hc (.inl rfl)).trans hc, (hk s hs0 hs.lt _ _ _ hs (.inr rfl)).trans hs, h2⟩
theorem CompSt.below {B c : Nat} {w w' : World} {d m : Int} {l : List Smp} (h : CompSt B w c d m l) (hb : Below w.heap.size w w') : CompSt B w' c d m l := h.keep fun b _ hlt _ _ _ _ _ => hb.block b hlt
theorem CompSt.but {B c g : Nat} {w w' : World} {d m : Int} {l : List Smp} (h : CompSt B w c d m l) (hb : But g w w') (hg : g < B) : CompSt B w' c d m l := h.keep fun b h1 hlt _ _ _ _ _ => hb.block b hlt (by omega)

theorem slope_fit {l : List Smp} {p j : Nat} {u : Int} (hl : FitL l) (hp : p < l.length) (hj : j < l.length) (hu : -2000000 ≤ u ∧ u ≤ 2000000) : FitS (slopeI l p j u) := by
  have h1 := hl.fit p hp
  have h2 := hl.fit j hj
  unfold FitP at h1 h2
  unfold FitS slopeI
  simp only
  omega
theorem FitL.snoc_left {l : List Smp} {x : Smp} (h : FitL (l ++ [x])) : FitL l := by
  have e := fun i (hi : i < l.length) => atS_snoc l x i hi
  refine ⟨⟨fun i k hik hk => ?_, fun j hj hq => ?_⟩, fun i hi => ?_⟩
  · have := h.ok.lt i k hik (by simp; omega); rwa [e i (by omega), e k hk] at this
  · have := h.ok.bad j (by simp; omega); rw [e j hj] at this; exact this hq
  · have := h.fit i (by simp; omega); rwa [e i hi] at this

theorem accI_eq {m : Int} {l : List Smp} {x : Smp} {p : Nat} {lo hi : Int × Int} (hp : p < l.length) : accI m (atS l p) x lo hi = accB m (l ++ [x]) p l.length lo hi := by
  unfold accI accB slopeI
  rw [atS_last, atS_snoc l x p hp, Int.add_zero]
theorem slope_last {l : List Smp} {x : Smp} {p : Nat} {u : Int} (hp : p < l.length) : slopeI (l ++ [x]) p l.length u = (x.v + u - (atS l p).v, x.t - (atS l p).t) := by
  unfold slopeI; rw [atS_last, atS_snoc l x p hp]
/-- What process returns, and what it leaves. -/
def ProcEnd (B c : Nat) (d m : Int) (l : List Smp) (x : Smp) (w : World) (e : Ending) (w' : World) : Prop :=
  ∃ bf nw : Bool, e = .returned (.tuple #[.bool bf, .bool nw]) ∧ arch d m (l ++ [x]) = arch d m l ++ ((if bf = true then [atS l (l.length - 1)] else []) ++ (if nw = true then [x] else [])) ∧ CompSt B w' c d m (l ++ [x]) ∧ Cg B w w' ∧ (bf = true → 0 < l.length)

theorem process_step (B c : Nat) (d m : Int) (l : List Smp) (x : Smp) (w : World) (hS : CompSt B w c d m l) (hl : FitL (l ++ [x])) (hd : 0 ≤ d ∧ d ≤ 2000000) (hBw : B ≤ w.heap.size) :
    Calls Try.prog 106 #[.pointer (some ⟨c, 0, none⟩), .agg #[.int .i64 x.t, .int .i64 x.v, .int .i64 x.q]] w (ProcEnd B c d m l x w) := by
  have hf0 : FitS (0, 0) := by unfold FitS; simp
  have hlast : atS (l ++ [x]) ((l ++ [x]).length - 1) = x := by rw [List.length_append, List.length_singleton, Nat.add_sub_cancel]; exact atS_last l x
  have hlen : (l ++ [x]).length = l.length + 1 := by simp
  obtain ⟨hBc, hS⟩ := hS
  rcases hS with ⟨rfl, H, hc⟩ | ⟨hl0, s, lo, hi, hBs, hc, hs, hlo, hhi, hbd⟩
  · refine (process_none c d m H x w hc).mono ?_
    rintro e w' ⟨g, rfl, hg, hc', hs', hb⟩
    obtain ⟨f1, f2⟩ := first_step (d := d) (m := m) (x := x)
    have hbeg : beg d m ([] ++ [x]) = false := by unfold beg; rw [f2]; simp
    refine ⟨false, true, rfl, by rw [f1]; simp [arch, compTo, choI], ⟨hBc, .inr ⟨by simp, g, (0, 0), (0, 0), by omega, ?_, ?_, hf0, hf0, fun h => by rw [hbeg] at h; cases h⟩⟩, Cg.of_but hb hc hBc, fun h => by cases h⟩
    · rw [hlast]; exact hc'
    · rw [f2, hbeg]; exact hs'
  · have hp := piv_lt (d := d) (m := m) hl0
    have hll := hl.snoc_left
    have hheld := atS_snoc l x (l.length - 1) (by omega)
    have hfx : FitP x := by have := hl.fit l.length (by simp); rwa [atS_last] at this
    have hfp := hll.fit _ hp
    have hfh := hll.fit (l.length - 1) (by omega)
    have hpe := atS_snoc l x (piv d m l) hp
    by_cases hq : x.q = (atS l (piv d m l)).q
    · have hqual : ∀ j, piv d m l ≤ j → j < l.length → (atS l j).q = (atS l (piv d m l)).q := compTo_qual d m l l.length hl0
      by_cases hB : (!beg d m l || accI m (atS l (piv d m l)) x lo hi) = true
      · refine (process_open c s d m _ _ x _ lo hi w hc hs hq hfp hfx hd hlo hhi hB).mono ?_
        rintro e w' ⟨rfl, hc', hs', hb⟩
        have hso : shut d m (l ++ [x]) (piv d m l) l.length = false ∨ beg d m l = false := by
          cases hbg : beg d m l
          · exact .inr rfl
          · have hb1 : piv d m l + 1 < l.length := by unfold beg at hbg; simpa using hbg
            have hq2 : ∀ j, piv d m l ≤ j → j ≤ l.length → (atS (l ++ [x]) j).q = (atS (l ++ [x]) (piv d m l)).q := by
              intro j h1 h2
              rw [hpe]
              by_cases hj : j = l.length
              · subst hj; rw [atS_last]; exact hq
              · rw [atS_snoc l x j (by omega)]; exact hqual j h1 (by omega)
            have ha := acc_shut hl.ok hd.1 (by simp) hb1 (isLow_snoc (Nat.le_refl _) (hbd hbg).1) (isHigh_snoc (Nat.le_refl _) (hbd hbg).2) hq2 (m := m)
            rw [hbg, accI_eq hp, ha] at hB
            left
            simpa using hB
        obtain ⟨f1, f2⟩ := open_step (d := d) (m := m) hl0 hq hso
        have hbeg : beg d m (l ++ [x]) = true := by unfold beg; rw [f2, hlen]; simp; omega
        have hfs := slope_fit (p := piv d m l) (j := l.length) (u := -d) hl (by simp; omega) (by simp) (by omega)
        have hfs2 := slope_fit (p := piv d m l) (j := l.length) (u := d) hl (by simp; omega) (by simp) (by omega)
        rw [slope_last hp] at hfs hfs2
        refine ⟨false, false, rfl, by rw [f1]; simp, ⟨hBc, .inr ⟨by simp, s, _, _, hBs, by rw [hlast]; exact hc', by rw [f2, hbeg, hpe]; exact hs', ?_, ?_, fun _ => ⟨?_, ?_⟩⟩⟩, Cg.of_but2 hb hc hs hBc hBs, fun h => by cases h⟩
        · unfold lowN; split
          · exact hfs
          · exact hlo
        · unfold highN; split
          · exact hfs2
          · exact hhi
        · rw [f2, hlen]
          cases hbg : beg d m l
          · have hb1 : piv d m l + 1 = l.length := by unfold beg at hbg; simp at hbg; omega
            have := low_first d (l ++ [x]) (piv d m l)
            rw [hb1, slope_last hp, show piv d m l + 2 = l.length + 1 by omega] at this
            unfold lowN; rw [if_pos (.inl rfl)]; exact this
          · have := low_next hl.ok.lt (by simp) hp (isLow_snoc (x := x) (Nat.le_refl _) (hbd hbg).1)
            rw [slope_last hp] at this
            unfold lowN
            simpa using this
        · rw [f2, hlen]
          cases hbg : beg d m l
          · have hb1 : piv d m l + 1 = l.length := by unfold beg at hbg; simp at hbg; omega
            have := high_first d (l ++ [x]) (piv d m l)
            rw [hb1, slope_last hp, show piv d m l + 2 = l.length + 1 by omega] at this
            unfold highN; rw [if_pos (.inl rfl)]; exact this
          · have := high_next hl.ok.lt (by simp) hp (isHigh_snoc (x := x) (Nat.le_refl _) (hbd hbg).2)
            rw [slope_last hp] at this
            unfold highN
            simpa using this
      · have hB' : (!beg d m l || accI m (atS l (piv d m l)) x lo hi) = false := by simpa using hB
        have hhq : x.q = (atS l (l.length - 1)).q := by rw [hqual (l.length - 1) (by omega) (by omega)]; exact hq
        refine (process_shut c s d m _ _ x _ lo hi w hc hs hq hfp hfx hd hlo hhi hB' hfh hhq).mono ?_
        rintro e w' ⟨g, rfl, hg, hc', hs', hb⟩
        have hbg : beg d m l = true := by
          cases h : beg d m l
          · rw [h] at hB'; simp at hB'
          · rfl
        have hb1 : piv d m l + 1 < l.length := by unfold beg at hbg; simpa using hbg
        have hq2 : ∀ j, piv d m l ≤ j → j ≤ l.length → (atS (l ++ [x]) j).q = (atS (l ++ [x]) (piv d m l)).q := by
          intro j h1 h2
          rw [hpe]
          by_cases hj : j = l.length
          · subst hj; rw [atS_last]; exact hq
          · rw [atS_snoc l x j (by omega)]; exact hqual j h1 (by omega)
        have ha := acc_shut hl.ok hd.1 (by simp) hb1 (isLow_snoc (Nat.le_refl _) (hbd hbg).1) (isHigh_snoc (Nat.le_refl _) (hbd hbg).2) hq2 (m := m)
        have hsh : shut d m (l ++ [x]) (piv d m l) l.length = true := by
          rw [hbg, accI_eq hp, ha] at hB'
          simpa using hB'
        obtain ⟨f1, f2⟩ := shut_step (d := d) (m := m) hl0 hq hsh hbg
        have hbeg : beg d m (l ++ [x]) = true := by unfold beg; rw [f2, hlen]; simp; omega
        have hpl : l.length - 1 < l.length := by omega
        have hfs := slope_fit (p := l.length - 1) (j := l.length) (u := -d) hl (by simp; omega) (by simp) (by omega)
        have hfs2 := slope_fit (p := l.length - 1) (j := l.length) (u := d) hl (by simp; omega) (by simp) (by omega)
        rw [slope_last hpl] at hfs hfs2
        have h1 := low_first d (l ++ [x]) (l.length - 1)
        have h2 := high_first d (l ++ [x]) (l.length - 1)
        rw [show l.length - 1 + 1 = l.length by omega, slope_last hpl, show l.length - 1 + 2 = l.length + 1 by omega] at h1 h2
        refine ⟨true, false, rfl, by rw [f1]; simp, ⟨hBc, .inr ⟨by simp, g, _, _, by omega, by rw [hlast]; exact hc', by rw [f2, hbeg, hheld]; exact hs', hfs, hfs2, fun _ => ?_⟩⟩, Cg.of_but2 hb hc hs hBc hBs, fun _ => hl0⟩
        rw [f2, hlen]
        exact ⟨h1, h2⟩
    · refine (process_qual c s d m _ _ x _ lo hi w hc hs (fun h => hq h.symm)).mono ?_
      rintro e w' ⟨g, rfl, hg, hc', hs', hb⟩
      obtain ⟨f1, f2⟩ := qual_step (d := d) (m := m) hl0 hq
      have hbeg : beg d m (l ++ [x]) = false := by unfold beg; rw [f2, hlen]; simp
      refine ⟨beg d m l, true, rfl, by rw [f1]; simp, ⟨hBc, .inr ⟨by simp, g, (0, 0), (0, 0), by omega, ?_, ?_, hf0, hf0, fun h => by rw [hbeg] at h; cases h⟩⟩, Cg.of_but hb hc hBc, fun _ => hl0⟩
      · rw [hlast]; exact hc'
      · rw [f2, hbeg, atS_last]; exact hs'
end Go.Proofs.Ytblbfpokkpkcjaa
