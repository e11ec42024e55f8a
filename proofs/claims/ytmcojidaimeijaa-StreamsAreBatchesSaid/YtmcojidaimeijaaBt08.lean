import Derived.Test.YtmcojidaimeijaaBt07
import Derived.Test.YtmcojidaimeijaaSerr
/- A compressor's state after some samples, and what process does to it (package compress). -/

namespace Go.Proofs.Ytmcojidaimeijaa
open Go.RowKit
set_option linter.unusedVariables false
set_option linter.unusedSimpArgs false

/-- Only compressors and spans from block B on have turned. -/
structure Cg (B : Nat) (w w' : World) : Prop where
  bl : Below B w w'
  ty : ∀ (b : Nat) (cur : Array Value) (t : TypeId) (fr : Nat × Nat), w.heap[b]? = some (Obj.cells cur t fr) → t ≠ 119 → t ≠ 162 → w'.heap[b]? = w.heap[b]?
theorem Cg.refl (B : Nat) (w : World) : Cg B w w := ⟨Below.refl _ _, fun _ _ _ _ _ _ _ => rfl⟩
theorem Cg.trans {B : Nat} {a b d : World} (h : Cg B a b) (k : Cg B b d) : Cg B a d :=
  ⟨h.bl.trans k.bl, fun i cur t fr hi h1 h2 => (k.ty i cur t fr ((h.ty i cur t fr hi h1 h2).trans hi) h1 h2).trans (h.ty i cur t fr hi h1 h2)⟩
theorem Cg.of_below {B : Nat} {w w' : World} (h : Below w.heap.size w w') (hB : B ≤ w.heap.size) : Cg B w w' := ⟨h.mono hB, fun b _ _ _ hh _ _ => h.block b (lt_of_heap hh)⟩
theorem Cg.of_but2 {B c s : Nat} {w w' : World} {cc cs : Array Value} (h : But2 c s w w') (hc : Blk w c 119 cc) (hs : Blk w s 162 cs) (h1 : B ≤ c) (h2 : B ≤ s) : Cg B w w' :=
  ⟨⟨h.os, h.tape, h.output, h.size, fun i hi => h.block i (by have := hc.lt; omega) (by omega) (by omega)⟩, fun b cur t fr hh t1 t2 => h.block b (lt_of_heap hh)
    (by rintro rfl; exact hc.no (Ne.symm t1) _ _ hh) (by rintro rfl; exact hs.no (Ne.symm t2) _ _ hh)⟩
theorem Cg.of_but {B c : Nat} {w w' : World} {cc : Array Value} (h : But c w w') (hc : Blk w c 119 cc) (h1 : B ≤ c) : Cg B w w' :=
  ⟨⟨h.os, h.tape, h.output, h.size, fun i hi => h.block i (by have := hc.lt; omega) (by omega)⟩, fun b cur t fr hh t1 t2 => h.block b (lt_of_heap hh) (by rintro rfl; exact hc.no (Ne.symm t1) _ _ hh)⟩
theorem Cg.own {B base : Nat} {w w' : World} {e : TypeId} {size n : Nat} {v : Value} {xs : List Value} (h : Cg B w w') (ho : w.ownsRow base e size v n xs) (h1 : e ≠ 119) (h2 : e ≠ 162) : w'.ownsRow base e size v n xs :=
  own_keep ho fun b cur fr hh => h.ty b cur e fr hh h1 h2
theorem Cg.blk {B b : Nat} {w w' : World} {t : TypeId} {cs : Array Value} (h : Cg B w w') (hb : Blk w b t cs) (h1 : t ≠ 119) (h2 : t ≠ 162) : Blk w' b t cs := (h.ty b cs t _ hb h1 h2).trans hb

/-- What a series that was taken fits into. -/
structure FitL (l : List Smp) : Prop where
  ok : Okl l
  fit : ∀ i, i < l.length → FitP (atS l i)

/-- Block c is a compressor that has taken the samples l. -/
def CompSt (B : Nat) (w : World) (c : Nat) (d m : Int) (l : List Smp) : Prop :=
  B ≤ c ∧ ((l = [] ∧ ∃ H, Blk w c 119 (compCells d m none H)) ∨
    (0 < l.length ∧ ∃ s lo hi, B ≤ s ∧ Blk w c 119 (compCells d m (some ⟨s, 0, none⟩) (atS l (l.length - 1))) ∧
      Blk w s 162 (spanCells d m (atS l (piv d m l)) (beg d m l) false lo hi) ∧ FitS lo ∧ FitS hi ∧ (beg d m l = true → IsLow d l (piv d m l) l.length lo ∧ IsHigh d l (piv d m l) l.length hi)))
theorem CompSt.keep {B c : Nat} {w w' : World} {d m : Int} {l : List Smp} (h : CompSt B w c d m l) (hk : ∀ b, B ≤ b → b < w.heap.size → ∀ cur t fr, w.heap[b]? = some (Obj.cells cur t fr) → (t = 119 ∨ t = 162) → w'.heap[b]? = w.heap[b]?) : CompSt B w' c d m l := by
  obtain ⟨h0, h1⟩ := h
  refine ⟨h0, ?_⟩
  rcases h1 with ⟨rfl, H, hc⟩ | ⟨hl, s, lo, hi, hs0, hc, hs, h2⟩
  · exact .inl ⟨rfl, H, (hk c h0 hc.lt _ _ _ hc (.inl rfl)).trans hc⟩
  · exact .inr ⟨hl, s, lo, hi, hs0, (hk c h0 hc.lt _ _ _ hc (.inl rfl)).trans hc, (hk s hs0 hs.lt _ _ _ hs (.inr rfl)).trans hs, h2⟩
theorem CompSt.below {B c : Nat} {w w' : World} {d m : Int} {l : List Smp} (h : CompSt B w c d m l) (hb : Below w.heap.size w w') : CompSt B w' c d m l := h.keep fun b _ hlt _ _ _ _ _ => hb.block b hlt
theorem CompSt.but {B c g : Nat} {w w' : World} {d m : Int} {l : List Smp} (h : CompSt B w c d m l) (hb : But g w w') (hg : g < B) : CompSt B w' c d m l := h.keep fun b h1 hlt _ _ _ _ _ => hb.block b hlt (by omega)

theorem slope_fit {l : List Smp} {p j : Nat} {u : Int} (hl : FitL l) (hp : p < l.length) (hj : j < l.length) (hu : -2000000 ≤ u ∧ u ≤ 2000000) : FitS (slopeI l p j u) := by
  have h1 := hl.fit p hp
  have h2 := hl.fit j hj
  unfold FitP at h1 h2
  unfold FitS slopeI
  simp only
  omega
theorem FitL.snoc_left {l : List Smp} {x : Smp} (h : FitL (l ++ [x])) : FitL l := by
  have e := fun i (hi : i < l.length) => atS_snoc l x i hi
  refine ⟨⟨fun i k hik hk => ?_, fun j hj hq => ?_⟩, fun i hi => ?_⟩
  · have := h.ok.lt i k hik (by simp; omega); rwa [e i (by omega), e k hk] at this
  · have := h.ok.bad j (by simp; omega); rw [e j hj] at this; exact this hq
  · have := h.fit i (by simp; omega); rwa [e i hi] at this

theorem accI_eq {m : Int} {l : List Smp} {x : Smp} {p : Nat} {lo hi : Int × Int} (hp : p < l.length) : accI m (atS l p) x lo hi = accB m (l ++ [x]) p l.length lo hi := by
  unfold accI accB slopeI
  rw [atS_last, atS_snoc l x p hp, Int.add_zero]
theorem slope_last {l : List Smp} {x : Smp} {p : Nat} {u : Int} (hp : p < l.length) : slopeI (l ++ [x]) p l.length u = (x.v + u - (atS l p).v, x.t - (atS l p).t) := by
  unfold slopeI; rw [atS_last, atS_snoc l x p hp]
/-- What process returns, and what it leaves. -/
def ProcEnd (B c : Nat) (d m : Int) (l : List Smp) (x : Smp) (w : World) (e : Ending) (w' : World) : Prop :=
  ∃ bf nw : Bool, e = .returned (.tuple #[.bool bf, .bool nw]) ∧ arch d m (l ++ [x]) = arch d m l ++ ((if bf = true then [atS l (l.length - 1)] else []) ++ (if nw = true then [x] else [])) ∧ CompSt B w' c d m (l ++ [x]) ∧ Cg B w w' ∧ (bf = true → 0 < l.length)

theorem process_step (B c : Nat) (d m : Int) (l : List Smp) (x : Smp) (w : World) (hS : CompSt B w c d m l) (hl : FitL (l ++ [x])) (hd : 0 ≤ d ∧ d ≤ 2000000) (hBw : B ≤ w.heap.size) :
    Calls Try.prog 70 #[.pointer (some ⟨c, 0, none⟩), .agg #[.int .i64 x.t, .int .i64 x.v, .int .i64 x.q]] w (ProcEnd B c d m l x w) := by
  have hf0 : FitS (0, 0) := by unfold FitS; simp
  have hlast : atS (l ++ [x]) ((l ++ [x]).length - 1) = x := by rw [List.length_append, List.length_singleton, Nat.add_sub_cancel]; exact atS_last l x
  have hlen : (l ++ [x]).length = l.length + 1 := by simp
  obtain ⟨hBc, hS⟩ := hS
  rcases hS with ⟨rfl, H, hc⟩ | ⟨hl0, s, lo, hi, hBs, hc, hs, hlo, hhi, hbd⟩
  · refine (process_none c d m H x w hc).mono ?_
    rintro e w' ⟨g, rfl, hg, hc', hs', hb⟩
    obtain ⟨f1, f2⟩ := first_step (d := d) (m := m) (x := x)
    have hbeg : beg d m ([] ++ [x]) = false := by unfold beg; rw [f2]; simp
    refine ⟨false, true, rfl, by rw [f1]; simp [arch, compTo, choI], ⟨hBc, .inr ⟨by simp, g, (0, 0), (0, 0), by omega, ?_, ?_, hf0, hf0, fun h => by rw [hbeg] at h; cases h⟩⟩, Cg.of_but hb hc hBc, fun h => by cases h⟩
    · rw [hlast]; exact hc'
    · rw [f2, hbeg]; exact hs'
  · have hp := piv_lt (d := d) (m := m) hl0
    have hll := hl.snoc_left
    have hheld := atS_snoc l x (l.length - 1) (by omega)
    have hfx : FitP x := by have := hl.fit l.length (by simp); rwa [atS_last] at this
    have hfp := hll.fit _ hp
    have hfh := hll.fit (l.length - 1) (by omega)
    have hpe := atS_snoc l x (piv d m l) hp
    by_cases hq : x.q = (atS l (piv d m l)).q
    · have hqual : ∀ j, piv d m l ≤ j → j < l.length → (atS l j).q = (atS l (piv d m l)).q := compTo_qual d m l l.length hl0
      by_cases hB : (!beg d m l || accI m (atS l (piv d m l)) x lo hi) = true
      · refine (process_open c s d m _ _ x _ lo hi w hc hs hq hfp hfx hd hlo hhi hB).mono ?_
        rintro e w' ⟨rfl, hc', hs', hb⟩
        have hso : shut d m (l ++ [x]) (piv d m l) l.length = false ∨ beg d m l = false := by
          cases hbg : beg d m l
          · exact .inr rfl
          · have hb1 : piv d m l + 1 < l.length := by unfold beg at hbg; simpa using hbg
            have hq2 : ∀ j, piv d m l ≤ j → j ≤ l.length → (atS (l ++ [x]) j).q = (atS (l ++ [x]) (piv d m l)).q := by
              intro j h1 h2
              rw [hpe]
              by_cases hj : j = l.length
              · subst hj; rw [atS_last]; exact hq
              · rw [atS_snoc l x j (by omega)]; exact hqual j h1 (by omega)
            have ha := acc_shut hl.ok hd.1 (by simp) hb1 (isLow_snoc (Nat.le_refl _) (hbd hbg).1) (isHigh_snoc (Nat.le_refl _) (hbd hbg).2) hq2 (m := m)
            rw [hbg, accI_eq hp, ha] at hB
            left
            simpa using hB
        obtain ⟨f1, f2⟩ := open_step (d := d) (m := m) hl0 hq hso
        have hbeg : beg d m (l ++ [x]) = true := by unfold beg; rw [f2, hlen]; simp; omega
        have hfs := slope_fit (p := piv d m l) (j := l.length) (u := -d) hl (by simp; omega) (by simp) (by omega)
        have hfs2 := slope_fit (p := piv d m l) (j := l.length) (u := d) hl (by simp; omega) (by simp) (by omega)
        rw [slope_last hp] at hfs hfs2
        refine ⟨false, false, rfl, by rw [f1]; simp, ⟨hBc, .inr ⟨by simp, s, _, _, hBs, by rw [hlast]; exact hc', by rw [f2, hbeg, hpe]; exact hs', ?_, ?_, fun _ => ⟨?_, ?_⟩⟩⟩, Cg.of_but2 hb hc hs hBc hBs, fun h => by cases h⟩
        · unfold lowN; split
          · exact hfs
          · exact hlo
        · unfold highN; split
          · exact hfs2
          · exact hhi
        · rw [f2, hlen]
          cases hbg : beg d m l
          · have hb1 : piv d m l + 1 = l.length := by unfold beg at hbg; simp at hbg; omega
            have := low_first d (l ++ [x]) (piv d m l)
            rw [hb1, slope_last hp, show piv d m l + 2 = l.length + 1 by omega] at this
            unfold lowN; rw [if_pos (.inl rfl)]; exact this
          · have := low_next hl.ok.lt (by simp) hp (isLow_snoc (x := x) (Nat.le_refl _) (hbd hbg).1)
            rw [slope_last hp] at this
            unfold lowN
            simpa using this
        · rw [f2, hlen]
          cases hbg : beg d m l
          · have hb1 : piv d m l + 1 = l.length := by unfold beg at hbg; simp at hbg; omega
            have := high_first d (l ++ [x]) (piv d m l)
            rw [hb1, slope_last hp, show piv d m l + 2 = l.length + 1 by omega] at this
            unfold highN; rw [if_pos (.inl rfl)]; exact this
          · have := high_next hl.ok.lt (by simp) hp (isHigh_snoc (x := x) (Nat.le_refl _) (hbd hbg).2)
            rw [slope_last hp] at this
            unfold highN
            simpa using this
      · have hB' : (!beg d m l || accI m (atS l (piv d m l)) x lo hi) = false := by simpa using hB
        have hhq : x.q = (atS l (l.length - 1)).q := by rw [hqual (l.length - 1) (by omega) (by omega)]; exact hq
        refine (process_shut c s d m _ _ x _ lo hi w hc hs hq hfp hfx hd hlo hhi hB' hfh hhq).mono ?_
        rintro e w' ⟨g, rfl, hg, hc', hs', hb⟩
        have hbg : beg d m l = true := by
          cases h : beg d m l
          · rw [h] at hB'; simp at hB'
          · rfl
        have hb1 : piv d m l + 1 < l.length := by unfold beg at hbg; simpa using hbg
        have hq2 : ∀ j, piv d m l ≤ j → j ≤ l.length → (atS (l ++ [x]) j).q = (atS (l ++ [x]) (piv d m l)).q := by
          intro j h1 h2
          rw [hpe]
          by_cases hj : j = l.length
          · subst hj; rw [atS_last]; exact hq
          · rw [atS_snoc l x j (by omega)]; exact hqual j h1 (by omega)
        have ha := acc_shut hl.ok hd.1 (by simp) hb1 (isLow_snoc (Nat.le_refl _) (hbd hbg).1) (isHigh_snoc (Nat.le_refl _) (hbd hbg).2) hq2 (m := m)
        have hsh : shut d m (l ++ [x]) (piv d m l) l.length = true := by
          rw [hbg, accI_eq hp, ha] at hB'
          simpa using hB'
        obtain ⟨f1, f2⟩ := shut_step (d := d) (m := m) hl0 hq hsh hbg
        have hbeg : beg d m (l ++ [x]) = true := by unfold beg; rw [f2, hlen]; simp; omega
        have hpl : l.length - 1 < l.length := by omega
        have hfs := slope_fit (p := l.length - 1) (j := l.length) (u := -d) hl (by simp; omega) (by simp) (by omega)
        have hfs2 := slope_fit (p := l.length - 1) (j := l.length) (u := d) hl (by simp; omega) (by simp) (by omega)
        rw [slope_last hpl] at hfs hfs2
        have h1 := low_first d (l ++ [x]) (l.length - 1)
        have h2 := high_first d (l ++ [x]) (l.length - 1)
        rw [show l.length - 1 + 1 = l.length by omega, slope_last hpl, show l.length - 1 + 2 = l.length + 1 by omega] at h1 h2
        refine ⟨true, false, rfl, by rw [f1]; simp, ⟨hBc, .inr ⟨by simp, g, _, _, by omega, by rw [hlast]; exact hc', by rw [f2, hbeg, hheld]; exact hs', hfs, hfs2, fun _ => ?_⟩⟩, Cg.of_but2 hb hc hs hBc hBs, fun _ => hl0⟩
        rw [f2, hlen]
        exact ⟨h1, h2⟩
    · refine (process_qual c s d m _ _ x _ lo hi w hc hs (fun h => hq h.symm)).mono ?_
      rintro e w' ⟨g, rfl, hg, hc', hs', hb⟩
      obtain ⟨f1, f2⟩ := qual_step (d := d) (m := m) hl0 hq
      have hbeg : beg d m (l ++ [x]) = false := by unfold beg; rw [f2, hlen]; simp
      refine ⟨beg d m l, true, rfl, by rw [f1]; simp, ⟨hBc, .inr ⟨by simp, g, (0, 0), (0, 0), by omega, ?_, ?_, hf0, hf0, fun h => by rw [hbeg] at h; cases h⟩⟩, Cg.of_but hb hc hBc, fun _ => hl0⟩
      · rw [hlast]; exact hc'
      · rw [f2, hbeg, atS_last]; exact hs'
end Go.Proofs.Ytmcojidaimeijaa

/- Plain mathematics of the compression: which indices one more sample archives. -/

namespace Go.Proofs.Ytmcojidaimeijaa
set_option linter.unusedVariables false
set_option linter.unusedSimpArgs false

theorem choI_inj {l : List Smp} (ho : Okl l) {a b : List Int} (ha : ∀ x ∈ a, 0 ≤ x ∧ x < (l.length : Int)) (hb : ∀ x ∈ b, 0 ≤ x ∧ x < (l.length : Int)) (h : choI l a = choI l b) : a = b := by
  induction a generalizing b with
  | nil =>
    cases b with
    | nil => rfl
    | cons y r => simp [choI] at h
  | cons x r ih =>
    cases b with
    | nil => simp [choI] at h
    | cons y s =>
      simp only [choI, List.map_cons, List.cons.injEq] at h
      obtain ⟨h1, h2⟩ := h
      have hx := ha x (by simp)
      have hy := hb y (by simp)
      have e : x.toNat = y.toNat := by
        rcases Nat.lt_trichotomy x.toNat y.toNat with h3 | h3 | h3
        · have := ho.lt x.toNat y.toNat h3 (by omega); rw [h1] at this; omega
        · exact h3
        · have := ho.lt y.toNat x.toNat h3 (by omega); rw [h1] at this; omega
      have e2 : x = y := by omega
      rw [e2, ih (fun z hz => ha z (by simp [hz])) (fun z hz => hb z (by simp [hz])) h2]
theorem atS_take (l : List Smp) (k i : Nat) (h : i < k) : atS (l.take k) i = atS l i := by
  unfold atS
  rw [List.getD_eq_getElem?_getD, List.getD_eq_getElem?_getD, List.getElem?_take_of_lt h]
theorem choI_take (l : List Smp) (k : Nat) (X : List Int) (h : ∀ x ∈ X, 0 ≤ x ∧ x < (k : Int)) : choI (l.take k) X = choI l X := by
  unfold choI
  refine List.map_congr_left fun x hx => ?_
  have := h x hx
  exact atS_take l k x.toNat (by omega)
theorem compTo_take (d m : Int) (l : List Smp) (k : Nat) (hk : k ≤ l.length) : compTo d m (l.take k) k = compTo d m l k := by
  have h := compTo_snoc d m (l.take k) (l.drop k) k (by simp; omega)
  rw [List.take_append_drop] at h
  exact h.symm
theorem compTo_range (d m : Int) (l : List Smp) (k : Nat) : ∀ x ∈ (compTo d m l k).1, 0 ≤ x ∧ x < (k : Int) := by
  rcases Nat.eq_zero_or_pos k with rfl | hk
  · intro x hx; simp [compTo] at hx
  · exact (compTo_inv d m l k hk).2.2.1
theorem arch_take (d m : Int) (l : List Smp) (k : Nat) (hk : k ≤ l.length) : arch d m (l.take k) = choI l (compTo d m l k).1 := by
  unfold arch
  rw [List.length_take, Nat.min_eq_left hk, compTo_take d m l k hk, choI_take l k _ (compTo_range d m l k)]
theorem take_more (l : List Smp) (k : Nat) (hk : k < l.length) : l.take k ++ [atS l k] = l.take (k + 1) := by
  rw [List.take_succ_eq_append_getElem hk]
  simp [atS, hk]
theorem idx_step {d m : Int} {l : List Smp} (ho : Okl l) {k : Nat} (hk : k < l.length) {bf nw : Bool}
    (h : arch d m (l.take k ++ [atS l k]) = arch d m (l.take k) ++ ((if bf = true then [atS (l.take k) ((l.take k).length - 1)] else []) ++ (if nw = true then [atS l k] else []))) (hb : bf = true → 0 < (l.take k).length) :
    (compTo d m l (k + 1)).1 = (compTo d m l k).1 ++ ((if bf = true then [((k : Int) - 1)] else []) ++ (if nw = true then [(k : Int)] else [])) := by
  have hl : (l.take k).length = k := by simp; omega
  rw [take_more l k hk, arch_take d m l (k + 1) hk, arch_take d m l k (by omega), hl] at h
  rw [hl] at hb
  refine choI_inj ho ?_ ?_ ?_
  · intro x hx; have := compTo_range d m l (k + 1) x hx; omega
  · intro x hx
    rcases List.mem_append.1 hx with h1 | h1
    · have := compTo_range d m l k x h1; omega
    · rcases List.mem_append.1 h1 with h2 | h2
      · cases bf <;> simp at h2
        have := hb rfl; omega
      · cases nw <;> simp at h2
        omega
  · rw [h, choI_app, choI_app]
    congr 1
    congr 1
    · cases bf
      · rfl
      · have h0 := hb rfl
        simp only [if_true, choI, List.map_cons, List.map_nil]
        rw [atS_take l k (k - 1) (by omega), show ((k : Int) - 1).toNat = k - 1 by omega]
    · cases nw
      · rfl
      · simp [choI]
theorem idx_end {d m : Int} {l : List Smp} (ho : Okl l) (hx : choI l (compressed d m l) = arch d m l ++ (if 0 < l.length ∧ beg d m l = true then [atS l (l.length - 1)] else [])) (hr : ∀ x ∈ compressed d m l, 0 ≤ x ∧ x < (l.length : Int)) :
    compressed d m l = (compTo d m l l.length).1 ++ (if 0 < l.length ∧ beg d m l = true then [((l.length : Int) - 1)] else []) := by
  refine choI_inj ho hr ?_ ?_
  · intro x hx
    rcases List.mem_append.1 hx with h1 | h1
    · exact compTo_range d m l l.length x h1
    · split at h1
      · rename_i h; simp at h1; omega
      · simp at h1
  · rw [hx, choI_app]
    congr 1
    split
    · rename_i h
      simp only [choI, List.map_cons, List.map_nil]
      rw [show ((l.length : Int) - 1).toNat = l.length - 1 by omega]
    · rfl
theorem compressed_range (d m : Int) (l : List Smp) : ∀ x ∈ compressed d m l, 0 ≤ x ∧ x < (l.length : Int) := by
  intro x hx
  unfold compressed at hx
  split at hx
  · simp at hx
  · unfold keepI at hx
    have hr := compTo_range d m l l.length
    simp only at hx
    split at hx
    · exact hr x hx
    · rcases List.mem_append.1 hx with h1 | h1
      · exact hr x h1
      · simp at h1; omega
end Go.Proofs.Ytmcojidaimeijaa

/- The contract of a compressor's Add (package compress). -/

namespace Go.Proofs.Ytmcojidaimeijaa
open Go.RowKit
set_option linter.unusedVariables false
set_option linter.unusedSimpArgs false

/-- The error of Add. -/
def addErr (l : List Smp) (x : Smp) : Int := if smpErr x ≠ 0 then smpErr x else if 0 < l.length ∧ x.t ≤ (atS l (l.length - 1)).t then 7 else 0
theorem FitL.snoc {l : List Smp} {x : Smp} (h : FitL l) (hx : addErr l x = 0) : FitL (l ++ [x]) := by
  have h0 : smpErr x = 0 := by
    by_cases h0 : smpErr x = 0
    · exact h0
    · unfold addErr at hx; rw [if_pos h0] at hx; exact absurd hx h0
  have h1 : ¬ (0 < l.length ∧ x.t ≤ (atS l (l.length - 1)).t) := by
    intro h1
    unfold addErr at hx
    rw [if_neg (by simpa using h0), if_pos h1] at hx
    omega
  obtain ⟨g1, g2, g3, g4⟩ := smpErr_good h0
  have e := fun i (hi : i < l.length) => atS_snoc l x i hi
  refine ⟨⟨fun i k hik hk => ?_, fun j hj hq => ?_⟩, fun i hi => ?_⟩
  · by_cases hkl : k = l.length
    · subst hkl
      rw [atS_last, e i hik]
      by_cases hil : i = l.length - 1
      · subst hil
        have : ¬ x.t ≤ (atS l (l.length - 1)).t := fun h => h1 ⟨by omega, h⟩
        omega
      · have := h.ok.lt i (l.length - 1) (by omega) (by omega)
        have : ¬ x.t ≤ (atS l (l.length - 1)).t := fun h => h1 ⟨by omega, h⟩
        omega
    · have hkl2 : k < l.length := by simp at hk; omega
      rw [e i (by omega), e k hkl2]; exact h.ok.lt i k hik hkl2
  · by_cases hjl : j = l.length
    · subst hjl; rw [atS_last] at hq ⊢; exact g4 hq
    · have : j < l.length := by simp at hj; omega
      rw [e j this] at hq ⊢; exact h.ok.bad j this hq
  · by_cases hil : i = l.length
    · subst hil; rw [atS_last]; exact ⟨g3, g1⟩
    · have : i < l.length := by simp at hi; omega
      rw [e i this]; exact h.fit i this
theorem addErr_zero {l : List Smp} {x : Smp} (hx : addErr l x = 0) : smpErr x = 0 ∧ ¬ (0 < l.length ∧ x.t ≤ (atS l (l.length - 1)).t) := by
  have h0 : smpErr x = 0 := by
    by_cases h0 : smpErr x = 0
    · exact h0
    · unfold addErr at hx; rw [if_pos h0] at hx; exact absurd hx h0
  refine ⟨h0, fun h1 => ?_⟩
  unfold addErr at hx
  rw [if_neg (by simpa using h0), if_pos h1] at hx
  omega

/-- The compressor's two cells that Add reads first. -/
theorem CompSt.held {B c : Nat} {w : World} {d m : Int} {l : List Smp} (h : CompSt B w c d m l) : ∃ sp H, Blk w c 119 (compCells d m sp H) ∧ (l = [] → sp = none) ∧ (0 < l.length → (∃ s, sp = some ⟨s, 0, none⟩) ∧ H = atS l (l.length - 1)) := by
  obtain ⟨_, ⟨rfl, H, hc⟩ | ⟨hl, s, lo, hi, _, hc, _⟩⟩ := h
  · exact ⟨none, H, hc, fun _ => rfl, fun h => by simp at h⟩
  · exact ⟨_, _, hc, fun h => by subst h; simp at hl, fun _ => ⟨⟨s, rfl⟩, rfl⟩⟩

set_option maxRecDepth 100000 in
set_option maxHeartbeats 1000000 in
theorem add_err (B c : Nat) (d m : Int) (l : List Smp) (x : Smp) (w : World) (hS : CompSt B w c d m l) (hE : addErr l x ≠ 0) :
    Calls Try.prog 24 #[.pointer (some ⟨c, 0, none⟩), .agg #[.int .i64 x.t, .int .i64 x.v, .int .i64 x.q]] w fun e w' => e = .returned (.tuple #[.slice none 0 0, .int .i64 (addErr l x)]) ∧ Below w.heap.size w w' := by
  obtain ⟨sp, H, hc, hsp0, hsp1⟩ := hS.held
  have hcs := fun w => checkSample_any x w
  unfold Smp.agg at hcs
  by_cases h0 : smpErr x = 0
  · have h1 : 0 < l.length ∧ x.t ≤ (atS l (l.length - 1)).t := by
      by_cases h1 : 0 < l.length ∧ x.t ≤ (atS l (l.length - 1)).t
      · exact h1
      · unfold addErr at hE; rw [if_neg (by simpa using h0), if_neg h1] at hE; exact absurd rfl hE
    have he : addErr l x = 7 := by unfold addErr; rw [if_neg (by simpa using h0), if_pos h1]
    obtain ⟨⟨s, rfl⟩, rfl⟩ := hsp1 h1.1
    rw [he]
    rw [h0] at hcs
    have hle : x.t ≤ (atS l (l.length - 1)).t := h1.2
    generalize atS l (l.length - 1) = H at *
    have hlt := hc.lt
    have hlt1 : c < w.heap.size + 1 := by omega
    have hlt2 : c < w.heap.size + 1 + 1 := by omega
    have c2 : w.cell? ⟨c, 2, none⟩ = some (.pointer (some ⟨s, 0, none⟩)) := hc.cell 2
    have c3 : w.cell? ⟨c, 3, none⟩ = some (.int .i64 H.t) := hc.cell 3
    have c4 : w.cell? ⟨c, 4, none⟩ = some (.int .i64 H.v) := hc.cell 4
    have c5 : w.cell? ⟨c, 5, none⟩ = some (.int .i64 H.q) := hc.cell 5
    clear hc hsp0 hsp1 hE he h0 h1 hS
    go_enter Try.func24, Try.ntmps24
    go_wp2_with (go_at_call 69; refine (hcs _).mono ?_; rintro e w' ⟨rfl, rfl⟩)
    go_ret2
    exact ⟨rfl, (((Below.refl _ w).alloc (Nat.le_refl _) _).alloc (by simp) _).alloc (by simp; omega) _⟩
  · have he : addErr l x = smpErr x := by unfold addErr; rw [if_pos h0]
    rw [he]
    have hne : (smpErr x != 0) = true := by simpa using h0
    generalize smpErr x = E at *
    clear hE he h0 hsp0 hsp1 hc hS
    go_enter Try.func24, Try.ntmps24
    go_wp2_with (go_at_call 69; refine (hcs _).mono ?_; rintro e w' ⟨rfl, rfl⟩)
    go_ret2
    exact ⟨rfl, ((Below.refl _ w).alloc (Nat.le_refl _) _).alloc (by simp) _⟩

theorem CompSt.grown {B c base size n : Nat} {w w' : World} {d m : Int} {l : List Smp} {v : Value} {e : TypeId} {xs : List Value} (h : CompSt B w c d m l) (ho : w.ownsRow base e size v n xs) (h1 : e ≠ 119) (h2 : e ≠ 162) (hg : w.grownBy w' v.ownBlock) : CompSt B w' c d m l := by
  refine h.keep fun b _ hlt cur t fr hh ht => hg.block b hlt ?_
  intro hb
  rcases ho.2 with ⟨rfl, _⟩ | ⟨g, cap, cur', rfl, _, hh', _⟩
  · simp [Value.ownBlock] at hb
  · simp [Value.ownBlock] at hb
    subst hb
    rw [hh'] at hh
    injection hh with hh
    injection hh with _ hh
    rcases ht with rfl | rfl
    · exact h1 hh
    · exact h2 hh
/-- What Add returns of a sample that is right, and what it leaves. -/
def AddEnd (B c : Nat) (d m : Int) (l : List Smp) (x : Smp) (w : World) (e : Ending) (w' : World) : Prop :=
  ∃ (v : Value) (out : List Smp), e = .returned (.tuple #[v, .int .i64 0]) ∧ arch d m (l ++ [x]) = arch d m l ++ out ∧ out.length ≤ 2 ∧ w'.ownsRow w.heap.size 57 3 v out.length (cellsOf out) ∧ CompSt B w' c d m (l ++ [x]) ∧ Cg B w w'

set_option maxRecDepth 100000 in
set_option maxHeartbeats 2000000 in
theorem add_ok (B c : Nat) (d m : Int) (l : List Smp) (x : Smp) (w : World) (hS : CompSt B w c d m l) (hl : FitL l) (hd : 0 ≤ d ∧ d ≤ 2000000) (hBw : B ≤ w.heap.size) (hE : addErr l x = 0) :
    Calls Try.prog 24 #[.pointer (some ⟨c, 0, none⟩), .agg #[.int .i64 x.t, .int .i64 x.v, .int .i64 x.q]] w (AddEnd B c d m l x w) := by
  obtain ⟨sp, H, hc, hsp0, hsp1⟩ := hS.held
  obtain ⟨h0, h1⟩ := addErr_zero hE
  have hcs := fun w => checkSample_any x w
  unfold Smp.agg at hcs
  rw [h0] at hcs
  have hlt := hc.lt
  have hlt1 : c < w.heap.size + 1 := by omega
  have hlt2 : c < w.heap.size + 1 + 1 := by omega
  have c2 : w.cell? ⟨c, 2, none⟩ = some (.pointer sp) := hc.cell 2
  have c3 : w.cell? ⟨c, 3, none⟩ = some (.int .i64 H.t) := hc.cell 3
  have c4 : w.cell? ⟨c, 4, none⟩ = some (.int .i64 H.v) := hc.cell 4
  have c5 : w.cell? ⟨c, 5, none⟩ = some (.int .i64 H.q) := hc.cell 5
  have hb3 : Below w.heap.size w (((w.alloc (.cells #[.int .i64 x.t, .int .i64 x.v, .int .i64 x.q] 57)).alloc (.cells #[.int .i64 x.t, .int .i64 x.v, .int .i64 x.q] 57)).alloc (.cells #[.int .i64 H.t, .int .i64 H.v, .int .i64 H.q] 57)) :=
    (((Below.refl _ w).alloc (Nat.le_refl _) _).alloc (by simp) _).alloc (by simp; omega) _
  have hbx : Blk (((w.alloc (.cells #[.int .i64 x.t, .int .i64 x.v, .int .i64 x.q] 57)).alloc (.cells #[.int .i64 x.t, .int .i64 x.v, .int .i64 x.q] 57)).alloc (.cells #[.int .i64 H.t, .int .i64 H.v, .int .i64 H.q] 57)) w.heap.size 57 #[.int .i64 x.t, .int .i64 x.v, .int .i64 x.q] := ((Blk.new _ _ _).alloc _).alloc _
  have hbh : Blk (((w.alloc (.cells #[.int .i64 x.t, .int .i64 x.v, .int .i64 x.q] 57)).alloc (.cells #[.int .i64 x.t, .int .i64 x.v, .int .i64 x.q] 57)).alloc (.cells #[.int .i64 H.t, .int .i64 H.v, .int .i64 H.q] 57)) (w.heap.size + 1 + 1) 57 #[.int .i64 H.t, .int .i64 H.v, .int .i64 H.q] := Blk.new2 _ _ _ _ _
  have HB := Lib.hid (And.intro hb3 (And.intro hbx hbh))
  have hpr := fun (w : World) (h : CompSt B w c d m l) (h2 : B ≤ w.heap.size) => process_step B c d m l x w h (hl.snoc hE) hd h2
  have HPR := Lib.hid hpr
  have HS := Lib.hid hS
  have HHL := Lib.hid (fun h => (hsp1 h).2)
  clear hb3 hbx hbh hpr hS hE h0 hl hc
  have hnn : sp = none ∨ ((∃ s, sp = some ⟨s, 0, none⟩) ∧ ¬ x.t ≤ H.t) := by
    rcases Nat.eq_zero_or_pos l.length with hz | hz
    · exact .inl (hsp0 (List.eq_nil_of_length_eq_zero hz))
    · obtain ⟨hs, hh⟩ := hsp1 hz
      subst hh
      exact .inr ⟨hs, fun h => h1 ⟨hz, h⟩⟩
  clear hsp0 hsp1 h1
  rcases hnn with rfl | ⟨⟨s, rfl⟩, hgt⟩
  all_goals
    go_enter Try.func24, Try.ntmps24
    go_upto_region 8 with (go_at_call 69; refine (hcs _).mono ?_; rintro e w' ⟨rfl, rfl⟩)
    obtain ⟨hb3, hbx, hbh⟩ := HB.out
    generalize ((w.alloc (.cells #[.int .i64 x.t, .int .i64 x.v, .int .i64 x.q] 57)).alloc (.cells #[.int .i64 x.t, .int .i64 x.v, .int .i64 x.q] 57)).alloc (.cells #[.int .i64 H.t, .int .i64 H.v, .int .i64 H.q] 57) = wa at *
    have a0 : wa.cell? ⟨w.heap.size, 0, none⟩ = some (.int .i64 x.t) := hbx.cell 0
    have a1 : wa.cell? ⟨w.heap.size, 1, none⟩ = some (.int .i64 x.v) := hbx.cell 1
    have a2 : wa.cell? ⟨w.heap.size, 2, none⟩ = some (.int .i64 x.q) := hbx.cell 2
    clear c2 c3 c4 c5 HB hcs
    go_wp2_with fail
    refine (HPR.out wa (HS.out.below hb3) (Nat.le_trans hBw hb3.size)).mono ?_
    rintro e wb ⟨bf, nw, rfl, harch, hSb, hcg, hbf⟩
    have hbxb := hcg.blk hbx (by decide) (by decide)
    have hbhb := hcg.blk hbh (by decide) (by decide)
    have hszb := hcg.bl.size
    have hsz3 := hb3.size
    have x0 : wb.cell? ⟨w.heap.size, 0, none⟩ = some (.int .i64 x.t) := hbxb.cell 0
    have x1 : wb.cell? ⟨w.heap.size, 1, none⟩ = some (.int .i64 x.v) := hbxb.cell 1
    have x2 : wb.cell? ⟨w.heap.size, 2, none⟩ = some (.int .i64 x.q) := hbxb.cell 2
    have y0 : wb.cell? ⟨w.heap.size + 1 + 1, 0, none⟩ = some (.int .i64 H.t) := hbhb.cell 0
    have y1 : wb.cell? ⟨w.heap.size + 1 + 1, 1, none⟩ = some (.int .i64 H.v) := hbhb.cell 1
    have y2 : wb.cell? ⟨w.heap.size + 1 + 1, 2, none⟩ = some (.int .i64 H.q) := hbhb.cell 2
    have hlx := hbxb.lt
    have hly := hbhb.lt
    have hcgw : Cg B w wb := (Cg.of_below hb3 hBw).trans hcg
    have HARCH := Lib.hid harch
    have HBF := Lib.hid hbf
    clear harch hbf a0 a1 a2 hbx hbh hcg hb3
    cases bf <;> cases nw
    · go_wp2_with fail
      go_ret2
      exact ⟨_, [], rfl, by rw [HARCH.out]; simp, by simp, World.ownsRow_nil _ _ _ _, hSb, hcgw⟩
    · go_wp2_with (at_builtin; go_loud (refine wpList_append_smp rfl (.tmp 44) (.tmp 46) rfl w.heap.size (.slice none 0 0) 0 [] rfl (World.ownsRow_nil _ _ _ _) wb.heap.size rfl x (by exact Blk.new _ _ _) (by omega) (by simp; omega) ?_); intro v1 wc hown1 hgrow1)
      have hbc : Below wb.heap.size wb wc := ((Below.refl _ wb).alloc (Nat.le_refl _) _).trans (below_grown (World.ownsRow_nil _ wb.heap.size 57 3) (by simp) hgrow1)
      clear hgrow1
      go_ret2
      exact ⟨_, [x], rfl, by rw [HARCH.out]; simp, by simp, hown1, hSb.below hbc, hcgw.trans (Cg.of_below hbc (by omega))⟩
    · have hH := HHL.out (HBF.out rfl)
      have HH := Lib.hid hH
      clear hH
      go_wp2_with (at_builtin; go_loud (refine wpList_append_smp rfl (.tmp 39) (.tmp 41) rfl w.heap.size (.slice none 0 0) 0 [] rfl (World.ownsRow_nil _ _ _ _) wb.heap.size rfl H (by exact Blk.new _ _ _) (by omega) (by simp; omega) ?_); intro v1 wc hown1 hgrow1)
      have hbc : Below wb.heap.size wb wc := ((Below.refl _ wb).alloc (Nat.le_refl _) _).trans (below_grown (World.ownsRow_nil _ wb.heap.size 57 3) (by simp) hgrow1)
      clear hgrow1
      go_ret2
      exact ⟨_, [H], rfl, by rw [HARCH.out, ← HH.out]; simp, by simp, hown1, hSb.below hbc, hcgw.trans (Cg.of_below hbc (by omega))⟩
    · have hH := HHL.out (HBF.out rfl)
      have HH := Lib.hid hH
      clear hH
      go_wp2_with (first
        | (at_builtin; refine wpList_append_smp rfl (.tmp 39) (.tmp 41) rfl w.heap.size (.slice none 0 0) 0 [] rfl (World.ownsRow_nil _ _ _ _) wb.heap.size rfl H (by exact Blk.new _ _ _) (by omega) (by simp; omega) ?_; intro v1 wc hown1 hgrow1; have hbc : Below wb.heap.size wb wc := ((Below.refl _ wb).alloc (Nat.le_refl _) _).trans (below_grown (World.ownsRow_nil _ wb.heap.size 57 3) (by simp) hgrow1); have hxc := hbxb.below hbc hlx; have z0 : wc.cell? ⟨w.heap.size, 0, none⟩ = some (.int .i64 x.t) := hxc.cell 0; have z1 : wc.cell? ⟨w.heap.size, 1, none⟩ = some (.int .i64 x.v) := hxc.cell 1; have z2 : wc.cell? ⟨w.heap.size, 2, none⟩ = some (.int .i64 x.q) := hxc.cell 2; have hsc := hbc.size; have HO1 := Lib.hid hown1; clear hown1 hgrow1 x0 x1 x2 y0 y1 y2)
        | (at_builtin; go_loud (refine wpList_append_smp rfl (.tmp 44) (.tmp 46) rfl w.heap.size v1 1 [H] rfl (by exact own_keep HO1.out fun b _ _ hh => Below.heap_alloc _ _ _ (lt_of_heap hh)) wc.heap.size rfl x (by exact Blk.new _ _ _) (by omega) (by simp; omega) ?_); intro v2 we hown2 hgrow2))
      have hbe : Below w.heap.size wc we := ((Below.refl _ wc).alloc (by omega) _).trans (below_grown (own_keep HO1.out fun b _ _ hh => Below.heap_alloc _ _ _ (lt_of_heap hh)) (by simp; omega) hgrow2)
      have hSe := ((hSb.below hbc).below ((Below.refl _ wc).alloc (Nat.le_refl _) (.cells #[.int .i64 x.t, .int .i64 x.v, .int .i64 x.q] 57))).grown (own_keep HO1.out fun b _ _ hh => Below.heap_alloc _ _ _ (lt_of_heap hh)) (by decide) (by decide) hgrow2
      have hce : Cg B w we := ⟨hcgw.bl.trans ((hbc.mono (by omega)).trans (hbe.mono hBw)), fun b cur t fr hh t1 t2 => (hbe.block b (lt_of_heap hh)).trans ((hbc.block b (by have := lt_of_heap hh; omega)).trans (hcgw.ty b cur t fr hh t1 t2))⟩
      go_ret2
      exact ⟨_, [H, x], rfl, by rw [HARCH.out, ← HH.out]; simp, by simp, hown2, hSe, hce⟩
end Go.Proofs.Ytmcojidaimeijaa
