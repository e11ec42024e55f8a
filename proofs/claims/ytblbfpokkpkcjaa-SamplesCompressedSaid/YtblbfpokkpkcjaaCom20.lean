import Derived.Test.YtblbfpokkpkcjaaCom16
import Derived.Test.YtblbfpokkpkcjaaCom02
import Derived.Test.YtblbfpokkpkcjaaCom19
import Derived.StillTailTactics
import Derived.Deep.QuietTactic
import Derived.BigQuiet
/- The contract of what shortest does with each sample that can be kept next (package compress). -/

namespace Go.Proofs.Ytblbfpokkpkcjaa
open Go.RowKit
set_option linter.unusedVariables false
set_option linter.unusedSimpArgs false

theorem nextB_shift {d m : Int} {seg l : List Smp} {a k : Nat} (h : ∀ j, j ≤ k → atS seg j = atS l (a + j)) : nextB d m seg 0 k = nextB d m l a (a + k) := by
  have e0 := h 0 (Nat.zero_le _)
  have e1 := h k (Nat.le_refl _)
  rw [Nat.add_zero] at e0
  have hs : sameQ seg 0 k = sameQ l a (a + k) := by
    rw [Bool.eq_iff_iff, sameQ_iff, sameQ_iff, e0]
    constructor
    · intro g j h1 h2
      have := g (j - a) (by omega) (by omega)
      rwa [h (j - a) (by omega), show a + (j - a) = j by omega] at this
    · intro g j h1 h2
      rw [h j h2]
      exact g (a + j) (by omega) (by omega)
  have hc : cov d seg 0 k = cov d l a (a + k) := by
    rw [Bool.eq_iff_iff, cov_true, cov_true]
    unfold Cov
    rw [e0, e1]
    constructor
    · intro g j h1 h2
      have := g (j - a) (by omega) (by omega)
      rw [h (j - a) (by omega), show a + (j - a) = j by omega] at this
      exact this
    · intro g j h1 h2
      rw [h j (by omega)]
      exact g (a + j) (by omega) (by omega)
  unfold nextB shut
  rw [hs, hc, e0, e1]
  congr 1
  · rw [Bool.eq_iff_iff, decide_eq_true_eq, decide_eq_true_eq]; omega
  · congr 1
    rw [Bool.eq_iff_iff, decide_eq_true_eq, decide_eq_true_eq]; omega

/-- A row of numbers, whole, in a block of its own. -/
def cellsN (r : List Nat) : Array Value := (r.map fun (x : Nat) => Value.int .i64 (x : Int)).toArray
theorem cellsN_at (r : List Nat) (i : Nat) (h : i < r.length) : (cellsN r)[i]? = some (.int .i64 ((r.getD i 0 : Nat) : Int)) := by
  simp [cellsN, List.getD_eq_getElem?_getD, h]
theorem cellsN_set (r : List Nat) (i x : Nat) : (cellsN r).setIfInBounds i (.int .i64 (x : Int)) = cellsN (r.set i x) := by
  simp [cellsN, List.map_set]

theorem enter_shortest1 (args : Array Value) (w : World) : (callFunc 171 args).run Try.prog w = .ok (.enter 171 args) w := by kernel_rfl

def ShortEnd (gn gf n i k : Nat) (N F : List Nat) (w : World) (e : Ending) (w' : World) : Prop :=
  e = .returned (.tuple #[]) ∧ ∃ N' F' : List Nat,
      N' = (if N.getD i 0 = n ∨ F.getD (i + k) 0 + 1 < F.getD i 0 then N.set i (i + k) else N) ∧ F' = (if N.getD i 0 = n ∨ F.getD (i + k) 0 + 1 < F.getD i 0 then F.set i (F.getD (i + k) 0 + 1) else F) ∧
      Blk w' gn 3 (cellsN N') ∧ Blk w' gf 3 (cellsN F') ∧ w'.os = w.os ∧ w'.tape = w.tape ∧ w'.output = w.output ∧ w.heap.size ≤ w'.heap.size ∧ ∀ b, b < w.heap.size → b ≠ gn → b ≠ gf → w'.heap[b]? = w.heap[b]?

set_option maxRecDepth 100000 in
set_option maxHeartbeats 4000000 in
theorem shortest1_any (bi bn bl bf gn gf n i k : Nat) (c : Nat) (pa : Option Addr) (N F : List Nat) (w : World)
    (hi : Blk w bi 3 #[.int .i64 (i : Int)]) (hbn : Blk w bn 22 #[.slice (some ⟨gn, 0, none⟩) n n]) (hbl : Blk w bl 32 #[.slice pa n c]) (hbf : Blk w bf 22 #[.slice (some ⟨gf, 0, none⟩) n n])
    (hgn : Blk w gn 3 (cellsN N)) (hgf : Blk w gf 3 (cellsN F)) (hN : N.length = n) (hF : F.length = n) (hn : n ≤ 5000) (hk : i + k < n) (hb : ∀ x ∈ F, x ≤ 5000) (hne : gn ≠ gf) (hbne : bi ≠ gn ∧ bi ≠ gf) :
    Calls Try.prog 171 (#[.int .i64 (k : Int)] ++ #[.pointer (some ⟨bi, 0, none⟩), .pointer (some ⟨bn, 0, none⟩), .pointer (some ⟨bl, 0, none⟩), .pointer (some ⟨bf, 0, none⟩)]) w (ShortEnd gn gf n i k N F w) := by
  have HEND := Lib.hid (show ∀ e w', (e = .returned (.tuple #[]) ∧ ∃ N' F' : List Nat,
      N' = (if N.getD i 0 = n ∨ F.getD (i + k) 0 + 1 < F.getD i 0 then N.set i (i + k) else N) ∧ F' = (if N.getD i 0 = n ∨ F.getD (i + k) 0 + 1 < F.getD i 0 then F.set i (F.getD (i + k) 0 + 1) else F) ∧
      Blk w' gn 3 (cellsN N') ∧ Blk w' gf 3 (cellsN F') ∧ w'.os = w.os ∧ w'.tape = w.tape ∧ w'.output = w.output ∧ w.heap.size ≤ w'.heap.size ∧ ∀ b, b < w.heap.size → b ≠ gn → b ≠ gf → w'.heap[b]? = w.heap[b]?) → ShortEnd gn gf n i k N F w e w' from fun e w' h => h)
  generalize ShortEnd gn gf n i k N F w = EE at *
  show Calls _ _ #[.int .i64 (k : Int), .pointer (some ⟨bi, 0, none⟩), .pointer (some ⟨bn, 0, none⟩), .pointer (some ⟨bl, 0, none⟩), .pointer (some ⟨bf, 0, none⟩)] _ _
  have c0 := hi.cell 0
  have c1 := hbn.cell 0
  have c2 := hbl.cell 0
  have c3 := hbf.cell 0
  have n0 : w.cell? ⟨gn, i, none⟩ = some (.int .i64 ((N.getD i 0 : Nat) : Int)) := (hgn.cell i).trans (cellsN_at N i (by omega))
  have f0 : w.cell? ⟨gf, i, none⟩ = some (.int .i64 ((F.getD i 0 : Nat) : Int)) := (hgf.cell i).trans (cellsN_at F i (by omega))
  have f1 : w.cell? ⟨gf, i + k, none⟩ = some (.int .i64 ((F.getD (i + k) 0 : Nat) : Int)) := (hgf.cell (i + k)).trans (cellsN_at F (i + k) (by omega))
  have z0 := hgn.frozen i
  have z1 := hgf.frozen i
  have hfb : F.getD (i + k) 0 ≤ 5000 := by
    rw [List.getD_eq_getElem?_getD, List.getElem?_eq_getElem (by omega)]
    exact hb _ (List.getElem_mem (by omega))
  have HN1 := Lib.hid (show ∀ x : Nat, (cellsN N).setIfInBounds i (.int .i64 (x : Int)) = cellsN (N.set i x) from fun x => cellsN_set N i x)
  have HF1 := Lib.hid (show ∀ x : Nat, (cellsN F).setIfInBounds i (.int .i64 (x : Int)) = cellsN (F.set i x) from fun x => cellsN_set F i x)
  generalize N.getD i 0 = a at *
  generalize F.getD i 0 = b at *
  generalize F.getD (i + k) 0 = y at *
  have w1 : IntKind.i64.wrap ((k : Int) + (i : Int)) = ((i + k : Nat) : Int) := by rw [show (k : Int) + (i : Int) = ((i + k : Nat) : Int) by omega]; exact IntWalk.i64_in _ (by omega)
  have w2 : IntKind.i64.wrap ((y : Int) + 1) = (y : Int) + 1 := IntWalk.i64_in _ (by omega)
  have hx1 : (i : Int) < (n : Int) := by omega
  have hx2 : ((i + k : Nat) : Int) < (n : Int) := by omega
  have hx3 : (0 : Int) ≤ ((i + k : Nat) : Int) := by omega
  have hik : ((i + k : Nat) : Int) = (i : Int) + (k : Int) := by omega
  have ne : ∀ {b g : Nat} {cs : Array Value} {r : List Nat} {t : TypeId}, Blk w b t cs → Blk w g 3 (cellsN r) → t ≠ 3 → b ≠ g ∧ g ≠ b := fun h1 h2 ht =>
    have : ∀ x y, x = y → Blk w x _ _ → Blk w y 3 _ → False := fun x y e h3 h4 => by
      subst e
      have h5 := (show w.heap[x]? = _ from h3).symm.trans (show w.heap[x]? = _ from h4)
      simp at h5
      exact ht h5.2
    ⟨fun e => this _ _ e h1 h2, fun e => this _ _ e.symm h1 h2⟩
  obtain ⟨m1, m2⟩ := ne hbf hgn (by decide)
  obtain ⟨m3, m4⟩ := ne hbf hgf (by decide)
  obtain ⟨m5, m6⟩ := ne hbn hgn (by decide)
  obtain ⟨m7, m8⟩ := ne hbn hgf (by decide)
  have m9 := Ne.symm hne
  have m10 := hbne.1
  have m11 := hbne.2
  have m12 := Ne.symm m10
  have m13 := Ne.symm m11
  clear ne
  have hw9 : IntKind.i64.wrap ((i : Int) + (k : Int)) = (i : Int) + (k : Int) := IntWalk.i64_in _ (by omega)
  have HFIN := Lib.hid (show ∀ nq : Nat, Blk (((w.drewN nq).setCell ⟨gn, i, none⟩ (.int .i64 ((i : Int) + (k : Int)))).setCell ⟨gf, i, none⟩ (.int .i64 ((y : Int) + 1))) gn 3 (cellsN (N.set i (i + k))) ∧
      Blk (((w.drewN nq).setCell ⟨gn, i, none⟩ (.int .i64 ((i : Int) + (k : Int)))).setCell ⟨gf, i, none⟩ (.int .i64 ((y : Int) + 1))) gf 3 (cellsN (F.set i (y + 1))) ∧
      (w.heap.size ≤ (((w.drewN nq).setCell ⟨gn, i, none⟩ (.int .i64 ((i : Int) + (k : Int)))).setCell ⟨gf, i, none⟩ (.int .i64 ((y : Int) + 1))).heap.size ∧ ∀ b, b < w.heap.size → b ≠ gn → b ≠ gf → (((w.drewN nq).setCell ⟨gn, i, none⟩ (.int .i64 ((i : Int) + (k : Int)))).setCell ⟨gf, i, none⟩ (.int .i64 ((y : Int) + 1))).heap[b]? = w.heap[b]?) from fun nq => by
    have a1 := (show Blk (w.drewN nq) gn _ _ from hgn).set_ i (.int .i64 ((i : Int) + (k : Int)))
    rw [← hik, HN1.out] at a1
    have a2 := (show Blk (w.drewN nq) gf _ _ from hgf).setOther (p := ⟨gn, i, none⟩) (by simpa using m9) (.int .i64 ((i : Int) + (k : Int)))
    have a3 := a2.set_ i (.int .i64 ((y : Int) + 1))
    rw [show (y : Int) + 1 = ((y + 1 : Nat) : Int) by omega, HF1.out] at a3
    refine ⟨by rw [← hik]; exact a1.setOther (by simpa using hne) _, by rw [show (y : Int) + 1 = ((y + 1 : Nat) : Int) by omega]; exact a3, by simp, fun b hb h1 h2 => ?_⟩
    exact (Below.heap_setCell _ _ _ _ (by simpa using h2)).trans (Below.heap_setCell _ _ _ _ (by simpa using h1)))
  clear hi hbn hbl hbf HN1 HF1
  by_cases ha : a = n
  · have ha' : ((a : Int) == (n : Int)) = true := by simp [ha]
    have HP := Lib.hid (show (a = n ∨ y + 1 < b) from .inl ha)
    clear ha
    go_enter Try.func171, Try.ntmps171
    go_wp2_with fail
    go_quiet (fail)
    go_wp2_with fail
    go_region
    all_goals
      go_end0
      obtain ⟨r1, r2, r3, r4⟩ := HFIN.out (nq + 1)
      exact HEND.out _ _ ⟨rfl, _, _, by rw [if_pos HP.out], by rw [if_pos HP.out], r1, r2, rfl, rfl, rfl, r3, r4⟩
  · have ha' : ((a : Int) == (n : Int)) = false := by simp; omega
    by_cases hy : y + 1 < b
    · have hy' : (y : Int) + 1 < (b : Int) := by omega
      have HP := Lib.hid (show (a = n ∨ y + 1 < b) from .inr hy)
      clear ha hy
      go_enter Try.func171, Try.ntmps171
      go_wp2_with fail
      go_quiet (fail)
      go_wp2_with fail
      go_region
      all_goals
        go_end0
        obtain ⟨r1, r2, r3, r4⟩ := HFIN.out (nq + 1)
        exact HEND.out _ _ ⟨rfl, _, _, by rw [if_pos HP.out], by rw [if_pos HP.out], r1, r2, rfl, rfl, rfl, r3, r4⟩
    · have hy' : ¬ ((y : Int) + 1 < (b : Int)) := by omega
      have HP := Lib.hid (show ¬ (a = n ∨ y + 1 < b) from fun h => h.elim ha hy)
      clear ha hy
      go_enter Try.func171, Try.ntmps171
      go_wp2_with fail
      go_quiet (fail)
      go_wp2_with fail
      go_end0
      exact HEND.out _ _ ⟨rfl, _, _, by rw [if_neg HP.out], by rw [if_neg HP.out], hgn, hgf, rfl, rfl, rfl, Nat.le_refl _, fun _ _ _ _ => rfl⟩
end Go.Proofs.Ytblbfpokkpkcjaa

/- Mathematics of shortest: one round fills one place of the table. -/

namespace Go.Proofs.Ytblbfpokkpkcjaa
set_option linter.unusedVariables false
set_option linter.unusedSimpArgs false

/-- A table of the fewest steps, as two rows, right from place i on; before it: no steps. -/
structure TabR (d m : Int) (l : List Smp) (i : Nat) (N F : List Nat) : Prop where
  hN : N.length = l.length
  hF : F.length = l.length
  hb : ∀ j, j < l.length → F.getD j 0 + j < l.length
  z : ∀ j, j < i → F.getD j 0 = 0
  eq : ∀ j, i ≤ j → j < l.length → (N.getD j 0, F.getD j 0) = bestTo (nextB d m l j) (fun x => F.getD x 0) l.length l.length
theorem getD_zeros (n j : Nat) : (List.replicate n 0).getD j 0 = 0 := by
  rw [List.getD_eq_getElem?_getD, List.getElem?_replicate]
  split <;> rfl
theorem tab_zero (d m : Int) (l : List Smp) : TabR d m l l.length (List.replicate l.length 0) (List.replicate l.length 0) where
  hN := by simp
  hF := by simp
  hb := fun j hj => by rw [getD_zeros]; omega
  z := fun j _ => getD_zeros _ j
  eq := fun j h1 h2 => by omega
theorem getD_set (F : List Nat) (i j x : Nat) (hi : i < F.length) : (F.set i x).getD j 0 = if i = j then x else F.getD j 0 := by
  rw [List.getD_eq_getElem?_getD, List.getElem?_set, List.getD_eq_getElem?_getD]
  by_cases h : i = j
  · subst h; rw [if_pos rfl, if_pos rfl, if_pos hi]; rfl
  · rw [if_neg h, if_neg h]
theorem set_same (F : List Nat) (i x : Nat) (hi : i < F.length) (h : F.getD i 0 = x) : F.set i x = F := by
  rw [List.getD_eq_getElem?_getD, List.getElem?_eq_getElem hi] at h
  have h' : F[i] = x := h
  rw [← h']
  exact List.set_getElem_self hi
theorem next_up {d m : Int} {l : List Smp} {i x : Nat} (h : nextB d m l i x = true) : i < x := by
  unfold nextB at h
  rw [Bool.and_eq_true, decide_eq_true_eq] at h
  exact h.1

/-- The best next step from i, of the first k samples from i on. -/
def nbst (d m : Int) (l : List Smp) (F : List Nat) (i k : Nat) : Nat × Nat := bestTo (nextB d m l i) (fun x => F.getD x 0) l.length (i + k)
theorem nbst_zero (d m : Int) (l : List Smp) (F : List Nat) (i : Nat) : nbst d m l F i 0 = (l.length, 0) := bestTo_skip d m l _ _ i _ (by omega)
theorem nbst_skip {d m : Int} {l : List Smp} {F : List Nat} {i k : Nat} (h : nextB d m l i (i + k) = false) : nbst d m l F i (k + 1) = nbst d m l F i k := by
  unfold nbst
  rw [← Nat.add_assoc]
  conv => lhs; unfold bestTo
  rw [if_neg (fun x => by rw [h] at x; exact absurd x.1 (by simp))]
theorem nbst_step {d m : Int} {l : List Smp} {F : List Nat} {i k : Nat} (h : nextB d m l i (i + k) = true) :
    nbst d m l F i (k + 1) = if (nbst d m l F i k).1 = l.length ∨ F.getD (i + k) 0 + 1 < (nbst d m l F i k).2 then (i + k, F.getD (i + k) 0 + 1) else nbst d m l F i k := by
  unfold nbst
  rw [← Nat.add_assoc]
  conv => lhs; unfold bestTo
  by_cases hc : (bestTo (nextB d m l i) (fun x => F.getD x 0) l.length (i + k)).1 = l.length ∨ F.getD (i + k) 0 + 1 < (bestTo (nextB d m l i) (fun x => F.getD x 0) l.length (i + k)).2
  · rw [if_pos ⟨h, hc⟩, if_pos hc]
  · rw [if_neg (fun x => hc x.2), if_neg hc]
theorem nbst_bound {d m : Int} {l : List Smp} {F : List Nat} {i k : Nat} (hb : ∀ j, j < l.length → F.getD j 0 + j < l.length) (hi : i < l.length) (hk : i + k ≤ l.length) : (nbst d m l F i k).2 + i < l.length := by
  unfold nbst
  rcases bestTo_spec (nextB d m l i) (fun x => F.getD x 0) l.length (i + k) hk with ⟨h1, _⟩ | ⟨h1, h2, h3, _⟩
  · rw [h1]; simpa using hi
  · have h4 := next_up h2
    have h5 := hb _ (show (bestTo (nextB d m l i) (fun x => F.getD x 0) l.length (i + k)).1 < l.length by omega)
    rw [h3]
    show F.getD _ 0 + 1 + i < l.length
    omega
theorem TabR.round {d m : Int} {l : List Smp} {N F : List Nat} {i : Nat} (h : TabR d m l (i + 1) N F) (hi : i < l.length) :
    TabR d m l i (N.set i (nbst d m l F i (l.length - i)).1) (F.set i (nbst d m l F i (l.length - i)).2) where
  hN := by rw [List.length_set]; exact h.hN
  hF := by rw [List.length_set]; exact h.hF
  hb := fun j hj => by
    rw [getD_set F i j _ (by rw [h.hF]; exact hi)]
    by_cases e : i = j
    · subst e; rw [if_pos rfl]; exact nbst_bound h.hb hi (by omega)
    · rw [if_neg e]; exact h.hb j hj
  z := fun j hj => by
    rw [getD_set F i j _ (by rw [h.hF]; exact hi), if_neg (by omega)]
    exact h.z j (by omega)
  eq := fun j h1 h2 => by
    have hc : bestTo (nextB d m l j) (fun x => (F.set i (nbst d m l F i (l.length - i)).2).getD x 0) l.length l.length = bestTo (nextB d m l j) (fun x => F.getD x 0) l.length l.length :=
      bestTo_congr _ _ _ _ _ fun x _ hx => by
        have := next_up hx
        rw [getD_set F i x _ (by rw [h.hF]; exact hi), if_neg (by omega)]
    rw [hc, getD_set F i j _ (by rw [h.hF]; exact hi), getD_set N i j _ (by rw [h.hN]; exact hi)]
    by_cases e : i = j
    · subst e
      rw [if_pos rfl, if_pos rfl]
      unfold nbst
      rw [show i + (l.length - i) = l.length by omega]
    · rw [if_neg e, if_neg e]
      exact h.eq j (by omega) h2
/-- What is done with one sample that can be next. -/
theorem rows_step {d m : Int} {l : List Smp} {N F : List Nat} {i k : Nat} (hN : N.length = l.length) (hF : F.length = l.length) (hi : i < l.length) (hk : 0 < k) (h : nextB d m l i (i + k) = true) :
    (if (N.set i (nbst d m l F i k).1).getD i 0 = l.length ∨ (F.set i (nbst d m l F i k).2).getD (i + k) 0 + 1 < (F.set i (nbst d m l F i k).2).getD i 0 then (N.set i (nbst d m l F i k).1).set i (i + k) else N.set i (nbst d m l F i k).1) = N.set i (nbst d m l F i (k + 1)).1 ∧
    (if (N.set i (nbst d m l F i k).1).getD i 0 = l.length ∨ (F.set i (nbst d m l F i k).2).getD (i + k) 0 + 1 < (F.set i (nbst d m l F i k).2).getD i 0 then (F.set i (nbst d m l F i k).2).set i ((F.set i (nbst d m l F i k).2).getD (i + k) 0 + 1) else F.set i (nbst d m l F i k).2) = F.set i (nbst d m l F i (k + 1)).2 := by
  have a1 : (N.set i (nbst d m l F i k).1).getD i 0 = (nbst d m l F i k).1 := by rw [getD_set N i i _ (by omega), if_pos rfl]
  have a2 : (F.set i (nbst d m l F i k).2).getD i 0 = (nbst d m l F i k).2 := by rw [getD_set F i i _ (by omega), if_pos rfl]
  have a3 : (F.set i (nbst d m l F i k).2).getD (i + k) 0 = F.getD (i + k) 0 := by rw [getD_set F i (i + k) _ (by omega), if_neg (by omega)]
  rw [a1, a2, a3, nbst_step h]
  by_cases hc : (nbst d m l F i k).1 = l.length ∨ F.getD (i + k) 0 + 1 < (nbst d m l F i k).2
  · rw [if_pos hc, if_pos hc, if_pos hc, List.set_set, List.set_set]; exact ⟨rfl, rfl⟩
  · rw [if_neg hc, if_neg hc, if_neg hc]; exact ⟨rfl, rfl⟩
theorem mem_bound {F : List Nat} {n : Nat} (hF : F.length = n) (h : ∀ j, j < n → F.getD j 0 + j < n) : ∀ x ∈ F, x ≤ n := by
  intro x hx
  obtain ⟨j, hj, rfl⟩ := List.getElem_of_mem hx
  have := h j (by omega)
  rw [List.getD_eq_getElem?_getD, List.getElem?_eq_getElem hj] at this
  have h2 : F[j] + j < n := this
  omega
theorem set_bound {F : List Nat} {n i x : Nat} (hF : F.length = n) (hi : i < n) (h : ∀ j, j < n → F.getD j 0 + j < n) (hx : x + i < n) : ∀ j, j < n → (F.set i x).getD j 0 + j < n := by
  intro j hj
  rw [getD_set F i j x (by omega)]
  by_cases e : i = j
  · subst e; rw [if_pos rfl]; exact hx
  · rw [if_neg e]; exact h j hj
end Go.Proofs.Ytblbfpokkpkcjaa
