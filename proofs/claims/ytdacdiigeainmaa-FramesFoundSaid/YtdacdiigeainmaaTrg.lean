/- CheckTrigger (package batch), and the mathematics of frames. No condition. -/
import Derived.Test.YtdacdiigeainmaaChk
import Derived.Test.YtdacdiigeainmaaActm
import Derived.Test.YtdacdiigeainmaaSerr
import Derived.Test.YtdacdiigeainmaaWdel
namespace Go.Proofs.Ytdacdiigeainmaa
open Go.RowKit
set_option linter.unusedVariables false
set_option linter.unusedSimpArgs false

/-- A trigger as data. -/
structure Trg where
  st : Int
  sp : Int
  jn : Int
  ls : Int
def trgCells (t : Trg) : Array Value := #[.int .i64 t.st, .int .i64 t.sp, .int .i64 t.jn, .int .i64 t.ls]
/-- What is wrong with a trigger. -/
def trgErr (t : Trg) : Int := if inB t.st (-1000000) 1000000 = true ∧ inB t.sp (-1000000) 1000000 = true ∧ t.sp ≤ t.st ∧ inB t.jn 0 86400000 = true ∧ inB t.ls 0 86400000 = true then 0 else 1

set_option maxRecDepth 100000 in
set_option maxHeartbeats 4000000 in
theorem checkTrigger_any (t : Trg) (w : World) : Calls Try.prog 10 #[.agg (trgCells t)] w fun e w' => e = .returned (.int .i64 (trgErr t)) ∧ Below w.heap.size w w' := by
  have hE : trgErr t = if inB t.st (-1000000) 1000000 = true ∧ inB t.sp (-1000000) 1000000 = true ∧ t.sp ≤ t.st ∧ inB t.jn 0 86400000 = true ∧ inB t.ls 0 86400000 = true then 0 else 1 := rfl
  obtain ⟨st, sp, jn, ls⟩ := t
  generalize trgErr ⟨st, sp, jn, ls⟩ = E at *
  simp only [trgCells] at hE ⊢
  have h1 := within_any jn 0 86400000
  have h2 := within_any ls 0 86400000
  have h3 := isValue_any st
  have h4 := isValue_any sp
  have hbw : Below w.heap.size w (w.alloc (.cells #[.int .i64 st, .int .i64 sp, .int .i64 jn, .int .i64 ls] 27)) := (Below.refl _ w).alloc (Nat.le_refl _) _
  have H1 := Lib.hid h1
  have H2 := Lib.hid h2
  have H3 := Lib.hid h3
  have H4 := Lib.hid h4
  generalize inB jn 0 86400000 = a at *
  generalize inB ls 0 86400000 = b at *
  generalize inB st (-1000000) 1000000 = c at *
  generalize inB sp (-1000000) 1000000 = d at *
  have HE := Lib.hid hE
  clear h1 h2 h3 h4 hE
  cases a
  all_goals cases b
  all_goals cases c
  all_goals cases d
  all_goals by_cases hlt : st < sp
  all_goals
    go_enter Try.func10, Try.ntmps10
    go_wp2_with (first | (go_at_call 27; (with_reducible refine (H1.out _).mono ?_); rintro e w2 ⟨rfl, rfl⟩) | (go_at_call 27; (with_reducible refine (H2.out _).mono ?_); rintro e w2 ⟨rfl, rfl⟩) | (go_at_call 28; (with_reducible refine (H3.out _).mono ?_); rintro e w2 ⟨rfl, rfl⟩) | (go_at_call 28; (with_reducible refine (H4.out _).mono ?_); rintro e w2 ⟨rfl, rfl⟩))
    go_ret
    exact ⟨ret_int (by rw [HE.out]; simp; try omega), hbw⟩

/-- What a sample makes of the frames so far, and of whether there is a current one. -/
def trs (t : Trg) (u : Int) (S : Bool × List (Int × Int)) (x : Smp) : Bool × List (Int × Int) :=
  if x.q = 2 then S
  else if S.1 = false ∧ t.st ≤ x.v then (true, S.2 ++ [(x.t, u)])
  else if S.1 = true ∧ x.v < t.sp then (false, setE S.2 x.t) else S
def trTo (t : Trg) (u : Int) (l : List Smp) : Nat → Bool × List (Int × Int)
  | 0 => (false, [])
  | j + 1 => trs t u (trTo t u l j) (atS l j)
/-- What a frame makes of those joined so far. -/
def jnS (ap : Int) (out : List (Int × Int)) (f : Int × Int) : List (Int × Int) :=
  if out ≠ [] ∧ f.1 - (out.getD (out.length - 1) (0, 0)).2 < ap then setE out f.2 else out ++ [f]
def jnTo (ap : Int) (l : List (Int × Int)) : Nat → List (Int × Int)
  | 0 => []
  | j + 1 => jnS ap (jnTo ap l j) (atW l j)
/-- The frames of a trigger before a moment. -/
def frmL (t : Trg) (l : List Smp) (u : Int) : List (Int × Int) :=
  let r := (trTo t u l (posF l u)).2
  (jnTo t.jn r r.length).filter fun y => !decide (y.2 - y.1 < t.ls)
def frmE (t : Trg) (l : List Smp) (u : Int) : Int :=
  if trgErr t ≠ 0 then trgErr t else if serErr l ≠ 0 then serErr l else if inB u 0 345686400000 = false then 1 else if 2000 < (frmL t l u).length then 2 else 0
def frmR (t : Trg) (l : List Smp) (u : Int) : List (Int × Int) := if frmE t l u = 0 then frmL t l u else []

/-- Windows whose ends lie between 0 and u. -/
def InF (u : Int) (l : List (Int × Int)) : Prop := ∀ y ∈ l, (0 ≤ y.1 ∧ y.1 ≤ u) ∧ 0 ≤ y.2 ∧ y.2 ≤ u
theorem InF.nil (u : Int) : InF u [] := fun _ h => by cases h
theorem InF.snoc {u : Int} {l : List (Int × Int)} (h : InF u l) {y : Int × Int} (hy : (0 ≤ y.1 ∧ y.1 ≤ u) ∧ 0 ≤ y.2 ∧ y.2 ≤ u) : InF u (l ++ [y]) := by
  intro z hz
  rcases List.mem_append.1 hz with hz | hz
  · exact h z hz
  · rw [List.mem_singleton.1 hz]; exact hy
theorem getD_mem {l : List (Int × Int)} (h : 0 < l.length) : l.getD (l.length - 1) (0, 0) ∈ l := by
  rw [List.getD_eq_getElem?_getD, List.getElem?_eq_getElem (by omega)]
  exact List.getElem_mem _
theorem InF.setE {u : Int} {l : List (Int × Int)} (h : InF u l) {b : Int} (hb : 0 ≤ b ∧ b ≤ u) : InF u (setE l b) := by
  intro z hz
  unfold Go.Proofs.Ytdacdiigeainmaa.setE at hz
  rcases List.mem_or_eq_of_mem_set hz with hz | rfl
  · exact h z hz
  · by_cases hl : 0 < l.length
    · exact ⟨(h _ (getD_mem hl)).1, hb⟩
    · have : l = [] := List.eq_nil_of_length_eq_zero (by omega)
      subst this
      simp at hz
theorem trTo_in (t : Trg) (u : Int) (l : List Smp) (hu : 0 ≤ u) (n : Nat) (hx : ∀ j, j < n → 0 ≤ (atS l j).t ∧ (atS l j).t ≤ u) : InF u (trTo t u l n).2 := by
  induction n with
  | zero => exact InF.nil u
  | succ n ih =>
    have h1 := ih fun j hj => hx j (by omega)
    have h2 := hx n (by omega)
    rw [show trTo t u l (n + 1) = trs t u (trTo t u l n) (atS l n) from rfl]
    unfold trs
    split
    · exact h1
    · split
      · exact h1.snoc ⟨h2, hu, Int.le_refl _⟩
      · split
        · exact h1.setE h2
        · exact h1
theorem trTo_len (t : Trg) (u : Int) (l : List Smp) (n : Nat) : (trTo t u l n).2.length ≤ n ∧ ((trTo t u l n).1 = true → 0 < (trTo t u l n).2.length) := by
  induction n with
  | zero => simp [trTo]
  | succ n ih =>
    rw [show trTo t u l (n + 1) = trs t u (trTo t u l n) (atS l n) from rfl]
    unfold trs
    split
    · exact ⟨by omega, ih.2⟩
    · split
      · simp; omega
      · split
        · simp [setE_len]; omega
        · exact ⟨by omega, ih.2⟩
theorem jnTo_in (ap u : Int) (l : List (Int × Int)) (hl : InF u l) (n : Nat) (hn : n ≤ l.length) : InF u (jnTo ap l n) := by
  induction n with
  | zero => exact InF.nil u
  | succ n ih =>
    have h1 := ih (by omega)
    have h2 : (0 ≤ (atW l n).1 ∧ (atW l n).1 ≤ u) ∧ 0 ≤ (atW l n).2 ∧ (atW l n).2 ≤ u := by
      rw [← atW_eq l n (by omega)]; exact hl _ (List.getElem_mem _)
    rw [show jnTo ap l (n + 1) = jnS ap (jnTo ap l n) (atW l n) from rfl]
    unfold jnS
    split
    · exact h1.setE h2.2
    · exact h1.snoc h2
theorem jnTo_len (ap : Int) (l : List (Int × Int)) (n : Nat) : (jnTo ap l n).length ≤ n := by
  induction n with
  | zero => simp [jnTo]
  | succ n ih =>
    rw [show jnTo ap l (n + 1) = jnS ap (jnTo ap l n) (atW l n) from rfl]
    unfold jnS
    split
    · simp [setE_len]; omega
    · simp; omega

/-- The row of windows, as the loops keep it. -/
structure StW (w1 : World) (o : Value) (out : List (Int × Int)) (w : World) : Prop where
  own : w.ownsRow w1.heap.size 49 2 o out.length (wdwCells out)
  bl : Below w1.heap.size w1 w
theorem StW.step {w1 w w' : World} {o : Value} {out : List (Int × Int)} (h : StW w1 o out w) (hb : Below w.heap.size w w') : StW w1 o out w' :=
  ⟨own_keep h.own fun b _ _ hh => hb.block b (lt_of_heap hh), h.bl.trans (hb.mono h.bl.size)⟩
theorem StW.alloc {w1 w : World} {o : Value} {out : List (Int × Int)} (h : StW w1 o out w) (x : Obj) : StW w1 o out (w.alloc x) := h.step ((Below.refl _ _).alloc (Nat.le_refl _) _)
theorem StW.drewN {w1 w : World} {o : Value} {out : List (Int × Int)} (h : StW w1 o out w) (m : Nat) : StW w1 o out (w.drewN m) :=
  h.step (show Below w.heap.size w (w.drewN m) from ⟨rfl, rfl, rfl, Nat.le_refl _, fun _ _ => rfl⟩)
theorem StW.grown {w1 w w' : World} {o o' : Value} {out : List (Int × Int)} (h : StW w1 o out w) (x : Int × Int) (hg : w.grownBy w' o.ownBlock) (ho : w'.ownsRow w1.heap.size 49 2 o' (out.length + 1) (wdwCells (out ++ [x]))) : StW w1 o' (out ++ [x]) w' :=
  ⟨by simpa using ho, h.bl.trans (below_grown h.own h.bl.size hg)⟩
theorem own_setE {W : World} {base g c n : Nat} {out : List (Int × Int)} (h : W.ownsRow base 49 2 (.slice (some ⟨g, 0, none⟩) n c) out.length (wdwCells out)) (hn : 0 < out.length) (m : Nat) (hm : m + 1 = out.length) (b : Int) :
    (W.setCell ⟨g, m * 2 + 1, none⟩ (.int .i64 b)).ownsRow base 49 2 (.slice (some ⟨g, 0, none⟩) n c) (setE out b).length (wdwCells (setE out b)) ∧ base ≤ g := by
  obtain ⟨g', cap, hv, hbg, hnc, hcm⟩ := own_form h hn
  simp only [Value.slice.injEq, Option.some.injEq, Addr.mk.injEq, and_true] at hv
  obtain ⟨rfl, rfl, rfl⟩ := hv
  obtain rfl : m = out.length - 1 := by omega
  have hm : out.length - 1 < out.length := by omega
  have hcs : (wdwCells out).set ((out.length - 1) * 2 + 1) (.int .i64 b) = wdwCells (setE out b) := by
    have h0 := wdwCells_set out (out.length - 1) hm (out[out.length - 1].1, b)
    have h1 := (wdwCells_get out (out.length - 1) hm).1
    obtain ⟨hlt2, h1⟩ := List.getElem?_eq_some_iff.1 h1
    unfold setE
    rw [show (out.getD (out.length - 1) (0, 0)) = out[out.length - 1] by simp [List.getD_eq_getElem?_getD, List.getElem?_eq_getElem hm], ← h0]
    congr 1
    rw [← h1, List.set_getElem_self]
  have hst := (h.stored ((out.length - 1) * 2 + 1) (.int .i64 b)).1
  rw [hcs] at hst
  exact ⟨by rw [setE_len]; exact hst, hbg⟩
theorem StW.setLast {w1 w : World} {g c n : Nat} {out : List (Int × Int)} (h : StW w1 (.slice (some ⟨g, 0, none⟩) n c) out w) (m : Nat) (hm : m + 1 = out.length) (b : Int) :
    StW w1 (.slice (some ⟨g, 0, none⟩) n c) (setE out b) (w.setCell ⟨g, m * 2 + 1, none⟩ (.int .i64 b)) := by
  obtain ⟨h1, h2⟩ := own_setE h.own (by omega) m hm b
  exact ⟨h1, h.bl.setCell (by simpa using h2) _⟩
end Go.Proofs.Ytdacdiigeainmaa
