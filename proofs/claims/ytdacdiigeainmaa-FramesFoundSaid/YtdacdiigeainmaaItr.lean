/- The parts of a window as an iterator (package query), for a right window and a length above 0. What a round of a loop over an iterator keeps. -/
import Derived.RangeFuncNested
import Derived.RangeFuncBound
import Derived.RangeFuncCalls
import Derived.RangeFuncLeaves
import Derived.Shelf.Abstract
import Derived.Shelf.RegionOpen
import Derived.WalkKit
import Derived.OwnWalkIn
import Derived.TacticsInMore
import Derived.LoopNIn
import Derived.LoopIn
import Derived.Test.YtdacdiigeainmaaStrm
import Derived.Test.YtdacdiigeainmaaBase
namespace Go.Proofs.Ytdacdiigeainmaa
open Go.RowKit Go.Shelf
set_option linter.unusedVariables false
set_option linter.unusedSimpArgs false
attribute [local go_sem] Oper.semAt_some

/-- The blocks of a list, and all below n₀, lie as they lay. -/
structure Kpn (n₀ : Nat) (bs : List Nat) (W W' : World) : Prop where
  be : Below n₀ W W'
  bs : ∀ k, k ∈ bs → W'.heap[k]? = W.heap[k]?
theorem Kpn.refl (n₀ : Nat) (bs : List Nat) (W : World) : Kpn n₀ bs W W := ⟨Below.refl _ _, fun _ _ => rfl⟩
theorem Kpn.trans {n₀ : Nat} {bs : List Nat} {A B C : World} (h : Kpn n₀ bs A B) (k : Kpn n₀ bs B C) : Kpn n₀ bs A C := ⟨h.be.trans k.be, fun i hi => (k.bs i hi).trans (h.bs i hi)⟩
theorem Kpn.putObj {n₀ : Nat} {bs : List Nat} {w : World} (hn : n₀ ≤ w.heap.size) (hb : ∀ k, k ∈ bs → k < w.heap.size) (W : World) (l : Nat) (o o' : Obj) (hl : w.heap.size ≤ l) (h : W.heap[l]? = some o) (h1 : o.isCells = false) (h2 : o.isWalk = false) : Kpn n₀ bs W (W.putObj l o') :=
  ⟨belowK_b hn W l o o' hl h h1 h2, fun k hk => World.putObj_heap_other (by have := hb k hk; omega)⟩
theorem Kpn.below {n₀ B : Nat} {bs : List Nat} {W W' : World} (h : Below B W W') (hn : n₀ ≤ B) (hb : ∀ k, k ∈ bs → k < B) : Kpn n₀ bs W W' := ⟨h.mono hn, fun k hk => h.block k (hb k hk)⟩
theorem Kpn.setCell {n₀ : Nat} {bs : List Nat} {W W' : World} (h : Kpn n₀ bs W W') (p : Addr) (u : Value) (hn : n₀ ≤ p.block) (hb : p.block ∉ bs) : Kpn n₀ bs W (W'.setCell p u) :=
  ⟨h.be.setCell hn u, fun k hk => (Below.heap_setCell _ _ _ _ (fun e => hb (e ▸ hk))).trans (h.bs k hk)⟩
theorem Kpn.grown {n₀ : Nat} {bs : List Nat} {W W' W'' : World} {row : Option Nat} (h : Kpn n₀ bs W W') (hg : W'.grownBy W'' row) (hn : n₀ ≤ W'.heap.size) (hlt : ∀ k, k ∈ bs → k < W'.heap.size) (hr : ∀ k, row = some k → n₀ ≤ k) (hb : ∀ k, row = some k → k ∉ bs) : Kpn n₀ bs W W'' :=
  ⟨h.be.grown hg hn hr, fun k hk => (hg.block k (hlt k hk) (fun e => hb k e.symm hk)).trans (h.bs k hk)⟩
theorem Kpn.blk {n₀ : Nat} {bs : List Nat} {W W' : World} (h : Kpn n₀ bs W W') {b : Nat} {t : TypeId} {cs : Array Value} (hb : b ∈ bs) (hB : Blk W b t cs) : Blk W' b t cs := (h.bs b hb).trans hB
/-- A block of cells abides whatever is turned that is no cells. -/
theorem blk_own {β : Type} (b : Nat) (t : TypeId) (cs : Array Value) : Own (fun (_ : β) W => Blk W b t cs) := fun s X Y row hs hg hrow =>
  (hg.block b hs.lt (fun e' => by obtain ⟨o, ho, hc⟩ := hrow b e'.symm; rw [show X.heap[b]? = _ from hs] at ho; cases ho; cases hc)).trans hs
theorem rd_own {β : Type} (e : TypeId) (size : Nat) (v : Value) (n : Nat) (xs : List Value) : Own (fun (_ : β) W => Rd W e size v n xs) := fun s X Y row hs hg hrow =>
  hs.keep fun b cur fr hh => hg.block b (lt_of_heap hh) (fun e' => by obtain ⟨o, ho, hc⟩ := hrow b e'.symm; rw [hh] at ho; cases ho; cases hc)
theorem rdS_own {β : Type} (e : TypeId) (v : Value) (l : List Smp) : Own (fun (_ : β) W => RdS W e v l) := rd_own e 3 v l.length (cellsOf l)
theorem ownsRow_own {β : Type} (n₀ : Nat) (e : TypeId) (size : Nat) (v : Value) (k : Nat) (xs : List Value) : Own (fun (_ : β) W => W.ownsRow n₀ e size v k xs) := by
  intro s X Y row hr hg hrow
  refine hr.kept hg ?_
  rcases hr.2 with ⟨rfl, _⟩ | ⟨g, cap, cur, rfl, _, hgb, _⟩
  · exact .inl rfl
  · refine .inr fun e' => ?_
    obtain ⟨o, ho, hc⟩ := hrow g (by simpa [Value.ownBlock] using e'.symm)
    rw [hgb] at ho; cases ho; cases hc
theorem keepsFrom_of {B : Nat} {W W' : World} (h : Below W.heap.size W W') : KeepsFrom B W W' :=
  ⟨h.size, fun k o _ hk _ => (h.block k (lt_of_heap hk)).trans hk⟩

/-- A part of a window: where it begins and where it ends. -/
abbrev Prt := { x : Int × Int // 0 ≤ x.1 ∧ x.1 < x.2 ∧ x.2 ≤ 345686400000 }
def mkPrt (a b : Int) : Prt := if h : 0 ≤ a ∧ a < b ∧ b ≤ 345686400000 then ⟨(a, b), h⟩ else ⟨(0, 1), by decide⟩
theorem mkPrt_eq {a b : Int} (h : 0 ≤ a ∧ a < b ∧ b ≤ 345686400000) : (mkPrt a b).1 = (a, b) := by unfold mkPrt; rw [dif_pos h]
def encPrt (x : Prt) : Array Value := #[.agg #[.int .i64 x.1.1, .int .i64 x.1.2]]
def partAt (f t ev : Int) (k : Nat) : Prt := mkPrt (f + k * ev) (if f + k * ev + ev ≤ t then f + k * ev + ev else t)
def partsTo (f t ev : Int) : Nat → List Prt
  | 0 => []
  | k + 1 => partsTo f t ev k ++ [partAt f t ev k]
theorem partsTo_long (f t ev : Int) (k : Nat) : (partsTo f t ev k).length = k := by
  induction k with
  | zero => rfl
  | succ k ih => simp [partsTo, ih]
def ptsCnt (f t ev : Int) : Nat := ((t - f + ev - 1) / ev).toNat
theorem ptsCnt_lt (f t ev : Int) (k : Nat) (he : 1 ≤ ev) : f + k * ev < t ↔ k < ptsCnt f t ev := by
  unfold ptsCnt
  have h : (k : Int) + 1 ≤ (t - f + ev - 1) / ev ↔ ((k : Int) + 1) * ev ≤ t - f + ev - 1 := Int.le_ediv_iff_mul_le (by omega)
  rw [Int.add_mul, Int.one_mul] at h
  generalize (k : Int) * ev = p at *
  omega

theorem row_other {W w1 : World} {base size n : Nat} {e t : TypeId} {v : Value} {xs : List Value} (h : W.ownsRow base e size v n xs) (hg : W.grownBy w1 v.ownBlock) {b : Nat} {cur : Array Value} {fr : Nat × Nat} (hb : W.heap[b]? = some (.cells cur t fr)) (ht : t ≠ e) : w1.heap[b]? = W.heap[b]? := by
  refine hg.block b (lt_of_heap hb) ?_
  rcases h.2 with ⟨rfl, _⟩ | ⟨g, cap, cur', rfl, _, hgb, _⟩
  · simp [Value.ownBlock]
  · intro e'
    obtain rfl : b = g := by simpa [Value.ownBlock] using e'
    rw [hb] at hgb
    cases hgb
    exact ht rfl
end Go.Proofs.Ytdacdiigeainmaa
