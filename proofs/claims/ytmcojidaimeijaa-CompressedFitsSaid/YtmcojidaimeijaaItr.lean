/- The parts of a window as an iterator (package query), for a right window and a length above 0. What a round of a loop over an iterator keeps. -/
import Derived.RangeFuncNested
import Derived.RangeFuncBound
import Derived.RangeFuncCalls
import Derived.RangeFuncLeaves
import Derived.Shelf.Abstract
import Derived.Shelf.RegionOpen
import Derived.WalkKit
import Derived.OwnWalkIn
import Derived.TacticsInMore
import Derived.LoopNIn
import Derived.LoopIn
import Derived.Test.YtmcojidaimeijaaStrm
import Derived.Test.YtmcojidaimeijaaBase
namespace Go.Proofs.Ytmcojidaimeijaa
open Go.RowKit Go.Shelf
set_option linter.unusedVariables false
set_option linter.unusedSimpArgs false
attribute [local go_sem] Oper.semAt_some

/-- The blocks of a list, and all below n₀, lie as they lay. -/
structure Kpn (n₀ : Nat) (bs : List Nat) (W W' : World) : Prop where
  be : Below n₀ W W'
  bs : ∀ k, k ∈ bs → W'.heap[k]? = W.heap[k]?
theorem Kpn.refl (n₀ : Nat) (bs : List Nat) (W : World) : Kpn n₀ bs W W := ⟨Below.refl _ _, fun _ _ => rfl⟩
theorem Kpn.trans {n₀ : Nat} {bs : List Nat} {A B C : World} (h : Kpn n₀ bs A B) (k : Kpn n₀ bs B C) : Kpn n₀ bs A C := ⟨h.be.trans k.be, fun i hi => (k.bs i hi).trans (h.bs i hi)⟩
theorem Kpn.putObj {n₀ : Nat} {bs : List Nat} {w : World} (hn : n₀ ≤ w.heap.size) (hb : ∀ k, k ∈ bs → k < w.heap.size) (W : World) (l : Nat) (o o' : Obj) (hl : w.heap.size ≤ l) (h : W.heap[l]? = some o) (h1 : o.isCells = false) (h2 : o.isWalk = false) : Kpn n₀ bs W (W.putObj l o') :=
  ⟨belowK_b hn W l o o' hl h h1 h2, fun k hk => World.putObj_heap_other (by have := hb k hk; omega)⟩
theorem Kpn.below {n₀ B : Nat} {bs : List Nat} {W W' : World} (h : Below B W W') (hn : n₀ ≤ B) (hb : ∀ k, k ∈ bs → k < B) : Kpn n₀ bs W W' := ⟨h.mono hn, fun k hk => h.block k (hb k hk)⟩
theorem Kpn.setCell {n₀ : Nat} {bs : List Nat} {W W' : World} (h : Kpn n₀ bs W W') (p : Addr) (u : Value) (hn : n₀ ≤ p.block) (hb : p.block ∉ bs) : Kpn n₀ bs W (W'.setCell p u) :=
  ⟨h.be.setCell hn u, fun k hk => (Below.heap_setCell _ _ _ _ (fun e => hb (e ▸ hk))).trans (h.bs k hk)⟩
theorem Kpn.grown {n₀ : Nat} {bs : List Nat} {W W' W'' : World} {row : Option Nat} (h : Kpn n₀ bs W W') (hg : W'.grownBy W'' row) (hn : n₀ ≤ W'.heap.size) (hlt : ∀ k, k ∈ bs → k < W'.heap.size) (hr : ∀ k, row = some k → n₀ ≤ k) (hb : ∀ k, row = some k → k ∉ bs) : Kpn n₀ bs W W'' :=
  ⟨h.be.grown hg hn hr, fun k hk => (hg.block k (hlt k hk) (fun e => hb k e.symm hk)).trans (h.bs k hk)⟩
theorem Kpn.blk {n₀ : Nat} {bs : List Nat} {W W' : World} (h : Kpn n₀ bs W W') {b : Nat} {t : TypeId} {cs : Array Value} (hb : b ∈ bs) (hB : Blk W b t cs) : Blk W' b t cs := (h.bs b hb).trans hB
/-- A block of cells abides whatever is turned that is no cells. -/
theorem blk_own {β : Type} (b : Nat) (t : TypeId) (cs : Array Value) : Own (fun (_ : β) W => Blk W b t cs) := fun s X Y row hs hg hrow =>
  (hg.block b hs.lt (fun e' => by obtain ⟨o, ho, hc⟩ := hrow b e'.symm; rw [show X.heap[b]? = _ from hs] at ho; cases ho; cases hc)).trans hs
theorem rd_own {β : Type} (e : TypeId) (size : Nat) (v : Value) (n : Nat) (xs : List Value) : Own (fun (_ : β) W => Rd W e size v n xs) := fun s X Y row hs hg hrow =>
  hs.keep fun b cur fr hh => hg.block b (lt_of_heap hh) (fun e' => by obtain ⟨o, ho, hc⟩ := hrow b e'.symm; rw [hh] at ho; cases ho; cases hc)
theorem rdS_own {β : Type} (e : TypeId) (v : Value) (l : List Smp) : Own (fun (_ : β) W => RdS W e v l) := rd_own e 3 v l.length (cellsOf l)
theorem ownsRow_own {β : Type} (n₀ : Nat) (e : TypeId) (size : Nat) (v : Value) (k : Nat) (xs : List Value) : Own (fun (_ : β) W => W.ownsRow n₀ e size v k xs) := by
  intro s X Y row hr hg hrow
  refine hr.kept hg ?_
  rcases hr.2 with ⟨rfl, _⟩ | ⟨g, cap, cur, rfl, _, hgb, _⟩
  · exact .inl rfl
  · refine .inr fun e' => ?_
    obtain ⟨o, ho, hc⟩ := hrow g (by simpa [Value.ownBlock] using e'.symm)
    rw [hgb] at ho; cases ho; cases hc
theorem keepsFrom_of {B : Nat} {W W' : World} (h : Below W.heap.size W W') : KeepsFrom B W W' :=
  ⟨h.size, fun k o _ hk _ => (h.block k (lt_of_heap hk)).trans hk⟩

/-- A part of a window: where it begins and where it ends. -/
abbrev Prt := { x : Int × Int // 0 ≤ x.1 ∧ x.1 < x.2 ∧ x.2 ≤ 345686400000 }
def mkPrt (a b : Int) : Prt := if h : 0 ≤ a ∧ a < b ∧ b ≤ 345686400000 then ⟨(a, b), h⟩ else ⟨(0, 1), by decide⟩
theorem mkPrt_eq {a b : Int} (h : 0 ≤ a ∧ a < b ∧ b ≤ 345686400000) : (mkPrt a b).1 = (a, b) := by unfold mkPrt; rw [dif_pos h]
def encPrt (x : Prt) : Array Value := #[.agg #[.int .i64 x.1.1, .int .i64 x.1.2]]
def partAt (f t ev : Int) (k : Nat) : Prt := mkPrt (f + k * ev) (if f + k * ev + ev ≤ t then f + k * ev + ev else t)
def partsTo (f t ev : Int) : Nat → List Prt
  | 0 => []
  | k + 1 => partsTo f t ev k ++ [partAt f t ev k]
theorem partsTo_long (f t ev : Int) (k : Nat) : (partsTo f t ev k).length = k := by
  induction k with
  | zero => rfl
  | succ k ih => simp [partsTo, ih]
def ptsCnt (f t ev : Int) : Nat := ((t - f + ev - 1) / ev).toNat
theorem ptsCnt_lt (f t ev : Int) (k : Nat) (he : 1 ≤ ev) : f + k * ev < t ↔ k < ptsCnt f t ev := by
  unfold ptsCnt
  have h : (k : Int) + 1 ≤ (t - f + ev - 1) / ev ↔ ((k : Int) + 1) * ev ≤ t - f + ev - 1 := Int.le_ediv_iff_mul_le (by omega)
  rw [Int.add_mul, Int.one_mul] at h
  generalize (k : Int) * ev = p at *
  omega

theorem parts_any (f t ev : Int) (w : World) :
    Calls Try.prog 79 #[.agg #[.int .i64 f, .int .i64 t], .int .i64 ev] w fun e w' => e = .returned (.func (.func 111) #[] #[.pointer (some ⟨w.heap.size, 0, none⟩), .pointer (some ⟨w.heap.size + 1, 0, none⟩)]) ∧
      w' = (w.alloc (.cells #[.int .i64 f, .int .i64 t] 43)).alloc (.cells #[.int .i64 ev] 3) := by
  go_enter Try.func79, Try.ntmps79
  go_wp2_with fail
  go_ret
  exact ⟨rfl, rfl⟩
theorem enter_parts1 (args : Array Value) (w : World) : (callFunc 111 args).run Try.prog w = .ok (.enter 111 args) w := by kernel_rfl

set_option maxRecDepth 100000 in
set_option maxHeartbeats 2000000 in
theorem parts1_in (n l bw be n₀ : Nat) (f t ev : Int) (hn : 1 ≤ n) (hW : 0 ≤ f ∧ f ≤ t ∧ t ≤ 345686400000) (hv : 1 ≤ ev ∧ ev ≤ 86400000) (J Jx : List Prt → World → Prop)
    (hY : ∀ pre x W, J pre W → pre.length < ptsCnt f t ev → YieldAt Fence.wide (n - 1) Try.prog l (encPrt x) W fun e W' =>
      (e = .returned (.bool true) ∧ J (pre ++ [x]) W' ∧ Kpn n₀ [bw, be] W W') ∨ (e = .returned (.bool false) ∧ Jx (pre ++ [x]) W'))
    (W : World) (hB : Blk W bw 43 #[.int .i64 f, .int .i64 t]) (hE : Blk W be 3 #[.int .i64 ev]) (h0 : J [] W) :
    CallsIn Fence.wide n Try.prog 111 #[.func (.yield l) #[] #[], .pointer (some ⟨bw, 0, none⟩), .pointer (some ⟨be, 0, none⟩)] W fun e W' => (∃ v, e = .returned v) ∧
      ((∃ ys, ys = partsTo f t ev (ptsCnt f t ev) ∧ J ys W') ∨ (∃ pre, True ∧ Jx pre W')) := by
  have hlt := fun k => ptsCnt_lt f t ev k hv.1
  generalize hcn : ptsCnt f t ev = C at *
  have HLT := Lib.hid hlt
  have c0 := hB.cell 0
  have c1 := hB.cell 1
  have c2 := hE.cell 0
  clear hlt hcn
  refine callsIn_of_wp Try.func111 rfl trivial ?_ rfl
  simp only [Try.ntmps111, List.size_toArray, List.length_cons, List.length_nil, Nat.reduceAdd, Nat.reduceSub, Array.replicate_succ, Array.replicate_zero, List.push_toArray, List.append_toArray, List.nil_append, List.cons_append]
  gi_wp2
  gi_loopw [4] (fun i wr => ∃ (k : Nat) (A : Int), k ≤ C ∧ i = .int .i64 A ∧ A = f + k * ev ∧ J (partsTo f t ev k) wr ∧ Kpn n₀ [bw, be] W wr) (fun i _ => (t - intOf i).toNat)
  case atStart => exact ⟨0, f, by omega, rfl, by simp, h0, Kpn.refl _ _ _⟩
  case round =>
    obtain ⟨k, A, hk, rfl, hA, hJs, hkp⟩ := hrel
    have hlk := HLT.out k
    rw [← hA] at hlk
    have hA0 : f ≤ A := by
      have : 0 ≤ (k : Int) * ev := Int.mul_nonneg (by omega) (by omega)
      omega
    have hA1 : A + ev = f + ((k + 1 : Nat) : Int) * ev := by rw [hA, show ((k + 1 : Nat) : Int) = (k : Int) + 1 from by omega, Int.add_mul, Int.one_mul]; omega
    have hnext : partsTo f t ev (k + 1) = partsTo f t ev k ++ [mkPrt A (if A + ev ≤ t then A + ev else t)] := by rw [hA]; rfl
    have hlong := partsTo_long f t ev k
    have c0 := (hkp.blk (by simp) hB).cell 0
    have c1 := (hkp.blk (by simp) hB).cell 1
    have c2 := (hkp.blk (by simp) hE).cell 0
    have HA1 := Lib.hid hA1
    have HN := Lib.hid hnext
    have HA := Lib.hid hA
    have HKP := Lib.hid hkp
    clear hA hA1 hnext
    by_cases hat : A < t
    · have hkC := hlk.1 hat
      have hmk : 0 ≤ A ∧ A < (if A + ev ≤ t then A + ev else t) ∧ (if A + ev ≤ t then A + ev else t) ≤ 345686400000 := by split <;> omega
      generalize hx : mkPrt A (if A + ev ≤ t then A + ev else t) = x at *
      have hxv : x.1 = (A, if A + ev ≤ t then A + ev else t) := by rw [← hx]; exact mkPrt_eq hmk
      obtain ⟨fn, tmps, assign, body, hy, hR⟩ := hY _ x wr hJs (by rw [hlong]; exact hkC)
      rw [show encPrt x = #[.agg #[.int .i64 A, .int .i64 (if A + ev ≤ t then A + ev else t)]] from by unfold encPrt; rw [hxv]] at hy
      clear hx hxv hmk hkp
      by_cases hae : A + ev ≤ t
      · rw [if_pos hae] at hy
        gi_wp2
        refine hR.mono ?_
        rintro e W3 (⟨rfl, hJ3, hk3⟩ | ⟨rfl, hJx3⟩)
        · have c2 := (hk3.blk (by simp) (HKP.out.blk (by simp) hE)).cell 0
          gi_wp2
          go_roundw
          case rel => exact ⟨k + 1, A + ev, by omega, rfl, HA1.out, by rw [HN.out]; exact hJ3, HKP.out.trans hk3⟩
          case measure => simp [intOf]; omega
        · gi_wp2
          refine bodyPost_ret (results_none rfl _ _ _) rfl ?_
          exact ⟨⟨_, rfl⟩, .inr ⟨_, trivial, hJx3⟩⟩
      · rw [if_neg hae] at hy
        gi_wp2
        refine hR.mono ?_
        rintro e W3 (⟨rfl, hJ3, hk3⟩ | ⟨rfl, hJx3⟩)
        · have c2 := (hk3.blk (by simp) (HKP.out.blk (by simp) hE)).cell 0
          gi_wp2
          go_roundw
          case rel => exact ⟨k + 1, A + ev, by omega, rfl, HA1.out, by rw [HN.out]; exact hJ3, HKP.out.trans hk3⟩
          case measure => simp [intOf]; omega
        · gi_wp2
          refine bodyPost_ret (results_none rfl _ _ _) rfl ?_
          exact ⟨⟨_, rfl⟩, .inr ⟨_, trivial, hJx3⟩⟩
    · have hkC : k = C := by omega
      subst hkC
      gi_wp2
      go_end0
      first
      | exact ⟨⟨_, rfl⟩, .inl ⟨_, rfl, hJs⟩⟩
      | exact ⟨⟨_, rfl⟩, .inl hJs⟩

theorem parts_stops (n bw be n₀ : Nat) (f t ev : Int) (hn : 1 ≤ n) (hW : 0 ≤ f ∧ f ≤ t ∧ t ≤ 345686400000) (hv : 1 ≤ ev ∧ ev ≤ 86400000) (w : World) (hB : Blk w bw 43 #[.int .i64 f, .int .i64 t]) (hE : Blk w be 3 #[.int .i64 ev]) :
    SeqStopsK Fence.wide n Try.prog 111 #[.pointer (some ⟨bw, 0, none⟩), .pointer (some ⟨be, 0, none⟩)] encPrt (Kpn n₀ [bw, be]) (fun ys => ys = partsTo f t ev (ptsCnt f t ev)) (fun _ => True) (ptsCnt f t ev) w :=
  fun l J Jx W hb _ _ hY h0 => parts1_in n l bw be n₀ f t ev hn hW hv J Jx hY W (hB.below hb hB.lt) (hE.below hb hE.lt) h0

theorem row_other {W w1 : World} {base size n : Nat} {e t : TypeId} {v : Value} {xs : List Value} (h : W.ownsRow base e size v n xs) (hg : W.grownBy w1 v.ownBlock) {b : Nat} {cur : Array Value} {fr : Nat × Nat} (hb : W.heap[b]? = some (.cells cur t fr)) (ht : t ≠ e) : w1.heap[b]? = W.heap[b]? := by
  refine hg.block b (lt_of_heap hb) ?_
  rcases h.2 with ⟨rfl, _⟩ | ⟨g, cap, cur', rfl, _, hgb, _⟩
  · simp [Value.ownBlock]
  · intro e'
    obtain rfl : b = g := by simpa [Value.ownBlock] using e'
    rw [hb] at hgb
    cases hgb
    exact ht rfl
end Go.Proofs.Ytmcojidaimeijaa
