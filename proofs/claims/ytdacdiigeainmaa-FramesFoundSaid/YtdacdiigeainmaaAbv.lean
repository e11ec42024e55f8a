/- Above (package query). The limit lies far within an int. -/
import Derived.Test.YtdacdiigeainmaaAbm
import Derived.Test.YtdacdiigeainmaaAgg
import Derived.Test.YtdacdiigeainmaaPar
import Derived.Test.YtdacdiigeainmaaKmm
import Derived.Test.YtdacdiigeainmaaChk
import Derived.WalkHide
namespace Go.Proofs.Ytdacdiigeainmaa
open Go.RowKit Go.Shelf
set_option linter.unusedVariables false
set_option linter.unusedSimpArgs false
attribute [local go_sem] Oper.semAt_some

def aboE (l : List Smp) (f t L : Int) : Int := orE (orE (serErr l) (winErr f t)) (if inB L (-1000000) 1000000 = false then 1 else 0)
def aboR (l : List Smp) (f t L : Int) : List (Int × Int) × Int := if aboE l f t L = 0 then aboV l f t L else ([], 0)

theorem keepsFrom_row {B base size n : Nat} {e : TypeId} {v : Value} {xs : List Value} {W W' : World} (hr : W.ownsRow base e size v n xs) (hg : W.grownBy W' v.ownBlock) : KeepsFrom B W W' :=
  ⟨hg.size, fun k o _ hk hc => (hg.block k (lt_of_heap hk) (fun e' => by
    rcases hr.2 with ⟨rfl, _⟩ | ⟨g, cap, cur, rfl, _, hgb, _⟩
    · simp [Value.ownBlock] at e'
    · obtain rfl : k = g := by simpa [Value.ownBlock] using e'
      rw [hk] at hgb; cases hgb; cases hc)).trans hk⟩
theorem drew_below (W : World) : Below W.heap.size W W.drew := ⟨rfl, rfl, rfl, Nat.le_refl _, fun _ _ => rfl⟩
theorem own_lt {W : World} {base size n : Nat} {e : TypeId} {v : Value} {xs : List Value} (hr : W.ownsRow base e size v n xs) : some W.heap.size ≠ v.ownBlock := by
  rcases hr.2 with ⟨rfl, _⟩ | ⟨g, cap, cur, rfl, _, hgb, _⟩
  · simp [Value.ownBlock]
  · simp [Value.ownBlock]; have := lt_of_heap hgb; omega

/-- What a round of Above finds. -/
structure AwI (w0 : World) (P bw bl bq : Nat) (v : Value) (l : List Smp) (f t L : Int) (vo : Value) (out : List (Int × Int)) (s : Int) (W : World) : Prop where
  ob : Blk W P 32 #[vo]
  ow : W.ownsRow w0.heap.size 49 2 vo out.length (wdwCells out)
  tb : Blk W (P + 1) 3 #[.int .i64 s]
  lb : Blk W (w0.heap.size + 1) 3 #[.int .i64 L]
  rn : RnK w0 bw bl bq v l f t 1 W
  ne : some bw ≠ vo.ownBlock
  h1 : w0.heap.size + 1 < P
  h2 : P + 1 < bw ∧ P + 1 < bl ∧ P + 1 < bq
section
variable {w0 W W' : World} {P bw bl bq : Nat} {v : Value} {l : List Smp} {f t L : Int} {vo : Value} {out : List (Int × Int)} {s : Int}
theorem AwI.step (h : AwI w0 P bw bl bq v l f t L vo out s W) (hb : Below W.heap.size W W') : AwI w0 P bw bl bq v l f t L vo out s W' :=
  ⟨h.ob.below hb h.ob.lt, own_keep h.ow fun b _ _ hh => hb.block b (lt_of_heap hh), h.tb.below hb h.tb.lt, h.lb.below hb h.lb.lt, h.rn.step hb, h.ne, h.h1, h.h2⟩
theorem AwI.turned (h : AwI w0 P bw bl bq v l f t L vo out s W) {row : Option Nat} (hg : W.grownBy W' row) (hr : ∀ r, row = some r → w0.heap.size ≤ r ∧ ∃ o : Obj, W.heap[r]? = some o ∧ o.isCells = false) : AwI w0 P bw bl bq v l f t L vo out s W' :=
  have hr' : ∀ r, row = some r → ∃ o : Obj, W.heap[r]? = some o ∧ o.isCells = false := fun r e => (hr r e).2
  ⟨blk_own (β := Unit) _ _ _ () _ _ _ h.ob hg hr', ownsRow_own (β := Unit) _ _ _ _ _ _ () _ _ _ h.ow hg hr', blk_own (β := Unit) _ _ _ () _ _ _ h.tb hg hr', blk_own (β := Unit) _ _ _ () _ _ _ h.lb hg hr', h.rn.turned hg hr, h.ne, h.h1, h.h2⟩
/-- The row grows, the box is written. -/
theorem AwI.grown (h : AwI w0 P bw bl bq v l f t L vo out s W) (hR : RdS w0 55 v l) {g n c : Nat} {out' : List (Int × Int)} {w1 : World} (hg : W.grownBy w1 vo.ownBlock) (hn : n = out'.length) (ho : w1.ownsRow w0.heap.size 49 2 (.slice (some ⟨g, 0, none⟩) n c) n (wdwCells out')) (hw : vo.ownBlock = some g ∨ W.heap.size ≤ g) :
    AwI w0 P bw bl bq v l f t L (.slice (some ⟨g, 0, none⟩) n c) out' s (w1.setCell ⟨P, 0, none⟩ (.slice (some ⟨g, 0, none⟩) n c)) := by
  subst hn
  have k1 : ∀ {b : Nat} {t : TypeId} {cs : Array Value}, Blk W b t cs → t ≠ 49 → Blk w1 b t cs := fun hb ht => (row_other h.ow hg hb ht).trans hb
  have k2 : ∀ {b : Nat} {t : TypeId} {cs : Array Value}, Blk W b t cs → t ≠ 49 → b ≠ P → Blk (w1.setCell ⟨P, 0, none⟩ (.slice (some ⟨g, 0, none⟩) out'.length c)) b t cs := fun hb ht hne => (Below.heap_setCell _ _ _ _ hne).trans (k1 hb ht)
  have hob := k1 h.ob (by decide)
  have hP := h.h1
  have h2 := h.h2
  have hlo : Below w0.heap.size w0 (w1.setCell ⟨P, 0, none⟩ (.slice (some ⟨g, 0, none⟩) out'.length c)) := (h.rn.lo.trans (below_grown h.ow h.rn.lo.size hg)).setCell (by simp; omega) _
  refine ⟨Boxed.set _ hob, own_keep ho fun b cur fr hh => Below.heap_setCell _ _ _ _ (fun e => ?_), k2 h.tb (by decide) (by omega), k2 h.lb (by decide) (by omega), ⟨?_, k2 h.rn.bl (by decide) (by omega), k2 h.rn.bq (by decide) (by omega), Rd.below hR hlo, hlo⟩, ?_, h.h1, h.h2⟩
  · subst e
    rw [hob] at hh
    cases hh
  · exact (Below.heap_setCell _ _ _ _ (by simp; omega)).trans ((hg.block bw h.rn.bw.lt h.ne).trans h.rn.bw)
  · simp only [Value.ownBlock]
    intro e
    rcases hw with hw | hw
    · exact h.ne (e.trans hw.symm)
    · have := h.rn.bw.lt; simp at e; omega
theorem AwI.setT (h : AwI w0 P bw bl bq v l f t L vo out s W) (hR : RdS w0 55 v l) (s' : Int) : AwI w0 P bw bl bq v l f t L vo out s' (W.setCell ⟨P + 1, 0, none⟩ (.int .i64 s')) := by
  have hP := h.h1
  have h2 := h.h2
  refine ⟨h.ob.setOther (by simp) _, own_keep h.ow fun b cur fr hh => Below.heap_setCell _ _ _ _ (fun e => ?_), blk_set h.tb 0 _, h.lb.setOther (by simp; omega) _, h.rn.setCell hR _ _ (by simp; omega) (by simp; omega) (by simp; omega) (by simp; omega), h.ne, h.h1, h.h2⟩
  subst e
  rw [show W.heap[P + 1]? = _ from h.tb] at hh
  cases hh
end

end Go.Proofs.Ytdacdiigeainmaa
