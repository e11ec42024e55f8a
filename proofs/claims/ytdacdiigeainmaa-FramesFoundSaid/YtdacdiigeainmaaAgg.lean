/- aggregated (package query), for a right series and a right window. -/
import Derived.Test.YtdacdiigeainmaaAgm
import Derived.Test.YtdacdiigeainmaaDist
import Derived.Test.YtdacdiigeainmaaOnline
namespace Go.Proofs.Ytdacdiigeainmaa
open Go.RowKit Go.Shelf
set_option linter.unusedVariables false
set_option linter.unusedSimpArgs false
attribute [local go_sem] Oper.semAt_some

theorem blk_set {W : World} {b : Nat} {t : TypeId} {cs : Array Value} (h : Blk W b t cs) (i : Nat) (u : Value) : Blk (W.setCell ⟨b, i, none⟩ u) b t (cs.setIfInBounds i u) := by
  unfold Blk at h ⊢
  have hlt := lt_of_heap h
  simp only [World.setCell, Array.getElem?_modify, h]
  simp

section
variable {w0 W W' : World} {bs bb : Nat} {f t s g mn mx : Int}
end
theorem RnK.turned {w0 W W' : World} {bw bl bq : Nat} {v : Value} {l : List Smp} {f t q : Int} (h : RnK w0 bw bl bq v l f t q W) {row : Option Nat} (hg : W.grownBy W' row) (hr : ∀ r, row = some r → w0.heap.size ≤ r ∧ ∃ o : Obj, W.heap[r]? = some o ∧ o.isCells = false) : RnK w0 bw bl bq v l f t q W' :=
  have hr' : ∀ r, row = some r → ∃ o : Obj, W.heap[r]? = some o ∧ o.isCells = false := fun r e => (hr r e).2
  ⟨blk_own (β := Unit) _ _ _ () _ _ _ h.bw hg hr', blk_own (β := Unit) _ _ _ () _ _ _ h.bl hg hr', blk_own (β := Unit) _ _ _ () _ _ _ h.bq hg hr', rdS_own (β := Unit) _ _ _ () _ _ _ h.rs hg hr', h.lo.grown hg h.lo.size (fun k e => (hr k e).1)⟩
/-- A store into a block of the call's own that is none of the iterator's. -/
theorem RnK.setCell {w0 W : World} {bw bl bq : Nat} {v : Value} {l : List Smp} {f t q : Int} (h : RnK w0 bw bl bq v l f t q W) (hR : RdS w0 55 v l) (p : Addr) (u : Value) (h1 : bw ≠ p.block) (h2 : bl ≠ p.block) (h3 : bq ≠ p.block) (h4 : w0.heap.size ≤ p.block) : RnK w0 bw bl bq v l f t q (W.setCell p u) :=
  have hb := h.lo.setCell h4 u
  ⟨h.bw.setOther h1 u, h.bl.setOther h2 u, h.bq.setOther h3 u, Rd.below hR hb, hb⟩
theorem RnK.keeps {w0 W W' : World} {bw bl bq : Nat} {v : Value} {l : List Smp} {f t q : Int} (h : RnK w0 bw bl bq v l f t q W) (h' : RnK w0 bw bl bq v l f t q W') (hb : Below w0.heap.size W W') : Kpn w0.heap.size [bw, bl, bq] W W' :=
  ⟨hb, fun k hk => by
    simp only [List.mem_cons, List.not_mem_nil, or_false] at hk
    rcases hk with rfl | rfl | rfl
    · exact h'.bw.trans h.bw.symm
    · exact h'.bl.trans h.bl.symm
    · exact h'.bq.trans h.bq.symm⟩

section
variable {w0 W wx wy : World} {bs bb bw bl bq : Nat} {v : Value} {l : List Smp} {f t : Int} {B Bx : Nat} {x : Rn} {s g mn mx : Int}
end

theorem drew_heap (W : World) : W.drew.heap = W.heap := rfl

end Go.Proofs.Ytdacdiigeainmaa
