/- runs (package query) as an iterator, for a right series and a right window. -/
import Derived.Test.YtdacdiigeainmaaItr
import Derived.Test.YtdacdiigeainmaaStrl
import Derived.Test.YtdacdiigeainmaaPos
import Derived.Sort.CutIn
namespace Go.Proofs.Ytdacdiigeainmaa
open Go.RowKit Go.Shelf
set_option linter.unusedVariables false
set_option linter.unusedSimpArgs false
attribute [local go_sem] Oper.semAt_some

/-- A run: a value, and when it begins and ends. -/
abbrev Rn := { x : Int × Int × Int // (-1000000 ≤ x.1 ∧ x.1 ≤ 1000000) ∧ 0 ≤ x.2.1 ∧ x.2.1 < x.2.2 ∧ x.2.2 ≤ 345686400000 }
def mkRn (v a b : Int) : Rn := if h : (-1000000 ≤ v ∧ v ≤ 1000000) ∧ 0 ≤ a ∧ a < b ∧ b ≤ 345686400000 then ⟨(v, a, b), h⟩ else ⟨(0, 0, 1), by decide⟩
theorem mkRn_eq {v a b : Int} (h : (-1000000 ≤ v ∧ v ≤ 1000000) ∧ 0 ≤ a ∧ a < b ∧ b ≤ 345686400000) : (mkRn v a b).1 = (v, a, b) := by unfold mkRn; rw [dif_pos h]
def encRn (x : Rn) : Array Value := #[.int .i64 x.1.1, .agg #[.int .i64 x.1.2.1, .int .i64 x.1.2.2]]
/-- The runs of stretches, of those with a quality at most q. -/
def rnsOf (q : Int) (r : List Str) : List Rn := (r.filter fun x => decide (x.s.q ≤ q)).map fun x => mkRn x.s.v x.a x.b
theorem rnsOf_snoc (q : Int) (r : List Str) (x : Str) : rnsOf q (r ++ [x]) = if x.s.q ≤ q then rnsOf q r ++ [mkRn x.s.v x.a x.b] else rnsOf q r := by
  unfold rnsOf
  rw [List.filter_append]
  split <;> rename_i h <;> simp [h]
theorem rnsOf_long (q : Int) (r : List Str) : (rnsOf q r).length ≤ r.length := by unfold rnsOf; rw [List.length_map]; exact List.length_filter_le _ _

/-- long, to the letter. -/
theorem long_eq (f t : Int) (w : World) (hW : 0 ≤ f ∧ f ≤ t ∧ t ≤ 345686400000) :
    Calls Try.prog 32 #[.agg #[.int .i64 f, .int .i64 t]] w fun e w' => e = .returned (.int .i64 (t - f)) ∧ w' = w.alloc (.cells #[.int .i64 f, .int .i64 t] 49) := by
  go_enter Try.func32, Try.ntmps32
  go_wp2_with fail
  go_ret
  exact ⟨rfl, rfl⟩

/-- What the iterator's round has at hand. -/
structure RnK (w0 : World) (bw bl bq : Nat) (v : Value) (l : List Smp) (f t q : Int) (W : World) : Prop where
  bw : Blk W bw 49 #[.int .i64 f, .int .i64 t]
  bl : Blk W bl 29 #[v]
  bq : Blk W bq 3 #[.int .i64 q]
  rs : RdS W 55 v l
  lo : Below w0.heap.size w0 W
section
variable {w0 W W' : World} {bw bl bq : Nat} {v : Value} {l : List Smp} {f t q : Int}
theorem RnK.step (h : RnK w0 bw bl bq v l f t q W) (hb : Below W.heap.size W W') : RnK w0 bw bl bq v l f t q W' :=
  ⟨h.bw.below hb h.bw.lt, h.bl.below hb h.bl.lt, h.bq.below hb h.bq.lt, Rd.below h.rs hb, h.lo.trans (hb.mono h.lo.size)⟩
theorem RnK.kpn (h : RnK w0 bw bl bq v l f t q W) (hR : RdS w0 55 v l) (hk : Kpn w0.heap.size [bw, bl, bq] W W') : RnK w0 bw bl bq v l f t q W' :=
  ⟨hk.blk (by simp) h.bw, hk.blk (by simp) h.bl, hk.blk (by simp) h.bq, Rd.below hR (h.lo.trans hk.be), h.lo.trans hk.be⟩
theorem RnK.drew (h : RnK w0 bw bl bq v l f t q W) : RnK w0 bw bl bq v l f t q W.drew := h.step (show Below W.heap.size W W.drew from ⟨rfl, rfl, rfl, Nat.le_refl _, fun _ _ => rfl⟩)
end
theorem blk_two {W : World} {b : Nat} {t : TypeId} {x y : Value} (h : Blk W b t #[x, y]) (u : Value) : Blk (W.setCell ⟨b, 1, none⟩ u) b t #[x, u] := by
  unfold Blk at h ⊢
  simp [World.setCell, Array.getElem?_modify, h]
theorem Below.grow {W W' : World} (h : Below W.heap.size W W') : W.grownBy W' none := ⟨h.os, h.tape, h.output, h.size, fun k hk _ => h.block k hk⟩

end Go.Proofs.Ytdacdiigeainmaa
