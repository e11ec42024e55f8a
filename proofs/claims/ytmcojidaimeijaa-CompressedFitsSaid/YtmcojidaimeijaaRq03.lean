import Derived.Test.YtmcojidaimeijaaRq02
import Derived.Test.YtmcojidaimeijaaAgg
import Derived.Test.YtmcojidaimeijaaAbv
import Derived.Test.YtmcojidaimeijaaSer
/- windows (package alarm), for a right series and an alarm within bounds. -/

namespace Go.Proofs.Ytmcojidaimeijaa
open Go.RowKit Go.Shelf
set_option linter.unusedVariables false
set_option linter.unusedSimpArgs false
attribute [local go_sem] Oper.semAt_some

theorem ArK.turned {w0 W W' : World} {bl bu bx : Nat} {v : Value} {l : List Smp} {u : Int} {x : Alm} (h : ArK w0 bl bu bx v l u x W) {row : Option Nat} (hg : W.grownBy W' row) (hr : ∀ r, row = some r → w0.heap.size ≤ r ∧ ∃ o : Obj, W.heap[r]? = some o ∧ o.isCells = false) : ArK w0 bl bu bx v l u x W' :=
  have hr' : ∀ r, row = some r → ∃ o : Obj, W.heap[r]? = some o ∧ o.isCells = false := fun r e => (hr r e).2
  ⟨blk_own (β := Unit) _ _ _ () _ _ _ h.bl hg hr', blk_own (β := Unit) _ _ _ () _ _ _ h.bu hg hr', blk_own (β := Unit) _ _ _ () _ _ _ h.bx hg hr', rdS_own (β := Unit) _ _ _ () _ _ _ h.rs hg hr', h.lo.grown hg h.lo.size (fun k e => (hr k e).1)⟩
theorem ArK.keeps {w0 W W' : World} {bl bu bx : Nat} {v : Value} {l : List Smp} {u : Int} {x : Alm} (h : ArK w0 bl bu bx v l u x W) (h' : ArK w0 bl bu bx v l u x W') (hb : Below w0.heap.size W W') : Kpn w0.heap.size [bl, bu, bx] W W' :=
  ⟨hb, fun k hk => by
    simp only [List.mem_cons, List.not_mem_nil, or_false] at hk
    rcases hk with rfl | rfl | rfl
    · exact h'.bl.trans h.bl.symm
    · exact h'.bu.trans h.bu.symm
    · exact h'.bx.trans h.bx.symm⟩

/-- The windows of runs. -/
def wndR (x : Alm) (u : Int) (r : List Rn) : Bool × List (Int × Int) := r.foldl (fun S y => wstp x u S y.1) (false, [])
theorem wndR_snoc (x : Alm) (u : Int) (r : List Rn) (y : Rn) : wndR x u (r ++ [y]) = wstp x u (wndR x u r) y.1 := by simp [wndR]
theorem wndR_map (x : Alm) (u : Int) (r : List Rn) : wndR x u r = wndS x u (r.map (·.1)) := by
  unfold wndR wndS
  rw [List.foldl_map]
theorem wndR_len (x : Alm) (u : Int) (r : List Rn) : (wndR x u r).2.length ≤ r.length ∧ ((wndR x u r).1 = true → 0 < (wndR x u r).2.length) := by
  have h := wndS_act x u (r.map (·.1))
  rw [List.length_map, ← wndR_map] at h
  exact h

/-- What a round of windows finds; P is the block of the alarm's box. -/
structure WnI (w0 : World) (P : Nat) (v : Value) (l : List Smp) (u : Int) (x : Alm) (vo : Value) (out : List (Int × Int)) (a : Bool) (W : World) : Prop where
  xb : Blk W P 106 (almCells x)
  ub : Blk W (P + 1) 3 #[.int .i64 u]
  ob : Blk W (P + 1 + 1) 44 #[vo]
  ab : Blk W (P + 1 + 1 + 1) 4 #[.bool a]
  ow : W.ownsRow w0.heap.size 43 2 vo out.length (wdwCells out)
  rn : ArK w0 (P + 1 + 1 + 1 + 1 + 1) (P + 1 + 1 + 1 + 1 + 1 + 1) (P + 1 + 1 + 1 + 1) v l u x W
  hP : w0.heap.size ≤ P
section
variable {w0 W W' : World} {P : Nat} {v : Value} {l : List Smp} {u : Int} {x : Alm} {vo : Value} {out : List (Int × Int)} {a : Bool}
theorem WnI.step (h : WnI w0 P v l u x vo out a W) (hb : Below W.heap.size W W') : WnI w0 P v l u x vo out a W' :=
  ⟨h.xb.below hb h.xb.lt, h.ub.below hb h.ub.lt, h.ob.below hb h.ob.lt, h.ab.below hb h.ab.lt, own_keep h.ow fun b _ _ hh => hb.block b (lt_of_heap hh), h.rn.step hb, h.hP⟩
theorem WnI.alloc (h : WnI w0 P v l u x vo out a W) (o : Obj) : WnI w0 P v l u x vo out a (W.alloc o) := h.step ((Below.refl _ W).alloc (Nat.le_refl _) o)
theorem WnI.turned (h : WnI w0 P v l u x vo out a W) {row : Option Nat} (hg : W.grownBy W' row) (hr : ∀ r, row = some r → w0.heap.size ≤ r ∧ ∃ o : Obj, W.heap[r]? = some o ∧ o.isCells = false) : WnI w0 P v l u x vo out a W' :=
  have hr' : ∀ r, row = some r → ∃ o : Obj, W.heap[r]? = some o ∧ o.isCells = false := fun r e => (hr r e).2
  ⟨blk_own (β := Unit) _ _ _ () _ _ _ h.xb hg hr', blk_own (β := Unit) _ _ _ () _ _ _ h.ub hg hr', blk_own (β := Unit) _ _ _ () _ _ _ h.ob hg hr', blk_own (β := Unit) _ _ _ () _ _ _ h.ab hg hr', ownsRow_own (β := Unit) _ _ _ _ _ _ () _ _ _ h.ow hg hr', h.rn.turned hg hr, h.hP⟩
/-- A store into a block of another type than windows; what is stored there is told by the blocks. -/
theorem WnI.store (h : WnI w0 P v l u x vo out a W) (hR : RdS w0 57 v l) {p : Nat} {e : TypeId} {cs : Array Value} (hp : Blk W p e cs) (he : e ≠ 43) (h1 : P + 1 < p) (h2 : p < P + 1 + 1 + 1 + 1) (y : Value) {vo' : Value} {a' : Bool}
    (ho : Blk (W.setCell ⟨p, 0, none⟩ y) (P + 1 + 1) 44 #[vo']) (ha : Blk (W.setCell ⟨p, 0, none⟩ y) (P + 1 + 1 + 1) 4 #[.bool a'])
    (hw : (W.setCell ⟨p, 0, none⟩ y).ownsRow w0.heap.size 43 2 vo' out.length (wdwCells out)) : WnI w0 P v l u x vo' out a' (W.setCell ⟨p, 0, none⟩ y) :=
  have hq := h.hP
  have hlo := h.rn.lo.setCell (p := ⟨p, 0, none⟩) (by simp; omega) y
  ⟨h.xb.setOther (by simp; omega) _, h.ub.setOther (by simp; omega) _, ho, ha, hw, ⟨h.rn.bl.setOther (by simp; omega) _, h.rn.bu.setOther (by simp; omega) _, h.rn.bx.setOther (by simp; omega) _, Rd.below hR hlo, hlo⟩, h.hP⟩
/-- The alarm becomes active, or no longer is. -/
theorem WnI.setA (h : WnI w0 P v l u x vo out a W) (hR : RdS w0 57 v l) (a' : Bool) : WnI w0 P v l u x vo out a' (W.setCell ⟨P + 1 + 1 + 1, 0, none⟩ (.bool a')) :=
  h.store hR h.ab (by decide) (by omega) (by omega) _ (h.ob.setOther (by simp) _) (h.ab.setOne _) (own_keep h.ow fun b cur fr hh => Below.heap_setCell _ _ _ _ (fun e => by
    subst e
    rw [show W.heap[P + 1 + 1 + 1]? = _ from h.ab] at hh
    cases hh))
/-- The row grows, the box is written. -/
theorem WnI.grown (h : WnI w0 P v l u x vo out a W) (hR : RdS w0 57 v l) (y : Int × Int) {v' : Value} {w1 : World} (hg : W.grownBy w1 vo.ownBlock) (ho : w1.ownsRow w0.heap.size 43 2 v' (out.length + 1) (wdwCells (out ++ [y]))) :
    WnI w0 P v l u x v' (out ++ [y]) a (w1.setCell ⟨P + 1 + 1, 0, none⟩ v') := by
  have k1 : ∀ {b : Nat} {t : TypeId} {cs : Array Value}, Blk W b t cs → t ≠ 43 → Blk w1 b t cs := fun hb ht => (row_other h.ow hg hb ht).trans hb
  have k2 : ∀ {b : Nat} {t : TypeId} {cs : Array Value}, Blk W b t cs → t ≠ 43 → b ≠ P + 1 + 1 → Blk (w1.setCell ⟨P + 1 + 1, 0, none⟩ v') b t cs := fun hb ht hne => (Below.heap_setCell _ _ _ _ hne).trans (k1 hb ht)
  have hob := k1 h.ob (by decide)
  have hP := h.hP
  have hlo := (h.rn.lo.trans (below_grown h.ow h.rn.lo.size hg)).setCell (p := ⟨P + 1 + 1, 0, none⟩) (by simp; omega) v'
  refine ⟨k2 h.xb (by decide) (by omega), k2 h.ub (by decide) (by omega), Boxed.set v' hob, k2 h.ab (by decide) (by omega), own_keep (by simpa using ho) fun b cur fr hh => Below.heap_setCell _ _ _ _ (fun e => ?_), ⟨k2 h.rn.bl (by decide) (by omega), k2 h.rn.bu (by decide) (by omega), k2 h.rn.bx (by decide) (by omega), Rd.below hR hlo, hlo⟩, hP⟩
  subst e
  rw [hob] at hh
  cases hh
/-- The last window ends elsewhere. -/
theorem WnI.setLast {g c n : Nat} (h : WnI w0 P v l u x (.slice (some ⟨g, 0, none⟩) n c) out a W) (hR : RdS w0 57 v l) (hn : 0 < out.length) (b : Int) :
    WnI w0 P v l u x (.slice (some ⟨g, 0, none⟩) n c) (setE out b) a (W.setCell ⟨g, (out.length - 1) * 2 + 1, none⟩ (.int .i64 b)) := by
  obtain ⟨g', cap, hv, hbg, hnc, hcm⟩ := own_form h.ow hn
  simp only [Value.slice.injEq, Option.some.injEq, Addr.mk.injEq, and_true] at hv
  obtain ⟨rfl, rfl, rfl⟩ := hv
  have hm : out.length - 1 < out.length := by omega
  have hcs : (wdwCells out).set ((out.length - 1) * 2 + 1) (.int .i64 b) = wdwCells (setE out b) := by
    have h0 := wdwCells_set out (out.length - 1) hm (out[out.length - 1].1, b)
    have h1 := (wdwCells_get out (out.length - 1) hm).1
    obtain ⟨hlt2, h1⟩ := List.getElem?_eq_some_iff.1 h1
    unfold setE
    rw [show (out.getD (out.length - 1) (0, 0)) = out[out.length - 1] by simp [List.getD_eq_getElem?_getD, List.getElem?_eq_getElem hm], ← h0]
    congr 1
    rw [← h1, List.set_getElem_self]
  have hst := (h.ow.stored ((out.length - 1) * 2 + 1) (.int .i64 b)).1
  rw [hcs] at hst
  have hlt := h.ow.lt g rfl
  have ne : ∀ {bb : Nat} {t : TypeId} {cs : Array Value}, Blk W bb t cs → t ≠ 43 → bb ≠ g := fun hb ht e => by
    rw [e] at hb
    rcases h.ow.2 with ⟨h0, _⟩ | ⟨g2, cap2, cur, h0, _, hgb, _⟩
    · cases h0
    · cases h0
      rw [show W.heap[g]? = _ from hb] at hgb
      cases hgb
      exact ht rfl
  have k : ∀ {bb : Nat} {t : TypeId} {cs : Array Value}, Blk W bb t cs → t ≠ 43 → Blk (W.setCell ⟨g, (out.length - 1) * 2 + 1, none⟩ (.int .i64 b)) bb t cs := fun hb ht => hb.setOther (by simpa using ne hb ht) _
  have hlo := h.rn.lo.setCell (p := ⟨g, (out.length - 1) * 2 + 1, none⟩) (by simpa using hbg) (.int .i64 b)
  exact ⟨k h.xb (by decide), k h.ub (by decide), k h.ob (by decide), k h.ab (by decide), by rw [setE_len]; exact hst, ⟨k h.rn.bl (by decide), k h.rn.bu (by decide), k h.rn.bx (by decide), Rd.below hR hlo, hlo⟩, h.hP⟩
end

theorem runL_ok (x : Alm) (u : Int) (n : Nat) : ∀ l : List Smp, l.length ≤ n → l.Pairwise (fun a b => a.t < b.t) → (∀ s ∈ l, 0 ≤ s.t ∧ s.t < u) → ∀ y ∈ runL x u l, (0 ≤ y.1 ∧ y.1 ≤ 2) ∧ 0 ≤ y.2.1 ∧ y.2.1 < y.2.2 ∧ y.2.2 ≤ u := by
  induction n with
  | zero =>
    intro l hl _ _ y hy
    rw [List.eq_nil_of_length_eq_zero (by omega : l.length = 0), runL_nil] at hy
    cases hy
  | succ n ih =>
    intro l hl hp hb y hy
    cases l with
    | nil => rw [runL_nil] at hy; cases hy
    | cons s r =>
      rw [runL_cons] at hy
      have hsub : (sameP x (sayF x s) r).Sublist r := List.dropWhile_sublist _
      obtain ⟨hp1, hp2⟩ := List.pairwise_cons.1 hp
      rcases List.mem_cons.1 hy with rfl | hy
      · have h1 := hb s (by simp)
        refine ⟨sayF_range x s, h1.1, ?_, ?_⟩
        · simp only
          cases hD : sameP x (sayF x s) r with
          | nil => exact h1.2
          | cons z D => exact hp1 z (hsub.subset (by rw [hD]; simp))
        · simp only
          cases hD : sameP x (sayF x s) r with
          | nil => exact Int.le_refl _
          | cons z D => exact Int.le_of_lt (hb z (List.mem_cons_of_mem _ (hsub.subset (by rw [hD]; simp)))).2
      · have h2 := sameP_len x (sayF x s) r
        simp only [List.length_cons] at hl
        exact ih _ (by omega) (hp2.sublist hsub) (fun z hz => hb z (List.mem_cons_of_mem _ (hsub.subset hz))) y hy
theorem take_right {l : List Smp} {u : Int} (hS : serErr l = 0) : (l.take (posF l u)).Pairwise (fun a b => a.t < b.t) ∧ ∀ s ∈ l.take (posF l u), 0 ≤ s.t ∧ s.t < u := by
  have hrise := serErr_rise hS
  have hpl := posF_le l u
  refine ⟨?_, fun s hs => ?_⟩
  · refine List.Pairwise.sublist (List.take_sublist _ _) (List.pairwise_iff_getElem.2 fun i j hi hj hij => ?_)
    have := rise_ltA hrise i j hij hj
    rwa [← atS_eq l i hi, ← atS_eq l j hj] at this
  · obtain ⟨i, hi, rfl⟩ := List.getElem_of_mem hs
    have hi2 : i < posF l u ∧ i < l.length := by rw [List.length_take] at hi; omega
    rw [List.getElem_take, atS_eq l i hi2.2]
    have h1 := posF_iff l u none hrise i hi2.2
    exact ⟨(serErr_vt hS i).2.1, by omega⟩
theorem wndR_act {l : List Smp} {u : Int} (x : Alm) (hS : serErr l = 0) (hu : u ≤ 345686400000) : (wndR x u (arL x u (l.take (posF l u)))).2 = actL x l u := by
  unfold actL
  rw [wndR_map]
  congr 2
  unfold arL
  rw [List.map_map]
  obtain ⟨h1, h2⟩ := take_right (u := u) hS
  have h3 := runL_ok x u _ _ (Nat.le_refl _) h1 h2
  conv => rhs; rw [← List.map_id (runL x u (l.take (posF l u)))]
  refine List.map_congr_left fun y hy => ?_
  have h4 := h3 y hy
  exact mkRn_eq ⟨by omega, by omega, h4.2.2.1, by omega⟩

theorem wnI_start (w : World) (v : Value) (l : List Smp) (u : Int) (x : Alm) (hR : RdS w 57 v l) :
    WnI w w.heap.size v l u x (.slice none 0 0) [] false (((((((w.alloc (.cells (almCells x) 106)).alloc (.cells #[.int .i64 u] 3)).alloc (.cells #[.slice none 0 0] 44)).alloc (.cells #[.bool false] 4)).alloc (.cells (almCells x) 106)).alloc (.cells #[v] 26)).alloc (.cells #[.int .i64 u] 3)) := by
  have hb : Below w.heap.size w (((((((w.alloc (.cells (almCells x) 106)).alloc (.cells #[.int .i64 u] 3)).alloc (.cells #[.slice none 0 0] 44)).alloc (.cells #[.bool false] 4)).alloc (.cells (almCells x) 106)).alloc (.cells #[v] 26)).alloc (.cells #[.int .i64 u] 3)) :=
    (((((((Below.refl _ w).alloc (Nat.le_refl _) _).alloc (by simp) _).alloc (by simp; omega) _).alloc (by simp; omega) _).alloc (by simp; omega) _).alloc (by simp; omega) _).alloc (by simp; omega) _
  exact ⟨((((((Blk.new w _ _).alloc _).alloc _).alloc _).alloc _).alloc _).alloc _, (((((blk_newAtA (by simp) _ _).alloc _).alloc _).alloc _).alloc _).alloc _, ((((blk_newAtA (by simp) _ _).alloc _).alloc _).alloc _).alloc _, (((blk_newAtA (by simp) _ _).alloc _).alloc _).alloc _, World.ownsRow_nil _ _ _ _,
    ⟨(blk_newAtA (by simp) _ _).alloc _, blk_newAtA (by simp) _ _, ((blk_newAtA (by simp) _ _).alloc _).alloc _, Rd.below hR hb, hb⟩, Nat.le_refl _⟩

set_option maxRecDepth 100000 in
set_option maxHeartbeats 4000000 in
theorem windows_any (v : Value) (l : List Smp) (u : Int) (x : Alm) (w : World) (hR : RdS w 57 v l) (hS : serErr l = 0) (hx : AlmIn x) (hu : 0 ≤ u ∧ u ≤ 345686400000) :
    Calls Try.prog 103 #[.agg (almCells x), v, .int .i64 u] w fun e w' => ∃ vr, e = .returned vr ∧ RdWdw w' vr (actL x l u) ∧ Below w.heap.size w w' := by
  obtain ⟨pa, ca, rfl⟩ := hR.lenv
  have hmx : Try.prog.follows .mixedOrders = true := by kernel_rfl
  have HACT := Lib.hid (wndR_act x hS hu.2)
  have hlong := (serErr_good hS).1
  have HAR := Lib.hid (fun W => aruns_any (.slice pa l.length ca) l.length ca pa rfl x u W)
  refine (callsIn_wide (n := 5)).1 ?_
  refine callsIn_of_wp_marks Try.func103 rfl trivial ?_ rfl
  simp only [Try.ntmps103, List.size_toArray, List.length_cons, List.length_nil, Nat.reduceAdd, Nat.reduceSub, Array.replicate_succ, Array.replicate_zero, List.push_toArray, List.append_toArray, List.nil_append, List.cons_append]
  obtain ⟨key, tag, kind, lim, dead, on, of, prio, lat, par⟩ := x
  simp only [almCells] at HAR ⊢
  gi_wp2_with (refine ⟨trivial, ?_⟩; gi_at_call 125; refine (callsIn_wide.2 (HAR.out _)).mono ?_; rintro e w' ⟨rfl, rfl⟩)
  have hpi := wnI_start w (.slice pa l.length ca) l u ⟨key, tag, kind, lim, dead, on, of, prio, lat, par⟩ hR
  rw [show almCells ⟨key, tag, kind, lim, dead, on, of, prio, lat, par⟩ = #[.string key, .string tag, .int .i64 kind, .int .i64 lim, .int .i64 dead, .int .i64 on, .int .i64 of, .int .i64 prio, .bool lat, .string par] from rfl] at hpi
  generalize (((((((w.alloc (.cells #[.string key, .string tag, .int .i64 kind, .int .i64 lim, .int .i64 dead, .int .i64 on, .int .i64 of, .int .i64 prio, .bool lat, .string par] 106)).alloc (.cells #[.int .i64 u] 3)).alloc (.cells #[.slice none 0 0] 44)).alloc (.cells #[.bool false] 4)).alloc (.cells #[.string key, .string tag, .int .i64 kind, .int .i64 lim, .int .i64 dead, .int .i64 on, .int .i64 of, .int .i64 prio, .bool lat, .string par] 106)).alloc (.cells #[.slice pa l.length ca] 26)).alloc (.cells #[.int .i64 u] 3)) = W0 at *
  obtain ⟨P, hPP⟩ : ∃ P, w.heap.size = P := ⟨_, rfl⟩
  rw [hPP] at hpi ⊢
  have HPP := Lib.hid hPP
  clear hPP HAR
  obtain ⟨x1, x2, x3, x4⟩ := hx
  simp only at x1 x2 x3 x4
  have hxx : AlmIn ⟨key, tag, kind, lim, dead, on, of, prio, lat, par⟩ := ⟨x1, x2, x3, x4⟩
  refine wpIn_rangeFunc_ownH rfl (by omega) (gf := 142) (lb := #[.pointer (some ⟨P + 1 + 1 + 1 + 1 + 1, 0, none⟩), .pointer (some ⟨P + 1 + 1 + 1 + 1 + 1 + 1, 0, none⟩), .pointer (some ⟨P + 1 + 1 + 1 + 1, 0, none⟩)]) rfl trivial (enters_of Try.func142 (by kernel_rfl) rfl)
    (aruns_stops (5 - 1) (P + 1 + 1 + 1 + 1 + 1) (P + 1 + 1 + 1 + 1 + 1 + 1) (P + 1 + 1 + 1 + 1) w _ l u ⟨key, tag, kind, lim, dead, on, of, prio, lat, par⟩ (by omega) hR hS hxx hu W0 hpi.rn) (fun h k => h.trans k) (Kpn.putObj hpi.rn.lo.size (fun k hk => by have := hpi.rn.bu.lt; simp at hk; omega)) (Below.refl _ _) (fun _ => rfl)
    (fun pre W => ∃ vo, WnI w P (.slice pa l.length ca) l u ⟨key, tag, kind, lim, dead, on, of, prio, lat, par⟩ vo (wndR ⟨key, tag, kind, lim, dead, on, of, prio, lat, par⟩ u pre).2 (wndR ⟨key, tag, kind, lim, dead, on, of, prio, lat, par⟩ u pre).1 W)
    (fun _ _ _ => False)
    (fun pre X Y row hs hg hr => by obtain ⟨vo, h⟩ := hs; exact ⟨vo, h.turned hg (fun r e => ⟨Nat.le_trans hpi.rn.lo.size (hr r e).1, (hr r e).2⟩)⟩)
    (fun _ _ _ _ _ hs _ _ => hs)
    ⟨_, hpi⟩
    (fun x a' W => ∃ Bx vo, P + 1 + 1 + 1 + 1 + 1 + 1 < Bx ∧ Blk W Bx 43 #[.int .i64 x.1.2.1, .int .i64 x.1.2.2] ∧ (Blk W (P + 1 + 1) 44 #[vo] ∧ some Bx ≠ vo.ownBlock) ∧ a' = { tmps := #[.agg #[.string key, .string tag, .int .i64 kind, .int .i64 lim, .int .i64 dead, .int .i64 on, .int .i64 of, .int .i64 prio, .bool lat, .string par], .slice pa l.length ca, .int .i64 u, .pointer (some ⟨P, 0, none⟩), undef, .pointer (some ⟨P + 1, 0, none⟩), .slice none 0 0, .pointer (some ⟨P + 1 + 1, 0, none⟩), .pointer (some ⟨P + 1 + 1 + 1, 0, none⟩), .int .i64 x.1.1, .pointer (some ⟨Bx, 0, none⟩), .agg #[.string key, .string tag, .int .i64 kind, .int .i64 lim, .int .i64 dead, .int .i64 on, .int .i64 of, .int .i64 prio, .bool lat, .string par], .slice pa l.length ca, .int .i64 u, .func (.func 142) #[] #[.pointer (some ⟨P + 1 + 1 + 1 + 1 + 1, 0, none⟩), .pointer (some ⟨P + 1 + 1 + 1 + 1 + 1 + 1, 0, none⟩), .pointer (some ⟨P + 1 + 1 + 1 + 1, 0, none⟩)], .int .i64 x.1.1, .agg #[.int .i64 x.1.2.1, .int .i64 x.1.2.2], undef, undef, undef, undef, undef, undef, undef, undef, undef, undef, undef, undef, undef, undef, undef, undef, undef, undef, undef, undef, undef, undef, undef, undef, undef, undef, undef, undef, undef, undef, undef, undef, undef, undef, undef, undef, undef, undef, undef, undef, undef, undef, undef, undef, undef, undef, undef, undef, undef, undef, undef, undef, undef, undef, undef], defers := [] })
    (fun x a' _ X Y row hs hg hr => by obtain ⟨Bx, vo, h1, h2, ⟨h4, h5⟩, h3⟩ := hs; exact ⟨Bx, vo, h1, blk_own (β := Unit) _ _ _ () X Y row h2 hg (fun r e => (hr r e).2), ⟨blk_own (β := Unit) _ _ _ () X Y row h4 hg (fun r e => (hr r e).2), h5⟩, h3⟩)
    ?assign ?body ?done ?stop
  case assign =>
    rintro li pre x W K ⟨vo, hI⟩ hK
    simp only [encRn]
    gi_wp2
    have hbA := (Below.refl W.heap.size W).alloc (Nat.le_refl _) (.cells #[.int .i64 x.1.2.1, .int .i64 x.1.2.2] 43)
    exact hK _ _ (keepsFrom_of hbA) (hI.rn.keeps (hI.rn.step hbA) (hbA.mono hI.rn.lo.size)) ⟨vo, hI.step hbA⟩ ⟨W.heap.size, vo, hI.rn.bu.lt, Blk.new _ _ _, ⟨hI.ob.below hbA hI.ob.lt, own_lt hI.ow⟩, rfl⟩
  case body =>
    rintro li pre x a' W hl ⟨r, hr⟩ ⟨vo, hI⟩ ⟨Bx, vo', hBx, bX, ⟨hob', hne⟩, rfl⟩ hlt
    obtain rfl : vo' = vo := by
      have h := (show W.heap[P + 1 + 1]? = _ from hob').symm.trans (show W.heap[P + 1 + 1]? = _ from hI.ob)
      simpa using h
    have hsn := wndR_snoc ⟨key, tag, kind, lim, dead, on, of, prio, lat, par⟩ u pre x
    have hln := wndR_len ⟨key, tag, kind, lim, dead, on, of, prio, lat, par⟩ u pre
    have hBP : P + 1 + 1 + 1 < Bx := by omega
    obtain ⟨⟨what, fr, tz⟩, hxb⟩ := x
    simp only at hxb bX hsn
    dsimp only
    generalize wndR ⟨key, tag, kind, lim, dead, on, of, prio, lat, par⟩ u pre = S at *
    obtain ⟨a, out⟩ := S
    simp only at hI hln
    have HSN := Lib.hid hsn
    clear hsn hob'
    have c0 : W.cell? ⟨P + 1 + 1 + 1, 0, none⟩ = some (.bool a) := hI.ab.cell 0
    have c1 : W.cell? ⟨P, 5, none⟩ = some (.int .i64 on) := hI.xb.cell 5
    have c2 : W.cell? ⟨P, 6, none⟩ = some (.int .i64 of) := hI.xb.cell 6
    have c3 : W.cell? ⟨P + 1, 0, none⟩ = some (.int .i64 u) := hI.ub.cell 0
    have c4 := bX.cell 0
    have c5 := bX.cell 1
    have f0 := hI.ab.frozen 0
    have hlo := hI.rn.lo.size
    have hPw := hI.hP
    have w1 : IntKind.i64.wrap (fr + on) = fr + on := IntWalk.i64_in _ (by omega)
    have w2 : IntKind.i64.wrap (fr + of) = fr + of := IntWalk.i64_in _ (by omega)
    have hout : out.length ≤ 5000 := by omega
    cases a
    · by_cases hw1 : what = 1
      · subst hw1
        by_cases htz : fr + on < tz
        · have HW := Lib.hid (show wstp ⟨key, tag, kind, lim, dead, on, of, prio, lat, par⟩ u (false, out) (1, fr, tz) = (true, out ++ [(fr + on, u)]) by unfold wstp; rw [if_pos ⟨rfl, rfl, htz⟩])
          gi_upto_region 8 with fail
          have hI1 := hI.setA hR true
          have bX1 := bX.setOther (p := ⟨P + 1 + 1 + 1, 0, none⟩) (by simp; omega) (.bool true)
          have hb1 : Below w.heap.size W (W.setCell ⟨P + 1 + 1 + 1, 0, none⟩ (.bool true)) := (Below.refl _ W).setCell (by simp; omega) _
          have hk1 : KeepsFrom W0.heap.size W (W.setCell ⟨P + 1 + 1 + 1, 0, none⟩ (.bool true)) := (KeepsOthers.setCell _ _ _).from _
          have HI := Lib.hid hI
          clear c0 c1 c2 c3 c4 c5 f0 hI bX
          generalize W.setCell ⟨P + 1 + 1 + 1, 0, none⟩ (.bool true) = W1 at *
          have c1 : W1.cell? ⟨P, 5, none⟩ = some (.int .i64 on) := hI1.xb.cell 5
          have c3 : W1.cell? ⟨P + 1, 0, none⟩ = some (.int .i64 u) := hI1.ub.cell 0
          have c4 := bX1.cell 0
          have c6 := hI1.ob.cell 0
          have hlo1 := hI1.rn.lo.size
          have HI2 := Lib.hid (hI1.alloc (.cells #[.int .i64 (fr + on), .int .i64 u] 43))
          gi_wp2_with (gi_at_builtin; refine wpListIn_append_wdw rfl _ _ rfl w.heap.size vo' out.length out rfl HI2.out.ow W1.heap.size rfl (fr + on, u) (by exact Blk.new _ _ _) (by omega) (by exact HI2.out.rn.lo.size) ?_; intro v' w4 hown4 hgrow4; obtain ⟨g', cap', rfl⟩ := ownsRow_succ hown4; have hob4 := (row_other HI2.out.ow hgrow4 HI2.out.ob (by decide)).trans HI2.out.ob; have d1 := Blk.cell hob4 0; have d2 := Blk.frozen hob4 0)
          have HI4 := HI2.out.grown hR (fr + on, u) hgrow4 hown4
          have ha := Boxed.appended hI1.ob (by decide) hI1.ow hlo1 (by omega) hown4 hgrow4
          have hbe := hb1.trans ha.2.2.2.2
          exact ⟨hk1.trans (ha.2.2.2.1.from _), HI.out.rn.keeps HI4.rn hbe, _, by rw [HSN.out, HW.out]; exact HI4⟩
        · have HW := Lib.hid (show wstp ⟨key, tag, kind, lim, dead, on, of, prio, lat, par⟩ u (false, out) (1, fr, tz) = (false, out) by unfold wstp; rw [if_neg (fun h => htz h.2.2), if_neg (fun h => by simp at h)])
          have htz' : decide (fr + on < tz) = false := by simpa using htz
          have HII := Lib.hid hI
          clear hI
          gi_wp2
          exact ⟨KeepsFrom.refl _ _, Kpn.refl _ _ _, vo', by rw [HSN.out, HW.out]; exact HII.out⟩
      · have HW := Lib.hid (show wstp ⟨key, tag, kind, lim, dead, on, of, prio, lat, par⟩ u (false, out) (what, fr, tz) = (false, out) by unfold wstp; rw [if_neg (fun h => hw1 h.2.1), if_neg (fun h => by simp at h)])
        have hw1' : (what == 1) = false := by simpa using hw1
        have HII := Lib.hid hI
        clear hI
        gi_wp2
        exact ⟨KeepsFrom.refl _ _, Kpn.refl _ _ _, vo', by rw [HSN.out, HW.out]; exact HII.out⟩
    · by_cases hw1 : what = 2
      · subst hw1
        by_cases htz : fr + of < tz
        · have HW := Lib.hid (show wstp ⟨key, tag, kind, lim, dead, on, of, prio, lat, par⟩ u (true, out) (2, fr, tz) = (false, setE out (fr + of)) by unfold wstp; rw [if_neg (fun h => by simp at h), if_pos ⟨rfl, rfl, htz⟩])
          have hop := hln.2 rfl
          obtain ⟨g, cap, hv, hbg, hnc, hcm⟩ := own_form hI.ow hop
          cases hv
          gi_upto_region 11 with fail
          have hI1 := hI.setA hR false
          have bX1 := bX.setOther (p := ⟨P + 1 + 1 + 1, 0, none⟩) (by simp; omega) (.bool false)
          have hb1 : Below w.heap.size W (W.setCell ⟨P + 1 + 1 + 1, 0, none⟩ (.bool false)) := (Below.refl _ W).setCell (by simp; omega) _
          have hk1 : KeepsFrom W0.heap.size W (W.setCell ⟨P + 1 + 1 + 1, 0, none⟩ (.bool false)) := (KeepsOthers.setCell _ _ _).from _
          have HI := Lib.hid hI
          clear c0 c1 c2 c3 c4 c5 f0 hI bX
          generalize W.setCell ⟨P + 1 + 1 + 1, 0, none⟩ (.bool false) = W1 at *
          have c2 : W1.cell? ⟨P, 6, none⟩ = some (.int .i64 of) := hI1.xb.cell 6
          have c4 := bX1.cell 0
          have c6 := hI1.ob.cell 0
          obtain ⟨m, hm⟩ : ∃ m : Nat, (out.length : Int) - 1 = (m : Int) := ⟨out.length - 1, by omega⟩
          have hml : m < out.length := by omega
          have hmE : out.length - 1 = m := by omega
          obtain ⟨k0, k1⟩ := own_wdw hI1.ow rfl m hml
          have k2 := hI1.ow.frozenAt (m * 2 + 1)
          have hI5 := hI1.setLast hR hop (fr + of)
          rw [hmE] at hI5
          have i1 : (0 : Int) ≤ (m : Int) := by omega
          have i2 : (m : Int) < (out.length : Int) := by omega
          have HI5 := Lib.hid hI5
          have HI1 := Lib.hid hI1
          clear hI5 hI1 hmE
          gi_wp2
          have hbe : Below w.heap.size W (W1.setCell ⟨g, m * 2 + 1, none⟩ (.int .i64 (fr + of))) := hb1.setCell (by simpa using hbg) _
          exact ⟨hk1.trans ((KeepsOthers.setCell _ _ _).from _), HI.out.rn.keeps HI5.out.rn hbe, _, by rw [HSN.out, HW.out]; exact HI5.out⟩
        · have HW := Lib.hid (show wstp ⟨key, tag, kind, lim, dead, on, of, prio, lat, par⟩ u (true, out) (2, fr, tz) = (true, out) by unfold wstp; rw [if_neg (fun h => by simp at h), if_neg (fun h => htz h.2.2)])
          have htz' : decide (fr + of < tz) = false := by simpa using htz
          have HII := Lib.hid hI
          clear hI
          gi_wp2
          exact ⟨KeepsFrom.refl _ _, Kpn.refl _ _ _, vo', by rw [HSN.out, HW.out]; exact HII.out⟩
      · have HW := Lib.hid (show wstp ⟨key, tag, kind, lim, dead, on, of, prio, lat, par⟩ u (true, out) (what, fr, tz) = (true, out) by unfold wstp; rw [if_neg (fun h => by simp at h), if_neg (fun h => hw1 h.2.1)])
        have hw1' : (what == 2) = false := by simpa using hw1
        have HII := Lib.hid hI
        clear hI
        gi_wp2
        exact ⟨KeepsFrom.refl _ _, Kpn.refl _ _ _, vo', by rw [HSN.out, HW.out]; exact HII.out⟩
  case done =>
    rintro D ys W hD rfl ⟨vo, hI⟩ hK
    rw [HACT.out] at hI
    have c0 := hI.ob.cell 0
    gi_wp2
    refine ⟨by simp, .inl ⟨_, _, rfl, run_takeDeferred (by exact hK), ?_⟩⟩
    exact ⟨_, by simp [results, Try.results103, go_sem], vo, rfl, Rd.of_own (ownsRow_putObj hI.ow _ hK rfl), hI.rn.lo.trans (belowK_b (w := w) (Nat.le_refl _) W D _ _ (by have := hI.rn.lo.size; have := hpi.rn.lo.size; omega) hK rfl rfl)⟩
  case stop =>
    rintro D c pre W _ _ h _
    exact h.elim
end Go.Proofs.Ytmcojidaimeijaa

/- Active (package alarm), for an alarm that checkAlarm finds right; checkAlarm of an alarm that watches for high values. -/

namespace Go.Proofs.Ytmcojidaimeijaa
open Go.RowKit
set_option linter.unusedVariables false
set_option linter.unusedSimpArgs false

/-- What Active returns. -/
def actE (l : List Smp) (u : Int) : Int := if serErr l ≠ 0 then serErr l else if inB u 0 345686400000 = false then 1 else 0
def actR (x : Alm) (l : List Smp) (u : Int) : List (Int × Int) := if actE l u = 0 then actL x l u else []

set_option maxRecDepth 100000 in
set_option maxHeartbeats 2000000 in
theorem checkAlone_of (x : Alm) (v : Value) (l : List Smp) (w : World) (hR : RdS w 57 v l)
    (HC : ∀ W, Calls Try.prog 124 #[.agg (almCells x)] W fun e w' => e = .returned (.int .i64 0) ∧ Below W.heap.size W w') :
    Calls Try.prog 102 #[.agg (almCells x), v] w fun e w' => e = .returned (.int .i64 (serErr l)) ∧ Below w.heap.size w w' := by
  obtain ⟨key, tag, kind, lim, dead, on, of, prio, lat, par⟩ := x
  simp only [almCells] at HC ⊢
  obtain ⟨pa, ca, rfl⟩ := hR.lenv
  have hbe := (Below.refl w.heap.size w).alloc (Nat.le_refl _) (.cells #[.string key, .string tag, .int .i64 kind, .int .i64 lim, .int .i64 dead, .int .i64 on, .int .i64 of, .int .i64 prio, .bool lat, .string par] 106)
  have ba := Blk.new w 106 #[.string key, .string tag, .int .i64 kind, .int .i64 lim, .int .i64 dead, .int .i64 on, .int .i64 of, .int .i64 prio, .bool lat, .string par]
  have HH := Lib.hid HC
  have HR := Lib.hid hR
  clear HC hR
  go_enter Try.func102, Try.ntmps102
  go_upto_region 1 with fail
  generalize w.alloc (.cells #[.string key, .string tag, .int .i64 kind, .int .i64 lim, .int .i64 dead, .int .i64 on, .int .i64 of, .int .i64 prio, .bool lat, .string par] 106) = w1 at *
  have a0 := ba.cell 0
  have a1 := ba.cell 1
  have a2 := ba.cell 2
  have a3 := ba.cell 3
  have a4 := ba.cell 4
  have a5 := ba.cell 5
  have a6 := ba.cell 6
  have a7 := ba.cell 7
  have a8 := ba.cell 8
  have a9 := ba.cell 9
  go_wp2_with fail
  refine (HH.out _).mono ?_
  rintro e w2 ⟨rfl, hb2⟩
  have hb := hbe.trans (hb2.mono hbe.size)
  clear a0 a1 a2 a3 a4 a5 a6 a7 a8 a9 ba hbe hb2
  go_wp2_with fail
  refine (checkSeries_any (.slice pa l.length ca) l _ (Rd.below HR.out hb)).mono ?_
  rintro e w3 ⟨rfl, hb3⟩
  go_wp2_with fail
  go_ret
  exact ⟨rfl, hb.trans (hb3.mono hb.size)⟩

set_option maxRecDepth 100000 in
set_option maxHeartbeats 2000000 in
theorem active_of (x : Alm) (v : Value) (l : List Smp) (u : Int) (w : World) (hR : RdS w 57 v l) (hx : AlmIn x)
    (HC : ∀ W, Calls Try.prog 124 #[.agg (almCells x)] W fun e w' => e = .returned (.int .i64 0) ∧ Below W.heap.size W w') :
    Calls Try.prog 56 #[.agg (almCells x), v, .int .i64 u] w fun e w' => ∃ vr, e = .returned (.tuple #[vr, .int .i64 (actE l u)]) ∧ RdWdw w' vr (actR x l u) ∧ Below w.heap.size w w' := by
  have HCA := Lib.hid (fun W (h : RdS W 57 v l) => checkAlone_of x v l W h HC)
  have HWN := Lib.hid (fun W (h : RdS W 57 v l) (hS : serErr l = 0) (hu : 0 ≤ u ∧ u ≤ 345686400000) => windows_any v l u x W h hS hx hu)
  have hE : actE l u = if serErr l ≠ 0 then serErr l else if inB u 0 345686400000 = false then 1 else 0 := rfl
  have hRR : actR x l u = if actE l u = 0 then actL x l u else [] := rfl
  generalize actR x l u = RR at *
  generalize actE l u = E at *
  generalize actL x l u = AL at *
  obtain ⟨key, tag, kind, lim, dead, on, of, prio, lat, par⟩ := x
  simp only [almCells] at HCA HWN ⊢
  obtain ⟨pa, ca, rfl⟩ := hR.lenv
  have hbe := (Below.refl w.heap.size w).alloc (Nat.le_refl _) (.cells #[.string key, .string tag, .int .i64 kind, .int .i64 lim, .int .i64 dead, .int .i64 on, .int .i64 of, .int .i64 prio, .bool lat, .string par] 106)
  have ba := Blk.new w 106 #[.string key, .string tag, .int .i64 kind, .int .i64 lim, .int .i64 dead, .int .i64 on, .int .i64 of, .int .i64 prio, .bool lat, .string par]
  have HE := Lib.hid hE
  have HRR := Lib.hid hRR
  have HR := Lib.hid hR
  clear HC hR hE hRR
  go_enter Try.func56, Try.ntmps56
  go_upto_region 1 with fail
  generalize w.alloc (.cells #[.string key, .string tag, .int .i64 kind, .int .i64 lim, .int .i64 dead, .int .i64 on, .int .i64 of, .int .i64 prio, .bool lat, .string par] 106) = w1 at *
  have a0 := ba.cell 0
  have a1 := ba.cell 1
  have a2 := ba.cell 2
  have a3 := ba.cell 3
  have a4 := ba.cell 4
  have a5 := ba.cell 5
  have a6 := ba.cell 6
  have a7 := ba.cell 7
  have a8 := ba.cell 8
  have a9 := ba.cell 9
  go_wp2_with fail
  refine (HCA.out _ (Rd.below HR.out hbe)).mono ?_
  rintro e w2 ⟨rfl, hb2⟩
  have hb := hbe.trans (hb2.mono hbe.size)
  have ba2 := ba.below hb2 ba.lt
  clear a0 a1 a2 a3 a4 a5 a6 a7 a8 a9 ba hbe hb2
  by_cases hS : serErr l = 0
  · have hS' : (serErr l != 0) = false := by simpa using hS
    have HE2 := Lib.hid (show E = if inB u 0 345686400000 = false then 1 else 0 by rw [HE.out, if_neg (by simp [hS])])
    have HS := Lib.hid hS
    clear hS HE
    go_wp2_with fail
    refine (within_any u 0 345686400000 _).mono ?_
    rintro e w3 ⟨rfl, rfl⟩
    cases hu : inB u 0 345686400000
    · have HX := Lib.hid (show E = 1 by rw [HE2.out, hu]; rfl)
      have HX2 := Lib.hid (show RR = [] by rw [HRR.out, HX.out]; rfl)
      go_wp2_with fail
      go_ret2
      exact ⟨_, by rw [HX.out]; rfl, by rw [HX2.out]; exact Rd.nil _ _ _, hb⟩
    · have HX := Lib.hid (show E = 0 by rw [HE2.out, hu]; rfl)
      have HX2 := Lib.hid (show RR = AL by rw [HRR.out, HX.out]; rfl)
      have hub := inB_true.1 hu
      have a0 := ba2.cell 0
      have a1 := ba2.cell 1
      have a2 := ba2.cell 2
      have a3 := ba2.cell 3
      have a4 := ba2.cell 4
      have a5 := ba2.cell 5
      have a6 := ba2.cell 6
      have a7 := ba2.cell 7
      have a8 := ba2.cell 8
      have a9 := ba2.cell 9
      go_wp2_with fail
      refine (HWN.out _ (Rd.below HR.out hb) HS.out hub).mono ?_
      rintro e w4 ⟨vr, rfl, hrr, hb4⟩
      go_wp2_with fail
      go_ret2
      exact ⟨vr, by rw [HX.out]; rfl, by rw [HX2.out]; exact hrr, hb.trans (hb4.mono hb.size)⟩
  · have hS' : (serErr l != 0) = true := by simpa using hS
    have HX := Lib.hid (show E = serErr l by rw [HE.out, if_pos hS])
    have HX2 := Lib.hid (show RR = [] by rw [HRR.out, HX.out, if_neg hS])
    clear hS
    go_wp2_with fail
    go_ret2
    exact ⟨_, by rw [HX.out]; rfl, by rw [HX2.out]; exact Rd.nil _ _ _, hb⟩
end Go.Proofs.Ytmcojidaimeijaa

/- checkAlarm (package alarm) of an alarm 'a' of tag 't' that watches for high values. -/

namespace Go.Proofs.Ytmcojidaimeijaa
open Go.RowKit
set_option linter.unusedVariables false
set_option linter.unusedSimpArgs false

theorem small_one (c : Int) (w : World) (hc : c = 97 ∨ c = 116) : Calls Try.prog 153 #[.int .u8 c] w fun e w' => e = .returned (.bool true) ∧ w = w' := by
  rcases hc with rfl | rfl
  · go_enter Try.func153, Try.ntmps153
    go_wp2_with fail
    go_ret
    exact ⟨rfl, rfl⟩
  · go_enter Try.func153, Try.ntmps153
    go_wp2_with fail
    go_ret
    exact ⟨rfl, rfl⟩
set_option maxRecDepth 100000 in
set_option maxHeartbeats 2000000 in
theorem key_a (w : World) : Calls Try.prog 139 #[.string { data := #[97] }] w fun e w' => e = .returned (.bool true) ∧ w = w' := by
  go_enter Try.func139, Try.ntmps139
  go_wp2_with (go_at_call 153; refine (small_one _ _ (by first | exact .inl rfl | exact .inr rfl)).mono ?_; rintro e w2 ⟨rfl, rfl⟩)
  refine wp_loop_rounds 2 ?_
  rw [rounds_succ]
  go_wp2_with (go_at_call 153; refine (small_one _ _ (by first | exact .inl rfl | exact .inr rfl)).mono ?_; rintro e w2 ⟨rfl, rfl⟩)
  rw [rounds_succ]
  go_wp2_with fail
  go_ret
  exact ⟨rfl, rfl⟩
set_option maxRecDepth 100000 in
set_option maxHeartbeats 2000000 in
theorem key_t (w : World) : Calls Try.prog 139 #[.string { data := #[116] }] w fun e w' => e = .returned (.bool true) ∧ w = w' := by
  go_enter Try.func139, Try.ntmps139
  go_wp2_with (go_at_call 153; refine (small_one _ _ (by first | exact .inl rfl | exact .inr rfl)).mono ?_; rintro e w2 ⟨rfl, rfl⟩)
  refine wp_loop_rounds 2 ?_
  rw [rounds_succ]
  go_wp2_with (go_at_call 153; refine (small_one _ _ (by first | exact .inl rfl | exact .inr rfl)).mono ?_; rintro e w2 ⟨rfl, rfl⟩)
  rw [rounds_succ]
  go_wp2_with fail
  go_ret
  exact ⟨rfl, rfl⟩

/-- The alarm 'a' of tag 't' for values above a limit, with a deadband, without delays. -/
def hiA (L D : Int) (par : ByteArray) : Alm := ⟨{ data := #[97] }, { data := #[116] }, 1, L, D, 0, 0, 1, false, par⟩
theorem hiA_in {L D : Int} (par : ByteArray) (hL : -1000000 ≤ L ∧ L ≤ 1000000) (hD : 0 ≤ D ∧ D ≤ 2000000) : AlmIn (hiA L D par) := ⟨hL, hD, ⟨Int.le_refl _, (by show (0 : Int) ≤ 86400000; omega)⟩, ⟨Int.le_refl _, (by show (0 : Int) ≤ 86400000; omega)⟩⟩
theorem dead_any (n : Int) (w : World) : Calls Try.prog 140 #[.int .i64 n] w fun e w' => e = .returned (.bool (inB n 0 2000000)) ∧ w = w' := by
  go_enter Try.func140, Try.ntmps140
  go_wp2_with (go_at_call 93; refine (within_any _ _ _ _).mono ?_; rintro e w' ⟨rfl, rfl⟩)
  go_ret
  exact ⟨rfl, rfl⟩
theorem delay_any (n : Int) (w : World) : Calls Try.prog 141 #[.int .i64 n] w fun e w' => e = .returned (.bool (inB n 0 86400000)) ∧ w = w' := by
  go_enter Try.func141, Try.ntmps141
  go_wp2_with (go_at_call 93; refine (within_any _ _ _ _).mono ?_; rintro e w' ⟨rfl, rfl⟩)
  go_ret
  exact ⟨rfl, rfl⟩
set_option maxRecDepth 100000 in
set_option maxHeartbeats 2000000 in
theorem checkAlarm_hi (L D : Int) (par : ByteArray) (w : World) (hL : -1000000 ≤ L ∧ L ≤ 1000000) (hD : 0 ≤ D ∧ D ≤ 2000000) :
    Calls Try.prog 124 #[.agg (almCells (hiA L D par))] w fun e w' => e = .returned (.int .i64 0) ∧ Below w.heap.size w w' := by
  simp only [almCells, hiA]
  have hbe := (Below.refl w.heap.size w).alloc (Nat.le_refl _) (.cells #[.string { data := #[97] }, .string { data := #[116] }, .int .i64 1, .int .i64 L, .int .i64 D, .int .i64 0, .int .i64 0, .int .i64 1, .bool false, .string par] 106)
  have ba := Blk.new w 106 #[.string { data := #[97] }, .string { data := #[116] }, .int .i64 1, .int .i64 L, .int .i64 D, .int .i64 0, .int .i64 0, .int .i64 1, .bool false, .string par]
  have hV := isValue_any L
  rw [inB_true.2 hL] at hV
  have hDD := dead_any D
  rw [inB_true.2 hD] at hDD
  have HV := Lib.hid hV
  have HD := Lib.hid hDD
  have HZ := Lib.hid (delay_any 0)
  have H1 := Lib.hid (within_any 1 1 3)
  have H2 := Lib.hid (within_any 1 1 1000)
  clear hV hDD
  go_enter Try.func124, Try.ntmps124
  go_upto_region 1 with fail
  generalize w.alloc (.cells #[.string { data := #[97] }, .string { data := #[116] }, .int .i64 1, .int .i64 L, .int .i64 D, .int .i64 0, .int .i64 0, .int .i64 1, .bool false, .string par] 106) = w1 at *
  have a0 := ba.cell 0
  have a1 := ba.cell 1
  have a2 := ba.cell 2
  have a3 := ba.cell 3
  have a4 := ba.cell 4
  have a5 := ba.cell 5
  have a6 := ba.cell 6
  have a7 := ba.cell 7
  go_wp2_with (first
    | (go_at_call 139; (with_reducible refine (key_a _).mono ?_); rintro e w2 ⟨rfl, rfl⟩)
    | (go_at_call 139; (with_reducible refine (key_t _).mono ?_); rintro e w2 ⟨rfl, rfl⟩)
    | (go_at_call 93; (with_reducible refine (H1.out _).mono ?_); rintro e w2 ⟨rfl, rfl⟩)
    | (go_at_call 93; (with_reducible refine (H2.out _).mono ?_); rintro e w2 ⟨rfl, rfl⟩)
    | (go_at_call 58; (with_reducible refine (HV.out _).mono ?_); rintro e w2 ⟨rfl, rfl⟩)
    | (go_at_call 140; (with_reducible refine (HD.out _).mono ?_); rintro e w2 ⟨rfl, rfl⟩)
    | (go_at_call 141; (with_reducible refine (HZ.out _).mono ?_); rintro e w2 ⟨rfl, rfl⟩))
  go_ret
  exact ⟨rfl, hbe⟩
theorem active_hi (L D : Int) (par : ByteArray) (v : Value) (l : List Smp) (u : Int) (w : World) (hR : RdS w 57 v l) (hL : -1000000 ≤ L ∧ L ≤ 1000000) (hD : 0 ≤ D ∧ D ≤ 2000000) :
    Calls Try.prog 56 #[.agg #[.string { data := #[97] }, .string { data := #[116] }, .int .i64 1, .int .i64 L, .int .i64 D, .int .i64 0, .int .i64 0, .int .i64 1, .bool false, .string par], v, .int .i64 u] w fun e w' => ∃ vr, e = .returned (.tuple #[vr, .int .i64 (actE l u)]) ∧ RdWdw w' vr (actR (hiA L D par) l u) ∧ Below w.heap.size w w' :=
  active_of (hiA L D par) v l u w hR (hiA_in par hL hD) (fun W => checkAlarm_hi L D par W hL hD)
end Go.Proofs.Ytmcojidaimeijaa
