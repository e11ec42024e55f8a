import Derived.Test.YtmcojidaimeijaaItr
import Derived.OrdersIn
import Derived.Test.YtmcojidaimeijaaBi01
import Derived.Test.YtmcojidaimeijaaAbv
/- A region that draws its order, inside a fence: it is enough to walk all orders that may be drawn, each as a list. -/

namespace Go.Proofs.Ytmcojidaimeijaa
open Go.RowKit
set_option linter.unusedVariables false

/-- All orders in which the operations may come. -/
def ordersOf (md : Region.Mode) (ops : Array Oper) : Nat → Array Bool → List (List Nat)
  | 0, _ => [[]]
  | fuel + 1, listed => if Region.ready md ops listed = [] then [[]] else (Region.ready md ops listed).flatMap fun i => (ordersOf md ops fuel (listed.setIfInBounds i true)).map (i :: ·)
theorem mem_orders (md : Region.Mode) (ops : Array Oper) : ∀ (fuel t : Nat) (listed : Array Bool), Region.linearise.go md ops fuel t listed [] ∈ ordersOf md ops fuel listed := by
  intro fuel
  induction fuel with
  | zero => intro t listed; simp [Region.linearise.go, ordersOf]
  | succ fuel ih =>
    intro t listed
    simp only [Region.linearise.go, ordersOf]
    change (match (Region.ready md ops listed)[t % (Region.ready md ops listed).length]? with
      | some i => Region.linearise.go md ops fuel (t / (Region.ready md ops listed).length) (listed.setIfInBounds i true) [i]
      | none => [].reverse) ∈ _
    by_cases hr : Region.ready md ops listed = []
    · simp [hr]
    · rw [if_neg hr]
      cases hi : (Region.ready md ops listed)[t % (Region.ready md ops listed).length]? with
      | none =>
        have hlt : t % (Region.ready md ops listed).length < (Region.ready md ops listed).length := Nat.mod_lt _ (List.length_pos_iff.2 hr)
        simp at hi
        omega
      | some i =>
        simp only []
        rw [linearise_go_acc, List.reverse_singleton, List.singleton_append, List.mem_flatMap]
        exact ⟨i, List.mem_of_getElem? hi, List.mem_map_of_mem (ih _ _)⟩
theorem wpOpsIn_listed {F : Fence} {n : Nat} {P : Program} {ops : Array Oper} {Q : Exit → Act → World → Prop} (l : List Nat) : ∀ (a : Act) (w : World), wpListIn F n P ops Q (l.filterMap (ops[·]?)) a w → wpOpsIn F n P ops Q l a w := by
  induction l with
  | nil => intro a w h; exact h
  | cons i l ih =>
    intro a w h
    rw [wpOpsIn_cons]
    unfold wpOpIn
    cases ho : ops[i]? with
    | none => rw [List.filterMap_cons, ho] at h; exact ih a w h
    | some o =>
      rw [List.filterMap_cons, ho] at h
      simp only [wpListIn] at h ⊢
      by_cases hw : Region.wanted o (yielded ops a.tmps) = true
      · rw [if_pos hw] at h ⊢
        exact Oper.wpIn_mono (fun a w => ih a w) h
      · rw [if_neg hw] at h ⊢
        exact ⟨h.1, ih _ _ h.2⟩
theorem wpListIn_ops {F : Fence} {n : Nat} {P : Program} {ops ops' : Array Oper} {Q : Exit → Act → World → Prop} (l : List Oper) (hg : ∀ o ∈ l, o.guard = none) : ∀ (a : Act) (w : World), wpListIn F n P ops' Q l a w → wpListIn F n P ops Q l a w := by
  induction l with
  | nil => intro a w h; exact h
  | cons o l ih =>
    intro a w h
    have h0 := hg o (by simp)
    simp only [wpListIn, Region.wanted, h0, if_true] at h ⊢
    exact Oper.wpIn_mono (fun a w => ih (fun x hx => hg x (by simp [hx])) a w) h
theorem wpIn_region_orders {F : Fence} {n : Nat} {P : Program} {id : Nat} {ops : List Oper} {Q : Exit → Act → World → Prop} {a : Act} {w : World} (L : List (List Nat)) (hm : P.follows .mixedOrders = true) (hg : ∀ o ∈ ops, o.guard = none) (hL : ordersOf .any ops.toArray ops.length (Array.replicate ops.length false) = L)
    (h : ∀ l ∈ L, wpListIn F n P (l.filterMap (ops.toArray[·]?)).toArray Q (l.filterMap (ops.toArray[·]?)) a w.drew) : (Code.region id ops.toArray true).wpIn F n P Q a w :=
  wpIn_region_draw fun t => by
    simp only [Region.schedule, hm, Bool.true_or, if_true]
    have hmem := mem_orders .any ops.toArray ops.toArray.size t (Array.replicate ops.toArray.size false)
    refine wpOpsIn_listed _ _ _ (wpListIn_ops _ (fun o ho => ?_) _ _ (h _ ?_))
    · obtain ⟨i, _, hi⟩ := List.mem_filterMap.1 ho
      refine hg o ?_
      rw [List.getElem?_toArray] at hi
      exact List.mem_of_getElem? hi
    · rw [← hL]
      exact hmem
end Go.Proofs.Ytmcojidaimeijaa

/- Median (package query), of at most 12 samples. -/

namespace Go.Proofs.Ytmcojidaimeijaa
open Go.RowKit Go.Shelf
set_option linter.unusedVariables false
set_option linter.unusedSimpArgs false
attribute [local go_sem] Oper.semAt_some

def medN (r : List Rn) : List (Int × Int) := r.map fun x => (x.1.1, x.1.2.2 - x.1.2.1)
theorem medN_snoc (r : List Rn) (x : Rn) : medN (r ++ [x]) = medN r ++ [(x.1.1, x.1.2.2 - x.1.2.1)] := by simp [medN]
theorem medN_is {l : List Smp} {f t : Int} (hS : serErr l = 0) (hW : 0 ≤ f ∧ f ≤ t ∧ t ≤ 345686400000) : medN (rnsOf 1 (strL l f t)) = medV (valL l f t) := by
  unfold medN rnsOf medV valL
  rw [List.map_map]
  refine List.map_congr_left fun x hx => ?_
  have hx := strL_ok hS x (List.mem_filter.1 hx).1
  unfold StrOk at hx
  have hm := mkRn_eq (v := x.s.v) (a := x.a) (b := x.b) ⟨hx.2.2.2.1, by omega⟩
  show ((mkRn x.s.v x.a x.b).1.1, (mkRn x.s.v x.a x.b).1.2.2 - (mkRn x.s.v x.a x.b).1.2.1) = _
  rw [hm]
theorem medN_bound (r : List Rn) : 0 ≤ sumF (medN r) ∧ sumF (medN r) ≤ r.length * 345686400000 := by
  have h := sumF_bound 345686400000 (medN r) (fun x hx => by
    obtain ⟨y, hy, rfl⟩ := List.mem_map.1 hx
    have := y.2
    constructor <;> dsimp only <;> omega)
  simpa [medN] using h

def mdE (l : List Smp) (f t : Int) : Int := orE (serErr l) (winErr f t)
def mdR (l : List Smp) (f t : Int) : Option Int := if mdE l f t = 0 then medR l f t else none

/-- What a round of Median finds. -/
structure MdI (w0 : World) (P bw bl bq : Nat) (v : Value) (l : List Smp) (f t : Int) (vo : Value) (out : List (Int × Int)) (s : Int) (W : World) : Prop where
  ob : Blk W P 141 #[vo]
  ow : W.ownsRow w0.heap.size 143 2 vo out.length (styCells out)
  tb : Blk W (P + 1) 3 #[.int .i64 s]
  rn : RnK w0 bw bl bq v l f t 1 W
  h1 : w0.heap.size < P
  h2 : P + 1 < bw ∧ P + 1 < bl ∧ P + 1 < bq
section
variable {w0 W W' : World} {P bw bl bq : Nat} {v : Value} {l : List Smp} {f t : Int} {vo : Value} {out : List (Int × Int)} {s : Int}
theorem MdI.step (h : MdI w0 P bw bl bq v l f t vo out s W) (hb : Below W.heap.size W W') : MdI w0 P bw bl bq v l f t vo out s W' :=
  ⟨h.ob.below hb h.ob.lt, own_keep h.ow fun b _ _ hh => hb.block b (lt_of_heap hh), h.tb.below hb h.tb.lt, h.rn.step hb, h.h1, h.h2⟩
theorem MdI.turned (h : MdI w0 P bw bl bq v l f t vo out s W) {row : Option Nat} (hg : W.grownBy W' row) (hr : ∀ r, row = some r → w0.heap.size ≤ r ∧ ∃ o : Obj, W.heap[r]? = some o ∧ o.isCells = false) : MdI w0 P bw bl bq v l f t vo out s W' :=
  have hr' : ∀ r, row = some r → ∃ o : Obj, W.heap[r]? = some o ∧ o.isCells = false := fun r e => (hr r e).2
  ⟨blk_own (β := Unit) _ _ _ () _ _ _ h.ob hg hr', ownsRow_own (β := Unit) _ _ _ _ _ _ () _ _ _ h.ow hg hr', blk_own (β := Unit) _ _ _ () _ _ _ h.tb hg hr', h.rn.turned hg hr, h.h1, h.h2⟩
/-- The row grows, the box is written. -/
theorem MdI.grown (h : MdI w0 P bw bl bq v l f t vo out s W) (hR : RdS w0 57 v l) {g n c : Nat} {out' : List (Int × Int)} {w1 : World} (hg : W.grownBy w1 vo.ownBlock) (hn : n = out'.length) (ho : w1.ownsRow w0.heap.size 143 2 (.slice (some ⟨g, 0, none⟩) n c) n (styCells out')) :
    MdI w0 P bw bl bq v l f t (.slice (some ⟨g, 0, none⟩) n c) out' s (w1.setCell ⟨P, 0, none⟩ (.slice (some ⟨g, 0, none⟩) n c)) := by
  subst hn
  have k1 : ∀ {b : Nat} {t : TypeId} {cs : Array Value}, Blk W b t cs → t ≠ 143 → Blk w1 b t cs := fun hb ht => (row_other h.ow hg hb ht).trans hb
  have k2 : ∀ {b : Nat} {t : TypeId} {cs : Array Value}, Blk W b t cs → t ≠ 143 → b ≠ P → Blk (w1.setCell ⟨P, 0, none⟩ (.slice (some ⟨g, 0, none⟩) out'.length c)) b t cs := fun hb ht hne => (Below.heap_setCell _ _ _ _ hne).trans (k1 hb ht)
  have hob := k1 h.ob (by decide)
  have hP := h.h1
  have h2 := h.h2
  have hlo : Below w0.heap.size w0 (w1.setCell ⟨P, 0, none⟩ (.slice (some ⟨g, 0, none⟩) out'.length c)) := (h.rn.lo.trans (below_grown h.ow h.rn.lo.size hg)).setCell (by simp; omega) _
  refine ⟨Boxed.set _ hob, own_keep ho fun b cur fr hh => Below.heap_setCell _ _ _ _ (fun e => ?_), k2 h.tb (by decide) (by omega), ⟨k2 h.rn.bw (by decide) (by omega), k2 h.rn.bl (by decide) (by omega), k2 h.rn.bq (by decide) (by omega), Rd.below hR hlo, hlo⟩, h.h1, h.h2⟩
  subst e
  rw [hob] at hh
  cases hh
theorem MdI.setT (h : MdI w0 P bw bl bq v l f t vo out s W) (hR : RdS w0 57 v l) (s' : Int) : MdI w0 P bw bl bq v l f t vo out s' (W.setCell ⟨P + 1, 0, none⟩ (.int .i64 s')) := by
  have hP := h.h1
  have h2 := h.h2
  refine ⟨h.ob.setOther (by simp) _, own_keep h.ow fun b cur fr hh => Below.heap_setCell _ _ _ _ (fun e => ?_), blk_set h.tb 0 _, h.rn.setCell hR _ _ (by simp; omega) (by simp; omega) (by simp; omega) (by simp; omega), h.h1, h.h2⟩
  subst e
  rw [show W.heap[P + 1]? = _ from h.tb] at hh
  cases hh
end

set_option maxRecDepth 100000 in
set_option maxHeartbeats 4000000 in
theorem median_any (v : Value) (l : List Smp) (f t : Int) (w : World) (hR : RdS w 57 v l) (hl12 : l.length ≤ 12) :
    Calls Try.prog 43 #[v, .agg #[.int .i64 f, .int .i64 t]] w fun e w' => e = .returned (.tuple #[.int .i64 ((mdR l f t).getD 0), .bool (mdR l f t).isSome, .int .i64 (mdE l f t)]) ∧ Below w.heap.size w w' := by
  obtain ⟨pa, ca, rfl⟩ := hR.lenv
  have hmx : Try.prog.follows .mixedOrders = true := by kernel_rfl
  have hRR : mdR l f t = if mdE l f t = 0 then medR l f t else none := rfl
  have hba : Below w.heap.size w (w.alloc (.cells #[.int .i64 f, .int .i64 t] 43)) := (Below.refl _ w).alloc (Nat.le_refl _) _
  have bw0 : Blk (w.alloc (.cells #[.int .i64 f, .int .i64 t] 43)) w.heap.size 43 #[.int .i64 f, .int .i64 t] := Blk.new w _ _
  have hsz : (w.alloc (.cells #[.int .i64 f, .int .i64 t] 43)).heap.size = w.heap.size + 1 := by simp
  generalize mdR l f t = RR at *
  have hbb := hba.alloc hba.size (.cells #[.slice pa l.length ca] 26)
  have hqc := qcheck1_any (w.heap.size + 1) (.slice pa l.length ca) l f t ((w.alloc (.cells #[.int .i64 f, .int .i64 t] 43)).alloc (.cells #[.slice pa l.length ca] 26)) (Blk.new1 _ _ _ _) (Rd.below hR hbb)
  have bw1 := bw0.alloc (.cells #[.slice pa l.length ca] 26)
  have HWE := Lib.hid (fun h : mdE l f t = 0 => And.intro (orE_zero h).1 (winErr_ok (orE_zero h).2))
  have hFF : mdE l f t = orE (serErr l) (winErr f t) := rfl
  rw [← hFF] at hqc
  generalize mdE l f t = F at *
  clear hFF
  have HRR := Lib.hid hRR
  refine (callsIn_wide (n := 5)).1 ?_
  refine callsIn_of_wp_marks Try.func43 rfl trivial ?_ rfl
  simp only [Try.ntmps43, List.size_toArray, List.length_cons, List.length_nil, Nat.reduceAdd, Nat.reduceSub, Array.replicate_succ, Array.replicate_zero, List.push_toArray, List.append_toArray, List.nil_append, List.cons_append]
  gi_upto_region 1 with fail
  generalize w.alloc (.cells #[.int .i64 f, .int .i64 t] 43) = w1 at *
  have e0 := bw0.cell 0
  have e1 := bw0.cell 1
  clear hRR hba
  by_cases hF : F = 0
  · have hF' : (F != 0) = false := by simpa using hF
    have HF := Lib.hid hF
    obtain ⟨hS, hW⟩ := HWE.out hF
    clear hF HWE
    gi_wp2_with (first
      | (refine ⟨trivial, ?_⟩; gi_at_call 57; refine (callsIn_wide.2 hqc).mono ?_; clear hqc; rintro e w2 ⟨rfl, hb2⟩; have bw2 := bw1.below hb2 bw1.lt; have be2 := hbb.trans (hb2.mono hbb.size); clear e0 e1; have e0 := bw2.cell 0; have e1 := bw2.cell 1; have z0 := bw2.lt)
      | (refine ⟨trivial, ?_⟩; gi_at_call 59; refine (callsIn_wide.2 (valued_any _ l.length ca pa rfl f t _)).mono ?_; rintro e w' ⟨rfl, rfl⟩))
    have hlong := (serErr_good hS).1
    have hbe3 : Below w2.heap.size w2 ((((((w2.alloc (Obj.cells #[Value.slice none 0 0] 141)).alloc (Obj.cells #[Value.int .i64 0] 3)).alloc (Obj.cells #[Value.int .i64 f, Value.int .i64 t] 43)).alloc (Obj.cells #[Value.slice pa l.length ca] 26)).alloc (Obj.cells #[Value.int .i64 f, Value.int .i64 t] 43)).alloc (Obj.cells #[Value.int .i64 1] 3)) := ((((((Below.refl _ w2).alloc (Nat.le_refl _) _).alloc (by simp) _).alloc (by simp; omega) _).alloc (by simp; omega) _).alloc (by simp; omega) _).alloc (by simp; omega) _
    have hsz3 : ((((((w2.alloc (Obj.cells #[Value.slice none 0 0] 141)).alloc (Obj.cells #[Value.int .i64 0] 3)).alloc (Obj.cells #[Value.int .i64 f, Value.int .i64 t] 43)).alloc (Obj.cells #[Value.slice pa l.length ca] 26)).alloc (Obj.cells #[Value.int .i64 f, Value.int .i64 t] 43)).alloc (Obj.cells #[Value.int .i64 1] 3)).heap.size = w2.heap.size + 6 := by simp
    have hpi : MdI w w2.heap.size (w2.heap.size + 1 + 1 + 1 + 1) (w2.heap.size + 1 + 1 + 1) (w2.heap.size + 1 + 1 + 1 + 1 + 1) (.slice pa l.length ca) l f t (.slice none 0 0) [] 0 ((((((w2.alloc (Obj.cells #[Value.slice none 0 0] 141)).alloc (Obj.cells #[Value.int .i64 0] 3)).alloc (Obj.cells #[Value.int .i64 f, Value.int .i64 t] 43)).alloc (Obj.cells #[Value.slice pa l.length ca] 26)).alloc (Obj.cells #[Value.int .i64 f, Value.int .i64 t] 43)).alloc (Obj.cells #[Value.int .i64 1] 3)) := by
      have g0 := ((((Blk.new1 w2 (Obj.cells #[Value.slice none 0 0] 141) 3 #[Value.int .i64 0]).alloc (Obj.cells #[Value.int .i64 f, Value.int .i64 t] 43)).alloc (Obj.cells #[Value.slice pa l.length ca] 26)).alloc (Obj.cells #[Value.int .i64 f, Value.int .i64 t] 43)).alloc (Obj.cells #[Value.int .i64 1] 3)
      have g1 := ((Blk.new (((w2.alloc (Obj.cells #[Value.slice none 0 0] 141)).alloc (Obj.cells #[Value.int .i64 0] 3)).alloc (Obj.cells #[Value.int .i64 f, Value.int .i64 t] 43)) 26 #[Value.slice pa l.length ca]).alloc (Obj.cells #[Value.int .i64 f, Value.int .i64 t] 43)).alloc (Obj.cells #[Value.int .i64 1] 3)
      have g2 := (Blk.new ((((w2.alloc (Obj.cells #[Value.slice none 0 0] 141)).alloc (Obj.cells #[Value.int .i64 0] 3)).alloc (Obj.cells #[Value.int .i64 f, Value.int .i64 t] 43)).alloc (Obj.cells #[Value.slice pa l.length ca] 26)) 43 #[Value.int .i64 f, Value.int .i64 t]).alloc (Obj.cells #[Value.int .i64 1] 3)
      have g3 := Blk.new (((((w2.alloc (Obj.cells #[Value.slice none 0 0] 141)).alloc (Obj.cells #[Value.int .i64 0] 3)).alloc (Obj.cells #[Value.int .i64 f, Value.int .i64 t] 43)).alloc (Obj.cells #[Value.slice pa l.length ca] 26)).alloc (Obj.cells #[Value.int .i64 f, Value.int .i64 t] 43)) 3 #[Value.int .i64 1]
      simp only [World.size_alloc] at g1 g2 g3
      have hlo := be2.trans (hbe3.mono be2.size)
      exact ⟨(((((Blk.new w2 _ _).alloc _).alloc _).alloc _).alloc _).alloc _, World.ownsRow_nil _ _ _ _, g0, ⟨g2, g1, g3, Rd.below hR hlo, hlo⟩, z0, by omega, by omega, by omega⟩
    generalize (((((w2.alloc (Obj.cells #[Value.slice none 0 0] 141)).alloc (Obj.cells #[Value.int .i64 0] 3)).alloc (Obj.cells #[Value.int .i64 f, Value.int .i64 t] 43)).alloc (Obj.cells #[Value.slice pa l.length ca] 26)).alloc (Obj.cells #[Value.int .i64 f, Value.int .i64 t] 43)).alloc (Obj.cells #[Value.int .i64 1] 3) = W0 at *
    generalize w2.heap.size = P at *
    clear bw2 be2 e0 e1 hbe3 bw0 bw1 hbb
    refine wpIn_rangeFunc_ownH rfl (by omega) (gf := 119) (lb := #[.pointer (some ⟨P + 1 + 1 + 1 + 1, 0, none⟩), .pointer (some ⟨P + 1 + 1 + 1, 0, none⟩), .pointer (some ⟨P + 1 + 1 + 1 + 1 + 1, 0, none⟩)]) rfl trivial (enters_of Try.func119 (by kernel_rfl) rfl)
      (runs_stops (5 - 1) (P + 1 + 1 + 1 + 1) (P + 1 + 1 + 1) (P + 1 + 1 + 1 + 1 + 1) w _ l f t 1 (by omega) hR hS hW W0 hpi.rn) (fun h k => h.trans k) (Kpn.putObj hpi.rn.lo.size (fun k hk => by simp at hk; omega)) (Below.refl _ _) (fun _ => rfl)
      (fun pre W => ∃ vo, MdI w P (P + 1 + 1 + 1 + 1) (P + 1 + 1 + 1) (P + 1 + 1 + 1 + 1 + 1) (.slice pa l.length ca) l f t vo (medN pre) (sumF (medN pre)) W)
      (fun _ _ _ => False)
      (fun pre X Y row hs hg hr => by obtain ⟨vo, h⟩ := hs; exact ⟨vo, h.turned hg (fun r e => ⟨Nat.le_trans hpi.rn.lo.size (hr r e).1, (hr r e).2⟩)⟩)
      (fun _ _ _ _ _ hs _ _ => hs)
      ⟨_, hpi⟩
      (fun x a' W => ∃ Bx, P + 1 + 1 + 1 + 1 + 1 < Bx ∧ Blk W Bx 43 #[.int .i64 x.1.2.1, .int .i64 x.1.2.2] ∧ a' = { tmps := #[.slice pa l.length ca, .agg #[.int .i64 f, .int .i64 t], undef, .pointer (some ⟨w.heap.size, 0, none⟩), .int .i64 0, .bool false, .int .i64 0, .int .i64 F, .pointer (some ⟨P, 0, none⟩), .pointer (some ⟨P + 1, 0, none⟩), .int .i64 x.1.1, .pointer (some ⟨Bx, 0, none⟩), undef, undef, undef, .agg #[.int .i64 f, .int .i64 t], .slice pa l.length ca, .slice (some ⟨w.heap.size + 1, 0, none⟩) 1 1, .int .i64 F, .int .i64 F, .bool false, undef, .slice pa l.length ca, .agg #[.int .i64 f, .int .i64 t], .func (.func 119) #[] #[.pointer (some ⟨P + 1 + 1 + 1 + 1, 0, none⟩), .pointer (some ⟨P + 1 + 1 + 1, 0, none⟩), .pointer (some ⟨P + 1 + 1 + 1 + 1 + 1, 0, none⟩)], .int .i64 x.1.1, .agg #[.int .i64 x.1.2.1, .int .i64 x.1.2.2], undef, undef, undef, undef, undef, undef, undef, undef, undef, undef, undef, undef, undef, undef, undef, undef, undef, undef, undef, undef, undef, undef, undef, undef, undef, undef, undef, undef, undef, undef], defers := [] })
      (fun x a' _ X Y row hs hg hr => by obtain ⟨Bx, h1, h2, h3⟩ := hs; exact ⟨Bx, h1, blk_own (β := Unit) _ _ _ () X Y row h2 hg (fun r e => (hr r e).2), h3⟩)
      ?assign ?body ?done ?stop
    case assign =>
      rintro li pre x W K ⟨vo, hI⟩ hK
      simp only [encRn]
      gi_wp2
      have hbA := (Below.refl W.heap.size W).alloc (Nat.le_refl _) (.cells #[.int .i64 x.1.2.1, .int .i64 x.1.2.2] 43)
      exact hK _ _ (keepsFrom_of hbA) (hI.rn.keeps (hI.rn.step hbA) (hbA.mono hI.rn.lo.size)) ⟨vo, hI.step hbA⟩ ⟨W.heap.size, hI.rn.bq.lt, Blk.new _ _ _, rfl⟩
    case body =>
      rintro li pre x a' W hl ⟨r, hr⟩ ⟨vo, hI⟩ ⟨Bx, hBx, bX, rfl⟩ hlt
      have HSN := Lib.hid (medN_snoc pre x)
      have hln := medN_bound pre
      have hmlen : (medN pre).length = pre.length := by simp [medN]
      have hx := x.2
      generalize medN pre = A at *
      have hP1 := hI.h1
      have hP2 := hI.h2
      have hlg := fun w => long_eq x.1.2.1 x.1.2.2 w ⟨by omega, by omega, by omega⟩
      have hmw : IntKind.i64.wrap (x.1.2.2 - x.1.2.1) = x.1.2.2 - x.1.2.1 := IntWalk.i64_in _ (by omega)
      have hpre : pre.length ≤ 5000 := by omega
      have hAl : A.length ≤ 5000 := by omega
      clear hmlen
      gi_upto_region 9 with fail
      dsimp only
      gi_cut [] from 27 (fun wx => ∃ vo', MdI w P (P + 1 + 1 + 1 + 1) (P + 1 + 1 + 1) (P + 1 + 1 + 1 + 1 + 1) (.slice pa l.length ca) l f t vo' (A ++ [(x.1.1, x.1.2.2 - x.1.2.1)]) (sumF A) wx ∧ Blk wx Bx 43 #[.int .i64 x.1.2.1, .int .i64 x.1.2.2] ∧ KeepsFrom W0.heap.size W wx ∧ Below w.heap.size W wx)
      case first =>
        have hI2 := (hI.step (drew_below W)).step ((Below.refl _ _).alloc (Nat.le_refl _) (.cells #[.int .i64 x.1.2.1, .int .i64 x.1.2.2] 43))
        have hI3 := hI2.step ((Below.refl _ _).alloc (Nat.le_refl _) (.cells #[.int .i64 x.1.1, .int .i64 (x.1.2.2 - x.1.2.1)] 143))
        have bX3 := ((show Blk W.drew Bx _ _ from bX).alloc (.cells #[.int .i64 x.1.2.1, .int .i64 x.1.2.2] 43)).alloc (.cells #[.int .i64 x.1.1, .int .i64 (x.1.2.2 - x.1.2.1)] 143)
        have hb2' := (drew_below W).trans ((Below.refl _ W.drew).alloc (Nat.le_refl _) (.cells #[.int .i64 x.1.2.1, .int .i64 x.1.2.2] 43))
        have c0 : W.drew.cell? ⟨P, 0, none⟩ = some vo := hI.ob.cell 0
        have c1 : W.drew.cell? ⟨Bx, 0, none⟩ = some (.int .i64 x.1.2.1) := bX.cell 0
        have c2 : W.drew.cell? ⟨Bx, 1, none⟩ = some (.int .i64 x.1.2.2) := bX.cell 1
        have z1 : P < W.drew.heap.size := hI.ob.lt
        have z2 : Bx < W.drew.heap.size := bX.lt
        have HI := Lib.hid hI
        have HI3 := Lib.hid hI3
        have HI2 := Lib.hid hI2
        have HB2 := Lib.hid hb2'
        have HBX3 := Lib.hid bX3
        have hlo := hI.rn.lo.size
        clear hI hI2 hI3 hb2' bX3 bX hr
        refine wpIn_region_orders (ops := [_, _, _, _, _, _, _, _]) [[0, 1, 2, 3, 4, 5, 6, 7], [0, 2, 1, 3, 4, 5, 6, 7], [0, 2, 3, 1, 4, 5, 6, 7], [1, 0, 2, 3, 4, 5, 6, 7], [1, 2, 0, 3, 4, 5, 6, 7], [1, 2, 3, 0, 4, 5, 6, 7], [1, 2, 3, 4, 0, 5, 6, 7], [1, 2, 3, 4, 5, 0, 6, 7], [2, 0, 1, 3, 4, 5, 6, 7], [2, 0, 3, 1, 4, 5, 6, 7], [2, 1, 0, 3, 4, 5, 6, 7], [2, 1, 3, 0, 4, 5, 6, 7], [2, 1, 3, 4, 0, 5, 6, 7], [2, 1, 3, 4, 5, 0, 6, 7], [2, 3, 0, 1, 4, 5, 6, 7], [2, 3, 1, 0, 4, 5, 6, 7], [2, 3, 1, 4, 0, 5, 6, 7], [2, 3, 1, 4, 5, 0, 6, 7]] hmx (by simp) (by kernel_rfl) ?_
        generalize W.drew = WD at *
        simp only [List.forall_mem_cons]
        refine ⟨?_, ?_, ?_, ?_, ?_, ?_, ?_, ?_, ?_, ?_, ?_, ?_, ?_, ?_, ?_, ?_, ?_, ?_, by simp⟩
        all_goals
          simp only [List.filterMap_cons, List.filterMap_nil, List.getElem?_toArray, List.getElem?_cons_zero, List.getElem?_cons_succ]
          change wpListIn _ _ _ _ _ (_ :: _ :: _ :: _ :: _ :: _ :: _ :: _ :: []) _ _
          gi_wp2_with (first
            | (refine ⟨trivial, ?_⟩; gi_at_call 61; refine (CallsIn.inRound li (callsIn_wide.2 (hlg _))).mono ?_; rintro e w' ⟨rfl, rfl⟩)
            | (gi_at_builtin; refine wpListIn_append_sty rfl _ _ rfl w.heap.size vo A.length A rfl HI3.out.ow (WD.heap.size + 1) rfl (x.1.1, x.1.2.2 - x.1.2.1) (by exact Blk.new1 _ _ _ _) (by omega) (by exact HI3.out.rn.lo.size) ?_; intro v' w4 hown4 hgrow4; obtain ⟨g', cap', rfl⟩ := ownsRow_succ hown4; have hob4 := (row_other HI3.out.ow hgrow4 HI3.out.ob (by decide)).trans HI3.out.ob; have d1 := Blk.cell hob4 0; have d2 := Blk.frozen hob4 0))
          gi_meet
          have hI4 := HI3.out.grown hR (out' := A ++ [(x.1.1, x.1.2.2 - x.1.2.1)]) hgrow4 (by simp) hown4
          have ha := Boxed.appended HI2.out.ob (by decide) HI2.out.ow HI2.out.rn.lo.size (by omega) hown4 hgrow4
          have bX4 := (row_other HI3.out.ow hgrow4 HBX3.out (by decide)).trans HBX3.out
          exact ⟨_, hI4, (Below.heap_setCell _ _ _ _ (by simp; omega)).trans bX4, (keepsFrom_of HB2.out).trans (ha.2.2.2.1.from _), (HB2.out.mono hlo).trans ha.2.2.2.2⟩
      case rest =>
        obtain ⟨vo', hI4, bX4, hk4, hb4⟩ := hcut
        have hlo := hI.rn
        have HHI := Lib.hid hI
        have HI4 := Lib.hid hI4
        have HK4 := Lib.hid hk4
        have HB4 := Lib.hid hb4
        have s0 := hI4.tb.cell 0
        have s1 := hI4.tb.frozen 0
        have s2 := hI4.tb.lt
        have b0 := bX4.cell 0
        have b1 := bX4.cell 1
        have b2 := bX4.lt
        have hm1 : IntKind.i64.wrap (sumF A + (x.1.2.2 - x.1.2.1)) = sumF A + (x.1.2.2 - x.1.2.1) := IntWalk.i64_in _ (by omega)
        clear hI bX hr hk4 hb4 hI4 bX4 hlo
        gi_upto_region 10 with fail
        gi_region_with_o (refine ⟨trivial, ?_⟩; gi_at_call 61; refine (CallsIn.inRound li (callsIn_wide.2 (hlg _))).mono ?_; rintro e w' ⟨rfl, rfl⟩)
        all_goals gi_wp2
        all_goals
          have hI5 := ((HI4.out.setT hR (sumF A + (x.1.2.2 - x.1.2.1))).step ((Below.refl _ _).alloc (Nat.le_refl _) (.cells #[.int .i64 x.1.2.1, .int .i64 x.1.2.2] 43))).step (drew_below _)
          have hb4 := HB4.out
          have hI := HHI.out
          have hP4 := HI4.out.h1
          have hs5 : sumF (A ++ [(x.1.1, x.1.2.2 - x.1.2.1)]) = sumF A + (x.1.2.2 - x.1.2.1) := by rw [sumF_append]; simp [sumF]
          exact ⟨(HK4.out.trans ((KeepsOthers.setCell _ _ _).from _)).trans (((KeepsOthers.alloc _ _).trans (KeepsOthers.drew _)).from _), hI.rn.keeps hI5.rn (((hb4.setCell (by simp; omega) _).alloc (by have := hb4.size; have := hI.rn.lo.size; simp; omega) _).drew), _, by rw [HSN.out, hs5]; exact hI5⟩
    case done =>
      rintro D ys W hD rfl ⟨vo, hI⟩ hK
      rw [medN_is hS hW] at hI
      have hml : (medV (valL l f t)).length ≤ 12 := by
        have := valL_long l f t
        simp [medV]; omega
      have HMR := Lib.hid (fun (r : List (Int × Int)) (hp : r.Perm (medV (valL l f t))) (hs : r.Pairwise (fun x y => x.1 ≤ y.1)) => medR_is (f := f) (t := t) hS hp hs)
      have hsum : sumF (medV (valL l f t)) = (aggV l f t).g := medV_sum _
      have hpos := medV_pos (f := f) (t := t) hS
      have hgb := (aggV_bound hS hW).1
      rw [hsum] at hI
      have HRM := Lib.hid (show RR = medR l f t by rw [HRR.out, if_pos HF.out])
      generalize medV (valL l f t) = R at *
      generalize medR l f t = M at *
      generalize (aggV l f t).g = G at *
      obtain ⟨pv, cv, rfl⟩ : ∃ pv cv, vo = .slice pv R.length cv := by obtain ⟨_, pv, cv, rfl, _⟩ := Rd.of_own hI.ow; exact ⟨pv, cv, rfl⟩
      have c0 : W.cell? ⟨P, 0, none⟩ = some (.slice pv R.length cv) := hI.ob.cell 0
      have hss := sortSty_any (.slice pv R.length cv) R w.heap.size W hml hI.ow
      have z1 := hI.tb.lt
      have HI := Lib.hid hI
      have HPOS := Lib.hid hpos
      have hDW : D < W.heap.size := lt_of_heap hK
      have HK := Lib.hid hK
      have HSU := Lib.hid hsum
      clear hI hpos hK hsum
      gi_upto_region 13 with (refine ⟨trivial, ?_⟩; gi_at_call 87; refine (callsIn_wide.2 hss).mono ?_; clear hss; rintro e w2 ⟨rfl, R', hp, hs, hown2, hb2, hg2⟩)
      have ht2 := (row_other HI.out.ow hg2 HI.out.tb (by decide)).trans HI.out.tb
      have ho2 := (row_other HI.out.ow hg2 HI.out.ob (by decide)).trans HI.out.ob
      have hK2 : w2.heap[D]? = some (.deferred (some [])) := (hg2.block D hDW (fun e => by
        rcases HI.out.ow.2 with ⟨e2, _⟩ | ⟨g, cap, cur, e2, _, hgb, _⟩
        · rw [e2] at e; simp [Value.ownBlock] at e
        · rw [e2] at e
          obtain rfl : D = g := by simpa [Value.ownBlock] using e
          rw [HK.out] at hgb; cases hgb)).trans HK.out
      have HLO := Lib.hid (HI.out.rn.lo.trans hb2)
      have hlen : R'.length = R.length := hp.length_eq
      have HM := Lib.hid (HMR.out R' hp hs)
      have HP := Lib.hid (fun x hx => HPOS.out x (hp.mem_iff.1 hx))
      have HS := Lib.hid ((sumF_perm hp).trans HSU.out)
      have HOW := Lib.hid (Rd.of_own hown2)
      have HK2 := Lib.hid hK2
      have d0 := Blk.cell ho2 0
      have HT2 := Lib.hid ht2
      have hw2 := hg2.size
      have hr12 : R'.length ≤ 12 := by omega
      rw [← hlen] at *
      clear c0 hp hs hown2 hb2 hg2 ho2 hK2 ht2 HMR HPOS HSU hml
      gi_wp2
      gi_loopw [12, 42] (fun so i wr => ∃ k : Nat, k ≤ R'.length ∧ i = .int .i64 (k : Int) ∧ so = .int .i64 (sumF (R'.take k)) ∧ M = medF G (sumF (R'.take k)) (R'.drop k) ∧ Below w2.heap.size w2 wr) (fun _ i _ => R'.length - (intOf i).toNat)
      case atStart => exact ⟨0, by omega, rfl, rfl, by simpa [sumF] using HM.out.symm, Below.refl _ _⟩
      case round =>
        obtain ⟨k, hk, rfl, rfl, hm, hbr⟩ := hrel
        have HMM := Lib.hid hm
        have hDr : wr.heap[D]? = some (.deferred (some [])) := (hbr.block D (by omega)).trans HK2.out
        have HDR := Lib.hid hDr
        clear hm hDr
        have htl := sumF_take_le R' k HP.out
        rw [HS.out] at htl
        by_cases hkl : k < R'.length
        · have hRr : RdSty wr _ R' := Rd.below HOW.out hbr
          obtain ⟨b, off, c, hv, hc1, hc2, hblt, hcell⟩ := RdSty.cells hRr (by omega)
          cases hv
          unfold maxLen at hc2
          obtain ⟨c0, c1⟩ := hcell k hkl
          have hxp := HP.out _ (List.getElem_mem hkl)
          have htl1 := sumF_take_le R' (k + 1) HP.out
          rw [HS.out, sumF_take R' k hkl] at htl1
          have HT := Lib.hid (sumF_take R' k hkl)
          have HD := Lib.hid (medF_drop G (sumF (R'.take k)) R' k hkl)
          have ht2 : Blk w2 (P + 1) 3 #[.int .i64 G] := HT2.out
          have t0 := (ht2.below hbr ht2.lt).cell 0
          have tz := (ht2.below hbr ht2.lt).lt
          clear ht2
          generalize R'[k] = y at *
          generalize hA0 : sumF (R'.take k) = A at *
          clear hA0 hcell hRr
          have hm2 : IntKind.i64.wrap (A + y.2) = A + y.2 := IntWalk.i64_in _ (by omega)
          have hm3 : IntKind.i64.wrap (2 * (A + y.2)) = 2 * (A + y.2) := IntWalk.i64_in _ (by omega)
          have hba2 := hbr.alloc hbr.size (.cells #[.int .i64 y.1, .int .i64 y.2] 143)
          have HBA := Lib.hid hba2
          have HBR := Lib.hid hbr
          have hszr := hbr.size
          clear hba2 hbr
          by_cases hq : G ≤ 2 * (A + y.2)
          · have HQ := Lib.hid (show M = some y.1 by rw [HMM.out, HD.out, if_pos hq])
            gi_wp2
            refine ⟨by simp, .inl ⟨_, _, rfl, run_takeDeferred (by exact (HBA.out.block D (by omega)).trans HK2.out), ?_⟩⟩
            exact ⟨.tuple #[.int .i64 y.1, .bool true, .int .i64 0], by simp [results, Try.results43, go_sem], by rw [HRM.out, HQ.out, HF.out]; rfl, (HLO.out.trans (HBA.out.mono HLO.out.size)).trans (belowK_b (w := w) (Nat.le_refl _) _ D _ _ (by have := HI.out.rn.lo.size; have := hpi.rn.lo.size; omega) ((HBA.out.block D (by omega)).trans HK2.out) rfl rfl)⟩
          · have HQ := Lib.hid (show M = medF G (A + y.2) (R'.drop (k + 1)) by rw [HMM.out, HD.out, if_neg hq])
            gi_wp2
            go_roundw
            case rel => exact ⟨k + 1, by omega, by go_num, by rw [HT.out], by rw [HT.out]; exact HQ.out, HBA.out⟩
            case measure => simp [intOf]; omega
        · have hkE : k = R'.length := by omega
          subst hkE
          have HN := Lib.hid (show M = none by rw [HMM.out, List.drop_of_length_le (by omega)]; rfl)
          gi_wp2
          refine ⟨by simp, .inl ⟨_, _, rfl, run_takeDeferred (by exact HDR.out), ?_⟩⟩
          exact ⟨.tuple #[.int .i64 0, .bool false, .int .i64 0], by simp [results, Try.results43, go_sem], by rw [HRM.out, HN.out, HF.out]; rfl, (HLO.out.trans (hbr.mono HLO.out.size)).trans (belowK_b (w := w) (Nat.le_refl _) _ D _ _ (by have := HI.out.rn.lo.size; have := hpi.rn.lo.size; omega) HDR.out rfl rfl)⟩
    case stop =>
      rintro D c pre W _ _ h _
      exact h.elim
  · have hF' : (F != 0) = true := by simpa using hF
    have HF := Lib.hid hF
    clear hF HWE
    gi_wp2_with (refine ⟨trivial, ?_⟩; gi_at_call 57; refine (callsIn_wide.2 hqc).mono ?_; clear hqc; rintro e w2 ⟨rfl, hb2⟩; have be2 := hbb.trans (hb2.mono hbb.size))
    exact ⟨.tuple #[.int .i64 0, .bool false, .int .i64 F], by simp [results, Try.results43, go_sem], by rw [HRR.out, if_neg HF.out]; rfl, be2⟩
end Go.Proofs.Ytmcojidaimeijaa
