import Derived.Test.YtmcojidaimeijaaVlo
import Derived.Test.YtmcojidaimeijaaStro
import Derived.Test.YtmcojidaimeijaaAgg
import Derived.Test.YtmcojidaimeijaaAbv
import Derived.Test.YtmcojidaimeijaaKmm
import Derived.WalkHide
import Derived.Test.YtmcojidaimeijaaAgm
import Derived.Test.YtmcojidaimeijaaApp
import Derived.OwnWalkIn
/- GoodTime (package query). No condition. -/
/- GoodOf (the reference), for a right series and a right window. -/

namespace Go.Proofs.Ytmcojidaimeijaa
open Go.RowKit
set_option linter.unusedVariables false
set_option linter.unusedSimpArgs false

/-- How long the quality is at most q. -/
def goodS (q : Int) (r : List Str) : Int := r.foldl (fun n x => if x.s.q ≤ q then n + (x.b - x.a) else n) 0
theorem goodS_snoc (q : Int) (r : List Str) (x : Str) : goodS q (r ++ [x]) = if x.s.q ≤ q then goodS q r + (x.b - x.a) else goodS q r := by simp [goodS]
theorem goodS_take (q : Int) (r : List Str) (k : Nat) (h : k < r.length) : goodS q (r.take (k + 1)) = if (atT r k).s.q ≤ q then goodS q (r.take k) + ((atT r k).b - (atT r k).a) else goodS q (r.take k) := by
  rw [List.take_succ_eq_append_getElem h, goodS_snoc, atT_eq r k h]
theorem goodS_bound (q f t : Int) (hW : 0 ≤ f ∧ f ≤ t ∧ t ≤ 345686400000) (r : List Str) : (∀ x ∈ r, StrOk f t x) → 0 ≤ goodS q r ∧ goodS q r ≤ r.length * 345686400000 := by
  refine snocI (P := fun r => (∀ x ∈ r, StrOk f t x) → 0 ≤ goodS q r ∧ goodS q r ≤ r.length * 345686400000) ?_ (fun r x ih => ?_) r
  · intro _; simp [goodS]
  · intro h
    have h1 := ih (fun y hy => h y (by simp [hy]))
    have h2 := h x (by simp)
    unfold StrOk at h2
    rw [goodS_snoc]
    simp only [List.length_append, List.length_cons, List.length_nil]
    split <;> omega

end Go.Proofs.Ytmcojidaimeijaa
namespace Go.Proofs.Ytmcojidaimeijaa
open Go.RowKit Go.Shelf
set_option linter.unusedVariables false
set_option linter.unusedSimpArgs false
attribute [local go_sem] Oper.semAt_some

theorem goodS_is (q : Int) (r : List Str) : (agS (r.filter fun x => decide (x.s.q ≤ q))).g = goodS q r := by
  refine snocI (P := fun r => (agS (r.filter fun x => decide (x.s.q ≤ q))).g = goodS q r) ?_ (fun r x ih => ?_) r
  · rfl
  · rw [List.filter_append, goodS_snoc]
    by_cases h : x.s.q ≤ q
    · rw [if_pos h, ← ih]
      simp only [List.filter_cons, h, decide_true, if_true, List.filter_nil]
      rw [agS_snoc]; rfl
    · rw [if_neg h, ← ih]
      simp [h]
theorem goodR_is {l : List Smp} {f t : Int} (q : Int) (hS : serErr l = 0) (hW : 0 ≤ f ∧ f ≤ t ∧ t ≤ 345686400000) : (agR (rnsOf q (strL l f t))).g = goodS q (strL l f t) := by
  rw [agR_map f t q hW.1 hW.2.2 _ (strL_ok hS)]
  exact goodS_is q _

def gdE (l : List Smp) (f t q : Int) : Int := orE (orE (serErr l) (winErr f t)) (if q = 0 ∨ q = 1 then 0 else 4)
def gdR (l : List Smp) (f t q : Int) : Int := if gdE l f t q = 0 then goodS q (strL l f t) else 0

/-- What a round of GoodTime finds. -/
structure GtI (w0 : World) (P bw bl bq : Nat) (v : Value) (l : List Smp) (f t q s : Int) (W : World) : Prop where
  tb : Blk W P 3 #[.int .i64 s]
  rn : RnK w0 bw bl bq v l f t q W
  h1 : w0.heap.size < P
  h2 : P < bw ∧ P < bl ∧ P < bq
section
variable {w0 W W' : World} {P bw bl bq : Nat} {v : Value} {l : List Smp} {f t q s : Int}
theorem GtI.step (h : GtI w0 P bw bl bq v l f t q s W) (hb : Below W.heap.size W W') : GtI w0 P bw bl bq v l f t q s W' := ⟨h.tb.below hb h.tb.lt, h.rn.step hb, h.h1, h.h2⟩
theorem GtI.turned (h : GtI w0 P bw bl bq v l f t q s W) {row : Option Nat} (hg : W.grownBy W' row) (hr : ∀ r, row = some r → w0.heap.size ≤ r ∧ ∃ o : Obj, W.heap[r]? = some o ∧ o.isCells = false) : GtI w0 P bw bl bq v l f t q s W' :=
  ⟨blk_own (β := Unit) _ _ _ () _ _ _ h.tb hg (fun r e => (hr r e).2), h.rn.turned hg hr, h.h1, h.h2⟩
theorem GtI.setT (h : GtI w0 P bw bl bq v l f t q s W) (hR : RdS w0 57 v l) (s' : Int) : GtI w0 P bw bl bq v l f t q s' (W.setCell ⟨P, 0, none⟩ (.int .i64 s')) := by
  have hP := h.h1
  have h2 := h.h2
  exact ⟨blk_set h.tb 0 _, h.rn.setCell hR _ _ (by simp; omega) (by simp; omega) (by simp; omega) (by simp; omega), h.h1, h.h2⟩
end

set_option maxRecDepth 100000 in
set_option maxHeartbeats 4000000 in
theorem goodTime_any (v : Value) (l : List Smp) (f t q : Int) (w : World) (hR : RdS w 57 v l) :
    Calls Try.prog 44 #[v, .agg #[.int .i64 f, .int .i64 t], .int .i64 q] w fun e w' => e = .returned (.tuple #[.int .i64 (gdR l f t q), .int .i64 (gdE l f t q)]) ∧ Below w.heap.size w w' := by
  obtain ⟨pa, ca, rfl⟩ := hR.lenv
  have hmx : Try.prog.follows .mixedOrders = true := by kernel_rfl
  have hE : gdE l f t q = orE (orE (serErr l) (winErr f t)) (if q = 0 ∨ q = 1 then 0 else 4) := rfl
  have hRR : gdR l f t q = if gdE l f t q = 0 then goodS q (strL l f t) else 0 := rfl
  have hba : Below w.heap.size w (w.alloc (.cells #[.int .i64 f, .int .i64 t] 43)) := (Below.refl _ w).alloc (Nat.le_refl _) _
  have bw0 : Blk (w.alloc (.cells #[.int .i64 f, .int .i64 t] 43)) w.heap.size 43 #[.int .i64 f, .int .i64 t] := Blk.new w _ _
  have hsz : (w.alloc (.cells #[.int .i64 f, .int .i64 t] 43)).heap.size = w.heap.size + 1 := by simp
  generalize gdE l f t q = E at *
  generalize gdR l f t q = RR at *
  have HE := Lib.hid hE
  have HRR := Lib.hid hRR
  have hbb := hba.alloc hba.size (.cells #[.slice pa l.length ca] 26)
  have hqc := qcheck1_any (w.heap.size + 1) (.slice pa l.length ca) l f t ((w.alloc (.cells #[.int .i64 f, .int .i64 t] 43)).alloc (.cells #[.slice pa l.length ca] 26)) (Blk.new1 _ _ _ _) (Rd.below hR hbb)
  have bw1 := bw0.alloc (.cells #[.slice pa l.length ca] 26)
  refine (callsIn_wide (n := 5)).1 ?_
  refine callsIn_of_wp_marks Try.func44 rfl trivial ?_ rfl
  simp only [Try.ntmps44, List.size_toArray, List.length_cons, List.length_nil, Nat.reduceAdd, Nat.reduceSub, Array.replicate_succ, Array.replicate_zero, List.push_toArray, List.append_toArray, List.nil_append, List.cons_append]
  gi_upto_region 1 with fail
  generalize w.alloc (.cells #[.int .i64 f, .int .i64 t] 43) = w1 at *
  have e0 := bw0.cell 0
  have e1 := bw0.cell 1
  clear hE hRR hba
  have HWE := Lib.hid (fun h : orE (serErr l) (winErr f t) = 0 => And.intro (orE_zero h).1 (winErr_ok (orE_zero h).2))
  generalize orE (serErr l) (winErr f t) = F at *
  by_cases hF : F = 0
  · have hF' : (F != 0) = false := by simpa using hF
    have HF := Lib.hid hF
    obtain ⟨hS, hW⟩ := HWE.out hF
    clear hF HWE
    by_cases hq : q = 0 ∨ q = 1
    · have HE1 := Lib.hid (show E = 0 by rw [HE.out, if_pos hq, HF.out]; rfl)
      clear HE
      rcases hq with rfl | rfl
      · gi_wp2_with (first
          | (refine ⟨trivial, ?_⟩; gi_at_call 57; refine (callsIn_wide.2 hqc).mono ?_; clear hqc; rintro e w2 ⟨rfl, hb2⟩; have bw2 := bw1.below hb2 bw1.lt; have be2 := hbb.trans (hb2.mono hbb.size); clear e0 e1; have e0 := bw2.cell 0; have e1 := bw2.cell 1; have z0 := bw2.lt)
          | (refine ⟨trivial, ?_⟩; gi_at_call 90; refine (callsIn_wide.2 (runs_any _ l.length ca pa rfl f t 0 _)).mono ?_; rintro e w' ⟨rfl, rfl⟩))
        have hlong := (serErr_good hS).1
        have hbe3 : Below w2.heap.size w2 ((((w2.alloc (Obj.cells #[Value.int .i64 0] 3)).alloc (Obj.cells #[Value.slice pa l.length ca] 26)).alloc (Obj.cells #[Value.int .i64 f, Value.int .i64 t] 43)).alloc (Obj.cells #[Value.int .i64 0] 3)) := ((((Below.refl _ w2).alloc (Nat.le_refl _) _).alloc (by simp) _).alloc (by simp; omega) _).alloc (by simp; omega) _
        have hpi : GtI w w2.heap.size (w2.heap.size + 1 + 1) (w2.heap.size + 1) (w2.heap.size + 1 + 1 + 1) (.slice pa l.length ca) l f t 0 0 ((((w2.alloc (Obj.cells #[Value.int .i64 0] 3)).alloc (Obj.cells #[Value.slice pa l.length ca] 26)).alloc (Obj.cells #[Value.int .i64 f, Value.int .i64 t] 43)).alloc (Obj.cells #[Value.int .i64 0] 3)) := by
          have g1 := ((Blk.new1 w2 (Obj.cells #[Value.int .i64 0] 3) 26 #[Value.slice pa l.length ca]).alloc (Obj.cells #[Value.int .i64 f, Value.int .i64 t] 43)).alloc (Obj.cells #[Value.int .i64 0] 3)
          have g2 := (Blk.new ((w2.alloc (Obj.cells #[Value.int .i64 0] 3)).alloc (Obj.cells #[Value.slice pa l.length ca] 26)) 43 #[Value.int .i64 f, Value.int .i64 t]).alloc (Obj.cells #[Value.int .i64 0] 3)
          have g3 := Blk.new (((w2.alloc (Obj.cells #[Value.int .i64 0] 3)).alloc (Obj.cells #[Value.slice pa l.length ca] 26)).alloc (Obj.cells #[Value.int .i64 f, Value.int .i64 t] 43)) 3 #[Value.int .i64 0]
          simp only [World.size_alloc] at g1 g2 g3
          have hlo := be2.trans (hbe3.mono be2.size)
          exact ⟨(((Blk.new w2 _ _).alloc _).alloc _).alloc _, ⟨g2, g1, g3, Rd.below hR hlo, hlo⟩, z0, by omega⟩
        generalize ((((w2.alloc (Obj.cells #[Value.int .i64 0] 3)).alloc (Obj.cells #[Value.slice pa l.length ca] 26)).alloc (Obj.cells #[Value.int .i64 f, Value.int .i64 t] 43)).alloc (Obj.cells #[Value.int .i64 0] 3)) = W0 at *
        generalize w2.heap.size = P at *
        clear bw2 be2 e0 e1 hbe3 bw0 bw1 hbb
        refine wpIn_rangeFunc_ownH rfl (by omega) (gf := 119) (lb := #[.pointer (some ⟨P + 1 + 1, 0, none⟩), .pointer (some ⟨P + 1, 0, none⟩), .pointer (some ⟨P + 1 + 1 + 1, 0, none⟩)]) rfl trivial (enters_of Try.func119 (by kernel_rfl) rfl)
          (runs_stops (5 - 1) (P + 1 + 1) (P + 1) (P + 1 + 1 + 1) w _ l f t 0 (by omega) hR hS hW W0 hpi.rn) (fun h k => h.trans k) (Kpn.putObj hpi.rn.lo.size (fun k hk => by have h1 := hpi.rn.bw.lt; have h2 := hpi.rn.bl.lt; have h3 := hpi.rn.bq.lt; simp at hk; omega)) (Below.refl _ _) (fun _ => rfl)
          (fun pre W => GtI w P (P + 1 + 1) (P + 1) (P + 1 + 1 + 1) (.slice pa l.length ca) l f t 0 (agR pre).g W)
          (fun _ _ _ => False)
          (fun pre X Y row hs hg hr => hs.turned hg (fun r e => ⟨Nat.le_trans hpi.rn.lo.size (hr r e).1, (hr r e).2⟩))
          (fun _ _ _ _ _ hs _ _ => hs)
          hpi
          (fun x a' W => ∃ Bx, P + 1 + 1 + 1 < Bx ∧ Blk W Bx 43 #[.int .i64 x.1.2.1, .int .i64 x.1.2.2] ∧ a' = { tmps := #[.slice pa l.length ca, .agg #[.int .i64 f, .int .i64 t], .int .i64 0, undef, .pointer (some ⟨w.heap.size, 0, none⟩), undef, .int .i64 0, .int .i64 0, .int .i64 F, .pointer (some ⟨P, 0, none⟩), undef, .pointer (some ⟨Bx, 0, none⟩), .agg #[.int .i64 f, .int .i64 t], .slice pa l.length ca, .slice (some ⟨w.heap.size + 1, 0, none⟩) 1 1, .int .i64 F, .bool false, .int .i64 F, .bool false, undef, .bool false, .int .i64 0, .bool false, .bool false, undef, undef, .bool false, .slice pa l.length ca, .agg #[.int .i64 f, .int .i64 t], .int .i64 0, .func (.func 119) #[] #[.pointer (some ⟨P + 1 + 1, 0, none⟩), .pointer (some ⟨P + 1, 0, none⟩), .pointer (some ⟨P + 1 + 1 + 1, 0, none⟩)], .int .i64 x.1.1, .agg #[.int .i64 x.1.2.1, .int .i64 x.1.2.2], undef, undef, undef, undef, undef], defers := [] })
          (fun x a' _ X Y row hs hg hr => by obtain ⟨Bx, h1, h2, h3⟩ := hs; exact ⟨Bx, h1, blk_own (β := Unit) _ _ _ () X Y row h2 hg (fun r e => (hr r e).2), h3⟩)
          ?assign ?body ?done ?stop
        case assign =>
          rintro li pre x W K hI hK
          simp only [encRn]
          gi_wp2
          have hbA := (Below.refl W.heap.size W).alloc (Nat.le_refl _) (.cells #[.int .i64 x.1.2.1, .int .i64 x.1.2.2] 43)
          exact hK _ _ (keepsFrom_of hbA) (hI.rn.keeps (hI.rn.step hbA) (hbA.mono hI.rn.lo.size)) (hI.step hbA) ⟨W.heap.size, hI.rn.bq.lt, Blk.new _ _ _, rfl⟩
        case body =>
          rintro li pre x a' W hl ⟨r, hr⟩ hI ⟨Bx, hBx, bX, rfl⟩ hlt
          have HSN := Lib.hid (show (agR (pre ++ [x])).g = (agR pre).g + (x.1.2.2 - x.1.2.1) by rw [agR_snoc]; rfl)
          have hgd := agR_good pre
          have hx := x.2
          generalize (agR pre).g = A at *
          have hA : 0 ≤ A ∧ A ≤ 1728432000000000 := by omega
          have hlg := fun w => long_eq x.1.2.1 x.1.2.2 w ⟨by omega, by omega, by omega⟩
          have hm1 : IntKind.i64.wrap (A + (x.1.2.2 - x.1.2.1)) = A + (x.1.2.2 - x.1.2.1) := IntWalk.i64_in _ (by omega)
          have hP2 := hI.h2
          have s0 : W.cell? ⟨P, 0, none⟩ = some (.int .i64 A) := hI.tb.cell 0
          have s1 : W.frozen? ⟨P, 0, none⟩ = false := hI.tb.frozen 0
          have s2 := hI.tb.lt
          have b0 : W.cell? ⟨Bx, 0, none⟩ = some (.int .i64 x.1.2.1) := bX.cell 0
          have b1 : W.cell? ⟨Bx, 1, none⟩ = some (.int .i64 x.1.2.2) := bX.cell 1
          have b2 := bX.lt
          have HI := Lib.hid hI
          have hPB : P ≠ Bx := by omega
          clear hI bX hr hl hgd hpi
          dsimp only
          gi_upto_region 9 with fail
          gi_region_with_o (refine ⟨trivial, ?_⟩; gi_at_call 61; refine (CallsIn.inRound li (callsIn_wide.2 (hlg _))).mono ?_; rintro e w' ⟨rfl, rfl⟩)
          all_goals gi_wp2
          all_goals
            have hI5 := ((HI.out.setT hR (A + (x.1.2.2 - x.1.2.1))).step ((Below.refl _ _).alloc (Nat.le_refl _) (.cells #[.int .i64 x.1.2.1, .int .i64 x.1.2.2] 43))).step (drew_below _)
            have hI := HI.out
            exact ⟨((KeepsOthers.setCell _ _ _).from _).trans (((KeepsOthers.alloc _ _).trans (KeepsOthers.drew _)).from _), hI.rn.keeps hI5.rn ((((Below.refl _ W).setCell (by have := hI.h1; simp; omega) _).alloc (by have := hI.rn.lo.size; simp; omega) _).drew), by dsimp only; rw [HSN.out]; exact hI5⟩
        case done =>
          rintro D ys W hD rfl hI hK
          rw [goodR_is _ hS hW] at hI
          have c1 := hI.tb.cell 0
          gi_wp2
          refine ⟨by simp, .inl ⟨_, _, rfl, run_takeDeferred (by exact hK), ?_⟩⟩
          exact ⟨.tuple #[.int .i64 (goodS 0 (strL l f t)), .int .i64 0], by simp [results, Try.results44, go_sem], by rw [HRR.out, HE1.out]; rfl, hI.rn.lo.trans (belowK_b (w := w) (Nat.le_refl _) W D _ _ (by have := hpi.rn.lo.size; omega) hK rfl rfl)⟩
        case stop =>
          rintro D c pre W _ _ h _
          exact h.elim
      · gi_wp2_with (first
          | (refine ⟨trivial, ?_⟩; gi_at_call 57; refine (callsIn_wide.2 hqc).mono ?_; clear hqc; rintro e w2 ⟨rfl, hb2⟩; have bw2 := bw1.below hb2 bw1.lt; have be2 := hbb.trans (hb2.mono hbb.size); clear e0 e1; have e0 := bw2.cell 0; have e1 := bw2.cell 1; have z0 := bw2.lt)
          | (refine ⟨trivial, ?_⟩; gi_at_call 90; refine (callsIn_wide.2 (runs_any _ l.length ca pa rfl f t 1 _)).mono ?_; rintro e w' ⟨rfl, rfl⟩))
        have hlong := (serErr_good hS).1
        have hbe3 : Below w2.heap.size w2 ((((w2.alloc (Obj.cells #[Value.int .i64 0] 3)).alloc (Obj.cells #[Value.slice pa l.length ca] 26)).alloc (Obj.cells #[Value.int .i64 f, Value.int .i64 t] 43)).alloc (Obj.cells #[Value.int .i64 1] 3)) := ((((Below.refl _ w2).alloc (Nat.le_refl _) _).alloc (by simp) _).alloc (by simp; omega) _).alloc (by simp; omega) _
        have hpi : GtI w w2.heap.size (w2.heap.size + 1 + 1) (w2.heap.size + 1) (w2.heap.size + 1 + 1 + 1) (.slice pa l.length ca) l f t 1 0 ((((w2.alloc (Obj.cells #[Value.int .i64 0] 3)).alloc (Obj.cells #[Value.slice pa l.length ca] 26)).alloc (Obj.cells #[Value.int .i64 f, Value.int .i64 t] 43)).alloc (Obj.cells #[Value.int .i64 1] 3)) := by
          have g1 := ((Blk.new1 w2 (Obj.cells #[Value.int .i64 0] 3) 26 #[Value.slice pa l.length ca]).alloc (Obj.cells #[Value.int .i64 f, Value.int .i64 t] 43)).alloc (Obj.cells #[Value.int .i64 1] 3)
          have g2 := (Blk.new ((w2.alloc (Obj.cells #[Value.int .i64 0] 3)).alloc (Obj.cells #[Value.slice pa l.length ca] 26)) 43 #[Value.int .i64 f, Value.int .i64 t]).alloc (Obj.cells #[Value.int .i64 1] 3)
          have g3 := Blk.new (((w2.alloc (Obj.cells #[Value.int .i64 0] 3)).alloc (Obj.cells #[Value.slice pa l.length ca] 26)).alloc (Obj.cells #[Value.int .i64 f, Value.int .i64 t] 43)) 3 #[Value.int .i64 1]
          simp only [World.size_alloc] at g1 g2 g3
          have hlo := be2.trans (hbe3.mono be2.size)
          exact ⟨(((Blk.new w2 _ _).alloc _).alloc _).alloc _, ⟨g2, g1, g3, Rd.below hR hlo, hlo⟩, z0, by omega⟩
        generalize ((((w2.alloc (Obj.cells #[Value.int .i64 0] 3)).alloc (Obj.cells #[Value.slice pa l.length ca] 26)).alloc (Obj.cells #[Value.int .i64 f, Value.int .i64 t] 43)).alloc (Obj.cells #[Value.int .i64 1] 3)) = W0 at *
        generalize w2.heap.size = P at *
        clear bw2 be2 e0 e1 hbe3 bw0 bw1 hbb
        refine wpIn_rangeFunc_ownH rfl (by omega) (gf := 119) (lb := #[.pointer (some ⟨P + 1 + 1, 0, none⟩), .pointer (some ⟨P + 1, 0, none⟩), .pointer (some ⟨P + 1 + 1 + 1, 0, none⟩)]) rfl trivial (enters_of Try.func119 (by kernel_rfl) rfl)
          (runs_stops (5 - 1) (P + 1 + 1) (P + 1) (P + 1 + 1 + 1) w _ l f t 1 (by omega) hR hS hW W0 hpi.rn) (fun h k => h.trans k) (Kpn.putObj hpi.rn.lo.size (fun k hk => by have h1 := hpi.rn.bw.lt; have h2 := hpi.rn.bl.lt; have h3 := hpi.rn.bq.lt; simp at hk; omega)) (Below.refl _ _) (fun _ => rfl)
          (fun pre W => GtI w P (P + 1 + 1) (P + 1) (P + 1 + 1 + 1) (.slice pa l.length ca) l f t 1 (agR pre).g W)
          (fun _ _ _ => False)
          (fun pre X Y row hs hg hr => hs.turned hg (fun r e => ⟨Nat.le_trans hpi.rn.lo.size (hr r e).1, (hr r e).2⟩))
          (fun _ _ _ _ _ hs _ _ => hs)
          hpi
          (fun x a' W => ∃ Bx, P + 1 + 1 + 1 < Bx ∧ Blk W Bx 43 #[.int .i64 x.1.2.1, .int .i64 x.1.2.2] ∧ a' = { tmps := #[.slice pa l.length ca, .agg #[.int .i64 f, .int .i64 t], .int .i64 1, undef, .pointer (some ⟨w.heap.size, 0, none⟩), undef, .int .i64 0, .int .i64 0, .int .i64 F, .pointer (some ⟨P, 0, none⟩), undef, .pointer (some ⟨Bx, 0, none⟩), .agg #[.int .i64 f, .int .i64 t], .slice pa l.length ca, .slice (some ⟨w.heap.size + 1, 0, none⟩) 1 1, .int .i64 F, .bool false, .int .i64 F, .bool false, undef, .bool false, .int .i64 1, .bool true, .bool true, .int .i64 1, .bool false, .bool false, .slice pa l.length ca, .agg #[.int .i64 f, .int .i64 t], .int .i64 1, .func (.func 119) #[] #[.pointer (some ⟨P + 1 + 1, 0, none⟩), .pointer (some ⟨P + 1, 0, none⟩), .pointer (some ⟨P + 1 + 1 + 1, 0, none⟩)], .int .i64 x.1.1, .agg #[.int .i64 x.1.2.1, .int .i64 x.1.2.2], undef, undef, undef, undef, undef], defers := [] })
          (fun x a' _ X Y row hs hg hr => by obtain ⟨Bx, h1, h2, h3⟩ := hs; exact ⟨Bx, h1, blk_own (β := Unit) _ _ _ () X Y row h2 hg (fun r e => (hr r e).2), h3⟩)
          ?assign ?body ?done ?stop
        case assign =>
          rintro li pre x W K hI hK
          simp only [encRn]
          gi_wp2
          have hbA := (Below.refl W.heap.size W).alloc (Nat.le_refl _) (.cells #[.int .i64 x.1.2.1, .int .i64 x.1.2.2] 43)
          exact hK _ _ (keepsFrom_of hbA) (hI.rn.keeps (hI.rn.step hbA) (hbA.mono hI.rn.lo.size)) (hI.step hbA) ⟨W.heap.size, hI.rn.bq.lt, Blk.new _ _ _, rfl⟩
        case body =>
          rintro li pre x a' W hl ⟨r, hr⟩ hI ⟨Bx, hBx, bX, rfl⟩ hlt
          have HSN := Lib.hid (show (agR (pre ++ [x])).g = (agR pre).g + (x.1.2.2 - x.1.2.1) by rw [agR_snoc]; rfl)
          have hgd := agR_good pre
          have hx := x.2
          generalize (agR pre).g = A at *
          have hA : 0 ≤ A ∧ A ≤ 1728432000000000 := by omega
          have hlg := fun w => long_eq x.1.2.1 x.1.2.2 w ⟨by omega, by omega, by omega⟩
          have hm1 : IntKind.i64.wrap (A + (x.1.2.2 - x.1.2.1)) = A + (x.1.2.2 - x.1.2.1) := IntWalk.i64_in _ (by omega)
          have hP2 := hI.h2
          have s0 : W.cell? ⟨P, 0, none⟩ = some (.int .i64 A) := hI.tb.cell 0
          have s1 : W.frozen? ⟨P, 0, none⟩ = false := hI.tb.frozen 0
          have s2 := hI.tb.lt
          have b0 : W.cell? ⟨Bx, 0, none⟩ = some (.int .i64 x.1.2.1) := bX.cell 0
          have b1 : W.cell? ⟨Bx, 1, none⟩ = some (.int .i64 x.1.2.2) := bX.cell 1
          have b2 := bX.lt
          have HI := Lib.hid hI
          have hPB : P ≠ Bx := by omega
          clear hI bX hr hl hgd hpi
          dsimp only
          gi_upto_region 9 with fail
          gi_region_with_o (refine ⟨trivial, ?_⟩; gi_at_call 61; refine (CallsIn.inRound li (callsIn_wide.2 (hlg _))).mono ?_; rintro e w' ⟨rfl, rfl⟩)
          all_goals gi_wp2
          all_goals
            have hI5 := ((HI.out.setT hR (A + (x.1.2.2 - x.1.2.1))).step ((Below.refl _ _).alloc (Nat.le_refl _) (.cells #[.int .i64 x.1.2.1, .int .i64 x.1.2.2] 43))).step (drew_below _)
            have hI := HI.out
            exact ⟨((KeepsOthers.setCell _ _ _).from _).trans (((KeepsOthers.alloc _ _).trans (KeepsOthers.drew _)).from _), hI.rn.keeps hI5.rn ((((Below.refl _ W).setCell (by have := hI.h1; simp; omega) _).alloc (by have := hI.rn.lo.size; simp; omega) _).drew), by dsimp only; rw [HSN.out]; exact hI5⟩
        case done =>
          rintro D ys W hD rfl hI hK
          rw [goodR_is _ hS hW] at hI
          have c1 := hI.tb.cell 0
          gi_wp2
          refine ⟨by simp, .inl ⟨_, _, rfl, run_takeDeferred (by exact hK), ?_⟩⟩
          exact ⟨.tuple #[.int .i64 (goodS 1 (strL l f t)), .int .i64 0], by simp [results, Try.results44, go_sem], by rw [HRR.out, HE1.out]; rfl, hI.rn.lo.trans (belowK_b (w := w) (Nat.le_refl _) W D _ _ (by have := hpi.rn.lo.size; omega) hK rfl rfl)⟩
        case stop =>
          rintro D c pre W _ _ h _
          exact h.elim
    · have hq0 : (q != 0) = true := by simp; omega
      have hq1 : (q != 1) = true := by simp; omega
      have HE1 := Lib.hid (show E = 4 by rw [HE.out, if_neg hq, HF.out]; rfl)
      clear HE hq
      gi_wp2_with (refine ⟨trivial, ?_⟩; gi_at_call 57; refine (callsIn_wide.2 hqc).mono ?_; clear hqc; rintro e w2 ⟨rfl, hb2⟩; have be2 := hbb.trans (hb2.mono hbb.size))
      exact ⟨.tuple #[.int .i64 0, .int .i64 4], by simp [results, Try.results44, go_sem], by rw [HRR.out, HE1.out]; rfl, be2⟩
  · have hF' : (F != 0) = true := by simpa using hF
    have HE1 := Lib.hid (show E = F by rw [HE.out, orE_first hF])
    have HF := Lib.hid hF
    clear hF HE HWE
    gi_wp2_with (refine ⟨trivial, ?_⟩; gi_at_call 57; refine (callsIn_wide.2 hqc).mono ?_; clear hqc; rintro e w2 ⟨rfl, hb2⟩; have be2 := hbb.trans (hb2.mono hbb.size))
    exact ⟨.tuple #[.int .i64 0, .int .i64 F], by simp [results, Try.results44, go_sem], by rw [HRR.out, HE1.out, if_neg HF.out], be2⟩
end Go.Proofs.Ytmcojidaimeijaa

/- Slices of buckets: cells, append of one, reading. No condition beyond the contracts'. -/
/- Buckets as data. -/

namespace Go.Proofs.Ytmcojidaimeijaa
open Go.RowKit
set_option linter.unusedVariables false

structure Bkt where
  f : Int
  t : Int
  g : Int
  n : Int
  d : Int
  mn : Int
  mx : Int
def bktOf (l : List Smp) (f t : Int) : Bkt := ⟨f, t, (aggV l f t).g, (avgV l f t).1, (avgV l f t).2, (aggV l f t).mn, (aggV l f t).mx⟩
def outK (l : List Smp) (pre : List Prt) : List Bkt := pre.map fun x => bktOf l x.1.1 x.1.2
theorem outK_snoc (l : List Smp) (pre : List Prt) (x : Prt) : outK l (pre ++ [x]) = outK l pre ++ [bktOf l x.1.1 x.1.2] := by simp [outK]
theorem outK_long (l : List Smp) (pre : List Prt) : (outK l pre).length = pre.length := by simp [outK]
/-- The buckets of a window's parts. -/
def bktTo (l : List Smp) (f t ev : Int) (k : Nat) : List Bkt := outK l (partsTo f t ev k)
theorem bktTo_succ (l : List Smp) (f t ev : Int) (hf : 0 ≤ f) (ht : t ≤ 345686400000) (hv : 1 ≤ ev) (k : Nat) (hk : k < ptsCnt f t ev) :
    bktTo l f t ev (k + 1) = bktTo l f t ev k ++ [bktOf l (f + k * ev) (if f + k * ev + ev ≤ t then f + k * ev + ev else t)] := by
  have hlt := (ptsCnt_lt f t ev k hv).2 hk
  have h0 : 0 ≤ (k : Int) * ev := Int.mul_nonneg (by omega) (by omega)
  have hx : (partAt f t ev k).1 = (f + k * ev, if f + k * ev + ev ≤ t then f + k * ev + ev else t) := mkPrt_eq (by split <;> omega)
  unfold bktTo
  rw [show partsTo f t ev (k + 1) = partsTo f t ev k ++ [partAt f t ev k] from rfl, outK_snoc, hx]
theorem bktTo_long (l : List Smp) (f t ev : Int) (k : Nat) : (bktTo l f t ev k).length = k := by unfold bktTo; rw [outK_long, partsTo_long]
end Go.Proofs.Ytmcojidaimeijaa
namespace Go.Proofs.Ytmcojidaimeijaa
open Go.RowKit
set_option linter.unusedVariables false
set_option linter.unusedSimpArgs false

def bktCells (l : List Bkt) : List Value := l.flatMap fun p => [.int .i64 p.f, .int .i64 p.t, .int .i64 p.g, .int .i64 p.n, .int .i64 p.d, .int .i64 p.mn, .int .i64 p.mx]
theorem bktCells_append (a b : List Bkt) : bktCells (a ++ b) = bktCells a ++ bktCells b := by simp [bktCells]
theorem bktCells_length (l : List Bkt) : (bktCells l).length = l.length * 7 := by
  induction l with
  | nil => rfl
  | cons x l ih => simp [bktCells] at ih ⊢; omega
theorem bktCells_get (l : List Bkt) (i : Nat) (h : i < l.length) : (bktCells l)[i * 7]? = some (.int .i64 l[i].f) ∧ (bktCells l)[i * 7 + 1]? = some (.int .i64 l[i].t) ∧ (bktCells l)[i * 7 + 2]? = some (.int .i64 l[i].g) ∧ (bktCells l)[i * 7 + 3]? = some (.int .i64 l[i].n) ∧ (bktCells l)[i * 7 + 4]? = some (.int .i64 l[i].d) ∧ (bktCells l)[i * 7 + 5]? = some (.int .i64 l[i].mn) ∧ (bktCells l)[i * 7 + 6]? = some (.int .i64 l[i].mx) := by
  induction l generalizing i with
  | nil => simp at h
  | cons x l ih =>
    cases i with
    | zero => simp [bktCells]
    | succ i =>
      have := ih i (by simpa using h)
      rw [show (i + 1) * 7 = i * 7 + 7 from by omega, show i * 7 + 7 + 1 = i * 7 + 1 + 7 from by omega, show i * 7 + 7 + 2 = i * 7 + 2 + 7 from by omega, show i * 7 + 7 + 3 = i * 7 + 3 + 7 from by omega, show i * 7 + 7 + 4 = i * 7 + 4 + 7 from by omega, show i * 7 + 7 + 5 = i * 7 + 5 + 7 from by omega, show i * 7 + 7 + 6 = i * 7 + 6 + 7 from by omega]
      simpa [bktCells] using this
theorem info_bkt : (Try.prog.info? 75).map (fun i => (i.zero, i.size, i.bytes)) = some (some (.agg #[.int .i64 0, .int .i64 0, .int .i64 0, .int .i64 0, .int .i64 0, .int .i64 0, .int .i64 0]), 7, 56) := by kernel_rfl
/-- append of one record that lies alone in block b. -/
theorem wpList_append_bkt {w : World} {ops : Array Oper} {rest : List Oper} {o : Oper} {a : Act} {Q : Exit → Act → World → Prop} (hgd : o.guard = none) (s x : Operand)
    (ho : o.op = .call { callee := .builtin .append, args := #[s, x], argTypes := #[71, 71] })
    (base : Nat) (v : Value) (n : Nat) (l : List Bkt) (hs : a.eval s = v) (hown : w.ownsRow base 75 7 v n (bktCells l)) (b : Nat) (hx : a.eval x = .slice (some ⟨b, 0, none⟩) 1 1) (y : Bkt)
    (hb : Blk w b 75 #[.int .i64 y.f, .int .i64 y.t, .int .i64 y.g, .int .i64 y.n, .int .i64 y.d, .int .i64 y.mn, .int .i64 y.mx]) (hn : n ≤ 100000000) (hbase : base ≤ w.heap.size)
    (h : ∀ v' w', w'.ownsRow base 75 7 v' (n + 1) (bktCells (l ++ [y])) → w.grownBy w' v.ownBlock → wpList Try.prog ops Q rest (a.put o.dst v') w') : wpList Try.prog ops Q (o :: rest) a w := by
  obtain ⟨i0, hi0, hz0, hz1, hz2⟩ := info_parts info_bkt
  refine wpList_append_own w hgd s x 71 ho base 75 i0 _ 7 56 Try.underlying71 hi0 hz0 hz1 hz2 rfl (by decide) v n _ hs hown ⟨b, 0, none⟩ 1 1 (bktCells [y]) hx rfl ?_ ?_ ?_ ?_ hbase ?_
  · intro j u hu
    have hbb := hb.cell j
    have hj : j < 7 := by
      rcases Nat.lt_or_ge j 7 with hlt | hge
      · exact hlt
      · rw [List.getElem?_eq_none (by simp [bktCells]; exact hge)] at hu; cases hu
    have e1 : (⟨b, 0, none⟩ : Addr).add j = ⟨b, j, none⟩ := by unfold Addr.add; split <;> simp_all
    rw [e1, hbb, ← hu]
    simp [bktCells]
  · intro u hu
    simp [bktCells] at hu
    rcases hu with rfl | rfl | rfl | rfl | rfl | rfl | rfl <;> rfl
  · simp only [maxLen]; omega
  · omega
  · intro v' w' h1 h2 _
    exact h v' w' (by rw [bktCells_append]; exact h1) h2
/-- append of one record that lies alone in block b, inside a fence. -/
theorem wpListIn_append_bkt {F : Fence} {nn : Nat} {w : World} {ops : Array Oper} {rest : List Oper} {o : Oper} {a : Act} {Q : Exit → Act → World → Prop} (hgd : o.guard = none) (s x : Operand)
    (ho : o.op = .call { callee := .builtin .append, args := #[s, x], argTypes := #[71, 71] })
    (base : Nat) (v : Value) (n : Nat) (l : List Bkt) (hs : a.eval s = v) (hown : w.ownsRow base 75 7 v n (bktCells l)) (b : Nat) (hx : a.eval x = .slice (some ⟨b, 0, none⟩) 1 1) (y : Bkt)
    (hb : Blk w b 75 #[.int .i64 y.f, .int .i64 y.t, .int .i64 y.g, .int .i64 y.n, .int .i64 y.d, .int .i64 y.mn, .int .i64 y.mx]) (hn : n ≤ 100000000) (hbase : base ≤ w.heap.size)
    (h : ∀ v' w', w'.ownsRow base 75 7 v' (n + 1) (bktCells (l ++ [y])) → w.grownBy w' v.ownBlock → wpListIn F nn Try.prog ops Q rest (a.put o.dst v') w') : wpListIn F nn Try.prog ops Q (o :: rest) a w := by
  obtain ⟨i0, hi0, hz0, hz1, hz2⟩ := info_parts info_bkt
  refine wpListIn_append_own w hgd s x 71 ho base 75 i0 _ 7 56 Try.underlying71 hi0 hz0 hz1 hz2 rfl (by decide) v n _ hs hown ⟨b, 0, none⟩ 1 1 (bktCells [y]) hx rfl ?_ ?_ ?_ ?_ hbase ?_
  · intro j u hu
    have hbb := hb.cell j
    have hj : j < 7 := by
      rcases Nat.lt_or_ge j 7 with hlt | hge
      · exact hlt
      · rw [List.getElem?_eq_none (by simp [bktCells]; exact hge)] at hu; cases hu
    have e1 : (⟨b, 0, none⟩ : Addr).add j = ⟨b, j, none⟩ := by unfold Addr.add; split <;> simp_all
    rw [e1, hbb, ← hu]
    simp [bktCells]
  · intro u hu
    simp [bktCells] at hu
    rcases hu with rfl | rfl | rfl | rfl | rfl | rfl | rfl <;> rfl
  · simp only [maxLen]; omega
  · omega
  · intro v' w' h1 h2 _
    exact h v' w' (by rw [bktCells_append]; exact h1) h2

/-- A slice of these records reads as l. -/
def RdBkt (w : World) (v : Value) (l : List Bkt) : Prop := Rd w 75 7 v l.length (bktCells l)
theorem RdBkt.cells {w : World} {v : Value} {l : List Bkt} (h : RdBkt w v l) (hn : 0 < l.length) :
    ∃ b off c, v = .slice (some ⟨b, off, none⟩) l.length c ∧ l.length ≤ c ∧ c ≤ maxLen ∧ b < w.heap.size ∧ ∀ i (hi : i < l.length), w.cell? ⟨b, off + i * 7, none⟩ = some (.int .i64 l[i].f) ∧ w.cell? ⟨b, off + i * 7 + 1, none⟩ = some (.int .i64 l[i].t) ∧ w.cell? ⟨b, off + i * 7 + 2, none⟩ = some (.int .i64 l[i].g) ∧ w.cell? ⟨b, off + i * 7 + 3, none⟩ = some (.int .i64 l[i].n) ∧ w.cell? ⟨b, off + i * 7 + 4, none⟩ = some (.int .i64 l[i].d) ∧ w.cell? ⟨b, off + i * 7 + 5, none⟩ = some (.int .i64 l[i].mn) ∧ w.cell? ⟨b, off + i * 7 + 6, none⟩ = some (.int .i64 l[i].mx) := by
  obtain ⟨b, off, c, hv, h2, h3, hlt, hc⟩ := Rd.cell h hn
  refine ⟨b, off, c, hv, h2, h3, hlt, fun i hi => ?_⟩
  obtain ⟨e0, e1, e2, e3, e4, e5, e6⟩ := bktCells_get l i hi
  have g1 := hc (i * 7 + 1) (by omega)
  have g2 := hc (i * 7 + 2) (by omega)
  have g3 := hc (i * 7 + 3) (by omega)
  have g4 := hc (i * 7 + 4) (by omega)
  have g5 := hc (i * 7 + 5) (by omega)
  have g6 := hc (i * 7 + 6) (by omega)
  exact ⟨by rw [hc (i * 7) (by omega), e0], by rw [Nat.add_assoc, g1, e1], by rw [Nat.add_assoc, g2, e2], by rw [Nat.add_assoc, g3, e3], by rw [Nat.add_assoc, g4, e4], by rw [Nat.add_assoc, g5, e5], by rw [Nat.add_assoc, g6, e6]⟩
theorem RdBkt.lenv {w : World} {v : Value} {l : List Bkt} (h : RdBkt w v l) : ∃ pa ca, v = .slice pa l.length ca := by obtain ⟨_, pa, ca, rfl, _⟩ := h; exact ⟨pa, ca, rfl⟩
theorem own_bkt {w : World} {base g c n : Nat} {l : List Bkt} (h : w.ownsRow base 75 7 (.slice (some ⟨g, 0, none⟩) n c) n (bktCells l)) (hl : l.length = n) (i : Nat) (hi : i < n) :
    w.cell? ⟨g, i * 7, none⟩ = some (.int .i64 (l[i]'(by omega)).f) ∧ w.cell? ⟨g, i * 7 + 1, none⟩ = some (.int .i64 (l[i]'(by omega)).t) ∧ w.cell? ⟨g, i * 7 + 2, none⟩ = some (.int .i64 (l[i]'(by omega)).g) ∧ w.cell? ⟨g, i * 7 + 3, none⟩ = some (.int .i64 (l[i]'(by omega)).n) ∧ w.cell? ⟨g, i * 7 + 4, none⟩ = some (.int .i64 (l[i]'(by omega)).d) ∧ w.cell? ⟨g, i * 7 + 5, none⟩ = some (.int .i64 (l[i]'(by omega)).mn) ∧ w.cell? ⟨g, i * 7 + 6, none⟩ = some (.int .i64 (l[i]'(by omega)).mx) := by
  obtain ⟨e0, e1, e2, e3, e4, e5, e6⟩ := bktCells_get l i (by omega)
  exact ⟨by rw [h.cellAt _ (by omega), e0], by rw [h.cellAt _ (by omega), e1], by rw [h.cellAt _ (by omega), e2], by rw [h.cellAt _ (by omega), e3], by rw [h.cellAt _ (by omega), e4], by rw [h.cellAt _ (by omega), e5], by rw [h.cellAt _ (by omega), e6]⟩
theorem bktCells_set (l : List Bkt) (i : Nat) (h : i < l.length) (y : Bkt) : (((((((bktCells l).set (i * 7) (.int .i64 y.f)).set (i * 7 + 1) (.int .i64 y.t)).set (i * 7 + 2) (.int .i64 y.g)).set (i * 7 + 3) (.int .i64 y.n)).set (i * 7 + 4) (.int .i64 y.d)).set (i * 7 + 5) (.int .i64 y.mn)).set (i * 7 + 6) (.int .i64 y.mx) = bktCells (l.set i y) := by
  induction l generalizing i with
  | nil => simp at h
  | cons x l ih =>
    cases i with
    | zero => simp [bktCells]
    | succ i =>
      have := ih i (by simpa using h)
      simp only [List.set_cons_succ]
      have e : ∀ (x : Bkt) (l : List Bkt), bktCells (x :: l) = [.int .i64 x.f, .int .i64 x.t, .int .i64 x.g, .int .i64 x.n, .int .i64 x.d, .int .i64 x.mn, .int .i64 x.mx] ++ bktCells l := fun _ _ => by simp [bktCells]
      rw [e, e, ← this, show (i + 1) * 7 = i * 7 + 7 from by omega, show i * 7 + 7 + 1 = i * 7 + 1 + 7 from by omega, show i * 7 + 7 + 2 = i * 7 + 2 + 7 from by omega, show i * 7 + 7 + 3 = i * 7 + 3 + 7 from by omega, show i * 7 + 7 + 4 = i * 7 + 4 + 7 from by omega, show i * 7 + 7 + 5 = i * 7 + 5 + 7 from by omega, show i * 7 + 7 + 6 = i * 7 + 6 + 7 from by omega]
      simp
end Go.Proofs.Ytmcojidaimeijaa
