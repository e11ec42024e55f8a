/- GoodTime (package query). No condition. -/
/- GoodOf (the reference), for a right series and a right window. -/
import Derived.Test.YtamcbiajicnbfaaVlo
import Derived.Test.YtamcbiajicnbfaaStro
import Derived.Test.YtamcbiajicnbfaaAgg
import Derived.Test.YtamcbiajicnbfaaAbv
import Derived.Test.YtamcbiajicnbfaaKmm
import Derived.WalkHide
namespace Go.Proofs.Ytamcbiajicnbfaa
open Go.RowKit
set_option linter.unusedVariables false
set_option linter.unusedSimpArgs false

/-- How long the quality is at most q. -/
def goodS (q : Int) (r : List Str) : Int := r.foldl (fun n x => if x.s.q ≤ q then n + (x.b - x.a) else n) 0
theorem goodS_snoc (q : Int) (r : List Str) (x : Str) : goodS q (r ++ [x]) = if x.s.q ≤ q then goodS q r + (x.b - x.a) else goodS q r := by simp [goodS]
theorem goodS_take (q : Int) (r : List Str) (k : Nat) (h : k < r.length) : goodS q (r.take (k + 1)) = if (atT r k).s.q ≤ q then goodS q (r.take k) + ((atT r k).b - (atT r k).a) else goodS q (r.take k) := by
  rw [List.take_succ_eq_append_getElem h, goodS_snoc, atT_eq r k h]
theorem goodS_bound (q f t : Int) (hW : 0 ≤ f ∧ f ≤ t ∧ t ≤ 345686400000) (r : List Str) : (∀ x ∈ r, StrOk f t x) → 0 ≤ goodS q r ∧ goodS q r ≤ r.length * 345686400000 := by
  refine snocI (P := fun r => (∀ x ∈ r, StrOk f t x) → 0 ≤ goodS q r ∧ goodS q r ≤ r.length * 345686400000) ?_ (fun r x ih => ?_) r
  · intro _; simp [goodS]
  · intro h
    have h1 := ih (fun y hy => h y (by simp [hy]))
    have h2 := h x (by simp)
    unfold StrOk at h2
    rw [goodS_snoc]
    simp only [List.length_append, List.length_cons, List.length_nil]
    split <;> omega

set_option maxRecDepth 100000 in
set_option maxHeartbeats 4000000 in
theorem goodOf_any (v : Value) (l : List Smp) (f t q : Int) (w : World) (hR : RdS w 71 v l) (hS : serErr l = 0) (hW : 0 ≤ f ∧ f ≤ t ∧ t ≤ 345686400000) :
    Calls Try.prog 75 #[v, .agg #[.int .i64 f, .int .i64 t], .int .i64 q] w fun e w' => e = .returned (.int .i64 (goodS q (strL l f t))) ∧ Below w.heap.size w w' := by
  have hbw : Below w.heap.size w (w.alloc (.cells #[.int .i64 f, .int .i64 t] 82)) := (Below.refl _ w).alloc (Nat.le_refl _) _
  have hva := stretches_any v l f t _ (Rd.alloc hR (.cells #[.int .i64 f, .int .i64 t] 82)) hS hW
  have hlong := (serErr_good hS).1
  have hvl := strL_long l f t
  have hok := strL_ok (f := f) (t := t) hS
  generalize strL l f t = R at *
  have HVA := Lib.hid hva
  have HOK := Lib.hid hok
  clear hva hR hok
  have hmx : Try.prog.follows .mixedOrders = true := by kernel_rfl
  go_enter Try.func75, Try.ntmps75
  go_wp2_with fail
  refine HVA.out.mono ?_
  rintro e w1 ⟨vr, rfl, hrd0, hb1⟩
  have hrd : RdStr w1 vr R := Rd.of_own hrd0
  obtain ⟨_, pr, cr, rfl, _⟩ := id hrd
  have hb := hbw.trans (hb1.mono hbw.size)
  have HRD := Lib.hid hrd
  clear HVA hbw hb1 hrd hrd0
  go_wp2_with fail
  go_loopw [7, 14] (fun g i wr => ∃ k : Nat, k ≤ R.length ∧ i = .int .i64 (k : Int) ∧ g = .int .i64 (goodS q (R.take k)) ∧ Below w1.heap.size w1 wr) (fun _ i _ => R.length - (intOf i).toNat)
  case atStart => exact ⟨0, by omega, rfl, rfl, Below.refl _ _⟩
  case round =>
    obtain ⟨k, hk, rfl, rfl, hbr⟩ := hrel
    have hbk := goodS_bound q f t hW (R.take k) (fun x hx => HOK.out x (List.mem_of_mem_take hx))
    have hlk : (R.take k).length ≤ 5000 := by simp; omega
    by_cases hkl : k < R.length
    · have hRr : RdStr wr _ R := Rd.below HRD.out hbr
      obtain ⟨b, off, c, hv, hc1, hc2, hblt, hcell⟩ := RdStr.at_ hRr (by omega)
      cases hv
      unfold maxLen at hc2
      obtain ⟨c0, c1, c2, c3, c4⟩ := hcell k hkl
      have hx := HOK.out _ (atT_mem R k hkl)
      unfold StrOk at hx
      have HT := Lib.hid (goodS_take q R k hkl)
      have hlg := fun w => rlong_eq (atT R k).a (atT R k).b w ⟨by omega, by omega, by omega⟩
      generalize atT R k = x at *
      generalize goodS q (R.take k) = A at *
      have hA : 0 ≤ A ∧ A ≤ 1728432000000000 := by omega
      have hba := hbr.alloc hbr.size (.cells #[.int .i64 x.a, .int .i64 x.b, .int .i64 x.s.t, .int .i64 x.s.v, .int .i64 x.s.q] 192)
      have bX := Blk.new wr 192 #[.int .i64 x.a, .int .i64 x.b, .int .i64 x.s.t, .int .i64 x.s.v, .int .i64 x.s.q]
      clear hcell hRr hbk hlk
      go_upto_region 5 with fail
      generalize hw5 : wr.alloc (.cells #[.int .i64 x.a, .int .i64 x.b, .int .i64 x.s.t, .int .i64 x.s.v, .int .i64 x.s.q] 192) = w5 at *
      generalize wr.heap.size = n5 at *
      have d0 := bX.cell 0
      have d1 := bX.cell 1
      have d4 := bX.cell 4
      have z5 := bX.lt
      have hm2 : IntKind.i64.wrap (A + (x.b - x.a)) = A + (x.b - x.a) := IntWalk.i64_in _ (by omega)
      clear hw5 c0 c1 c2 c3 c4
      by_cases hq : x.s.q ≤ q
      · go_wp2_with (go_at_call 149; refine (hlg _).mono ?_; rintro e wk ⟨rfl, rfl⟩)
        go_roundw
        case rel => exact ⟨k + 1, by omega, by go_num, by rw [HT.out, if_pos hq], hba.alloc hba.size _⟩
        case measure => simp [intOf]; omega
      · go_wp2_with (go_at_call 149; refine (hlg _).mono ?_; rintro e wk ⟨rfl, rfl⟩)
        go_roundw
        case rel => exact ⟨k + 1, by omega, by go_num, by rw [HT.out, if_neg hq], hba⟩
        case measure => simp [intOf]; omega
    · have hkE : k = R.length := by omega
      subst hkE
      rw [List.take_length] at *
      go_wp2_with fail
      go_ret
      exact ⟨rfl, hb.trans (hbr.mono hb.size)⟩
end Go.Proofs.Ytamcbiajicnbfaa
namespace Go.Proofs.Ytamcbiajicnbfaa
open Go.RowKit Go.Shelf
set_option linter.unusedVariables false
set_option linter.unusedSimpArgs false
attribute [local go_sem] Oper.semAt_some

theorem goodS_is (q : Int) (r : List Str) : (agS (r.filter fun x => decide (x.s.q ≤ q))).g = goodS q r := by
  refine snocI (P := fun r => (agS (r.filter fun x => decide (x.s.q ≤ q))).g = goodS q r) ?_ (fun r x ih => ?_) r
  · rfl
  · rw [List.filter_append, goodS_snoc]
    by_cases h : x.s.q ≤ q
    · rw [if_pos h, ← ih]
      simp only [List.filter_cons, h, decide_true, if_true, List.filter_nil]
      rw [agS_snoc]; rfl
    · rw [if_neg h, ← ih]
      simp [h]
theorem goodR_is {l : List Smp} {f t : Int} (q : Int) (hS : serErr l = 0) (hW : 0 ≤ f ∧ f ≤ t ∧ t ≤ 345686400000) : (agR (rnsOf q (strL l f t))).g = goodS q (strL l f t) := by
  rw [agR_map f t q hW.1 hW.2.2 _ (strL_ok hS)]
  exact goodS_is q _

def gdE (l : List Smp) (f t q : Int) : Int := orE (orE (serErr l) (winErr f t)) (if q = 0 ∨ q = 1 then 0 else 4)
def gdR (l : List Smp) (f t q : Int) : Int := if gdE l f t q = 0 then goodS q (strL l f t) else 0

/-- What a round of GoodTime finds. -/
structure GtI (w0 : World) (P bw bl bq : Nat) (v : Value) (l : List Smp) (f t q s : Int) (W : World) : Prop where
  tb : Blk W P 3 #[.int .i64 s]
  rn : RnK w0 bw bl bq v l f t q W
  h1 : w0.heap.size < P
  h2 : P < bw ∧ P < bl ∧ P < bq
section
variable {w0 W W' : World} {P bw bl bq : Nat} {v : Value} {l : List Smp} {f t q s : Int}
theorem GtI.step (h : GtI w0 P bw bl bq v l f t q s W) (hb : Below W.heap.size W W') : GtI w0 P bw bl bq v l f t q s W' := ⟨h.tb.below hb h.tb.lt, h.rn.step hb, h.h1, h.h2⟩
theorem GtI.turned (h : GtI w0 P bw bl bq v l f t q s W) {row : Option Nat} (hg : W.grownBy W' row) (hr : ∀ r, row = some r → w0.heap.size ≤ r ∧ ∃ o : Obj, W.heap[r]? = some o ∧ o.isCells = false) : GtI w0 P bw bl bq v l f t q s W' :=
  ⟨blk_own (β := Unit) _ _ _ () _ _ _ h.tb hg (fun r e => (hr r e).2), h.rn.turned hg hr, h.h1, h.h2⟩
theorem GtI.setT (h : GtI w0 P bw bl bq v l f t q s W) (hR : RdS w0 71 v l) (s' : Int) : GtI w0 P bw bl bq v l f t q s' (W.setCell ⟨P, 0, none⟩ (.int .i64 s')) := by
  have hP := h.h1
  have h2 := h.h2
  exact ⟨blk_set h.tb 0 _, h.rn.setCell hR _ _ (by simp; omega) (by simp; omega) (by simp; omega) (by simp; omega), h.h1, h.h2⟩
end

set_option maxRecDepth 100000 in
set_option maxHeartbeats 4000000 in
theorem goodTime_any (v : Value) (l : List Smp) (f t q : Int) (w : World) (hR : RdS w 71 v l) :
    Calls Try.prog 74 #[v, .agg #[.int .i64 f, .int .i64 t], .int .i64 q] w fun e w' => e = .returned (.tuple #[.int .i64 (gdR l f t q), .int .i64 (gdE l f t q)]) ∧ Below w.heap.size w w' := by
  obtain ⟨pa, ca, rfl⟩ := hR.lenv
  have hmx : Try.prog.follows .mixedOrders = true := by kernel_rfl
  have hE : gdE l f t q = orE (orE (serErr l) (winErr f t)) (if q = 0 ∨ q = 1 then 0 else 4) := rfl
  have hRR : gdR l f t q = if gdE l f t q = 0 then goodS q (strL l f t) else 0 := rfl
  have hba : Below w.heap.size w (w.alloc (.cells #[.int .i64 f, .int .i64 t] 82)) := (Below.refl _ w).alloc (Nat.le_refl _) _
  have bw0 : Blk (w.alloc (.cells #[.int .i64 f, .int .i64 t] 82)) w.heap.size 82 #[.int .i64 f, .int .i64 t] := Blk.new w _ _
  have hsz : (w.alloc (.cells #[.int .i64 f, .int .i64 t] 82)).heap.size = w.heap.size + 1 := by simp
  generalize gdE l f t q = E at *
  generalize gdR l f t q = RR at *
  have HE := Lib.hid hE
  have HRR := Lib.hid hRR
  have hbb := hba.alloc hba.size (.cells #[.slice pa l.length ca] 32)
  have hqc := qcheck1_any (w.heap.size + 1) (.slice pa l.length ca) l f t ((w.alloc (.cells #[.int .i64 f, .int .i64 t] 82)).alloc (.cells #[.slice pa l.length ca] 32)) (Blk.new1 _ _ _ _) (Rd.below hR hbb)
  have bw1 := bw0.alloc (.cells #[.slice pa l.length ca] 32)
  refine (callsIn_wide (n := 5)).1 ?_
  refine callsIn_of_wp_marks Try.func74 rfl trivial ?_ rfl
  simp only [Try.ntmps74, List.size_toArray, List.length_cons, List.length_nil, Nat.reduceAdd, Nat.reduceSub, Array.replicate_succ, Array.replicate_zero, List.push_toArray, List.append_toArray, List.nil_append, List.cons_append]
  gi_upto_region 1 with fail
  generalize w.alloc (.cells #[.int .i64 f, .int .i64 t] 82) = w1 at *
  have e0 := bw0.cell 0
  have e1 := bw0.cell 1
  clear hE hRR hba
  have HWE := Lib.hid (fun h : orE (serErr l) (winErr f t) = 0 => And.intro (orE_zero h).1 (winErr_ok (orE_zero h).2))
  generalize orE (serErr l) (winErr f t) = F at *
  by_cases hF : F = 0
  · have hF' : (F != 0) = false := by simpa using hF
    have HF := Lib.hid hF
    obtain ⟨hS, hW⟩ := HWE.out hF
    clear hF HWE
    by_cases hq : q = 0 ∨ q = 1
    · have HE1 := Lib.hid (show E = 0 by rw [HE.out, if_pos hq, HF.out]; rfl)
      clear HE
      rcases hq with rfl | rfl
      · gi_wp2_with (first
          | (refine ⟨trivial, ?_⟩; gi_at_call 134; refine (callsIn_wide.2 hqc).mono ?_; clear hqc; rintro e w2 ⟨rfl, hb2⟩; have bw2 := bw1.below hb2 bw1.lt; have be2 := hbb.trans (hb2.mono hbb.size); clear e0 e1; have e0 := bw2.cell 0; have e1 := bw2.cell 1; have z0 := bw2.lt)
          | (refine ⟨trivial, ?_⟩; gi_at_call 147; refine (callsIn_wide.2 (runs_any _ l.length ca pa rfl f t 0 _)).mono ?_; rintro e w' ⟨rfl, rfl⟩))
        have hlong := (serErr_good hS).1
        have hbe3 : Below w2.heap.size w2 ((((w2.alloc (Obj.cells #[Value.int .i64 0] 3)).alloc (Obj.cells #[Value.slice pa l.length ca] 32)).alloc (Obj.cells #[Value.int .i64 f, Value.int .i64 t] 82)).alloc (Obj.cells #[Value.int .i64 0] 3)) := ((((Below.refl _ w2).alloc (Nat.le_refl _) _).alloc (by simp) _).alloc (by simp; omega) _).alloc (by simp; omega) _
        have hpi : GtI w w2.heap.size (w2.heap.size + 1 + 1) (w2.heap.size + 1) (w2.heap.size + 1 + 1 + 1) (.slice pa l.length ca) l f t 0 0 ((((w2.alloc (Obj.cells #[Value.int .i64 0] 3)).alloc (Obj.cells #[Value.slice pa l.length ca] 32)).alloc (Obj.cells #[Value.int .i64 f, Value.int .i64 t] 82)).alloc (Obj.cells #[Value.int .i64 0] 3)) := by
          have g1 := ((Blk.new1 w2 (Obj.cells #[Value.int .i64 0] 3) 32 #[Value.slice pa l.length ca]).alloc (Obj.cells #[Value.int .i64 f, Value.int .i64 t] 82)).alloc (Obj.cells #[Value.int .i64 0] 3)
          have g2 := (Blk.new ((w2.alloc (Obj.cells #[Value.int .i64 0] 3)).alloc (Obj.cells #[Value.slice pa l.length ca] 32)) 82 #[Value.int .i64 f, Value.int .i64 t]).alloc (Obj.cells #[Value.int .i64 0] 3)
          have g3 := Blk.new (((w2.alloc (Obj.cells #[Value.int .i64 0] 3)).alloc (Obj.cells #[Value.slice pa l.length ca] 32)).alloc (Obj.cells #[Value.int .i64 f, Value.int .i64 t] 82)) 3 #[Value.int .i64 0]
          simp only [World.size_alloc] at g1 g2 g3
          have hlo := be2.trans (hbe3.mono be2.size)
          exact ⟨(((Blk.new w2 _ _).alloc _).alloc _).alloc _, ⟨g2, g1, g3, Rd.below hR hlo, hlo⟩, z0, by omega⟩
        generalize ((((w2.alloc (Obj.cells #[Value.int .i64 0] 3)).alloc (Obj.cells #[Value.slice pa l.length ca] 32)).alloc (Obj.cells #[Value.int .i64 f, Value.int .i64 t] 82)).alloc (Obj.cells #[Value.int .i64 0] 3)) = W0 at *
        generalize w2.heap.size = P at *
        clear bw2 be2 e0 e1 hbe3 bw0 bw1 hbb
        refine wpIn_rangeFunc_ownH rfl (by omega) (gf := 183) (lb := #[.pointer (some ⟨P + 1 + 1, 0, none⟩), .pointer (some ⟨P + 1, 0, none⟩), .pointer (some ⟨P + 1 + 1 + 1, 0, none⟩)]) rfl trivial (enters_of Try.func183 (by kernel_rfl) rfl)
          (runs_stops (5 - 1) (P + 1 + 1) (P + 1) (P + 1 + 1 + 1) w _ l f t 0 (by omega) hR hS hW W0 hpi.rn) (fun h k => h.trans k) (Kpn.putObj hpi.rn.lo.size (fun k hk => by have h1 := hpi.rn.bw.lt; have h2 := hpi.rn.bl.lt; have h3 := hpi.rn.bq.lt; simp at hk; omega)) (Below.refl _ _) (fun _ => rfl)
          (fun pre W => GtI w P (P + 1 + 1) (P + 1) (P + 1 + 1 + 1) (.slice pa l.length ca) l f t 0 (agR pre).g W)
          (fun _ _ _ => False)
          (fun pre X Y row hs hg hr => hs.turned hg (fun r e => ⟨Nat.le_trans hpi.rn.lo.size (hr r e).1, (hr r e).2⟩))
          (fun _ _ _ _ _ hs _ _ => hs)
          hpi
          (fun x a' W => ∃ Bx, P + 1 + 1 + 1 < Bx ∧ Blk W Bx 82 #[.int .i64 x.1.2.1, .int .i64 x.1.2.2] ∧ a' = { tmps := #[.slice pa l.length ca, .agg #[.int .i64 f, .int .i64 t], .int .i64 0, undef, .pointer (some ⟨w.heap.size, 0, none⟩), undef, .int .i64 0, .int .i64 0, .int .i64 F, .pointer (some ⟨P, 0, none⟩), undef, .pointer (some ⟨Bx, 0, none⟩), .agg #[.int .i64 f, .int .i64 t], .slice pa l.length ca, .slice (some ⟨w.heap.size + 1, 0, none⟩) 1 1, .int .i64 F, .bool false, .int .i64 F, .bool false, undef, .bool false, .int .i64 0, .bool false, .bool false, undef, undef, .bool false, .slice pa l.length ca, .agg #[.int .i64 f, .int .i64 t], .int .i64 0, .func (.func 183) #[] #[.pointer (some ⟨P + 1 + 1, 0, none⟩), .pointer (some ⟨P + 1, 0, none⟩), .pointer (some ⟨P + 1 + 1 + 1, 0, none⟩)], .int .i64 x.1.1, .agg #[.int .i64 x.1.2.1, .int .i64 x.1.2.2], undef, undef, undef, undef, undef], defers := [] })
          (fun x a' _ X Y row hs hg hr => by obtain ⟨Bx, h1, h2, h3⟩ := hs; exact ⟨Bx, h1, blk_own (β := Unit) _ _ _ () X Y row h2 hg (fun r e => (hr r e).2), h3⟩)
          ?assign ?body ?done ?stop
        case assign =>
          rintro li pre x W K hI hK
          simp only [encRn]
          gi_wp2
          have hbA := (Below.refl W.heap.size W).alloc (Nat.le_refl _) (.cells #[.int .i64 x.1.2.1, .int .i64 x.1.2.2] 82)
          exact hK _ _ (keepsFrom_of hbA) (hI.rn.keeps (hI.rn.step hbA) (hbA.mono hI.rn.lo.size)) (hI.step hbA) ⟨W.heap.size, hI.rn.bq.lt, Blk.new _ _ _, rfl⟩
        case body =>
          rintro li pre x a' W hl ⟨r, hr⟩ hI ⟨Bx, hBx, bX, rfl⟩ hlt
          have HSN := Lib.hid (show (agR (pre ++ [x])).g = (agR pre).g + (x.1.2.2 - x.1.2.1) by rw [agR_snoc]; rfl)
          have hgd := agR_good pre
          have hx := x.2
          generalize (agR pre).g = A at *
          have hA : 0 ≤ A ∧ A ≤ 1728432000000000 := by omega
          have hlg := fun w => long_eq x.1.2.1 x.1.2.2 w ⟨by omega, by omega, by omega⟩
          have hm1 : IntKind.i64.wrap (A + (x.1.2.2 - x.1.2.1)) = A + (x.1.2.2 - x.1.2.1) := IntWalk.i64_in _ (by omega)
          have hP2 := hI.h2
          have s0 : W.cell? ⟨P, 0, none⟩ = some (.int .i64 A) := hI.tb.cell 0
          have s1 : W.frozen? ⟨P, 0, none⟩ = false := hI.tb.frozen 0
          have s2 := hI.tb.lt
          have b0 : W.cell? ⟨Bx, 0, none⟩ = some (.int .i64 x.1.2.1) := bX.cell 0
          have b1 : W.cell? ⟨Bx, 1, none⟩ = some (.int .i64 x.1.2.2) := bX.cell 1
          have b2 := bX.lt
          have HI := Lib.hid hI
          have hPB : P ≠ Bx := by omega
          clear hI bX hr hl hgd hpi
          dsimp only
          gi_upto_region 9 with fail
          gi_region_with_o (refine ⟨trivial, ?_⟩; gi_at_call 144; refine (CallsIn.inRound li (callsIn_wide.2 (hlg _))).mono ?_; rintro e w' ⟨rfl, rfl⟩)
          all_goals gi_wp2
          all_goals
            have hI5 := ((HI.out.setT hR (A + (x.1.2.2 - x.1.2.1))).step ((Below.refl _ _).alloc (Nat.le_refl _) (.cells #[.int .i64 x.1.2.1, .int .i64 x.1.2.2] 82))).step (drew_below _)
            have hI := HI.out
            exact ⟨((KeepsOthers.setCell _ _ _).from _).trans (((KeepsOthers.alloc _ _).trans (KeepsOthers.drew _)).from _), hI.rn.keeps hI5.rn ((((Below.refl _ W).setCell (by have := hI.h1; simp; omega) _).alloc (by have := hI.rn.lo.size; simp; omega) _).drew), by dsimp only; rw [HSN.out]; exact hI5⟩
        case done =>
          rintro D ys W hD rfl hI hK
          rw [goodR_is _ hS hW] at hI
          have c1 := hI.tb.cell 0
          gi_wp2
          refine ⟨by simp, .inl ⟨_, _, rfl, run_takeDeferred (by exact hK), ?_⟩⟩
          exact ⟨.tuple #[.int .i64 (goodS 0 (strL l f t)), .int .i64 0], by simp [results, Try.results74, go_sem], by rw [HRR.out, HE1.out]; rfl, hI.rn.lo.trans (belowK_b (w := w) (Nat.le_refl _) W D _ _ (by have := hpi.rn.lo.size; omega) hK rfl rfl)⟩
        case stop =>
          rintro D c pre W _ _ h _
          exact h.elim
      · gi_wp2_with (first
          | (refine ⟨trivial, ?_⟩; gi_at_call 134; refine (callsIn_wide.2 hqc).mono ?_; clear hqc; rintro e w2 ⟨rfl, hb2⟩; have bw2 := bw1.below hb2 bw1.lt; have be2 := hbb.trans (hb2.mono hbb.size); clear e0 e1; have e0 := bw2.cell 0; have e1 := bw2.cell 1; have z0 := bw2.lt)
          | (refine ⟨trivial, ?_⟩; gi_at_call 147; refine (callsIn_wide.2 (runs_any _ l.length ca pa rfl f t 1 _)).mono ?_; rintro e w' ⟨rfl, rfl⟩))
        have hlong := (serErr_good hS).1
        have hbe3 : Below w2.heap.size w2 ((((w2.alloc (Obj.cells #[Value.int .i64 0] 3)).alloc (Obj.cells #[Value.slice pa l.length ca] 32)).alloc (Obj.cells #[Value.int .i64 f, Value.int .i64 t] 82)).alloc (Obj.cells #[Value.int .i64 1] 3)) := ((((Below.refl _ w2).alloc (Nat.le_refl _) _).alloc (by simp) _).alloc (by simp; omega) _).alloc (by simp; omega) _
        have hpi : GtI w w2.heap.size (w2.heap.size + 1 + 1) (w2.heap.size + 1) (w2.heap.size + 1 + 1 + 1) (.slice pa l.length ca) l f t 1 0 ((((w2.alloc (Obj.cells #[Value.int .i64 0] 3)).alloc (Obj.cells #[Value.slice pa l.length ca] 32)).alloc (Obj.cells #[Value.int .i64 f, Value.int .i64 t] 82)).alloc (Obj.cells #[Value.int .i64 1] 3)) := by
          have g1 := ((Blk.new1 w2 (Obj.cells #[Value.int .i64 0] 3) 32 #[Value.slice pa l.length ca]).alloc (Obj.cells #[Value.int .i64 f, Value.int .i64 t] 82)).alloc (Obj.cells #[Value.int .i64 1] 3)
          have g2 := (Blk.new ((w2.alloc (Obj.cells #[Value.int .i64 0] 3)).alloc (Obj.cells #[Value.slice pa l.length ca] 32)) 82 #[Value.int .i64 f, Value.int .i64 t]).alloc (Obj.cells #[Value.int .i64 1] 3)
          have g3 := Blk.new (((w2.alloc (Obj.cells #[Value.int .i64 0] 3)).alloc (Obj.cells #[Value.slice pa l.length ca] 32)).alloc (Obj.cells #[Value.int .i64 f, Value.int .i64 t] 82)) 3 #[Value.int .i64 1]
          simp only [World.size_alloc] at g1 g2 g3
          have hlo := be2.trans (hbe3.mono be2.size)
          exact ⟨(((Blk.new w2 _ _).alloc _).alloc _).alloc _, ⟨g2, g1, g3, Rd.below hR hlo, hlo⟩, z0, by omega⟩
        generalize ((((w2.alloc (Obj.cells #[Value.int .i64 0] 3)).alloc (Obj.cells #[Value.slice pa l.length ca] 32)).alloc (Obj.cells #[Value.int .i64 f, Value.int .i64 t] 82)).alloc (Obj.cells #[Value.int .i64 1] 3)) = W0 at *
        generalize w2.heap.size = P at *
        clear bw2 be2 e0 e1 hbe3 bw0 bw1 hbb
        refine wpIn_rangeFunc_ownH rfl (by omega) (gf := 183) (lb := #[.pointer (some ⟨P + 1 + 1, 0, none⟩), .pointer (some ⟨P + 1, 0, none⟩), .pointer (some ⟨P + 1 + 1 + 1, 0, none⟩)]) rfl trivial (enters_of Try.func183 (by kernel_rfl) rfl)
          (runs_stops (5 - 1) (P + 1 + 1) (P + 1) (P + 1 + 1 + 1) w _ l f t 1 (by omega) hR hS hW W0 hpi.rn) (fun h k => h.trans k) (Kpn.putObj hpi.rn.lo.size (fun k hk => by have h1 := hpi.rn.bw.lt; have h2 := hpi.rn.bl.lt; have h3 := hpi.rn.bq.lt; simp at hk; omega)) (Below.refl _ _) (fun _ => rfl)
          (fun pre W => GtI w P (P + 1 + 1) (P + 1) (P + 1 + 1 + 1) (.slice pa l.length ca) l f t 1 (agR pre).g W)
          (fun _ _ _ => False)
          (fun pre X Y row hs hg hr => hs.turned hg (fun r e => ⟨Nat.le_trans hpi.rn.lo.size (hr r e).1, (hr r e).2⟩))
          (fun _ _ _ _ _ hs _ _ => hs)
          hpi
          (fun x a' W => ∃ Bx, P + 1 + 1 + 1 < Bx ∧ Blk W Bx 82 #[.int .i64 x.1.2.1, .int .i64 x.1.2.2] ∧ a' = { tmps := #[.slice pa l.length ca, .agg #[.int .i64 f, .int .i64 t], .int .i64 1, undef, .pointer (some ⟨w.heap.size, 0, none⟩), undef, .int .i64 0, .int .i64 0, .int .i64 F, .pointer (some ⟨P, 0, none⟩), undef, .pointer (some ⟨Bx, 0, none⟩), .agg #[.int .i64 f, .int .i64 t], .slice pa l.length ca, .slice (some ⟨w.heap.size + 1, 0, none⟩) 1 1, .int .i64 F, .bool false, .int .i64 F, .bool false, undef, .bool false, .int .i64 1, .bool true, .bool true, .int .i64 1, .bool false, .bool false, .slice pa l.length ca, .agg #[.int .i64 f, .int .i64 t], .int .i64 1, .func (.func 183) #[] #[.pointer (some ⟨P + 1 + 1, 0, none⟩), .pointer (some ⟨P + 1, 0, none⟩), .pointer (some ⟨P + 1 + 1 + 1, 0, none⟩)], .int .i64 x.1.1, .agg #[.int .i64 x.1.2.1, .int .i64 x.1.2.2], undef, undef, undef, undef, undef], defers := [] })
          (fun x a' _ X Y row hs hg hr => by obtain ⟨Bx, h1, h2, h3⟩ := hs; exact ⟨Bx, h1, blk_own (β := Unit) _ _ _ () X Y row h2 hg (fun r e => (hr r e).2), h3⟩)
          ?assign ?body ?done ?stop
        case assign =>
          rintro li pre x W K hI hK
          simp only [encRn]
          gi_wp2
          have hbA := (Below.refl W.heap.size W).alloc (Nat.le_refl _) (.cells #[.int .i64 x.1.2.1, .int .i64 x.1.2.2] 82)
          exact hK _ _ (keepsFrom_of hbA) (hI.rn.keeps (hI.rn.step hbA) (hbA.mono hI.rn.lo.size)) (hI.step hbA) ⟨W.heap.size, hI.rn.bq.lt, Blk.new _ _ _, rfl⟩
        case body =>
          rintro li pre x a' W hl ⟨r, hr⟩ hI ⟨Bx, hBx, bX, rfl⟩ hlt
          have HSN := Lib.hid (show (agR (pre ++ [x])).g = (agR pre).g + (x.1.2.2 - x.1.2.1) by rw [agR_snoc]; rfl)
          have hgd := agR_good pre
          have hx := x.2
          generalize (agR pre).g = A at *
          have hA : 0 ≤ A ∧ A ≤ 1728432000000000 := by omega
          have hlg := fun w => long_eq x.1.2.1 x.1.2.2 w ⟨by omega, by omega, by omega⟩
          have hm1 : IntKind.i64.wrap (A + (x.1.2.2 - x.1.2.1)) = A + (x.1.2.2 - x.1.2.1) := IntWalk.i64_in _ (by omega)
          have hP2 := hI.h2
          have s0 : W.cell? ⟨P, 0, none⟩ = some (.int .i64 A) := hI.tb.cell 0
          have s1 : W.frozen? ⟨P, 0, none⟩ = false := hI.tb.frozen 0
          have s2 := hI.tb.lt
          have b0 : W.cell? ⟨Bx, 0, none⟩ = some (.int .i64 x.1.2.1) := bX.cell 0
          have b1 : W.cell? ⟨Bx, 1, none⟩ = some (.int .i64 x.1.2.2) := bX.cell 1
          have b2 := bX.lt
          have HI := Lib.hid hI
          have hPB : P ≠ Bx := by omega
          clear hI bX hr hl hgd hpi
          dsimp only
          gi_upto_region 9 with fail
          gi_region_with_o (refine ⟨trivial, ?_⟩; gi_at_call 144; refine (CallsIn.inRound li (callsIn_wide.2 (hlg _))).mono ?_; rintro e w' ⟨rfl, rfl⟩)
          all_goals gi_wp2
          all_goals
            have hI5 := ((HI.out.setT hR (A + (x.1.2.2 - x.1.2.1))).step ((Below.refl _ _).alloc (Nat.le_refl _) (.cells #[.int .i64 x.1.2.1, .int .i64 x.1.2.2] 82))).step (drew_below _)
            have hI := HI.out
            exact ⟨((KeepsOthers.setCell _ _ _).from _).trans (((KeepsOthers.alloc _ _).trans (KeepsOthers.drew _)).from _), hI.rn.keeps hI5.rn ((((Below.refl _ W).setCell (by have := hI.h1; simp; omega) _).alloc (by have := hI.rn.lo.size; simp; omega) _).drew), by dsimp only; rw [HSN.out]; exact hI5⟩
        case done =>
          rintro D ys W hD rfl hI hK
          rw [goodR_is _ hS hW] at hI
          have c1 := hI.tb.cell 0
          gi_wp2
          refine ⟨by simp, .inl ⟨_, _, rfl, run_takeDeferred (by exact hK), ?_⟩⟩
          exact ⟨.tuple #[.int .i64 (goodS 1 (strL l f t)), .int .i64 0], by simp [results, Try.results74, go_sem], by rw [HRR.out, HE1.out]; rfl, hI.rn.lo.trans (belowK_b (w := w) (Nat.le_refl _) W D _ _ (by have := hpi.rn.lo.size; omega) hK rfl rfl)⟩
        case stop =>
          rintro D c pre W _ _ h _
          exact h.elim
    · have hq0 : (q != 0) = true := by simp; omega
      have hq1 : (q != 1) = true := by simp; omega
      have HE1 := Lib.hid (show E = 4 by rw [HE.out, if_neg hq, HF.out]; rfl)
      clear HE hq
      gi_wp2_with (refine ⟨trivial, ?_⟩; gi_at_call 134; refine (callsIn_wide.2 hqc).mono ?_; clear hqc; rintro e w2 ⟨rfl, hb2⟩; have be2 := hbb.trans (hb2.mono hbb.size))
      exact ⟨.tuple #[.int .i64 0, .int .i64 4], by simp [results, Try.results74, go_sem], by rw [HRR.out, HE1.out]; rfl, be2⟩
  · have hF' : (F != 0) = true := by simpa using hF
    have HE1 := Lib.hid (show E = F by rw [HE.out, orE_first hF])
    have HF := Lib.hid hF
    clear hF HE HWE
    gi_wp2_with (refine ⟨trivial, ?_⟩; gi_at_call 134; refine (callsIn_wide.2 hqc).mono ?_; clear hqc; rintro e w2 ⟨rfl, hb2⟩; have be2 := hbb.trans (hb2.mono hbb.size))
    exact ⟨.tuple #[.int .i64 0, .int .i64 F], by simp [results, Try.results74, go_sem], by rw [HRR.out, HE1.out, if_neg HF.out], be2⟩
end Go.Proofs.Ytamcbiajicnbfaa
