/- valued, IntegralOf (the reference), for a right series and a right window. -/
import Derived.Test.YtamcbiajicnbfaaVdel
import Derived.Test.YtamcbiajicnbfaaAgm
import Derived.Test.YtamcbiajicnbfaaOnline
import Derived.Test.YtamcbiajicnbfaaAround
import Derived.Deep.RegionWith
namespace Go.Proofs.Ytamcbiajicnbfaa
open Go.RowKit
set_option linter.unusedVariables false
set_option linter.unusedSimpArgs false

theorem rlong_eq (f t : Int) (w : World) (hW : 0 ≤ f ∧ f ≤ t ∧ t ≤ 345686400000) :
    Calls Try.prog 149 #[.agg #[.int .i64 f, .int .i64 t]] w fun e w' => e = .returned (.int .i64 (t - f)) ∧ w' = w.alloc (.cells #[.int .i64 f, .int .i64 t] 82) := by
  go_enter Try.func149, Try.ntmps149
  go_wp2_with fail
  go_ret
  exact ⟨rfl, rfl⟩
theorem valued1_asks (base : Nat) (w : World) : AsksBT base w 185 #[] (fun x => decide (x.s.q = 2)) := by
  intro x w' hb
  unfold strAgg
  have hbw : Below w'.heap.size w' (w'.alloc (.cells #[.int .i64 x.a, .int .i64 x.b, .int .i64 x.s.t, .int .i64 x.s.v, .int .i64 x.s.q] 192)) := (Below.refl _ w').alloc (Nat.le_refl _) _
  go_enter Try.func185, Try.ntmps185
  go_wp2_with fail
  go_ret
  exact ⟨ret_bool (by by_cases h : x.s.q = 2 <;> simp [h]), hbw⟩
theorem enter_valued1 (args : Array Value) (w : World) : (callFunc 185 args).run Try.prog w = .ok (.enter 185 args) w := by kernel_rfl

theorem valL_eq {l : List Smp} {f t : Int} (hS : serErr l = 0) : (strL l f t).filter (fun x => !decide (x.s.q = 2)) = valL l f t := by
  unfold valL
  apply List.filter_congr
  intro x hx
  have := strL_ok hS x hx
  unfold StrOk at this
  by_cases h : x.s.q = 2
  · simp [h]
  · have h1 : x.s.q ≤ 1 := by omega
    simp [h, h1]
theorem valL_long (l : List Smp) (f t : Int) : (valL l f t).length ≤ l.length := Nat.le_trans (List.length_filter_le _ _) (strL_long l f t)

theorem valuedO_any (v : Value) (l : List Smp) (f t : Int) (w : World) (hR : RdS w 71 v l) (hS : serErr l = 0) (hW : 0 ≤ f ∧ f ≤ t ∧ t ≤ 345686400000) :
    Calls Try.prog 150 #[v, .agg #[.int .i64 f, .int .i64 t]] w fun e w' => ∃ vr, e = .returned vr ∧ w'.ownsRow w.heap.size 192 5 vr (valL l f t).length (strCells (valL l f t)) ∧ Below w.heap.size w w' := by
  have hbw : Below w.heap.size w (w.alloc (.cells #[.int .i64 f, .int .i64 t] 82)) := (Below.refl _ w).alloc (Nat.le_refl _) _
  have hR1 : RdS (w.alloc (.cells #[.int .i64 f, .int .i64 t] 82)) 71 v l := Rd.alloc hR _
  have hst := stretches_any v l f t _ hR1 hS hW
  have hlong := (serErr_good hS).1
  have hsl := strL_long l f t
  have HST := Lib.hid hst
  clear hst hR1 hR
  go_enter Try.func150, Try.ntmps150
  go_wp2_with fail
  refine HST.out.mono ?_
  rintro e w1 ⟨vr, rfl, hown, hb1⟩
  have hdel := deleteT_any vr (strL l f t) w1 w.heap.size 185 (fun x => decide (x.s.q = 2)) (own_base hown hbw.size) (Nat.le_trans hbw.size hb1.size) (by omega) enter_valued1 (valued1_asks _ _)
  obtain ⟨pr, cr, rfl⟩ : ∃ pr cr, vr = .slice pr (strL l f t).length cr := RdStr.lenv (Rd.of_own hown)
  have HD := Lib.hid hdel
  clear hdel HST
  go_wp2_with fail
  refine HD.out.mono ?_
  rintro e w2 ⟨vd, rfl, hrd, hb2⟩
  rw [valL_eq hS] at hrd
  go_wp2_with fail
  go_ret
  exact ⟨_, rfl, hrd, (hbw.trans (hb1.mono hbw.size)).trans hb2⟩
theorem valuedR_any (v : Value) (l : List Smp) (f t : Int) (w : World) (hR : RdS w 71 v l) (hS : serErr l = 0) (hW : 0 ≤ f ∧ f ≤ t ∧ t ≤ 345686400000) :
    Calls Try.prog 150 #[v, .agg #[.int .i64 f, .int .i64 t]] w fun e w' => ∃ vr, e = .returned vr ∧ RdStr w' vr (valL l f t) ∧ Below w.heap.size w w' :=
  (valuedO_any v l f t w hR hS hW).mono (by rintro e w' ⟨vr, rfl, h, hb⟩; exact ⟨vr, rfl, Rd.of_own h, hb⟩)

theorem Chain.take {p : Int} {r : List Str} (h : Chain p r) (k : Nat) : Chain p (r.take k) := by
  induction r generalizing p k with
  | nil => simpa using h
  | cons x r ih =>
    cases k with
    | zero => trivial
    | succ k => exact ⟨h.1, h.2.1, ih h.2.2 k⟩
theorem agS_bound {f t : Int} {r : List Str} (hW : 0 ≤ f ∧ f ≤ t ∧ t ≤ 345686400000) (hc : Chain f r) (hr : ∀ x ∈ r, StrOk f t x) : (0 ≤ (agS r).g ∧ (agS r).g ≤ 345686400000) ∧ (-345686400000000000 ≤ (agS r).s ∧ (agS r).s ≤ 345686400000000000) := by
  have h := agS_long (p := f) (t := t) r hc (fun x hx => by have := hr x hx; unfold StrOk at this; omega) hW.2.1 ⟨0, 0, 0, 0⟩ (Int.le_refl _)
  rw [show List.foldl (fun A x => agT A x.s.v x.a x.b) ⟨0, 0, 0, 0⟩ r = agS r from rfl] at h
  dsimp only at h
  omega
theorem agS_pos {f t : Int} {r : List Str} : (∀ x ∈ r, StrOk f t x) → (r.length : Int) ≤ (agS r).g := by
  refine snocI (P := fun r => (∀ x ∈ r, StrOk f t x) → (r.length : Int) ≤ (agS r).g) (fun _ => by simp [agS]) (fun r x ih hr => ?_) r
  rw [agS_snoc]
  have h1 := ih (fun y hy => hr y (by simp [hy]))
  have h2 := hr x (by simp)
  unfold StrOk at h2
  simp only [agT, List.length_append, List.length_singleton]
  omega
theorem agS_take (r : List Str) (k : Nat) (h : k < r.length) : agS (r.take (k + 1)) = agT (agS (r.take k)) (atT r k).s.v (atT r k).a (atT r k).b := by
  rw [List.take_succ_eq_append_getElem h, agS_snoc, atT_eq r k h]
theorem atT_mem (r : List Str) (k : Nat) (h : k < r.length) : atT r k ∈ r := by rw [← atT_eq r k h]; exact List.getElem_mem h

set_option maxRecDepth 100000 in
set_option maxHeartbeats 4000000 in
theorem integralOf_any (v : Value) (l : List Smp) (f t : Int) (w : World) (hR : RdS w 71 v l) (hS : serErr l = 0) (hW : 0 ≤ f ∧ f ≤ t ∧ t ≤ 345686400000) :
    Calls Try.prog 76 #[v, .agg #[.int .i64 f, .int .i64 t]] w fun e w' => e = .returned (.tuple #[.int .i64 (aggV l f t).s, .int .i64 (aggV l f t).g]) ∧ Below w.heap.size w w' := by
  have hbw : Below w.heap.size w (w.alloc (.cells #[.int .i64 f, .int .i64 t] 82)) := (Below.refl _ w).alloc (Nat.le_refl _) _
  have hva := valuedR_any v l f t _ (Rd.alloc hR (.cells #[.int .i64 f, .int .i64 t] 82)) hS hW
  have hlong := (serErr_good hS).1
  have hvl := valL_long l f t
  have hok := valL_ok (f := f) (t := t) hS
  have hch : Chain f (valL l f t) := (strL_chain (serErr_rise hS)).filter _
  have hag : aggV l f t = agS (valL l f t) := rfl
  rw [hag]
  clear hag
  generalize valL l f t = R at *
  have HVA := Lib.hid hva
  have HOK := Lib.hid hok
  have HCH := Lib.hid hch
  clear hva hR hok hch
  have hmx : Try.prog.follows .mixedOrders = true := by kernel_rfl
  go_enter Try.func76, Try.ntmps76
  go_wp2_with fail
  refine HVA.out.mono ?_
  rintro e w1 ⟨vr, rfl, hrd, hb1⟩
  obtain ⟨pr, cr, rfl⟩ := hrd.lenv
  have hb := hbw.trans (hb1.mono hbw.size)
  have HRD := Lib.hid hrd
  clear HVA hbw hb1 hrd
  go_wp2_with fail
  go_loopw [4, 5, 12] (fun s g i wr => ∃ k : Nat, k ≤ R.length ∧ i = .int .i64 (k : Int) ∧ s = .int .i64 (agS (R.take k)).s ∧ g = .int .i64 (agS (R.take k)).g ∧ Below w1.heap.size w1 wr) (fun _ _ i _ => R.length - (intOf i).toNat)
  case atStart => exact ⟨0, by omega, rfl, rfl, rfl, Below.refl _ _⟩
  case round =>
    obtain ⟨k, hk, rfl, rfl, rfl, hbr⟩ := hrel
    have hbk := agS_bound hW (HCH.out.take k) (fun x hx => HOK.out x (List.mem_of_mem_take hx))
    by_cases hkl : k < R.length
    · have hRr : RdStr wr _ R := Rd.below HRD.out hbr
      obtain ⟨b, off, c, hv, hc1, hc2, hblt, hcell⟩ := RdStr.at_ hRr (by omega)
      cases hv
      unfold maxLen at hc2
      obtain ⟨c0, c1, c2, c3, c4⟩ := hcell k hkl
      have hx := HOK.out _ (atT_mem R k hkl)
      unfold StrOk at hx
      have HT := Lib.hid (agS_take R k hkl)
      have hbk2 := agS_bound hW (HCH.out.take (k + 1)) (fun x hx => HOK.out x (List.mem_of_mem_take hx))
      rw [HT.out] at hbk2
      simp only [agT] at hbk2
      have hlg := fun w => rlong_eq (atT R k).a (atT R k).b w ⟨by omega, by omega, by omega⟩
      generalize atT R k = x at *
      generalize agS (R.take k) = A at *
      have hmu := mul_bound x.s.v (x.b - x.a) 1000000 345686400000 (by omega) (by omega)
      simp only [Nat.reduceMul] at hmu
      have hba := hbr.alloc hbr.size (.cells #[.int .i64 x.a, .int .i64 x.b, .int .i64 x.s.t, .int .i64 x.s.v, .int .i64 x.s.q] 192)
      have bX := Blk.new wr 192 #[.int .i64 x.a, .int .i64 x.b, .int .i64 x.s.t, .int .i64 x.s.v, .int .i64 x.s.q]
      clear hcell hRr
      go_upto_region 4 with fail
      generalize hw5 : wr.alloc (.cells #[.int .i64 x.a, .int .i64 x.b, .int .i64 x.s.t, .int .i64 x.s.v, .int .i64 x.s.q] 192) = w5 at *
      generalize wr.heap.size = n5 at *
      have d0 := bX.cell 0
      have d1 := bX.cell 1
      have d3 := bX.cell 3
      have z5 := bX.lt
      have hm1 : IntKind.i64.wrap (x.s.v * (x.b - x.a)) = x.s.v * (x.b - x.a) := IntWalk.i64_in _ (by omega)
      have hm2 : IntKind.i64.wrap (A.s + x.s.v * (x.b - x.a)) = A.s + x.s.v * (x.b - x.a) := IntWalk.i64_in _ (by omega)
      clear hw5 c0 c1 c2 c3 c4
      go_cut [4] from 16 to 30 (fun s4 wx => s4 = .int .i64 (A.s + x.s.v * (x.b - x.a)) ∧ Blk wx n5 192 #[.int .i64 x.a, .int .i64 x.b, .int .i64 x.s.t, .int .i64 x.s.v, .int .i64 x.s.q] ∧ Below w1.heap.size w1 wx)
      case first =>
        go_region_with (go_at_call 149; refine (hlg _).mono ?_; rintro e wk ⟨rfl, rfl⟩)
        all_goals go_wp2_with fail
        all_goals go_meet
        all_goals exact ⟨rfl, (bX.alloc _).drew, (hba.alloc hba.size _).drew⟩
      case rest =>
        obtain ⟨rfl, bX6, hb6⟩ := hcut
        clear d0 d1 d3
        have d0 := bX6.cell 0
        have d1 := bX6.cell 1
        go_wp2_with (go_at_call 149; refine (hlg _).mono ?_; rintro e wk ⟨rfl, rfl⟩)
        go_roundw
        case rel => exact ⟨k + 1, by omega, by go_num, by rw [HT.out]; rfl, by rw [HT.out]; rfl, hb6.alloc hb6.size _⟩
        case measure => simp [intOf]; omega
    · have hkE : k = R.length := by omega
      subst hkE
      rw [List.take_length] at *
      go_wp2_with fail
      go_ret2
      exact ⟨rfl, hb.trans (hbr.mono hb.size)⟩
end Go.Proofs.Ytamcbiajicnbfaa
