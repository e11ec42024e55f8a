/- Compare (package query). The tolerance lies far within an int. -/
/- checkWithin at two series; what a round of Compare finds. -/
import Derived.Test.YtgbnjbbjgkfefaaCpm
import Derived.Test.YtgbnjbbjgkfefaaAgg
import Derived.Test.YtgbnjbbjgkfefaaKmm
import Derived.Test.YtgbnjbbjgkfefaaChk
import Derived.WalkHide
namespace Go.Proofs.Ytgbnjbbjgkfefaa
open Go.RowKit
set_option linter.unusedVariables false
set_option linter.unusedSimpArgs false

set_option maxRecDepth 100000 in
set_option maxHeartbeats 1000000 in
theorem qcheck2_any (b : Nat) (va vb : Value) (la lb : List Smp) (f t : Int) (w : World) (hB : Blk w b 32 #[va, vb]) (hRa : RdS w 71 va la) (hRb : RdS w 71 vb lb) :
    Calls Try.prog 116 #[.agg #[.int .i64 f, .int .i64 t], .slice (some ⟨b, 0, none⟩) 2 2] w fun e w' => e = .returned (.int .i64 (orE (serErr la) (orE (serErr lb) (winErr f t)))) ∧ Below w.heap.size w w' := by
  have hk0 := KQ.start (f := f) (t := t) (vs := [(va, la), (vb, lb)]) hB (fun p hp => by simp at hp; rcases hp with rfl | rfl; exact hRa; exact hRb)
  have HK0 := Lib.hid hk0
  have c0 : (w.alloc (.cells #[.int .i64 f, .int .i64 t] 76)).cell? ⟨b, 0, none⟩ = some va := hk0.bl.cell 0
  have c1 : (w.alloc (.cells #[.int .i64 f, .int .i64 t] 76)).cell? ⟨b, 1, none⟩ = some vb := hk0.bl.cell 1
  have hE : orE (serErr la) (orE (serErr lb) (winErr f t)) = if serErr la ≠ 0 then serErr la else if serErr lb ≠ 0 then serErr lb else winErr f t := rfl
  have hbl := hB.lt
  generalize orE (serErr la) (orE (serErr lb) (winErr f t)) = E at *
  have HE := Lib.hid hE
  clear hE hk0 hB hRa hRb
  go_enter Try.func116, Try.ntmps116
  go_wp2_with fail
  generalize w.alloc (.cells #[.int .i64 f, .int .i64 t] 76) = wz at *
  refine wp_loop_rounds 3 ?_
  rw [rounds_succ]
  go_wp2_with fail
  refine (checkSeries_any va la _ (HK0.out.rd (va, la) (by simp))).mono ?_
  rintro e w1 ⟨rfl, hb1⟩
  have hk1 := KQ.step hb1 HK0.out
  clear hb1 c0 c1
  have c1 : w1.cell? ⟨b, 1, none⟩ = some vb := hk1.bl.cell 1
  by_cases hS : serErr la = 0
  · have hS' : (serErr la != 0) = false := by simpa using hS
    have HS := Lib.hid hS
    clear hS
    go_wp2_with fail
    rw [rounds_succ]
    go_wp2_with fail
    refine (checkSeries_any vb lb _ (hk1.rd (vb, lb) (by simp))).mono ?_
    rintro e w2 ⟨rfl, hb2⟩
    have hk2 := KQ.step hb2 hk1
    have e0 : w2.cell? ⟨w.heap.size, 0, none⟩ = some (.int .i64 f) := hk2.bw.cell 0
    have e1 : w2.cell? ⟨w.heap.size, 1, none⟩ = some (.int .i64 t) := hk2.bw.cell 1
    clear hb2 c1 hk1
    by_cases hS2 : serErr lb = 0
    · have hS2' : (serErr lb != 0) = false := by simpa using hS2
      have HS2 := Lib.hid hS2
      clear hS2
      go_wp2_with fail
      rw [rounds_succ]
      go_wp2_with fail
      refine (window_any f t _).mono ?_
      rintro e w3 ⟨rfl, hb3⟩
      have hk3 := KQ.step hb3 hk2
      have HW := Lib.hid (show winErr f t = if winB f t = true then 0 else 1 from rfl)
      cases hw : winB f t
      all_goals
        have HW2 := Lib.hid hw
        clear hw
        go_wp2_with fail
        go_ret
        exact ⟨ret_int (by rw [HE.out, if_neg (by rw [HS.out]; simp), if_neg (by rw [HS2.out]; simp), HW.out, HW2.out]; simp), hk3.be⟩
    · have hS2' : (serErr lb != 0) = true := by simpa using hS2
      have HS2 := Lib.hid hS2
      clear hS2
      go_wp2_with fail
      go_ret
      exact ⟨ret_int (by rw [HE.out, if_neg (by rw [HS.out]; simp), if_pos HS2.out]), hk2.be⟩
  · have hS' : (serErr la != 0) = true := by simpa using hS
    have HS := Lib.hid hS
    clear hS
    go_wp2_with fail
    go_ret
    exact ⟨ret_int (by rw [HE.out, if_pos HS.out]), hk1.be⟩

/-- The boxes of Compare, and its first series' iterator. -/
structure CpI (w0 : World) (P bw bl bq : Nat) (va vb : Value) (la : List Smp) (f t W : Int) (A : Int × Int) (wx : World) : Prop where
  b1 : Blk wx P 3 #[.int .i64 A.1]
  b2 : Blk wx (P + 1) 3 #[.int .i64 A.2]
  lb : Blk wx w0.heap.size 32 #[vb]
  wb : Blk wx (w0.heap.size + 1 + 1) 3 #[.int .i64 W]
  rn : RnK w0 bw bl bq va la f t 1 wx
  h1 : w0.heap.size + 1 + 1 < P
  h2 : P + 1 < bw ∧ P + 1 < bl ∧ P + 1 < bq
section
variable {w0 wx wy : World} {P bw bl bq : Nat} {va vb : Value} {la : List Smp} {f t W : Int} {A : Int × Int}
theorem CpI.step (h : CpI w0 P bw bl bq va vb la f t W A wx) (hb : Below wx.heap.size wx wy) : CpI w0 P bw bl bq va vb la f t W A wy :=
  ⟨h.b1.below hb h.b1.lt, h.b2.below hb h.b2.lt, h.lb.below hb h.lb.lt, h.wb.below hb h.wb.lt, h.rn.step hb, h.h1, h.h2⟩
theorem CpI.turned (h : CpI w0 P bw bl bq va vb la f t W A wx) {row : Option Nat} (hg : wx.grownBy wy row) (hr : ∀ r, row = some r → w0.heap.size ≤ r ∧ ∃ o : Obj, wx.heap[r]? = some o ∧ o.isCells = false) : CpI w0 P bw bl bq va vb la f t W A wy :=
  have hr' : ∀ r, row = some r → ∃ o : Obj, wx.heap[r]? = some o ∧ o.isCells = false := fun r e => (hr r e).2
  ⟨blk_own (β := Unit) _ _ _ () _ _ _ h.b1 hg hr', blk_own (β := Unit) _ _ _ () _ _ _ h.b2 hg hr', blk_own (β := Unit) _ _ _ () _ _ _ h.lb hg hr', blk_own (β := Unit) _ _ _ () _ _ _ h.wb hg hr', h.rn.turned hg hr, h.h1, h.h2⟩
theorem CpI.set1 (h : CpI w0 P bw bl bq va vb la f t W A wx) (hR : RdS w0 71 va la) (s : Int) : CpI w0 P bw bl bq va vb la f t W (s, A.2) (wx.setCell ⟨P, 0, none⟩ (.int .i64 s)) := by
  have h1 := h.h1
  have h2 := h.h2
  exact ⟨blk_set h.b1 0 _, h.b2.setOther (by simp) _, h.lb.setOther (by simp; omega) _, h.wb.setOther (by simp; omega) _, h.rn.setCell hR _ _ (by simp; omega) (by simp; omega) (by simp; omega) (by simp; omega), h.h1, h.h2⟩
theorem CpI.set2 (h : CpI w0 P bw bl bq va vb la f t W A wx) (hR : RdS w0 71 va la) (s : Int) : CpI w0 P bw bl bq va vb la f t W (A.1, s) (wx.setCell ⟨P + 1, 0, none⟩ (.int .i64 s)) := by
  have h1 := h.h1
  have h2 := h.h2
  exact ⟨h.b1.setOther (by simp) _, blk_set h.b2 0 _, h.lb.setOther (by simp; omega) _, h.wb.setOther (by simp; omega) _, h.rn.setCell hR _ _ (by simp; omega) (by simp; omega) (by simp; omega) (by simp; omega), h.h1, h.h2⟩
end

/-- What the inner round has at hand. -/
structure CpJ (w0 : World) (P bw bl bq bw2 bl2 bq2 Bv Bx B : Nat) (va vb : Value) (la lb : List Smp) (f t W : Int) (x : Rn) (wo : World) (A : Int × Int) (wx : World) : Prop where
  ci : CpI w0 P bw bl bq va vb la f t W A wx
  r2 : RnK w0 bw2 bl2 bq2 vb lb x.1.2.1 x.1.2.2 1 wx
  bv : Blk wx Bv 3 #[.int .i64 x.1.1]
  bx : Blk wx Bx 76 #[.int .i64 x.1.2.1, .int .i64 x.1.2.2]
  lo : Below w0.heap.size wo wx
  kf : KeepsFrom B wo wx
  h3 : P + 1 < bw2 ∧ P + 1 < bl2 ∧ P + 1 < bq2 ∧ P + 1 < Bv ∧ P + 1 < Bx
section
variable {w0 wo wx wy : World} {P bw bl bq bw2 bl2 bq2 Bv Bx B : Nat} {va vb : Value} {la lb : List Smp} {f t W : Int} {x : Rn} {A : Int × Int}
theorem CpJ.step (h : CpJ w0 P bw bl bq bw2 bl2 bq2 Bv Bx B va vb la lb f t W x wo A wx) (hb : Below wx.heap.size wx wy) : CpJ w0 P bw bl bq bw2 bl2 bq2 Bv Bx B va vb la lb f t W x wo A wy :=
  ⟨h.ci.step hb, h.r2.step hb, h.bv.below hb h.bv.lt, h.bx.below hb h.bx.lt, h.lo.trans (hb.mono h.r2.lo.size), h.kf.trans (keepsFrom_of hb), h.h3⟩
theorem CpJ.drew (h : CpJ w0 P bw bl bq bw2 bl2 bq2 Bv Bx B va vb la lb f t W x wo A wx) : CpJ w0 P bw bl bq bw2 bl2 bq2 Bv Bx B va vb la lb f t W x wo A wx.drew := h.step ⟨rfl, rfl, rfl, Nat.le_refl _, fun _ _ => rfl⟩
theorem CpJ.set1 (h : CpJ w0 P bw bl bq bw2 bl2 bq2 Bv Bx B va vb la lb f t W x wo A wx) (hR : RdS w0 71 va la) (hRb : RdS w0 71 vb lb) (s : Int) : CpJ w0 P bw bl bq bw2 bl2 bq2 Bv Bx B va vb la lb f t W x wo (s, A.2) (wx.setCell ⟨P, 0, none⟩ (.int .i64 s)) := by
  have h1 := h.ci.h1
  have h3 := h.h3
  exact ⟨h.ci.set1 hR s, h.r2.setCell hRb _ _ (by simp; omega) (by simp; omega) (by simp; omega) (by simp; omega), h.bv.setOther (by simp; omega) _, h.bx.setOther (by simp; omega) _, h.lo.setCell (by simp; omega) _, h.kf.trans ((KeepsOthers.setCell _ _ _).from _), h.h3⟩
theorem CpJ.set2 (h : CpJ w0 P bw bl bq bw2 bl2 bq2 Bv Bx B va vb la lb f t W x wo A wx) (hR : RdS w0 71 va la) (hRb : RdS w0 71 vb lb) (s : Int) : CpJ w0 P bw bl bq bw2 bl2 bq2 Bv Bx B va vb la lb f t W x wo (A.1, s) (wx.setCell ⟨P + 1, 0, none⟩ (.int .i64 s)) := by
  have h1 := h.ci.h1
  have h3 := h.h3
  exact ⟨h.ci.set2 hR s, h.r2.setCell hRb _ _ (by simp; omega) (by simp; omega) (by simp; omega) (by simp; omega), h.bv.setOther (by simp; omega) _, h.bx.setOther (by simp; omega) _, h.lo.setCell (by simp; omega) _, h.kf.trans ((KeepsOthers.setCell _ _ _).from _), h.h3⟩
theorem CpJ.turned (h : CpJ w0 P bw bl bq bw2 bl2 bq2 Bv Bx B va vb la lb f t W x wo A wx) {row : Option Nat} (hg : wx.grownBy wy row) (hB : w0.heap.size ≤ wo.heap.size) (hr : ∀ r, row = some r → wo.heap.size ≤ r ∧ ∃ o : Obj, wx.heap[r]? = some o ∧ o.isCells = false) : CpJ w0 P bw bl bq bw2 bl2 bq2 Bv Bx B va vb la lb f t W x wo A wy :=
  have hr' : ∀ r, row = some r → ∃ o : Obj, wx.heap[r]? = some o ∧ o.isCells = false := fun r e => (hr r e).2
  have hr2 : ∀ r, row = some r → w0.heap.size ≤ r ∧ ∃ o : Obj, wx.heap[r]? = some o ∧ o.isCells = false := fun r e => ⟨Nat.le_trans hB (hr r e).1, (hr r e).2⟩
  ⟨h.ci.turned hg hr2, h.r2.turned hg hr2, blk_own (β := Unit) _ _ _ () _ _ _ h.bv hg hr', blk_own (β := Unit) _ _ _ () _ _ _ h.bx hg hr', h.lo.grown hg h.r2.lo.size (fun k e => (hr2 k e).1),
    ownFrom_keepsFrom (β := Unit) (B := B) (Nat.le_refl wo.heap.size) () _ _ _ h.kf hg hr, h.h3⟩
end

def cmpE (la lb : List Smp) (f t W : Int) : Int := orE (orE (serErr la) (orE (serErr lb) (winErr f t))) (if inB W 0 2000000 = false then 1 else 0)
def cmpVR (la lb : List Smp) (f t W : Int) : Int × Int := if cmpE la lb f t W = 0 then cmpV la lb f t W else (0, 0)
end Go.Proofs.Ytgbnjbbjgkfefaa
namespace Go.Proofs.Ytgbnjbbjgkfefaa
open Go.RowKit Go.Shelf
set_option linter.unusedVariables false
set_option linter.unusedSimpArgs false
attribute [local go_sem] Oper.semAt_some

set_option maxRecDepth 100000 in
set_option maxHeartbeats 4000000 in
theorem compare_any (va vb : Value) (la lb : List Smp) (f t W : Int) (w : World) (hRa : RdS w 71 va la) (hRb : RdS w 71 vb lb) (hL : -4000000000 ≤ W ∧ W ≤ 4000000000) :
    Calls Try.prog 69 #[va, vb, .agg #[.int .i64 f, .int .i64 t], .int .i64 W] w fun e w' => e = .returned (.tuple #[.int .i64 (cmpVR la lb f t W).1, .int .i64 (cmpVR la lb f t W).2, .int .i64 (cmpE la lb f t W)]) ∧ Below w.heap.size w w' := by
  obtain ⟨pa, ca, rfl⟩ := hRa.lenv
  obtain ⟨pb, cb, rfl⟩ := hRb.lenv
  have hmx : Try.prog.follows .mixedOrders = true := by kernel_rfl
  have hE : cmpE la lb f t W = orE (orE (serErr la) (orE (serErr lb) (winErr f t))) (if inB W 0 2000000 = false then 1 else 0) := rfl
  have hRR : cmpVR la lb f t W = if cmpE la lb f t W = 0 then cmpV la lb f t W else (0, 0) := rfl
  have hba : Below w.heap.size w (((w.alloc (.cells #[.slice pb lb.length cb] 32)).alloc (.cells #[.int .i64 f, .int .i64 t] 76)).alloc (.cells #[.int .i64 W] 3)) := (((Below.refl _ w).alloc (Nat.le_refl _) _).alloc (by simp) _).alloc (by simp; omega) _
  have lb0 : Blk (((w.alloc (.cells #[.slice pb lb.length cb] 32)).alloc (.cells #[.int .i64 f, .int .i64 t] 76)).alloc (.cells #[.int .i64 W] 3)) w.heap.size 32 #[.slice pb lb.length cb] := ((Blk.new w _ _).alloc _).alloc _
  have bw0 : Blk (((w.alloc (.cells #[.slice pb lb.length cb] 32)).alloc (.cells #[.int .i64 f, .int .i64 t] 76)).alloc (.cells #[.int .i64 W] 3)) (w.heap.size + 1) 76 #[.int .i64 f, .int .i64 t] := (Blk.new1 _ _ _ _).alloc _
  have wb0 : Blk (((w.alloc (.cells #[.slice pb lb.length cb] 32)).alloc (.cells #[.int .i64 f, .int .i64 t] 76)).alloc (.cells #[.int .i64 W] 3)) (w.heap.size + 1 + 1) 3 #[.int .i64 W] := by
    have := Blk.new ((w.alloc (.cells #[.slice pb lb.length cb] 32)).alloc (.cells #[.int .i64 f, .int .i64 t] 76)) 3 #[.int .i64 W]
    simpa only [World.size_alloc] using this
  have hsz : (((w.alloc (.cells #[.slice pb lb.length cb] 32)).alloc (.cells #[.int .i64 f, .int .i64 t] 76)).alloc (.cells #[.int .i64 W] 3)).heap.size = w.heap.size + 3 := by simp
  generalize cmpE la lb f t W = E at *
  generalize cmpVR la lb f t W = RR at *
  have HE := Lib.hid hE
  have HRR := Lib.hid hRR
  have hbb := hba.alloc hba.size (.cells #[.slice pa la.length ca, .slice pb lb.length cb] 32)
  have hbk4 : Blk ((((w.alloc (.cells #[.slice pb lb.length cb] 32)).alloc (.cells #[.int .i64 f, .int .i64 t] 76)).alloc (.cells #[.int .i64 W] 3)).alloc (.cells #[.slice pa la.length ca, .slice pb lb.length cb] 32)) (w.heap.size + 3) 32 #[.slice pa la.length ca, .slice pb lb.length cb] := by
    have := Blk.new (((w.alloc (.cells #[.slice pb lb.length cb] 32)).alloc (.cells #[.int .i64 f, .int .i64 t] 76)).alloc (.cells #[.int .i64 W] 3)) 32 #[.slice pa la.length ca, .slice pb lb.length cb]
    rwa [hsz] at this
  have hqc := qcheck2_any (w.heap.size + 3) (.slice pa la.length ca) (.slice pb lb.length cb) la lb f t ((((w.alloc (.cells #[.slice pb lb.length cb] 32)).alloc (.cells #[.int .i64 f, .int .i64 t] 76)).alloc (.cells #[.int .i64 W] 3)).alloc (.cells #[.slice pa la.length ca, .slice pb lb.length cb] 32)) hbk4 (Rd.below hRa hbb) (Rd.below hRb hbb)
  have lb1 := lb0.alloc (.cells #[.slice pa la.length ca, .slice pb lb.length cb] 32)
  have bw1 := bw0.alloc (.cells #[.slice pa la.length ca, .slice pb lb.length cb] 32)
  have wb1 := wb0.alloc (.cells #[.slice pa la.length ca, .slice pb lb.length cb] 32)
  refine (callsIn_wide (n := 8)).1 ?_
  refine callsIn_of_wp_marks Try.func69 rfl trivial ?_ rfl
  simp only [Try.ntmps69, List.size_toArray, List.length_cons, List.length_nil, Nat.reduceAdd, Nat.reduceSub, Array.replicate_succ, Array.replicate_zero, List.push_toArray, List.append_toArray, List.nil_append, List.cons_append]
  gi_upto_region 1 with fail
  generalize ((w.alloc (.cells #[.slice pb lb.length cb] 32)).alloc (.cells #[.int .i64 f, .int .i64 t] 76)).alloc (.cells #[.int .i64 W] 3) = w1 at *
  have e0 := bw0.cell 0
  have e1 := bw0.cell 1
  have e2 := lb0.cell 0
  clear hE hRR hba wb0 hbk4
  have HWE := Lib.hid (fun h : orE (serErr la) (orE (serErr lb) (winErr f t)) = 0 => And.intro (orE_zero h).1 (And.intro (orE_zero (orE_zero h).2).1 (winErr_ok (orE_zero (orE_zero h).2).2)))
  generalize orE (serErr la) (orE (serErr lb) (winErr f t)) = F at *
  by_cases hF : F = 0
  · have hF' : (F != 0) = false := by simpa using hF
    have HF := Lib.hid hF
    obtain ⟨hSa, hSb, hW⟩ := HWE.out hF
    clear hF HWE
    cases hin : inB W 0 2000000
    · have HE1 := Lib.hid (show E = 1 by rw [HE.out, hin, HF.out]; rfl)
      clear HE
      gi_wp2_with (first
        | (refine ⟨trivial, ?_⟩; gi_at_call 116; refine (callsIn_wide.2 hqc).mono ?_; clear hqc; rintro e w2 ⟨rfl, hb2⟩; have wb2 := wb1.below hb2 wb1.lt; have be2 := hbb.trans (hb2.mono hbb.size); have l0 := wb2.cell 0)
        | (refine ⟨trivial, ?_⟩; gi_at_call 130; refine (callsIn_wide.2 (within_any _ _ _ _)).mono ?_; rintro e w3 ⟨rfl, rfl⟩; rw [hin]))
      exact ⟨.tuple #[.int .i64 0, .int .i64 0, .int .i64 1], by simp [results, Try.results69, go_sem], by rw [HRR.out, HE1.out]; rfl, be2⟩
    · have HE1 := Lib.hid (show E = 0 by rw [HE.out, hin, HF.out]; rfl)
      clear HE
      gi_wp2_with (first
        | (refine ⟨trivial, ?_⟩; gi_at_call 116; refine (callsIn_wide.2 hqc).mono ?_; clear hqc; rintro e w2 ⟨rfl, hb2⟩; have lb2 := lb1.below hb2 lb1.lt; have bw2 := bw1.below hb2 bw1.lt; have wb2 := wb1.below hb2 wb1.lt; have be2 := hbb.trans (hb2.mono hbb.size); have l0 := wb2.cell 0; clear e0 e1 e2; have bwz := (bw2.alloc (.cells #[.int .i64 0] 3)).alloc (.cells #[.int .i64 0] 3); have e0 := bwz.cell 0; have e1 := bwz.cell 1; have z0 := bw2.lt; have z1 := wb2.lt; have z2 := lb2.lt)
        | (refine ⟨trivial, ?_⟩; gi_at_call 130; refine (callsIn_wide.2 (within_any _ _ _ _)).mono ?_; rintro e w3 ⟨rfl, rfl⟩; rw [hin])
        | (refine ⟨trivial, ?_⟩; gi_at_call 117; refine (callsIn_wide.2 (valued_any _ la.length ca pa rfl f t _)).mono ?_; rintro e w' ⟨rfl, rfl⟩))
      have hlonga := (serErr_good hSa).1
      have hlongb := (serErr_good hSb).1
      have hbe3 : Below w2.heap.size w2 ((((((w2.alloc (Obj.cells #[Value.int .i64 0] 3)).alloc (Obj.cells #[Value.int .i64 0] 3)).alloc (Obj.cells #[Value.int .i64 f, Value.int .i64 t] 76)).alloc (Obj.cells #[Value.slice pa la.length ca] 32)).alloc (Obj.cells #[Value.int .i64 f, Value.int .i64 t] 76)).alloc (Obj.cells #[Value.int .i64 1] 3)) := ((((((Below.refl _ w2).alloc (Nat.le_refl _) _).alloc (by simp) _).alloc (by simp; omega) _).alloc (by simp; omega) _).alloc (by simp; omega) _).alloc (by simp; omega) _
      have hsz3 : ((((((w2.alloc (Obj.cells #[Value.int .i64 0] 3)).alloc (Obj.cells #[Value.int .i64 0] 3)).alloc (Obj.cells #[Value.int .i64 f, Value.int .i64 t] 76)).alloc (Obj.cells #[Value.slice pa la.length ca] 32)).alloc (Obj.cells #[Value.int .i64 f, Value.int .i64 t] 76)).alloc (Obj.cells #[Value.int .i64 1] 3)).heap.size ≥ w2.heap.size + 6 := by simp
      have hpi : CpI w w2.heap.size (w2.heap.size + 1 + 1 + 1 + 1) (w2.heap.size + 1 + 1 + 1) (w2.heap.size + 1 + 1 + 1 + 1 + 1) (.slice pa la.length ca) (.slice pb lb.length cb) la f t W (0, 0) ((((((w2.alloc (Obj.cells #[Value.int .i64 0] 3)).alloc (Obj.cells #[Value.int .i64 0] 3)).alloc (Obj.cells #[Value.int .i64 f, Value.int .i64 t] 76)).alloc (Obj.cells #[Value.slice pa la.length ca] 32)).alloc (Obj.cells #[Value.int .i64 f, Value.int .i64 t] 76)).alloc (Obj.cells #[Value.int .i64 1] 3)) := by
        have g0 := ((((Blk.new1 w2 (Obj.cells #[Value.int .i64 0] 3) 3 #[Value.int .i64 0]).alloc (Obj.cells #[Value.int .i64 f, Value.int .i64 t] 76)).alloc (Obj.cells #[Value.slice pa la.length ca] 32)).alloc (Obj.cells #[Value.int .i64 f, Value.int .i64 t] 76)).alloc (Obj.cells #[Value.int .i64 1] 3)
        have g1 := ((Blk.new (((w2.alloc (Obj.cells #[Value.int .i64 0] 3)).alloc (Obj.cells #[Value.int .i64 0] 3)).alloc (Obj.cells #[Value.int .i64 f, Value.int .i64 t] 76)) 32 #[Value.slice pa la.length ca]).alloc (Obj.cells #[Value.int .i64 f, Value.int .i64 t] 76)).alloc (Obj.cells #[Value.int .i64 1] 3)
        have g2 := (Blk.new ((((w2.alloc (Obj.cells #[Value.int .i64 0] 3)).alloc (Obj.cells #[Value.int .i64 0] 3)).alloc (Obj.cells #[Value.int .i64 f, Value.int .i64 t] 76)).alloc (Obj.cells #[Value.slice pa la.length ca] 32)) 76 #[Value.int .i64 f, Value.int .i64 t]).alloc (Obj.cells #[Value.int .i64 1] 3)
        have g3 := Blk.new (((((w2.alloc (Obj.cells #[Value.int .i64 0] 3)).alloc (Obj.cells #[Value.int .i64 0] 3)).alloc (Obj.cells #[Value.int .i64 f, Value.int .i64 t] 76)).alloc (Obj.cells #[Value.slice pa la.length ca] 32)).alloc (Obj.cells #[Value.int .i64 f, Value.int .i64 t] 76)) 3 #[Value.int .i64 1]
        simp only [World.size_alloc] at g1 g2 g3
        have hlo := be2.trans (hbe3.mono be2.size)
        exact ⟨(((((Blk.new w2 _ _).alloc _).alloc _).alloc _).alloc _).alloc _, g0, lb2.below hbe3 lb2.lt, wb2.below hbe3 wb2.lt, ⟨g2, g1, g3, Rd.below hRa hlo, hlo⟩, by omega, by omega, by omega, by omega⟩
      generalize (((((w2.alloc (Obj.cells #[Value.int .i64 0] 3)).alloc (Obj.cells #[Value.int .i64 0] 3)).alloc (Obj.cells #[Value.int .i64 f, Value.int .i64 t] 76)).alloc (Obj.cells #[Value.slice pa la.length ca] 32)).alloc (Obj.cells #[Value.int .i64 f, Value.int .i64 t] 76)).alloc (Obj.cells #[Value.int .i64 1] 3) = W0 at *
      generalize w2.heap.size = P at *
      clear bw2 lb2 wb2 be2 l0 e0 e1 hbe3 bw0 lb0 bw1 lb1 wb1 hbb bwz
      refine wpIn_rangeFunc_ownH rfl (by omega) (gf := 152) (lb := #[.pointer (some ⟨P + 1 + 1 + 1 + 1, 0, none⟩), .pointer (some ⟨P + 1 + 1 + 1, 0, none⟩), .pointer (some ⟨P + 1 + 1 + 1 + 1 + 1, 0, none⟩)]) rfl trivial (enters_of Try.func152 (by kernel_rfl) rfl)
        (runs_stops (8 - 1) (P + 1 + 1 + 1 + 1) (P + 1 + 1 + 1) (P + 1 + 1 + 1 + 1 + 1) w _ la f t 1 (by omega) hRa hSa hW W0 hpi.rn) (fun h k => h.trans k) (Kpn.putObj hpi.rn.lo.size (fun k hk => by simp at hk; omega)) (Below.refl _ _) (fun _ => rfl)
        (fun pre Wx => CpI w P (P + 1 + 1 + 1 + 1) (P + 1 + 1 + 1) (P + 1 + 1 + 1 + 1 + 1) (.slice pa la.length ca) (.slice pb lb.length cb) la f t W (cmpR W lb pre) Wx)
        (fun _ _ _ => False)
        (fun pre X Y row hs hg hr => hs.turned hg (fun r e => ⟨Nat.le_trans hpi.rn.lo.size (hr r e).1, (hr r e).2⟩))
        (fun _ _ _ _ _ hs _ _ => hs)
        hpi
        (fun x a' Wx => ∃ Bv Bx, P + 1 + 1 + 1 + 1 + 1 < Bv ∧ Bv < Bx ∧ Blk Wx Bv 3 #[.int .i64 x.1.1] ∧ Blk Wx Bx 76 #[.int .i64 x.1.2.1, .int .i64 x.1.2.2] ∧ a' = { tmps := #[.slice pa la.length ca, .slice pb lb.length cb, .agg #[.int .i64 f, .int .i64 t], .int .i64 W, undef, .pointer (some ⟨w.heap.size, 0, none⟩), .pointer (some ⟨w.heap.size + 1, 0, none⟩), .pointer (some ⟨w.heap.size + 1 + 1, 0, none⟩), .int .i64 0, .int .i64 0, .int .i64 0, .int .i64 F, .pointer (some ⟨P, 0, none⟩), .pointer (some ⟨P + 1, 0, none⟩), .pointer (some ⟨Bv, 0, none⟩), .pointer (some ⟨Bx, 0, none⟩), undef, undef, .agg #[.int .i64 f, .int .i64 t], .slice pa la.length ca, .slice pb lb.length cb, .slice (some ⟨w.heap.size + 3, 0, none⟩) 2 2, .int .i64 F, .bool false, .int .i64 F, .bool false, undef, .bool false, .int .i64 W, .bool true, .bool false, .slice pa la.length ca, .agg #[.int .i64 f, .int .i64 t], .func (.func 152) #[] #[.pointer (some ⟨P + 1 + 1 + 1 + 1, 0, none⟩), .pointer (some ⟨P + 1 + 1 + 1, 0, none⟩), .pointer (some ⟨P + 1 + 1 + 1 + 1 + 1, 0, none⟩)], .int .i64 x.1.1, .agg #[.int .i64 x.1.2.1, .int .i64 x.1.2.2], undef, undef, undef, undef, undef, undef, undef, undef, undef, undef, undef, undef, undef, undef, undef, undef, undef, undef, undef, undef], defers := [] })
        (fun x a' _ X Y row hs hg hr => by obtain ⟨Bv, Bx, h1, h2, h3, h4, h5⟩ := hs; exact ⟨Bv, Bx, h1, h2, blk_own (β := Unit) _ _ _ () X Y row h3 hg (fun r e => (hr r e).2), blk_own (β := Unit) _ _ _ () X Y row h4 hg (fun r e => (hr r e).2), h5⟩)
        ?assign ?body ?done ?stop
      case assign =>
        rintro li pre x Wx K hI hK
        simp only [encRn]
        gi_wp2
        have hbA := ((Below.refl Wx.heap.size Wx).alloc (Nat.le_refl _) (.cells #[.int .i64 x.1.1] 3)).alloc (by simp) (.cells #[.int .i64 x.1.2.1, .int .i64 x.1.2.2] 76)
        exact hK _ _ (keepsFrom_of hbA) (hI.rn.keeps (hI.rn.step hbA) (hbA.mono hI.rn.lo.size)) (hI.step hbA) ⟨Wx.heap.size, Wx.heap.size + 1, hI.rn.bq.lt, by omega, (Blk.new _ _ _).alloc _, Blk.new1 _ _ _ _, rfl⟩
      case body =>
        rintro li pre x a' Wx hl ⟨r, hr⟩ hI ⟨Bv, Bx, hBv, hBx, bV, bX, rfl⟩ hlt
        have c0 := hI.lb.cell 0
        have c1 := bX.cell 0
        have c2 := bX.cell 1
        have hx := x.2
        have HSN := Lib.hid (cmpR_snoc W lb pre x)
        have hAok := cmpR_ok (W := W) hSb pre
        generalize cmpR W lb pre = A at *
        gi_wp2_with (refine ⟨trivial, ?_⟩; gi_at_call 117; refine (CallsIn.inRound li (callsIn_wide.2 (valued_any _ lb.length cb pb rfl x.1.2.1 x.1.2.2 _))).mono ?_; rintro e w' ⟨rfl, rfl⟩)
        have hxW : 0 ≤ x.1.2.1 ∧ x.1.2.1 ≤ x.1.2.2 ∧ x.1.2.2 ≤ 345686400000 := by omega
        have hzx := bX.lt
        have hzv := bV.lt
        have hb4 : Below Wx.heap.size Wx ((((Wx.alloc (.cells #[.int .i64 x.1.2.1, .int .i64 x.1.2.2] 76)).alloc (.cells #[.slice pb lb.length cb] 32)).alloc (.cells #[.int .i64 x.1.2.1, .int .i64 x.1.2.2] 76)).alloc (.cells #[.int .i64 1] 3)) := ((((Below.refl _ Wx).alloc (Nat.le_refl _) _).alloc (by simp) _).alloc (by simp; omega) _).alloc (by simp; omega) _
        have hr2 : RnK w (Wx.heap.size + 1 + 1) (Wx.heap.size + 1) (Wx.heap.size + 1 + 1 + 1) (.slice pb lb.length cb) lb x.1.2.1 x.1.2.2 1 ((((Wx.alloc (.cells #[.int .i64 x.1.2.1, .int .i64 x.1.2.2] 76)).alloc (.cells #[.slice pb lb.length cb] 32)).alloc (.cells #[.int .i64 x.1.2.1, .int .i64 x.1.2.2] 76)).alloc (.cells #[.int .i64 1] 3)) := by
          have g1 := ((Blk.new (Wx.alloc (.cells #[.int .i64 x.1.2.1, .int .i64 x.1.2.2] 76)) 32 #[.slice pb lb.length cb]).alloc (.cells #[.int .i64 x.1.2.1, .int .i64 x.1.2.2] 76)).alloc (.cells #[.int .i64 1] 3)
          have g2 := (Blk.new ((Wx.alloc (.cells #[.int .i64 x.1.2.1, .int .i64 x.1.2.2] 76)).alloc (.cells #[.slice pb lb.length cb] 32)) 76 #[.int .i64 x.1.2.1, .int .i64 x.1.2.2]).alloc (.cells #[.int .i64 1] 3)
          have g3 := Blk.new (((Wx.alloc (.cells #[.int .i64 x.1.2.1, .int .i64 x.1.2.2] 76)).alloc (.cells #[.slice pb lb.length cb] 32)).alloc (.cells #[.int .i64 x.1.2.1, .int .i64 x.1.2.2] 76)) 3 #[.int .i64 1]
          simp only [World.size_alloc] at g1 g2 g3
          have hlo := hI.rn.lo.trans (hb4.mono hI.rn.lo.size)
          exact ⟨g2, g1, g3, Rd.below hRb hlo, hlo⟩
        have hsz4 : ((((Wx.alloc (.cells #[.int .i64 x.1.2.1, .int .i64 x.1.2.2] 76)).alloc (.cells #[.slice pb lb.length cb] 32)).alloc (.cells #[.int .i64 x.1.2.1, .int .i64 x.1.2.2] 76)).alloc (.cells #[.int .i64 1] 3)).heap.size ≥ Wx.heap.size + 4 := by simp
        have hr' : ((((Wx.alloc (.cells #[.int .i64 x.1.2.1, .int .i64 x.1.2.2] 76)).alloc (.cells #[.slice pb lb.length cb] 32)).alloc (.cells #[.int .i64 x.1.2.1, .int .i64 x.1.2.2] 76)).alloc (.cells #[.int .i64 1] 3)).heap[li]? = some (.loop r) := (hb4.block li (lt_of_heap hr)).trans hr
        have hj0 : CpJ w P (P + 1 + 1 + 1 + 1) (P + 1 + 1 + 1) (P + 1 + 1 + 1 + 1 + 1) (Wx.heap.size + 1 + 1) (Wx.heap.size + 1) (Wx.heap.size + 1 + 1 + 1) Bv Bx W0.heap.size (.slice pa la.length ca) (.slice pb lb.length cb) la lb f t W x Wx A ((((Wx.alloc (.cells #[.int .i64 x.1.2.1, .int .i64 x.1.2.2] 76)).alloc (.cells #[.slice pb lb.length cb] 32)).alloc (.cells #[.int .i64 x.1.2.1, .int .i64 x.1.2.2] 76)).alloc (.cells #[.int .i64 1] 3)) := ⟨hI.step hb4, hr2, bV.below hb4 bV.lt, bX.below hb4 bX.lt, hb4.mono hI.rn.lo.size, keepsFrom_of hb4, by omega, by omega, by omega, by omega, by omega⟩
        have hNQ := hI.rn.lo.size
        generalize (((Wx.alloc (.cells #[.int .i64 x.1.2.1, .int .i64 x.1.2.2] 76)).alloc (.cells #[.slice pb lb.length cb] 32)).alloc (.cells #[.int .i64 x.1.2.1, .int .i64 x.1.2.2] 76)).alloc (.cells #[.int .i64 1] 3) = W2 at *
        generalize hQ : Wx.heap.size = Q at *
        clear c0 c1 c2 hb4 bV bX
        refine wpIn_rangeFunc_ownN (l₀ := li) (r₀ := r) rfl hr' (by omega) (gf := 152) (lb := #[.pointer (some ⟨Q + 1 + 1, 0, none⟩), .pointer (some ⟨Q + 1, 0, none⟩), .pointer (some ⟨Q + 1 + 1 + 1, 0, none⟩)]) rfl trivial (enters_of Try.func152 (by kernel_rfl) rfl)
          ((runs_stops (8 - 1 - 1 - 1) (Q + 1 + 1) (Q + 1) (Q + 1 + 1 + 1) w _ lb x.1.2.1 x.1.2.2 1 (by omega) hRb hSb hxW W2 hr2).inRound li) (fun h k => h.trans k) (Kpn.putObj hr2.lo.size (fun k hk => by simp at hk; omega)) (Below.refl _ _) (fun _ => rfl)
          (fun pre' W' => CpJ w P (P + 1 + 1 + 1 + 1) (P + 1 + 1 + 1) (P + 1 + 1 + 1 + 1 + 1) (Q + 1 + 1) (Q + 1) (Q + 1 + 1 + 1) Bv Bx W0.heap.size (.slice pa la.length ca) (.slice pb lb.length cb) la lb f t W x Wx (cmpJ W x.1.1 A pre') W')
          (fun _ _ _ => False)
          (fun pre' X Y row hs hg hr => hs.turned hg (by omega) (fun r e => ⟨by have := (hr r e).1; omega, (hr r e).2⟩))
          (fun _ _ _ _ _ hs _ _ => hs)
          hj0
          (fun y a'' W' => ∃ By, Q + 1 + 1 + 1 < By ∧ Blk W' By 76 #[.int .i64 y.1.2.1, .int .i64 y.1.2.2] ∧ a'' = { tmps := #[.slice pa la.length ca, .slice pb lb.length cb, .agg #[.int .i64 f, .int .i64 t], .int .i64 W, undef, .pointer (some ⟨w.heap.size, 0, none⟩), .pointer (some ⟨w.heap.size + 1, 0, none⟩), .pointer (some ⟨w.heap.size + 1 + 1, 0, none⟩), .int .i64 0, .int .i64 0, .int .i64 0, .int .i64 F, .pointer (some ⟨P, 0, none⟩), .pointer (some ⟨P + 1, 0, none⟩), .pointer (some ⟨Bv, 0, none⟩), .pointer (some ⟨Bx, 0, none⟩), .int .i64 y.1.1, .pointer (some ⟨By, 0, none⟩), .agg #[.int .i64 f, .int .i64 t], .slice pa la.length ca, .slice pb lb.length cb, .slice (some ⟨w.heap.size + 3, 0, none⟩) 2 2, .int .i64 F, .bool false, .int .i64 F, .bool false, undef, .bool false, .int .i64 W, .bool true, .bool false, .slice pa la.length ca, .agg #[.int .i64 f, .int .i64 t], .func (.func 152) #[] #[.pointer (some ⟨P + 1 + 1 + 1 + 1, 0, none⟩), .pointer (some ⟨P + 1 + 1 + 1, 0, none⟩), .pointer (some ⟨P + 1 + 1 + 1 + 1 + 1, 0, none⟩)], .int .i64 x.1.1, .agg #[.int .i64 x.1.2.1, .int .i64 x.1.2.2], .slice pb lb.length cb, .agg #[.int .i64 x.1.2.1, .int .i64 x.1.2.2], .func (.func 152) #[] #[.pointer (some ⟨Q + 1 + 1, 0, none⟩), .pointer (some ⟨Q + 1, 0, none⟩), .pointer (some ⟨Q + 1 + 1 + 1, 0, none⟩)], .int .i64 y.1.1, .agg #[.int .i64 y.1.2.1, .int .i64 y.1.2.2], undef, undef, undef, undef, undef, undef, undef, undef, undef, undef, undef, undef, undef, undef, undef], defers := [] })
          (fun y a'' _ X Y row hs hg hr => by obtain ⟨By, h1, h2, h3⟩ := hs; exact ⟨By, h1, blk_own (β := Unit) _ _ _ () X Y row h2 hg (fun r e => (hr r e).2), h3⟩)
          ?assign2 ?body2 ?done2 ?stop2
        case assign2 =>
          rintro l2 pre' y W' K hJ hK
          simp only [encRn]
          gi_wp2
          have hbA := (Below.refl W'.heap.size W').alloc (Nat.le_refl _) (.cells #[.int .i64 y.1.2.1, .int .i64 y.1.2.2] 76)
          exact hK _ _ (keepsFrom_of hbA) (hJ.r2.keeps (hJ.r2.step hbA) (hbA.mono hJ.r2.lo.size)) (hJ.step hbA) ⟨W'.heap.size, hJ.r2.bq.lt, Blk.new _ _ _, rfl⟩
        case body2 =>
          rintro l2 pre' y a'' W' hl2 _ hJ ⟨By, hBy, bY, rfl⟩ hlt2
          have hx3 := hJ.h3
          have hPN := hJ.ci.h1
          have hy := y.2
          have HJS := Lib.hid (cmpJ_snoc W x.1.1 A pre' y)
          have hBok := cmpJ_ok (W := W) (xv := x.1.1) hAok pre'
          unfold CmpOk at hBok
          generalize cmpJ W x.1.1 A pre' = B at *
          have hlg := fun w => long_eq y.1.2.1 y.1.2.2 w ⟨by omega, by omega, by omega⟩
          have hdi := fun w => distance_any x.1.1 y.1.1 w (by omega) (by omega)
          have HT := Lib.hid (show cmpT W B x.1.1 y.1.1 y.1.2.1 y.1.2.2 = (B.1 + (y.1.2.2 - y.1.2.1), if W < dist x.1.1 y.1.1 then B.2 + (y.1.2.2 - y.1.2.1) else B.2) from rfl)
          generalize dist x.1.1 y.1.1 = D at *
          have hm1 : IntKind.i64.wrap (B.1 + (y.1.2.2 - y.1.2.1)) = B.1 + (y.1.2.2 - y.1.2.1) := IntWalk.i64_in _ (by omega)
          have hm2 : IntKind.i64.wrap (B.2 + (y.1.2.2 - y.1.2.1)) = B.2 + (y.1.2.2 - y.1.2.1) := IntWalk.i64_in _ (by omega)
          have hyP : P ≠ By := by omega
          have hyP1 : P + 1 ≠ By := by omega
          have HJ := Lib.hid hJ
          have HBY := Lib.hid bY
          have p0 : W'.cell? ⟨P, 0, none⟩ = some (.int .i64 B.1) := hJ.ci.b1.cell 0
          have p1 : W'.frozen? ⟨P, 0, none⟩ = false := hJ.ci.b1.frozen 0
          have p2 := hJ.ci.b1.lt
          have y0 : W'.cell? ⟨By, 0, none⟩ = some (.int .i64 y.1.2.1) := bY.cell 0
          have y1 : W'.cell? ⟨By, 1, none⟩ = some (.int .i64 y.1.2.2) := bY.cell 1
          have y2 := bY.lt
          clear hJ bY hl2 hBok hBy hx3 hQ
          dsimp only
          gi_upto_region 13 with fail
          gi_cut [] from 41 (fun wx => (CpJ w P (P + 1 + 1 + 1 + 1) (P + 1 + 1 + 1) (P + 1 + 1 + 1 + 1 + 1) (Q + 1 + 1) (Q + 1) (Q + 1 + 1 + 1) Bv Bx W0.heap.size (.slice pa la.length ca) (.slice pb lb.length cb) la lb f t W x Wx (B.1 + (y.1.2.2 - y.1.2.1), B.2) wx ∧ Blk wx By 76 #[.int .i64 y.1.2.1, .int .i64 y.1.2.2]) ∧ Below w.heap.size W' wx ∧ KeepsFrom W2.heap.size W' wx)
          case first =>
            gi_region_with_o (refine ⟨trivial, ?_⟩; gi_at_call 118; refine (CallsIn.inRound l2 (callsIn_wide.2 (hlg _))).mono ?_; rintro e w' ⟨rfl, rfl⟩)
            all_goals gi_wp2
            all_goals gi_meet
            all_goals
              exact ⟨⟨((HJ.out.set1 hRa hRb (B.1 + (y.1.2.2 - y.1.2.1))).step ((Below.refl _ _).alloc (Nat.le_refl _) (.cells #[.int .i64 y.1.2.1, .int .i64 y.1.2.2] 76))).drew, ((HBY.out.setOther (by simp; omega) _).alloc _).drew⟩, (((Below.refl _ W').setCell (by simp; omega) _).alloc (by have := HJ.out.r2.lo.size; simp; omega) _).drew, ((KeepsOthers.setCell _ _ _).from _).trans (((KeepsOthers.alloc _ _).trans (KeepsOthers.drew _)).from _)⟩
          case rest =>
            obtain ⟨⟨hJ3, bY3⟩, hlo3, hkf3⟩ := hcut
            clear p0 p1 p2 y0 y1 y2
            have v0 : wc.cell? ⟨Bv, 0, none⟩ = some (.int .i64 x.1.1) := hJ3.bv.cell 0
            have v1 := hJ3.bv.lt
            have v2 : wc.cell? ⟨w.heap.size + 1 + 1, 0, none⟩ = some (.int .i64 W) := hJ3.ci.wb.cell 0
            have v3 := hJ3.ci.wb.lt
            have HJ3 := Lib.hid hJ3
            clear hJ3
            gi_upto_region 14 with fail
            gi_cut [49] from 41 (fun s49 wx => s49 = .bool (decide (W < D)) ∧ (CpJ w P (P + 1 + 1 + 1 + 1) (P + 1 + 1 + 1) (P + 1 + 1 + 1 + 1 + 1) (Q + 1 + 1) (Q + 1) (Q + 1 + 1 + 1) Bv Bx W0.heap.size (.slice pa la.length ca) (.slice pb lb.length cb) la lb f t W x Wx (B.1 + (y.1.2.2 - y.1.2.1), B.2) wx ∧ Blk wx By 76 #[.int .i64 y.1.2.1, .int .i64 y.1.2.2]) ∧ Below w.heap.size W' wx ∧ KeepsFrom W2.heap.size W' wx)
            case first =>
              gi_region_with_o (refine ⟨trivial, ?_⟩; gi_at_call 131; refine (CallsIn.inRound l2 (callsIn_wide.2 (hdi _))).mono ?_; rintro e w' ⟨rfl, rfl⟩)
              all_goals gi_wp2
              all_goals gi_meet
              all_goals
                exact ⟨rfl, ⟨HJ3.out.drew, bY3.drew⟩, hlo3.drew, hkf3.trans ((KeepsOthers.drew _).from _)⟩
            case rest =>
              obtain ⟨rfl, ⟨hJ4, bY4⟩, hlo4, hkf4⟩ := hcut
              clear v0 v1 v2 v3 HJ3 bY3 hlo3 hkf3
              have q0 : wc.cell? ⟨P + 1, 0, none⟩ = some (.int .i64 B.2) := hJ4.ci.b2.cell 0
              have q1 : wc.frozen? ⟨P + 1, 0, none⟩ = false := hJ4.ci.b2.frozen 0
              have q2 := hJ4.ci.b2.lt
              have y0 : wc.cell? ⟨By, 0, none⟩ = some (.int .i64 y.1.2.1) := bY4.cell 0
              have y1 : wc.cell? ⟨By, 1, none⟩ = some (.int .i64 y.1.2.2) := bY4.cell 1
              have y2 := bY4.lt
              have HJ4 := Lib.hid hJ4
              clear hJ4
              by_cases hWD : W < D
              · have hWD' : decide (W < D) = true := decide_eq_true hWD
                have HD := Lib.hid hWD
                clear hWD
                gi_wp2
                rotate_left
                · exfalso; have := HD.out; omega
                gi_region_with_o (refine ⟨trivial, ?_⟩; gi_at_call 118; refine (CallsIn.inRound l2 (callsIn_wide.2 (hlg _))).mono ?_; rintro e w' ⟨rfl, rfl⟩)
                all_goals gi_wp2
                all_goals
                  have hfin := ((HJ4.out.set2 hRa hRb (B.2 + (y.1.2.2 - y.1.2.1))).step ((Below.refl _ _).alloc (Nat.le_refl _) (.cells #[.int .i64 y.1.2.1, .int .i64 y.1.2.2] 76))).drew
                  exact ⟨(hkf4.trans ((KeepsOthers.setCell _ _ _).from _)).trans (((KeepsOthers.alloc _ _).trans (KeepsOthers.drew _)).from _), HJ.out.r2.keeps hfin.r2 (((hlo4.setCell (by simp; omega) _).alloc (by have := HJ4.out.r2.lo.size; simp; omega) _).drew), by dsimp only; rw [HJS.out, HT.out, if_pos HD.out]; exact hfin⟩
              · have hWD' : decide (W < D) = false := decide_eq_false hWD
                have HD := Lib.hid hWD
                clear hWD
                gi_wp2
                exact ⟨hkf4, HJ.out.r2.keeps HJ4.out.r2 hlo4, by dsimp only; rw [HJS.out, HT.out, if_neg (by have := HD.out; omega)]; exact HJ4.out⟩
        case done2 =>
          rintro ys' W' rfl hJ
          rw [cmpI_is hSb hxW] at hJ
          gi_wp2
          exact ⟨hJ.kf, hI.rn.keeps hJ.ci.rn hJ.lo, by dsimp only; rw [HSN.out]; exact hJ.ci⟩
        case stop2 =>
          rintro c pre' W' _ h
          exact h.elim
      case done =>
        rintro D ys Wx hD rfl hI hK
        rw [cmpV_is hSa hW] at hI
        have c0 := hI.b1.cell 0
        have c1 := hI.b2.cell 0
        gi_wp2
        gi_region
        all_goals gi_wp2
        all_goals
          refine ⟨by simp, .inl ⟨_, _, rfl, run_takeDeferred (by exact hK), ?_⟩⟩
          exact ⟨.tuple #[.int .i64 (cmpV la lb f t W).1, .int .i64 (cmpV la lb f t W).2, .int .i64 0], by simp [results, Try.results69, go_sem], by rw [HRR.out, HE1.out]; rfl, hI.rn.lo.drew.trans (belowK_b (w := w) (Nat.le_refl _) Wx.drew D _ _ (by have := hpi.rn.lo.size; omega) hK rfl rfl)⟩
      case stop =>
        rintro D c pre Wx _ _ h _
        exact h.elim
  · have hF' : (F != 0) = true := by simpa using hF
    have HE1 := Lib.hid (show E = F by rw [HE.out, orE_first hF])
    have HF := Lib.hid hF
    clear hF HE HWE
    gi_wp2_with (refine ⟨trivial, ?_⟩; gi_at_call 116; refine (callsIn_wide.2 hqc).mono ?_; clear hqc; rintro e w2 ⟨rfl, hb2⟩; have be2 := hbb.trans (hb2.mono hbb.size))
    exact ⟨.tuple #[.int .i64 0, .int .i64 0, .int .i64 F], by simp [results, Try.results69, go_sem], by rw [HRR.out, HE1.out, if_neg HF.out], be2⟩
end Go.Proofs.Ytgbnjbbjgkfefaa
