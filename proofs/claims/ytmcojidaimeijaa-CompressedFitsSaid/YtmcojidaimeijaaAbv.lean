/- Above (package query). The limit lies far within an int. -/
import Derived.Test.YtmcojidaimeijaaAbm
import Derived.Test.YtmcojidaimeijaaAgg
import Derived.Test.YtmcojidaimeijaaPar
import Derived.Test.YtmcojidaimeijaaKmm
import Derived.Test.YtmcojidaimeijaaChk
import Derived.WalkHide
namespace Go.Proofs.Ytmcojidaimeijaa
open Go.RowKit Go.Shelf
set_option linter.unusedVariables false
set_option linter.unusedSimpArgs false
attribute [local go_sem] Oper.semAt_some

def aboE (l : List Smp) (f t L : Int) : Int := orE (orE (serErr l) (winErr f t)) (if inB L (-1000000) 1000000 = false then 1 else 0)
def aboR (l : List Smp) (f t L : Int) : List (Int × Int) × Int := if aboE l f t L = 0 then aboV l f t L else ([], 0)

theorem keepsFrom_row {B base size n : Nat} {e : TypeId} {v : Value} {xs : List Value} {W W' : World} (hr : W.ownsRow base e size v n xs) (hg : W.grownBy W' v.ownBlock) : KeepsFrom B W W' :=
  ⟨hg.size, fun k o _ hk hc => (hg.block k (lt_of_heap hk) (fun e' => by
    rcases hr.2 with ⟨rfl, _⟩ | ⟨g, cap, cur, rfl, _, hgb, _⟩
    · simp [Value.ownBlock] at e'
    · obtain rfl : k = g := by simpa [Value.ownBlock] using e'
      rw [hk] at hgb; cases hgb; cases hc)).trans hk⟩
theorem drew_below (W : World) : Below W.heap.size W W.drew := ⟨rfl, rfl, rfl, Nat.le_refl _, fun _ _ => rfl⟩
theorem own_lt {W : World} {base size n : Nat} {e : TypeId} {v : Value} {xs : List Value} (hr : W.ownsRow base e size v n xs) : some W.heap.size ≠ v.ownBlock := by
  rcases hr.2 with ⟨rfl, _⟩ | ⟨g, cap, cur, rfl, _, hgb, _⟩
  · simp [Value.ownBlock]
  · simp [Value.ownBlock]; have := lt_of_heap hgb; omega

/-- What a round of Above finds. -/
structure AwI (w0 : World) (P bw bl bq : Nat) (v : Value) (l : List Smp) (f t L : Int) (vo : Value) (out : List (Int × Int)) (s : Int) (W : World) : Prop where
  ob : Blk W P 44 #[vo]
  ow : W.ownsRow w0.heap.size 43 2 vo out.length (wdwCells out)
  tb : Blk W (P + 1) 3 #[.int .i64 s]
  lb : Blk W (w0.heap.size + 1) 3 #[.int .i64 L]
  rn : RnK w0 bw bl bq v l f t 1 W
  ne : some bw ≠ vo.ownBlock
  h1 : w0.heap.size + 1 < P
  h2 : P + 1 < bw ∧ P + 1 < bl ∧ P + 1 < bq
section
variable {w0 W W' : World} {P bw bl bq : Nat} {v : Value} {l : List Smp} {f t L : Int} {vo : Value} {out : List (Int × Int)} {s : Int}
theorem AwI.step (h : AwI w0 P bw bl bq v l f t L vo out s W) (hb : Below W.heap.size W W') : AwI w0 P bw bl bq v l f t L vo out s W' :=
  ⟨h.ob.below hb h.ob.lt, own_keep h.ow fun b _ _ hh => hb.block b (lt_of_heap hh), h.tb.below hb h.tb.lt, h.lb.below hb h.lb.lt, h.rn.step hb, h.ne, h.h1, h.h2⟩
theorem AwI.turned (h : AwI w0 P bw bl bq v l f t L vo out s W) {row : Option Nat} (hg : W.grownBy W' row) (hr : ∀ r, row = some r → w0.heap.size ≤ r ∧ ∃ o : Obj, W.heap[r]? = some o ∧ o.isCells = false) : AwI w0 P bw bl bq v l f t L vo out s W' :=
  have hr' : ∀ r, row = some r → ∃ o : Obj, W.heap[r]? = some o ∧ o.isCells = false := fun r e => (hr r e).2
  ⟨blk_own (β := Unit) _ _ _ () _ _ _ h.ob hg hr', ownsRow_own (β := Unit) _ _ _ _ _ _ () _ _ _ h.ow hg hr', blk_own (β := Unit) _ _ _ () _ _ _ h.tb hg hr', blk_own (β := Unit) _ _ _ () _ _ _ h.lb hg hr', h.rn.turned hg hr, h.ne, h.h1, h.h2⟩
/-- The row grows, the box is written. -/
theorem AwI.grown (h : AwI w0 P bw bl bq v l f t L vo out s W) (hR : RdS w0 57 v l) {g n c : Nat} {out' : List (Int × Int)} {w1 : World} (hg : W.grownBy w1 vo.ownBlock) (hn : n = out'.length) (ho : w1.ownsRow w0.heap.size 43 2 (.slice (some ⟨g, 0, none⟩) n c) n (wdwCells out')) (hw : vo.ownBlock = some g ∨ W.heap.size ≤ g) :
    AwI w0 P bw bl bq v l f t L (.slice (some ⟨g, 0, none⟩) n c) out' s (w1.setCell ⟨P, 0, none⟩ (.slice (some ⟨g, 0, none⟩) n c)) := by
  subst hn
  have k1 : ∀ {b : Nat} {t : TypeId} {cs : Array Value}, Blk W b t cs → t ≠ 43 → Blk w1 b t cs := fun hb ht => (row_other h.ow hg hb ht).trans hb
  have k2 : ∀ {b : Nat} {t : TypeId} {cs : Array Value}, Blk W b t cs → t ≠ 43 → b ≠ P → Blk (w1.setCell ⟨P, 0, none⟩ (.slice (some ⟨g, 0, none⟩) out'.length c)) b t cs := fun hb ht hne => (Below.heap_setCell _ _ _ _ hne).trans (k1 hb ht)
  have hob := k1 h.ob (by decide)
  have hP := h.h1
  have h2 := h.h2
  have hlo : Below w0.heap.size w0 (w1.setCell ⟨P, 0, none⟩ (.slice (some ⟨g, 0, none⟩) out'.length c)) := (h.rn.lo.trans (below_grown h.ow h.rn.lo.size hg)).setCell (by simp; omega) _
  refine ⟨Boxed.set _ hob, own_keep ho fun b cur fr hh => Below.heap_setCell _ _ _ _ (fun e => ?_), k2 h.tb (by decide) (by omega), k2 h.lb (by decide) (by omega), ⟨?_, k2 h.rn.bl (by decide) (by omega), k2 h.rn.bq (by decide) (by omega), Rd.below hR hlo, hlo⟩, ?_, h.h1, h.h2⟩
  · subst e
    rw [hob] at hh
    cases hh
  · exact (Below.heap_setCell _ _ _ _ (by simp; omega)).trans ((hg.block bw h.rn.bw.lt h.ne).trans h.rn.bw)
  · simp only [Value.ownBlock]
    intro e
    rcases hw with hw | hw
    · exact h.ne (e.trans hw.symm)
    · have := h.rn.bw.lt; simp at e; omega
theorem AwI.setT (h : AwI w0 P bw bl bq v l f t L vo out s W) (hR : RdS w0 57 v l) (s' : Int) : AwI w0 P bw bl bq v l f t L vo out s' (W.setCell ⟨P + 1, 0, none⟩ (.int .i64 s')) := by
  have hP := h.h1
  have h2 := h.h2
  refine ⟨h.ob.setOther (by simp) _, own_keep h.ow fun b cur fr hh => Below.heap_setCell _ _ _ _ (fun e => ?_), blk_set h.tb 0 _, h.lb.setOther (by simp; omega) _, h.rn.setCell hR _ _ (by simp; omega) (by simp; omega) (by simp; omega) (by simp; omega), h.ne, h.h1, h.h2⟩
  subst e
  rw [show W.heap[P + 1]? = _ from h.tb] at hh
  cases hh
end

set_option maxRecDepth 100000 in
set_option maxHeartbeats 4000000 in
theorem above_any (v : Value) (l : List Smp) (f t L : Int) (w : World) (hR : RdS w 57 v l) (hL : -4000000000 ≤ L ∧ L ≤ 4000000000) :
    Calls Try.prog 18 #[v, .agg #[.int .i64 f, .int .i64 t], .int .i64 L] w fun e w' => ∃ vr, e = .returned (.tuple #[vr, .int .i64 (aboR l f t L).2, .int .i64 (aboE l f t L)]) ∧ RdWdw w' vr (aboR l f t L).1 ∧ Below w.heap.size w w' := by
  obtain ⟨pa, ca, rfl⟩ := hR.lenv
  have hmx : Try.prog.follows .mixedOrders = true := by kernel_rfl
  have hE : aboE l f t L = orE (orE (serErr l) (winErr f t)) (if inB L (-1000000) 1000000 = false then 1 else 0) := rfl
  have hRR : aboR l f t L = if aboE l f t L = 0 then aboV l f t L else ([], 0) := rfl
  have hba : Below w.heap.size w ((w.alloc (.cells #[.int .i64 f, .int .i64 t] 43)).alloc (.cells #[.int .i64 L] 3)) := ((Below.refl _ w).alloc (Nat.le_refl _) _).alloc (by simp) _
  have bw0 : Blk ((w.alloc (.cells #[.int .i64 f, .int .i64 t] 43)).alloc (.cells #[.int .i64 L] 3)) w.heap.size 43 #[.int .i64 f, .int .i64 t] := (Blk.new w _ _).alloc _
  have bl0 : Blk ((w.alloc (.cells #[.int .i64 f, .int .i64 t] 43)).alloc (.cells #[.int .i64 L] 3)) (w.heap.size + 1) 3 #[.int .i64 L] := Blk.new1 _ _ _ _
  have hsz : ((w.alloc (.cells #[.int .i64 f, .int .i64 t] 43)).alloc (.cells #[.int .i64 L] 3)).heap.size = w.heap.size + 2 := by simp
  generalize aboE l f t L = E at *
  generalize aboR l f t L = RR at *
  have HE := Lib.hid hE
  have HRR := Lib.hid hRR
  have hbb := hba.alloc hba.size (.cells #[.slice pa l.length ca] 26)
  have hqc := qcheck1_any (w.heap.size + 2) (.slice pa l.length ca) l f t (((w.alloc (.cells #[.int .i64 f, .int .i64 t] 43)).alloc (.cells #[.int .i64 L] 3)).alloc (.cells #[.slice pa l.length ca] 26)) (blk_new_at2 _ _ _ _ hsz) (Rd.below hR hbb)
  have bw1 := bw0.alloc (.cells #[.slice pa l.length ca] 26)
  have bl1 := bl0.alloc (.cells #[.slice pa l.length ca] 26)
  refine (callsIn_wide (n := 5)).1 ?_
  refine callsIn_of_wp_marks Try.func18 rfl trivial ?_ rfl
  simp only [Try.ntmps18, List.size_toArray, List.length_cons, List.length_nil, Nat.reduceAdd, Nat.reduceSub, Array.replicate_succ, Array.replicate_zero, List.push_toArray, List.append_toArray, List.nil_append, List.cons_append]
  gi_upto_region 1 with fail
  generalize (w.alloc (.cells #[.int .i64 f, .int .i64 t] 43)).alloc (.cells #[.int .i64 L] 3) = w1 at *
  have e0 := bw0.cell 0
  have e1 := bw0.cell 1
  clear hE hRR bl0 hba
  have HWE := Lib.hid (fun h : orE (serErr l) (winErr f t) = 0 => And.intro (orE_zero h).1 (winErr_ok (orE_zero h).2))
  generalize orE (serErr l) (winErr f t) = F at *
  by_cases hF : F = 0
  · have hF' : (F != 0) = false := by simpa using hF
    have HF := Lib.hid hF
    obtain ⟨hS, hW⟩ := HWE.out hF
    clear hF HWE
    cases hin : inB L (-1000000) 1000000
    · have HE1 := Lib.hid (show E = 1 by rw [HE.out, hin, HF.out]; rfl)
      clear HE
      gi_wp2_with (first
        | (refine ⟨trivial, ?_⟩; gi_at_call 57; refine (callsIn_wide.2 hqc).mono ?_; clear hqc; rintro e w2 ⟨rfl, hb2⟩; have bw2 := bw1.below hb2 bw1.lt; have bl2 := bl1.below hb2 bl1.lt; have be2 := hbb.trans (hb2.mono hbb.size); have l0 := bl2.cell 0)
        | (refine ⟨trivial, ?_⟩; gi_at_call 58; refine (callsIn_wide.2 (isValue_any _ _)).mono ?_; rintro e w3 ⟨rfl, rfl⟩; rw [hin]))
      exact ⟨.tuple #[.slice none 0 0, .int .i64 0, .int .i64 1], by simp [results, Try.results18, go_sem], .slice none 0 0, by rw [HRR.out, HE1.out]; rfl, by rw [HRR.out, HE1.out]; exact Rd.nil _ _ _, be2⟩
    · have HE1 := Lib.hid (show E = 0 by rw [HE.out, hin, HF.out]; rfl)
      clear HE
      gi_wp2_with (first
        | (refine ⟨trivial, ?_⟩; gi_at_call 57; refine (callsIn_wide.2 hqc).mono ?_; clear hqc; rintro e w2 ⟨rfl, hb2⟩; have bw2 := bw1.below hb2 bw1.lt; have bl2 := bl1.below hb2 bl1.lt; have be2 := hbb.trans (hb2.mono hbb.size); have l0 := bl2.cell 0; clear e0 e1; have e0 := bw2.cell 0; have e1 := bw2.cell 1; have z0 := bw2.lt)
        | (refine ⟨trivial, ?_⟩; gi_at_call 58; refine (callsIn_wide.2 (isValue_any _ _)).mono ?_; rintro e w3 ⟨rfl, rfl⟩; rw [hin])
        | (refine ⟨trivial, ?_⟩; gi_at_call 59; refine (callsIn_wide.2 (valued_any _ l.length ca pa rfl f t _)).mono ?_; rintro e w' ⟨rfl, rfl⟩))
      have hlong := (serErr_good hS).1
      have hsz2 : w.heap.size + 1 < w2.heap.size := by have := bl2.lt; omega
      have hbe3 : Below w2.heap.size w2 ((((((w2.alloc (Obj.cells #[Value.slice none 0 0] 44)).alloc (Obj.cells #[Value.int .i64 0] 3)).alloc (Obj.cells #[Value.int .i64 f, Value.int .i64 t] 43)).alloc (Obj.cells #[Value.slice pa l.length ca] 26)).alloc (Obj.cells #[Value.int .i64 f, Value.int .i64 t] 43)).alloc (Obj.cells #[Value.int .i64 1] 3)) := ((((((Below.refl _ w2).alloc (Nat.le_refl _) _).alloc (by simp) _).alloc (by simp; omega) _).alloc (by simp; omega) _).alloc (by simp; omega) _).alloc (by simp; omega) _
      have hsz3 : ((((((w2.alloc (Obj.cells #[Value.slice none 0 0] 44)).alloc (Obj.cells #[Value.int .i64 0] 3)).alloc (Obj.cells #[Value.int .i64 f, Value.int .i64 t] 43)).alloc (Obj.cells #[Value.slice pa l.length ca] 26)).alloc (Obj.cells #[Value.int .i64 f, Value.int .i64 t] 43)).alloc (Obj.cells #[Value.int .i64 1] 3)).heap.size = w2.heap.size + 6 := by simp
      have hpi : AwI w w2.heap.size (w2.heap.size + 1 + 1 + 1 + 1) (w2.heap.size + 1 + 1 + 1) (w2.heap.size + 1 + 1 + 1 + 1 + 1) (.slice pa l.length ca) l f t L (.slice none 0 0) [] 0 ((((((w2.alloc (Obj.cells #[Value.slice none 0 0] 44)).alloc (Obj.cells #[Value.int .i64 0] 3)).alloc (Obj.cells #[Value.int .i64 f, Value.int .i64 t] 43)).alloc (Obj.cells #[Value.slice pa l.length ca] 26)).alloc (Obj.cells #[Value.int .i64 f, Value.int .i64 t] 43)).alloc (Obj.cells #[Value.int .i64 1] 3)) := by
        have g0 := ((((Blk.new1 w2 (Obj.cells #[Value.slice none 0 0] 44) 3 #[Value.int .i64 0]).alloc (Obj.cells #[Value.int .i64 f, Value.int .i64 t] 43)).alloc (Obj.cells #[Value.slice pa l.length ca] 26)).alloc (Obj.cells #[Value.int .i64 f, Value.int .i64 t] 43)).alloc (Obj.cells #[Value.int .i64 1] 3)
        have g1 := ((Blk.new (((w2.alloc (Obj.cells #[Value.slice none 0 0] 44)).alloc (Obj.cells #[Value.int .i64 0] 3)).alloc (Obj.cells #[Value.int .i64 f, Value.int .i64 t] 43)) 26 #[Value.slice pa l.length ca]).alloc (Obj.cells #[Value.int .i64 f, Value.int .i64 t] 43)).alloc (Obj.cells #[Value.int .i64 1] 3)
        have g2 := (Blk.new ((((w2.alloc (Obj.cells #[Value.slice none 0 0] 44)).alloc (Obj.cells #[Value.int .i64 0] 3)).alloc (Obj.cells #[Value.int .i64 f, Value.int .i64 t] 43)).alloc (Obj.cells #[Value.slice pa l.length ca] 26)) 43 #[Value.int .i64 f, Value.int .i64 t]).alloc (Obj.cells #[Value.int .i64 1] 3)
        have g3 := Blk.new (((((w2.alloc (Obj.cells #[Value.slice none 0 0] 44)).alloc (Obj.cells #[Value.int .i64 0] 3)).alloc (Obj.cells #[Value.int .i64 f, Value.int .i64 t] 43)).alloc (Obj.cells #[Value.slice pa l.length ca] 26)).alloc (Obj.cells #[Value.int .i64 f, Value.int .i64 t] 43)) 3 #[Value.int .i64 1]
        simp only [World.size_alloc] at g1 g2 g3
        have hlo := be2.trans (hbe3.mono be2.size)
        exact ⟨(((((Blk.new w2 _ _).alloc _).alloc _).alloc _).alloc _).alloc _, World.ownsRow_nil _ _ _ _, g0, bl2.below hbe3 bl2.lt, ⟨g2, g1, g3, Rd.below hR hlo, hlo⟩, by simp [Value.ownBlock], hsz2, by omega, by omega, by omega⟩
      generalize (((((w2.alloc (Obj.cells #[Value.slice none 0 0] 44)).alloc (Obj.cells #[Value.int .i64 0] 3)).alloc (Obj.cells #[Value.int .i64 f, Value.int .i64 t] 43)).alloc (Obj.cells #[Value.slice pa l.length ca] 26)).alloc (Obj.cells #[Value.int .i64 f, Value.int .i64 t] 43)).alloc (Obj.cells #[Value.int .i64 1] 3) = W0 at *
      generalize w2.heap.size = P at *
      clear bw2 bl2 be2 l0 e0 e1 hbe3 bw0 bw1 bl1 hbb
      refine wpIn_rangeFunc_ownH rfl (by omega) (gf := 119) (lb := #[.pointer (some ⟨P + 1 + 1 + 1 + 1, 0, none⟩), .pointer (some ⟨P + 1 + 1 + 1, 0, none⟩), .pointer (some ⟨P + 1 + 1 + 1 + 1 + 1, 0, none⟩)]) rfl trivial (enters_of Try.func119 (by kernel_rfl) rfl)
        (runs_stops (5 - 1) (P + 1 + 1 + 1 + 1) (P + 1 + 1 + 1) (P + 1 + 1 + 1 + 1 + 1) w _ l f t 1 (by omega) hR hS hW W0 hpi.rn) (fun h k => h.trans k) (Kpn.putObj hpi.rn.lo.size (fun k hk => by simp at hk; omega)) (Below.refl _ _) (fun _ => rfl)
        (fun pre W => ∃ vo, AwI w P (P + 1 + 1 + 1 + 1) (P + 1 + 1 + 1) (P + 1 + 1 + 1 + 1 + 1) (.slice pa l.length ca) l f t L vo (abR L pre).1 (abR L pre).2 W)
        (fun _ _ _ => False)
        (fun pre X Y row hs hg hr => by obtain ⟨vo, h⟩ := hs; exact ⟨vo, h.turned hg (fun r e => ⟨Nat.le_trans hpi.rn.lo.size (hr r e).1, (hr r e).2⟩)⟩)
        (fun _ _ _ _ _ hs _ _ => hs)
        ⟨_, hpi⟩
        (fun x a' W => ∃ Bx vo, P + 1 + 1 + 1 + 1 + 1 < Bx ∧ Blk W Bx 43 #[.int .i64 x.1.2.1, .int .i64 x.1.2.2] ∧ (Blk W P 44 #[vo] ∧ some Bx ≠ vo.ownBlock) ∧ a' = { tmps := #[.slice pa l.length ca, .agg #[.int .i64 f, .int .i64 t], .int .i64 L, undef, .pointer (some ⟨w.heap.size, 0, none⟩), .pointer (some ⟨w.heap.size + 1, 0, none⟩), .slice none 0 0, .int .i64 0, .int .i64 0, .int .i64 F, .pointer (some ⟨P, 0, none⟩), .pointer (some ⟨P + 1, 0, none⟩), .int .i64 x.1.1, .pointer (some ⟨Bx, 0, none⟩), .agg #[.int .i64 f, .int .i64 t], .slice pa l.length ca, .slice (some ⟨w.heap.size + 2, 0, none⟩) 1 1, .int .i64 F, .bool false, .int .i64 F, .bool false, undef, .bool false, .int .i64 L, .bool true, .bool false, .slice pa l.length ca, .agg #[.int .i64 f, .int .i64 t], .func (.func 119) #[] #[.pointer (some ⟨P + 1 + 1 + 1 + 1, 0, none⟩), .pointer (some ⟨P + 1 + 1 + 1, 0, none⟩), .pointer (some ⟨P + 1 + 1 + 1 + 1 + 1, 0, none⟩)], .int .i64 x.1.1, .agg #[.int .i64 x.1.2.1, .int .i64 x.1.2.2], undef, undef, undef, undef, undef, undef, undef, undef, undef, undef, undef, undef], defers := [] })
        (fun x a' _ X Y row hs hg hr => by obtain ⟨Bx, vo, h1, h2, ⟨h4, h5⟩, h3⟩ := hs; exact ⟨Bx, vo, h1, blk_own (β := Unit) _ _ _ () X Y row h2 hg (fun r e => (hr r e).2), ⟨blk_own (β := Unit) _ _ _ () X Y row h4 hg (fun r e => (hr r e).2), h5⟩, h3⟩)
        ?assign ?body ?done ?stop
      case assign =>
        rintro li pre x W K ⟨vo, hI⟩ hK
        simp only [encRn]
        gi_wp2
        have hbA := (Below.refl W.heap.size W).alloc (Nat.le_refl _) (.cells #[.int .i64 x.1.2.1, .int .i64 x.1.2.2] 43)
        exact hK _ _ (keepsFrom_of hbA) (hI.rn.keeps (hI.rn.step hbA) (hbA.mono hI.rn.lo.size)) ⟨vo, hI.step hbA⟩ ⟨W.heap.size, vo, hI.rn.bq.lt, Blk.new _ _ _, ⟨hI.ob.below hbA hI.ob.lt, own_lt hI.ow⟩, rfl⟩
      case body =>
        rintro li pre x a' W hl ⟨r, hr⟩ ⟨vo, hI⟩ ⟨Bx, vo', hBx, bX, ⟨hob', hne⟩, rfl⟩ hlt
        obtain rfl : vo' = vo := by
          have h := (show W.heap[P]? = _ from hob').symm.trans (show W.heap[P]? = _ from hI.ob)
          simpa using h
        have c0 := hI.lb.cell 0
        have HSN := Lib.hid (abR_snoc L pre x)
        have hln := abR_long L pre
        have hx := x.2
        generalize abR L pre = A at *
        by_cases hv : L < x.1.1
        · have HT := Lib.hid (show abT L A x.1.1 x.1.2.1 x.1.2.2 = (jnF A.1 x.1.2.1 x.1.2.2, A.2 + (x.1.2.2 - x.1.2.1)) by unfold abT; rw [if_pos hv])
          have c1 := hI.ob.cell 0
          have c2 := bX.cell 0
          have c3 := bX.cell 1
          have hj := joined_any w.heap.size vo' A.1 x.1.2.1 x.1.2.2 W hI.ow hI.rn.lo.size (by omega)
          have hlg := fun w => long_eq x.1.2.1 x.1.2.2 w ⟨by omega, by omega, by omega⟩
          have hm1 : IntKind.i64.wrap (A.2 + (x.1.2.2 - x.1.2.1)) = A.2 + (x.1.2.2 - x.1.2.1) := IntWalk.i64_in _ (by omega)
          gi_wp2_with (refine ⟨trivial, ?_⟩; gi_at_call 60; refine (CallsIn.inRound li (callsIn_wide.2 hj)).mono ?_; clear hj; rintro e w3 ⟨g, n, c, rfl, rfl, hown3, hg3, hw3⟩; have hob3 := (row_other hI.ow hg3 hI.ob (by decide)).trans hI.ob; have d1 := Blk.cell hob3 0; have d2 := Blk.frozen hob3 0; have hI4 := hI.grown hR hg3 rfl hown3 hw3; have bX4 : Blk (w3.setCell ⟨P, 0, none⟩ (.slice (some ⟨g, 0, none⟩) (jnF A.1 x.1.2.1 x.1.2.2).length c)) Bx 43 #[.int .i64 x.1.2.1, .int .i64 x.1.2.2] := (Below.heap_setCell _ _ _ _ (by simp; omega)).trans ((hg3.block Bx bX.lt hne).trans bX))
          have hk4 : KeepsFrom W0.heap.size W (w3.setCell ⟨P, 0, none⟩ (.slice (some ⟨g, 0, none⟩) (jnF A.1 x.1.2.1 x.1.2.2).length c)) := (keepsFrom_row hI.ow hg3).trans ((KeepsOthers.setCell _ _ _).from _)
          have hb4 : Below w.heap.size W (w3.setCell ⟨P, 0, none⟩ (.slice (some ⟨g, 0, none⟩) (jnF A.1 x.1.2.1 x.1.2.2).length c)) := (below_grown hI.ow hI.rn.lo.size hg3).setCell (by simp; omega) _
          generalize w3.setCell ⟨P, 0, none⟩ (.slice (some ⟨g, 0, none⟩) (jnF A.1 x.1.2.1 x.1.2.2).length c) = w4 at *
          have HI4 := Lib.hid hI4
          have HI := Lib.hid hI
          have HK4 := Lib.hid hk4
          have HB4 := Lib.hid hb4
          have s0 : w4.cell? ⟨P + 1, 0, none⟩ = some (.int .i64 A.2) := HI4.out.tb.cell 0
          have s1 : w4.frozen? ⟨P + 1, 0, none⟩ = false := HI4.out.tb.frozen 0
          have s2 := HI4.out.tb.lt
          have b0 : w4.cell? ⟨Bx, 0, none⟩ = some (.int .i64 x.1.2.1) := bX4.cell 0
          have b1 : w4.cell? ⟨Bx, 1, none⟩ = some (.int .i64 x.1.2.2) := bX4.cell 1
          have b2 := bX4.lt
          clear d1 d2 c0 c1 c2 c3 hob3 hown3 hg3 hw3 hI4 hI hk4 hb4 bX bX4 hob' hne hr hl hBx hln hpi
          gi_region_with_o (refine ⟨trivial, ?_⟩; gi_at_call 61; refine (CallsIn.inRound li (callsIn_wide.2 (hlg _))).mono ?_; rintro e w' ⟨rfl, rfl⟩)
          all_goals gi_wp2
          all_goals
            have hI5 := ((HI4.out.setT hR (A.2 + (x.1.2.2 - x.1.2.1))).step ((Below.refl _ _).alloc (Nat.le_refl _) (.cells #[.int .i64 x.1.2.1, .int .i64 x.1.2.2] 43))).step (drew_below _)
            have hb4 := HB4.out
            have hI := HI.out
            have hP4 := HI4.out.h1
            exact ⟨(HK4.out.trans ((KeepsOthers.setCell _ _ _).from _)).trans (((KeepsOthers.alloc _ _).trans (KeepsOthers.drew _)).from _), hI.rn.keeps hI5.rn (((hb4.setCell (by simp; omega) _).alloc (by have := hb4.size; have := hI.rn.lo.size; simp; omega) _).drew), _, by rw [HSN.out, HT.out]; exact hI5⟩
        · have HT := Lib.hid (show abT L A x.1.1 x.1.2.1 x.1.2.2 = A by unfold abT; rw [if_neg hv])
          gi_wp2
          exact ⟨KeepsFrom.refl _ _, Kpn.refl _ _ _, vo', by rw [HSN.out, HT.out]; exact hI⟩
      case done =>
        rintro D ys W hD rfl ⟨vo, hI⟩ hK
        rw [aboV_is hS hW] at hI
        have c0 := hI.ob.cell 0
        have c1 := hI.tb.cell 0
        gi_wp2
        gi_region
        all_goals gi_wp2
        all_goals
          refine ⟨by simp, .inl ⟨_, _, rfl, run_takeDeferred (by exact hK), ?_⟩⟩
          exact ⟨.tuple #[vo, .int .i64 (aboV l f t L).2, .int .i64 0], by simp [results, Try.results18, go_sem], vo, by rw [HRR.out, HE1.out]; rfl, by rw [HRR.out, HE1.out]; exact Rd.of_own (ownsRow_putObj hI.ow _ hK rfl), hI.rn.lo.drew.trans (belowK_b (w := w) (Nat.le_refl _) W.drew D _ _ (by have := hI.rn.lo.size; have := hpi.rn.lo.size; omega) hK rfl rfl)⟩
      case stop =>
        rintro D c pre W _ _ h _
        exact h.elim
  · have hF' : (F != 0) = true := by simpa using hF
    have HE1 := Lib.hid (show E = F by rw [HE.out, orE_first hF])
    have HF := Lib.hid hF
    clear hF HE HWE
    gi_wp2_with (refine ⟨trivial, ?_⟩; gi_at_call 57; refine (callsIn_wide.2 hqc).mono ?_; clear hqc; rintro e w2 ⟨rfl, hb2⟩; have be2 := hbb.trans (hb2.mono hbb.size))
    exact ⟨.tuple #[.slice none 0 0, .int .i64 0, .int .i64 F], by simp [results, Try.results18, go_sem], .slice none 0 0, by rw [HRR.out, HE1.out, if_neg HF.out], by rw [HRR.out, HE1.out, if_neg HF.out]; exact Rd.nil _ _ _, be2⟩
end Go.Proofs.Ytmcojidaimeijaa
