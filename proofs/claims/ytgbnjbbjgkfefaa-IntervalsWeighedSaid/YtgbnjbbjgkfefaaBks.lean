/- Buckets (package query). The length of a part lies between 0 and 86400001. -/
import Derived.Test.YtgbnjbbjgkfefaaBkv
import Derived.Test.YtgbnjbbjgkfefaaPar
import Derived.Test.YtgbnjbbjgkfefaaKmm
import Derived.Test.YtgbnjbbjgkfefaaAgg
namespace Go.Proofs.Ytgbnjbbjgkfefaa
open Go.RowKit Go.Shelf
set_option linter.unusedVariables false
set_option linter.unusedSimpArgs false
attribute [local go_sem] Oper.semAt_some

def bktR (l : List Smp) (f t ev : Int) : List Bkt := if parE l f t ev = 0 then bktTo l f t ev (ptsCnt f t ev) else []

/-- What a round of Buckets finds. -/
structure BkI (w0 : World) (P : Nat) (v : Value) (l : List Smp)  (f t ev : Int) (vo : Value) (out : List Bkt) (W : World) : Prop where
  ob : Blk W P 110 #[vo]
  ow : W.ownsRow w0.heap.size 124 7 vo out.length (bktCells out)
  bl : Blk W w0.heap.size 32 #[v]
  bw : Blk W (P + 1) 76 #[.int .i64 f, .int .i64 t]
  be : Blk W (P + 1 + 1) 3 #[.int .i64 ev]
  rs : RdS W 71 v l
  lo : Below w0.heap.size w0 W
section
variable {w0 W W' : World} {P : Nat} {v : Value} {l : List Smp} {f t ev : Int} {vo : Value} {out : List Bkt}
theorem BkI.step (h : BkI w0 P v l f t ev vo out W) (hb : Below W.heap.size W W') : BkI w0 P v l f t ev vo out W' :=
  ⟨h.ob.below hb h.ob.lt, own_keep h.ow fun b _ _ hh => hb.block b (lt_of_heap hh), h.bl.below hb h.bl.lt, h.bw.below hb h.bw.lt, h.be.below hb h.be.lt, Rd.below h.rs hb, h.lo.trans (hb.mono h.lo.size)⟩
theorem BkI.alloc (h : BkI w0 P v l f t ev vo out W) (o : Obj) : BkI w0 P v l f t ev vo out (W.alloc o) := h.step ((Below.refl _ W).alloc (Nat.le_refl _) o)
theorem BkI.turned (h : BkI w0 P v l f t ev vo out W) {row : Option Nat} (hg : W.grownBy W' row) (hr : ∀ r, row = some r → w0.heap.size ≤ r ∧ ∃ o : Obj, W.heap[r]? = some o ∧ o.isCells = false) : BkI w0 P v l f t ev vo out W' :=
  have hr' : ∀ r, row = some r → ∃ o : Obj, W.heap[r]? = some o ∧ o.isCells = false := fun r e => (hr r e).2
  ⟨blk_own (β := Unit) _ _ _ () _ _ _ h.ob hg hr', ownsRow_own (β := Unit) _ _ _ _ _ _ () _ _ _ h.ow hg hr', blk_own (β := Unit) _ _ _ () _ _ _ h.bl hg hr', blk_own (β := Unit) _ _ _ () _ _ _ h.bw hg hr', blk_own (β := Unit) _ _ _ () _ _ _ h.be hg hr', rdS_own (β := Unit) _ _ _ () _ _ _ h.rs hg hr', h.lo.grown hg h.lo.size (fun k e => (hr k e).1)⟩
theorem BkI.grown (h : BkI w0 P v l f t ev vo out W) (x : Bkt) (v' : Value) (hP : w0.heap.size < P) {w1 : World} (hg : W.grownBy w1 vo.ownBlock) (ho : w1.ownsRow w0.heap.size 124 7 v' (out.length + 1) (bktCells (out ++ [x]))) :
    BkI w0 P v l f t ev v' (out ++ [x]) (w1.setCell ⟨P, 0, none⟩ v') := by
  have k1 : ∀ {b : Nat} {t : TypeId} {cs : Array Value}, Blk W b t cs → t ≠ 124 → Blk w1 b t cs := fun hb ht => (row_other h.ow hg hb ht).trans hb
  have k2 : ∀ {b : Nat} {t : TypeId} {cs : Array Value}, Blk W b t cs → t ≠ 124 → b ≠ P → Blk (w1.setCell ⟨P, 0, none⟩ v') b t cs := fun hb ht hne => (Below.heap_setCell _ _ _ _ hne).trans (k1 hb ht)
  have hob := k1 h.ob (by decide)
  refine ⟨Boxed.set v' hob, own_keep (by simpa using ho) fun b cur fr hh => Below.heap_setCell _ _ _ _ (fun e => ?_), k2 h.bl (by decide) (by omega), k2 h.bw (by decide) (by omega), k2 h.be (by decide) (by omega), ?_, ?_⟩
  · subst e
    rw [hob] at hh
    cases hh
  · refine Rd.keep (Rd.keep h.rs fun b cur fr hh => row_other h.ow hg hh (by decide)) fun b cur fr hh => Below.heap_setCell _ _ _ _ (fun e => ?_)
    subst e
    rw [hob] at hh
    cases hh
  · exact (h.lo.trans (below_grown h.ow h.lo.size hg)).setCell (by simp; omega) _
theorem BkI.kpn {vo' : Value} {out' : List Bkt} (h : BkI w0 P v l f t ev vo out W) (h' : BkI w0 P v l f t ev vo' out' W') (hb : Below w0.heap.size W W') : Kpn w0.heap.size [P + 1, P + 1 + 1] W W' :=
  ⟨hb, fun k hk => by
    simp only [List.mem_cons, List.not_mem_nil, or_false] at hk
    rcases hk with rfl | rfl
    · exact h'.bw.trans h.bw.symm
    · exact h'.be.trans h.be.symm⟩
end

set_option maxRecDepth 100000 in
set_option maxHeartbeats 4000000 in
theorem buckets_any (v : Value) (l : List Smp) (f t ev : Int) (w : World) (hR : RdS w 71 v l) (hv : 0 ≤ ev ∧ ev ≤ 86400001) :
    Calls Try.prog 67 #[v, .agg #[.int .i64 f, .int .i64 t], .int .i64 ev] w fun e w' => ∃ vr, e = .returned (.tuple #[vr, .int .i64 (parE l f t ev)]) ∧ RdBkt w' vr (bktR l f t ev) ∧ Below w.heap.size w w' := by
  obtain ⟨pa, ca, rfl⟩ := hR.lenv
  have hRR : bktR l f t ev = if parE l f t ev = 0 then bktTo l f t ev (ptsCnt f t ev) else [] := rfl
  have hpe : parE l f t ev = orE (orE (serErr l) (winErr f t)) (evE f t ev) := rfl
  have hva := fun (x : Prt) (w : World) (hR : RdS w 71 (.slice pa l.length ca) l) (hS : serErr l = 0) => aggregated_any (.slice pa l.length ca) l x.1.1 x.1.2 w hR hS (by have := x.2; omega)
  have hk0 : Below w.heap.size w ((w.alloc (.cells #[.slice pa l.length ca] 32)).alloc (.cells #[.int .i64 f, .int .i64 t] 76)) := ((Below.refl _ w).alloc (Nat.le_refl _) _).alloc (by simp) _
  have bl0 : Blk ((w.alloc (.cells #[.slice pa l.length ca] 32)).alloc (.cells #[.int .i64 f, .int .i64 t] 76)) w.heap.size 32 #[.slice pa l.length ca] := (Blk.new w _ _).alloc _
  have bw0 : Blk ((w.alloc (.cells #[.slice pa l.length ca] 32)).alloc (.cells #[.int .i64 f, .int .i64 t] 76)) (w.heap.size + 1) 76 #[.int .i64 f, .int .i64 t] := Blk.new1 _ _ _ _
  have rs0 : RdS ((w.alloc (.cells #[.slice pa l.length ca] 32)).alloc (.cells #[.int .i64 f, .int .i64 t] 76)) 71 (.slice pa l.length ca) l := Rd.below hR (by exact hk0)
  have hcp := checkParts_any (.slice pa l.length ca) l f t ev _ rs0 hv
  refine (callsIn_wide (n := 5)).1 ?_
  refine callsIn_of_wp_marks Try.func67 rfl trivial ?_ rfl
  simp only [Try.ntmps67, List.size_toArray, List.length_cons, List.length_nil, Nat.reduceAdd, Nat.reduceSub, Array.replicate_succ, Array.replicate_zero, List.push_toArray, List.append_toArray, List.nil_append, List.cons_append]
  generalize parE l f t ev = E at *
  generalize bktR l f t ev = RR at *
  have HRR := Lib.hid hRR
  have HPE := Lib.hid hpe
  have HVA := Lib.hid hva
  clear hRR hpe hva hR
  by_cases hE : E = 0
  · have hE' : (E != 0) = false := by simpa using hE
    have HE := Lib.hid hE
    clear hE
    gi_wp2_with (first
      | (refine ⟨trivial, ?_⟩; gi_at_call 111; refine (callsIn_wide.2 hcp).mono ?_; clear hcp; rintro e w1 ⟨rfl, hb1⟩; have bl1 := bl0.below hb1 bl0.lt; have bw1 := bw0.below hb1 bw0.lt; have rs1 := Rd.below rs0 hb1; have be1 := hk0.trans (hb1.mono hk0.size); clear bl0 bw0 rs0 hb1 hk0; have c0 := bl1.cell 0; have c20 := bw1.alloc (.cells #[.slice none 0 0] 110); have c2 := c20.cell 0; have c3 := c20.cell 1)
      | (refine ⟨trivial, ?_⟩; gi_at_call 112; refine (callsIn_wide.2 (parts_any f t ev _)).mono ?_; rintro e w' ⟨rfl, rfl⟩))
    have hz := orE_zero (HPE.out.symm.trans HE.out)
    have hz1 := orE_zero hz.1
    have hW := winErr_ok hz1.2
    have hE3 : (1 ≤ ev ∧ ev ≤ 86400000) ∧ ptsCnt f t ev ≤ 5000 := by
      have h2 := hz.2
      unfold evE at h2
      cases h : inB ev 1 86400000
      · rw [h] at h2; simp at h2
      · have h3 := inB_true.1 h
        rw [h] at h2
        have h4 := quo_large (t - f) ev h3.1
        have h5 : ¬ 5000 * ev < t - f := by intro h6; simp [h6] at h2
        refine ⟨h3, ?_⟩
        unfold ptsCnt
        omega
    have HZ := Lib.hid hz1.1
    have hw1 := bw1.lt
    have hpi : BkI w w1.heap.size (.slice pa l.length ca) l f t ev (.slice none 0 0) (outK l []) (((w1.alloc (Obj.cells #[Value.slice none 0 0] 110)).alloc (Obj.cells #[Value.int .i64 f, Value.int .i64 t] 76)).alloc (Obj.cells #[Value.int .i64 ev] 3)) := by
      have h1 := (Blk.new w1 110 #[.slice none 0 0]).alloc (Obj.cells #[Value.int .i64 f, Value.int .i64 t] 76)
      have h2 := Blk.new (w1.alloc (Obj.cells #[Value.slice none 0 0] 110)) 76 #[Value.int .i64 f, Value.int .i64 t]
      have h3 := Blk.new ((w1.alloc (Obj.cells #[Value.slice none 0 0] 110)).alloc (Obj.cells #[Value.int .i64 f, Value.int .i64 t] 76)) 3 #[Value.int .i64 ev]
      simp only [World.size_alloc] at h2 h3
      exact ⟨h1.alloc _, World.ownsRow_nil _ _ _ _, ((bl1.alloc _).alloc _).alloc _, h2.alloc _, h3, Rd.alloc (Rd.alloc (Rd.alloc rs1 _) _) _, ((be1.alloc be1.size _).alloc (by simp; have := be1.size; omega) _).alloc (by simp; have := be1.size; omega) _⟩
    have hsz3 : (((w1.alloc (Obj.cells #[Value.slice none 0 0] 110)).alloc (Obj.cells #[Value.int .i64 f, Value.int .i64 t] 76)).alloc (Obj.cells #[Value.int .i64 ev] 3)).heap.size = w1.heap.size + 3 := by simp
    generalize ((w1.alloc (Obj.cells #[Value.slice none 0 0] 110)).alloc (Obj.cells #[Value.int .i64 f, Value.int .i64 t] 76)).alloc (Obj.cells #[Value.int .i64 ev] 3) = W0 at *
    generalize w1.heap.size = P at *
    clear bl1 bw1 rs1 be1 c20 c0 c2 c3 hz hz1 HPE hE'
    have hPN : w.heap.size < P := by omega
    refine wpIn_rangeFunc_ownH rfl (by omega) (gf := 148) (lb := #[.pointer (some ⟨P + 1, 0, none⟩), .pointer (some ⟨P + 1 + 1, 0, none⟩)]) rfl trivial (enters_of Try.func148 (by kernel_rfl) rfl)
      (parts_stops (5 - 1) (P + 1) (P + 1 + 1) w.heap.size f t ev (by omega) hW hE3.1 W0 hpi.bw hpi.be) (fun h k => h.trans k) (Kpn.putObj hpi.lo.size (fun k hk => by simp at hk; omega)) (Below.refl _ _) (fun _ => rfl)
      (fun pre W => ∃ vo, BkI w P (.slice pa l.length ca) l f t ev vo (outK l pre) W)
      (fun _ _ _ => False)
      (fun pre X Y row hs hg hr => by obtain ⟨vo, h⟩ := hs; exact ⟨vo, h.turned hg (fun r e => ⟨Nat.le_trans hpi.lo.size (hr r e).1, (hr r e).2⟩)⟩)
      (fun _ _ _ _ _ hs _ _ => hs)
      ⟨_, hpi⟩
      (fun x a' W => ∃ Bx, P + 1 + 1 < Bx ∧ Blk W Bx 76 #[.int .i64 x.1.1, .int .i64 x.1.2] ∧ a' = { tmps := #[.slice pa l.length ca, .agg #[.int .i64 f, .int .i64 t], .int .i64 ev, .pointer (some ⟨w.heap.size, 0, none⟩), .pointer (some ⟨w.heap.size + 1, 0, none⟩), undef, .slice none 0 0, .int .i64 0, .int .i64 E, .pointer (some ⟨P, 0, none⟩), .pointer (some ⟨Bx, 0, none⟩), undef, undef, .slice pa l.length ca, .agg #[.int .i64 f, .int .i64 t], .int .i64 ev, .int .i64 E, .int .i64 E, .bool false, undef, .agg #[.int .i64 f, .int .i64 t], .int .i64 ev, .func (.func 148) #[] #[.pointer (some ⟨P + 1, 0, none⟩), .pointer (some ⟨P + 1 + 1, 0, none⟩)], .agg #[.int .i64 x.1.1, .int .i64 x.1.2], undef, undef, undef, undef, undef, undef, undef, undef, undef, undef, undef], defers := [] })
      (fun x a' _ X Y row hs hg hr => by obtain ⟨Bx, h1, h2, h3⟩ := hs; exact ⟨Bx, h1, blk_own (β := Unit) _ _ _ () X Y row h2 hg (fun r e => (hr r e).2), h3⟩)
      ?assign ?body ?done ?stop
    case assign =>
      rintro li pre x W K ⟨vo, hI⟩ hK
      simp only [encPrt]
      gi_wp2
      exact hK _ _ (keepsFrom_of ((Below.refl _ W).alloc (Nat.le_refl _) _)) (Kpn.below ((Below.refl _ W).alloc (Nat.le_refl _) _) hI.lo.size (fun k hk => by simp at hk; have := hI.bw.lt; have := hI.be.lt; omega)) ⟨vo, hI.alloc _⟩ ⟨W.heap.size, hI.be.lt, Blk.new _ _ _, rfl⟩
    case body =>
      rintro li pre x a' W hl ⟨r, hr⟩ ⟨vo, hI⟩ ⟨Bx, hBx, bX, rfl⟩ hlt
      have c0 := hI.bl.cell 0
      have c2 := bX.cell 0
      have c4 := bX.cell 1
      have c3 := hI.ob.cell 0
      have hva := HVA.out x W hI.rs HZ.out
      have HN := Lib.hid (outK_snoc l pre x)
      have hln : (outK l pre).length ≤ pre.length := by rw [outK_long]; exact Nat.le_refl _
      have hyd : bktOf l x.1.1 x.1.2 = ⟨x.1.1, x.1.2, (aggV l x.1.1 x.1.2).g, (avgV l x.1.1 x.1.2).1, (avgV l x.1.1 x.1.2).2, (aggV l x.1.1 x.1.2).mn, (aggV l x.1.1 x.1.2).mx⟩ := rfl
      generalize aggV l x.1.1 x.1.2 = A at *
      generalize avgV l x.1.1 x.1.2 = V at *
      have HY := Lib.hid hyd
      clear hyd
      gi_wp2_with (first
        | (refine ⟨trivial, ?_⟩; gi_at_call 127; refine (CallsIn.inRound li (callsIn_wide.2 hva)).mono ?_; rintro e w2 ⟨rfl, hb2⟩; have hb3 := hb2.alloc hb2.size (.cells #[.int .i64 x.1.1, .int .i64 x.1.2, .int .i64 A.g, .int .i64 V.1, .int .i64 V.2, .int .i64 A.mn, .int .i64 A.mx] 124); have hI2 := hI.step hb3; have d0 := hI2.ob.cell 0; clear c0 c2 c3 c4; have HI3 := Lib.hid (hI2.alloc (.cells #[.int .i64 x.1.1, .int .i64 x.1.2, .int .i64 A.g, .int .i64 V.1, .int .i64 V.2, .int .i64 A.mn, .int .i64 A.mx] 124)))
        | (gi_at_builtin; refine wpListIn_append_bkt rfl _ _ rfl w.heap.size vo (outK l pre).length (outK l pre) rfl HI3.out.ow (w2.heap.size + 1) rfl ⟨x.1.1, x.1.2, A.g, V.1, V.2, A.mn, A.mx⟩ (by exact Blk.new1 _ _ _ _) (by omega) (by exact HI3.out.lo.size) ?_; intro v' w4 hown4 hgrow4; obtain ⟨g', cap', rfl⟩ := ownsRow_succ hown4; have hob4 := (row_other HI3.out.ow hgrow4 HI3.out.ob (by decide)).trans HI3.out.ob; have d1 := Blk.cell hob4 0; have d2 := Blk.frozen hob4 0; have HI4 := Lib.hid (HI3.out.grown ⟨x.1.1, x.1.2, A.g, V.1, V.2, A.mn, A.mx⟩ _ hPN hgrow4 hown4)))
      have ha := Boxed.appended hI2.ob (by decide) hI2.ow hI2.lo.size (by omega) hown4 hgrow4
      have hbe := (hb3.mono hI.lo.size).trans ha.2.2.2.2
      exact ⟨(keepsFrom_of hb3).trans (ha.2.2.2.1.from _), hI.kpn HI4.out hbe, _, by rw [HN.out, HY.out]; exact HI4.out⟩
    case done =>
      rintro D ys W hD rfl ⟨vo, hI⟩ hK
      have c0 := hI.ob.cell 0
      gi_wp2
      refine ⟨by simp, .inl ⟨_, _, rfl, run_takeDeferred hK, ?_⟩⟩
      exact ⟨_, by simp [results, Try.results67, go_sem]; rfl, vo, by rw [HE.out], by rw [HRR.out, if_pos HE.out]; exact Rd.of_own (ownsRow_putObj hI.ow _ hK rfl), hI.lo.trans (belowK_b (w := w) (Nat.le_refl _) W D _ _ (by have := hI.lo.size; have := hpi.lo.size; omega) hK rfl rfl)⟩
    case stop =>
      rintro D c pre W _ _ h _
      exact h.elim
  · have hE' : (E != 0) = true := by simpa using hE
    have HE := Lib.hid hE
    clear hE
    gi_wp2_with (refine ⟨trivial, ?_⟩; gi_at_call 111; refine (callsIn_wide.2 hcp).mono ?_; clear hcp; rintro e w1 ⟨rfl, hb1⟩; have bl1 := bl0.below hb1 bl0.lt; have bw1 := bw0.below hb1 bw0.lt; have be1 := hk0.trans (hb1.mono hk0.size))
    exact ⟨.tuple #[.slice none 0 0, .int .i64 E], by simp [results, Try.results67, go_sem], _, rfl, by rw [HRR.out, if_neg HE.out]; exact Rd.nil _ _ _, be1⟩
end Go.Proofs.Ytgbnjbbjgkfefaa
