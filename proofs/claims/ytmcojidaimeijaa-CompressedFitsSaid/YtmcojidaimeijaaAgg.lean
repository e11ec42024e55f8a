/- aggregated (package query), for a right series and a right window. -/
import Derived.Test.YtmcojidaimeijaaAgm
import Derived.Test.YtmcojidaimeijaaDist
import Derived.Test.YtmcojidaimeijaaOnline
namespace Go.Proofs.Ytmcojidaimeijaa
open Go.RowKit Go.Shelf
set_option linter.unusedVariables false
set_option linter.unusedSimpArgs false
attribute [local go_sem] Oper.semAt_some

theorem valued_any (v : Value) (n c : Nat) (pa : Option Addr) (hv : v = .slice pa n c) (f t : Int) (w : World) :
    Calls Try.prog 59 #[v, .agg #[.int .i64 f, .int .i64 t]] w fun e w' => e = .returned (.func (.func 119) #[] #[.pointer (some ⟨w.heap.size + 1 + 1, 0, none⟩), .pointer (some ⟨w.heap.size + 1, 0, none⟩), .pointer (some ⟨w.heap.size + 1 + 1 + 1, 0, none⟩)]) ∧
      w' = (((w.alloc (.cells #[.int .i64 f, .int .i64 t] 43)).alloc (.cells #[v] 26)).alloc (.cells #[.int .i64 f, .int .i64 t] 43)).alloc (.cells #[.int .i64 1] 3) := by
  have hr := runs_any v n c pa hv f t 1
  subst hv
  go_enter Try.func59, Try.ntmps59
  go_wp2_with (go_at_call 90; refine (hr _).mono ?_; rintro e w' ⟨rfl, rfl⟩)
  go_ret
  refine ⟨?_, rfl⟩
  simp

theorem blk_set {W : World} {b : Nat} {t : TypeId} {cs : Array Value} (h : Blk W b t cs) (i : Nat) (u : Value) : Blk (W.setCell ⟨b, i, none⟩ u) b t (cs.setIfInBounds i u) := by
  unfold Blk at h ⊢
  have hlt := lt_of_heap h
  simp only [World.setCell, Array.getElem?_modify, h]
  simp

/-- What a round of aggregated finds: the sum's box, the bucket's, the result's. -/
structure AgK (w0 : World) (bs bb : Nat) (f t : Int) (s g mn mx : Int) (W : World) : Prop where
  h1 : w0.heap.size + 1 < bs
  h2 : w0.heap.size + 1 < bb
  h3 : bs ≠ bb
  rb : Blk W (w0.heap.size + 1) 75 #[.int .i64 0, .int .i64 0, .int .i64 0, .int .i64 0, .int .i64 0, .int .i64 0, .int .i64 0]
  sb : Blk W bs 3 #[.int .i64 s]
  bk : Blk W bb 75 #[.int .i64 f, .int .i64 t, .int .i64 g, .int .i64 0, .int .i64 0, .int .i64 mn, .int .i64 mx]
section
variable {w0 W W' : World} {bs bb : Nat} {f t s g mn mx : Int}
theorem AgK.step (h : AgK w0 bs bb f t s g mn mx W) (hb : Below W.heap.size W W') : AgK w0 bs bb f t s g mn mx W' :=
  ⟨h.h1, h.h2, h.h3, h.rb.below hb h.rb.lt, h.sb.below hb h.sb.lt, h.bk.below hb h.bk.lt⟩
theorem AgK.drew (h : AgK w0 bs bb f t s g mn mx W) : AgK w0 bs bb f t s g mn mx W.drew := ⟨h.h1, h.h2, h.h3, h.rb, h.sb, h.bk⟩
theorem AgK.setS (h : AgK w0 bs bb f t s g mn mx W) (s' : Int) : AgK w0 bs bb f t s' g mn mx (W.setCell ⟨bs, 0, none⟩ (.int .i64 s')) :=
  ⟨h.h1, h.h2, h.h3, h.rb.setOther (by have := h.h1; simp; omega) _, blk_set h.sb 0 _, h.bk.setOther (by have := h.h3; simp; omega) _⟩
theorem AgK.setG (h : AgK w0 bs bb f t s g mn mx W) (g' : Int) : AgK w0 bs bb f t s g' mn mx (W.setCell ⟨bb, 2, none⟩ (.int .i64 g')) :=
  ⟨h.h1, h.h2, h.h3, h.rb.setOther (by have := h.h2; simp; omega) _, h.sb.setOther (by have := h.h3; simp; omega) _, blk_set h.bk 2 _⟩
theorem AgK.setMn (h : AgK w0 bs bb f t s g mn mx W) (m' : Int) : AgK w0 bs bb f t s g m' mx (W.setCell ⟨bb, 5, none⟩ (.int .i64 m')) :=
  ⟨h.h1, h.h2, h.h3, h.rb.setOther (by have := h.h2; simp; omega) _, h.sb.setOther (by have := h.h3; simp; omega) _, blk_set h.bk 5 _⟩
theorem AgK.setMx (h : AgK w0 bs bb f t s g mn mx W) (m' : Int) : AgK w0 bs bb f t s g mn m' (W.setCell ⟨bb, 6, none⟩ (.int .i64 m')) :=
  ⟨h.h1, h.h2, h.h3, h.rb.setOther (by have := h.h2; simp; omega) _, h.sb.setOther (by have := h.h3; simp; omega) _, blk_set h.bk 6 _⟩
theorem AgK.turned (h : AgK w0 bs bb f t s g mn mx W) {row : Option Nat} (hg : W.grownBy W' row) (hr : ∀ r, row = some r → ∃ o : Obj, W.heap[r]? = some o ∧ o.isCells = false) : AgK w0 bs bb f t s g mn mx W' :=
  ⟨h.h1, h.h2, h.h3, blk_own (β := Unit) _ _ _ () _ _ _ h.rb hg hr, blk_own (β := Unit) _ _ _ () _ _ _ h.sb hg hr, blk_own (β := Unit) _ _ _ () _ _ _ h.bk hg hr⟩
end
theorem RnK.turned {w0 W W' : World} {bw bl bq : Nat} {v : Value} {l : List Smp} {f t q : Int} (h : RnK w0 bw bl bq v l f t q W) {row : Option Nat} (hg : W.grownBy W' row) (hr : ∀ r, row = some r → w0.heap.size ≤ r ∧ ∃ o : Obj, W.heap[r]? = some o ∧ o.isCells = false) : RnK w0 bw bl bq v l f t q W' :=
  have hr' : ∀ r, row = some r → ∃ o : Obj, W.heap[r]? = some o ∧ o.isCells = false := fun r e => (hr r e).2
  ⟨blk_own (β := Unit) _ _ _ () _ _ _ h.bw hg hr', blk_own (β := Unit) _ _ _ () _ _ _ h.bl hg hr', blk_own (β := Unit) _ _ _ () _ _ _ h.bq hg hr', rdS_own (β := Unit) _ _ _ () _ _ _ h.rs hg hr', h.lo.grown hg h.lo.size (fun k e => (hr k e).1)⟩
/-- A store into a block of the call's own that is none of the iterator's. -/
theorem RnK.setCell {w0 W : World} {bw bl bq : Nat} {v : Value} {l : List Smp} {f t q : Int} (h : RnK w0 bw bl bq v l f t q W) (hR : RdS w0 57 v l) (p : Addr) (u : Value) (h1 : bw ≠ p.block) (h2 : bl ≠ p.block) (h3 : bq ≠ p.block) (h4 : w0.heap.size ≤ p.block) : RnK w0 bw bl bq v l f t q (W.setCell p u) :=
  have hb := h.lo.setCell h4 u
  ⟨h.bw.setOther h1 u, h.bl.setOther h2 u, h.bq.setOther h3 u, Rd.below hR hb, hb⟩
theorem RnK.keeps {w0 W W' : World} {bw bl bq : Nat} {v : Value} {l : List Smp} {f t q : Int} (h : RnK w0 bw bl bq v l f t q W) (h' : RnK w0 bw bl bq v l f t q W') (hb : Below w0.heap.size W W') : Kpn w0.heap.size [bw, bl, bq] W W' :=
  ⟨hb, fun k hk => by
    simp only [List.mem_cons, List.not_mem_nil, or_false] at hk
    rcases hk with rfl | rfl | rfl
    · exact h'.bw.trans h.bw.symm
    · exact h'.bl.trans h.bl.symm
    · exact h'.bq.trans h.bq.symm⟩

/-- What a round has at hand after some of its stores. -/
structure AgI (w0 : World) (bs bb bw bl bq : Nat) (v : Value) (l : List Smp) (f t : Int) (B Bx : Nat) (x : Rn) (W : World) (s g mn mx : Int) (wx : World) : Prop where
  ag : AgK w0 bs bb f t s g mn mx wx
  rn : RnK w0 bw bl bq v l f t 1 wx
  bx : Blk wx Bx 43 #[.int .i64 x.1.2.1, .int .i64 x.1.2.2]
  lo : Below w0.heap.size W wx
  kf : KeepsFrom B W wx
section
variable {w0 W wx wy : World} {bs bb bw bl bq : Nat} {v : Value} {l : List Smp} {f t : Int} {B Bx : Nat} {x : Rn} {s g mn mx : Int}
theorem AgI.step (h : AgI w0 bs bb bw bl bq v l f t B Bx x W s g mn mx wx) (hb : Below wx.heap.size wx wy) : AgI w0 bs bb bw bl bq v l f t B Bx x W s g mn mx wy :=
  ⟨h.ag.step hb, h.rn.step hb, h.bx.below hb h.bx.lt, h.lo.trans (hb.mono h.rn.lo.size), h.kf.trans (keepsFrom_of hb)⟩
theorem AgI.drew (h : AgI w0 bs bb bw bl bq v l f t B Bx x W s g mn mx wx) : AgI w0 bs bb bw bl bq v l f t B Bx x W s g mn mx wx.drew :=
  h.step (show Below wx.heap.size wx wx.drew from ⟨rfl, rfl, rfl, Nat.le_refl _, fun _ _ => rfl⟩)
theorem AgI.set (h : AgI w0 bs bb bw bl bq v l f t B Bx x W s g mn mx wx) (hR : RdS w0 57 v l) {s' g' mn' mx' : Int} (p : Addr) (u : Value) (hk : AgK w0 bs bb f t s' g' mn' mx' (wx.setCell p u)) (h1 : bw ≠ p.block ∧ bl ≠ p.block ∧ bq ≠ p.block ∧ Bx ≠ p.block) (h2 : w0.heap.size ≤ p.block) : AgI w0 bs bb bw bl bq v l f t B Bx x W s' g' mn' mx' (wx.setCell p u) :=
  ⟨hk, h.rn.setCell hR p u h1.1 h1.2.1 h1.2.2.1 h2, h.bx.setOther h1.2.2.2 u, h.lo.setCell h2 u, h.kf.trans ((KeepsOthers.setCell _ _ _).from _)⟩
theorem AgI.setS (h : AgI w0 bs bb bw bl bq v l f t B Bx x W s g mn mx wx) (hR : RdS w0 57 v l) (hlt : bs < bw ∧ bs < bl ∧ bs < bq ∧ bs < Bx) (s' : Int) : AgI w0 bs bb bw bl bq v l f t B Bx x W s' g mn mx (wx.setCell ⟨bs, 0, none⟩ (.int .i64 s')) :=
  h.set hR _ _ (h.ag.setS s') (by simp; omega) (by have := h.ag.h1; simp; omega)
theorem AgI.setG (h : AgI w0 bs bb bw bl bq v l f t B Bx x W s g mn mx wx) (hR : RdS w0 57 v l) (hlt : bb < bw ∧ bb < bl ∧ bb < bq ∧ bb < Bx) (g' : Int) : AgI w0 bs bb bw bl bq v l f t B Bx x W s g' mn mx (wx.setCell ⟨bb, 2, none⟩ (.int .i64 g')) :=
  h.set hR _ _ (h.ag.setG g') (by simp; omega) (by have := h.ag.h2; simp; omega)
theorem AgI.setMn (h : AgI w0 bs bb bw bl bq v l f t B Bx x W s g mn mx wx) (hR : RdS w0 57 v l) (hlt : bb < bw ∧ bb < bl ∧ bb < bq ∧ bb < Bx) (m' : Int) : AgI w0 bs bb bw bl bq v l f t B Bx x W s g m' mx (wx.setCell ⟨bb, 5, none⟩ (.int .i64 m')) :=
  h.set hR _ _ (h.ag.setMn m') (by simp; omega) (by have := h.ag.h2; simp; omega)
theorem AgI.setMx (h : AgI w0 bs bb bw bl bq v l f t B Bx x W s g mn mx wx) (hR : RdS w0 57 v l) (hlt : bb < bw ∧ bb < bl ∧ bb < bq ∧ bb < Bx) (m' : Int) : AgI w0 bs bb bw bl bq v l f t B Bx x W s g mn m' (wx.setCell ⟨bb, 6, none⟩ (.int .i64 m')) :=
  h.set hR _ _ (h.ag.setMx m') (by simp; omega) (by have := h.ag.h2; simp; omega)
/-- The cells that the round's code reads and writes. -/
theorem AgI.cells (h : AgI w0 bs bb bw bl bq v l f t B Bx x W s g mn mx wx) :
    (wx.cell? ⟨bb, 2, none⟩ = some (.int .i64 g) ∧ wx.cell? ⟨bb, 5, none⟩ = some (.int .i64 mn) ∧ wx.cell? ⟨bb, 6, none⟩ = some (.int .i64 mx) ∧ wx.cell? ⟨bs, 0, none⟩ = some (.int .i64 s) ∧ wx.cell? ⟨Bx, 0, none⟩ = some (.int .i64 x.1.2.1) ∧ wx.cell? ⟨Bx, 1, none⟩ = some (.int .i64 x.1.2.2)) ∧
    wx.frozen? ⟨bb, 2, none⟩ = false ∧ wx.frozen? ⟨bb, 5, none⟩ = false ∧ wx.frozen? ⟨bb, 6, none⟩ = false ∧ wx.frozen? ⟨bs, 0, none⟩ = false ∧ bb < wx.heap.size ∧ bs < wx.heap.size ∧ Bx < wx.heap.size :=
  ⟨⟨h.ag.bk.cell 2, h.ag.bk.cell 5, h.ag.bk.cell 6, h.ag.sb.cell 0, h.bx.cell 0, h.bx.cell 1⟩, h.ag.bk.frozen 2, h.ag.bk.frozen 5, h.ag.bk.frozen 6, h.ag.sb.frozen 0, h.ag.bk.lt, h.ag.sb.lt, h.bx.lt⟩
end

theorem drew_heap (W : World) : W.drew.heap = W.heap := rfl

set_option maxRecDepth 100000 in
set_option maxHeartbeats 4000000 in
theorem aggregated_any (v : Value) (l : List Smp) (f t : Int) (w : World) (hR : RdS w 57 v l) (hS : serErr l = 0) (hW : 0 ≤ f ∧ f ≤ t ∧ t ≤ 345686400000) :
    Calls Try.prog 80 #[v, .agg #[.int .i64 f, .int .i64 t]] w fun e w' => e = .returned (.tuple #[.int .i64 (aggV l f t).s, .agg #[.int .i64 f, .int .i64 t, .int .i64 (aggV l f t).g, .int .i64 (avgV l f t).1, .int .i64 (avgV l f t).2, .int .i64 (aggV l f t).mn, .int .i64 (aggV l f t).mx]]) ∧ Below w.heap.size w w' := by
  obtain ⟨pa, ca, rfl⟩ := hR.lenv
  have hmx : Try.prog.follows .mixedOrders = true := by kernel_rfl
  have hlong := (serErr_good hS).1
  have hbw0 : Blk ((w.alloc (.cells #[.int .i64 f, .int .i64 t] 43)).alloc (.cells #[.int .i64 0, .int .i64 0, .int .i64 0, .int .i64 0, .int .i64 0, .int .i64 0, .int .i64 0] 75)) w.heap.size 43 #[.int .i64 f, .int .i64 t] := (Blk.new w _ _).alloc _
  have hrb0 : Blk ((w.alloc (.cells #[.int .i64 f, .int .i64 t] 43)).alloc (.cells #[.int .i64 0, .int .i64 0, .int .i64 0, .int .i64 0, .int .i64 0, .int .i64 0, .int .i64 0] 75)) (w.heap.size + 1) 75 #[.int .i64 0, .int .i64 0, .int .i64 0, .int .i64 0, .int .i64 0, .int .i64 0, .int .i64 0] := by
    have := Blk.new (w.alloc (.cells #[.int .i64 f, .int .i64 t] 43)) 75 #[.int .i64 0, .int .i64 0, .int .i64 0, .int .i64 0, .int .i64 0, .int .i64 0, .int .i64 0]
    rwa [World.size_alloc] at this
  have hbe0 : Below w.heap.size w ((w.alloc (.cells #[.int .i64 f, .int .i64 t] 43)).alloc (.cells #[.int .i64 0, .int .i64 0, .int .i64 0, .int .i64 0, .int .i64 0, .int .i64 0, .int .i64 0] 75)) := ((Below.refl _ w).alloc (Nat.le_refl _) _).alloc (by simp) _
  have hsz0 : ((w.alloc (.cells #[.int .i64 f, .int .i64 t] 43)).alloc (.cells #[.int .i64 0, .int .i64 0, .int .i64 0, .int .i64 0, .int .i64 0, .int .i64 0, .int .i64 0] 75)).heap.size = w.heap.size + 2 := by simp
  refine (callsIn_wide (n := 5)).1 ?_
  refine callsIn_of_wp_marks Try.func80 rfl trivial ?_ rfl
  simp only [Try.ntmps80, List.size_toArray, List.length_cons, List.length_nil, Nat.reduceAdd, Nat.reduceSub, Array.replicate_succ, Array.replicate_zero, List.push_toArray, List.append_toArray, List.nil_append, List.cons_append]
  gi_upto_region 1 with fail
  generalize (w.alloc (.cells #[.int .i64 f, .int .i64 t] 43)).alloc (.cells #[.int .i64 0, .int .i64 0, .int .i64 0, .int .i64 0, .int .i64 0, .int .i64 0, .int .i64 0] 75) = w1 at *
  have c0 := hbw0.cell 0
  have c1 := hbw0.cell 1
  have hlt := hbw0.lt
  gi_cut [6, 7] from 10 (fun s6 s7 wx => ∃ bs bb, s6 = .pointer (some ⟨bs, 0, none⟩) ∧ s7 = .pointer (some ⟨bb, 0, none⟩) ∧ AgK w bs bb f t 0 0 0 0 wx ∧ Below w1.heap.size w1 wx)
  case first =>
    have e1 := (Blk.new w1 3 #[.int .i64 0]).alloc (.cells #[.int .i64 f, .int .i64 t, .int .i64 0, .int .i64 0, .int .i64 0, .int .i64 0, .int .i64 0] 75)
    have e2 := Blk.new1 w1 (.cells #[.int .i64 0] 3) 75 #[.int .i64 f, .int .i64 t, .int .i64 0, .int .i64 0, .int .i64 0, .int .i64 0, .int .i64 0]
    have e3 := (Blk.new w1 75 #[.int .i64 f, .int .i64 t, .int .i64 0, .int .i64 0, .int .i64 0, .int .i64 0, .int .i64 0]).alloc (.cells #[.int .i64 0] 3)
    have e4 := Blk.new1 w1 (.cells #[.int .i64 f, .int .i64 t, .int .i64 0, .int .i64 0, .int .i64 0, .int .i64 0, .int .i64 0] 75) 3 #[.int .i64 0]
    rw [hsz0] at e1 e2 e3 e4
    gi_region
    all_goals gi_wp2
    all_goals gi_meet
    · exact ⟨_, _, rfl, rfl, ⟨by omega, by omega, by omega, (hrb0.alloc _).alloc _, e1, e2⟩, (((Below.refl _ w1).alloc (Nat.le_refl _) _).alloc (by simp) _).drew⟩
    · exact ⟨_, _, rfl, rfl, ⟨by omega, by omega, by omega, (hrb0.alloc _).alloc _, e4, e3⟩, (((Below.refl _ w1).alloc (Nat.le_refl _) _).alloc (by simp) _).drew⟩
  case rest =>
    obtain ⟨bs, bb, rfl, rfl, hk2, hb2⟩ := hcut
    have hbw2 := hbw0.below hb2 hbw0.lt
    have hbe2 := hbe0.trans (hb2.mono hbe0.size)
    clear hbw0 hrb0 hbe0 hb2 c0 c1
    have c0 := hbw2.cell 0
    have c1 := hbw2.cell 1
    gi_wp2_with (refine ⟨trivial, ?_⟩; gi_at_call 59; refine (callsIn_wide.2 (valued_any _ l.length ca pa rfl f t _)).mono ?_; rintro e w' ⟨rfl, rfl⟩)
    have hx1 : bs < wc.heap.size := hk2.sb.lt
    have hx2 : bb < wc.heap.size := hk2.bk.lt
    have hx3 := hbw2.lt
    have hb3 : Below wc.heap.size wc ((((wc.alloc (.cells #[.int .i64 f, .int .i64 t] 43)).alloc (.cells #[.slice pa l.length ca] 26)).alloc (.cells #[.int .i64 f, .int .i64 t] 43)).alloc (.cells #[.int .i64 1] 3)) := ((((Below.refl _ wc).alloc (Nat.le_refl _) _).alloc (by simp) _).alloc (by simp; omega) _).alloc (by simp; omega) _
    have hrn : RnK w (wc.heap.size + 1 + 1) (wc.heap.size + 1) (wc.heap.size + 1 + 1 + 1) (.slice pa l.length ca) l f t 1 ((((wc.alloc (.cells #[.int .i64 f, .int .i64 t] 43)).alloc (.cells #[.slice pa l.length ca] 26)).alloc (.cells #[.int .i64 f, .int .i64 t] 43)).alloc (.cells #[.int .i64 1] 3)) := by
      have g1 := ((Blk.new (wc.alloc (.cells #[.int .i64 f, .int .i64 t] 43)) 26 #[.slice pa l.length ca]).alloc (.cells #[.int .i64 f, .int .i64 t] 43)).alloc (.cells #[.int .i64 1] 3)
      have g2 := (Blk.new ((wc.alloc (.cells #[.int .i64 f, .int .i64 t] 43)).alloc (.cells #[.slice pa l.length ca] 26)) 43 #[.int .i64 f, .int .i64 t]).alloc (.cells #[.int .i64 1] 3)
      have g3 := Blk.new (((wc.alloc (.cells #[.int .i64 f, .int .i64 t] 43)).alloc (.cells #[.slice pa l.length ca] 26)).alloc (.cells #[.int .i64 f, .int .i64 t] 43)) 3 #[.int .i64 1]
      simp only [World.size_alloc] at g1 g2 g3
      have hbe3 := hbe2.trans (hb3.mono hbe2.size)
      exact ⟨g2, g1, g3, Rd.below hR hbe3, hbe3⟩
    have hk3 := hk2.step hb3
    have hsz3 : ((((wc.alloc (.cells #[.int .i64 f, .int .i64 t] 43)).alloc (.cells #[.slice pa l.length ca] 26)).alloc (.cells #[.int .i64 f, .int .i64 t] 43)).alloc (.cells #[.int .i64 1] 3)).heap.size = wc.heap.size + 4 := by simp
    generalize (((wc.alloc (.cells #[.int .i64 f, .int .i64 t] 43)).alloc (.cells #[.slice pa l.length ca] 26)).alloc (.cells #[.int .i64 f, .int .i64 t] 43)).alloc (.cells #[.int .i64 1] 3) = W0 at *
    generalize wc.heap.size = P at *
    clear hk2 hbw2 hbe2 hb3 c0 c1 hsz0
    refine wpIn_rangeFunc_ownH rfl (by omega) (gf := 119) (lb := #[.pointer (some ⟨P + 1 + 1, 0, none⟩), .pointer (some ⟨P + 1, 0, none⟩), .pointer (some ⟨P + 1 + 1 + 1, 0, none⟩)]) rfl trivial (enters_of Try.func119 (by kernel_rfl) rfl)
      (runs_stops (5 - 1) (P + 1 + 1) (P + 1) (P + 1 + 1 + 1) w _ l f t 1 (by omega) hR hS hW W0 hrn) (fun h k => h.trans k) (Kpn.putObj hrn.lo.size (fun k hk => by simp at hk; omega)) (Below.refl _ _) (fun _ => rfl)
      (fun pre W => AgK w bs bb f t (wrap64 (agR pre).s) (agR pre).g (agR pre).mn (agR pre).mx W ∧ RnK w (P + 1 + 1) (P + 1) (P + 1 + 1 + 1) (.slice pa l.length ca) l f t 1 W)
      (fun _ _ _ => False)
      (fun pre X Y row hs hg hr => ⟨hs.1.turned hg (fun r e => (hr r e).2), hs.2.turned hg (fun r e => ⟨Nat.le_trans hrn.lo.size (hr r e).1, (hr r e).2⟩)⟩)
      (fun _ _ _ _ _ hs _ _ => hs)
      ⟨by simpa [agR, wrap64] using hk3, hrn⟩
      (fun x a' W => ∃ Bx, P + 1 + 1 + 1 < Bx ∧ Blk W Bx 43 #[.int .i64 x.1.2.1, .int .i64 x.1.2.2] ∧ a' = { tmps := #[.slice pa l.length ca, .agg #[.int .i64 f, .int .i64 t], undef, .pointer (some ⟨w.heap.size, 0, none⟩), .int .i64 0, .pointer (some ⟨w.heap.size + 1, 0, none⟩), .pointer (some ⟨bs, 0, none⟩), .pointer (some ⟨bb, 0, none⟩), .int .i64 x.1.1, .pointer (some ⟨Bx, 0, none⟩), u10, u11, .slice pa l.length ca, .agg #[.int .i64 f, .int .i64 t], .func (.func 119) #[] #[.pointer (some ⟨P + 1 + 1, 0, none⟩), .pointer (some ⟨P + 1, 0, none⟩), .pointer (some ⟨P + 1 + 1 + 1, 0, none⟩)], .int .i64 x.1.1, .agg #[.int .i64 x.1.2.1, .int .i64 x.1.2.2], u17, u18, u19, u20, u21, u22, u23, u24, u25, u26, u27, u28, u29, u30, u31, u32, u33, u34, u35, u36, u37, u38, u39, u40, u41, u42, u43, u44, u45, u46, u47, u48, u49, u50, u51, u52, u53, u54, u55], defers := [] })
      (fun x a' _ X Y row hs hg hr => by obtain ⟨Bx, h1, h2, h3⟩ := hs; exact ⟨Bx, h1, blk_own (β := Unit) _ _ _ () X Y row h2 hg (fun r e => (hr r e).2), h3⟩)
      ?assign ?body ?done ?stop
    case assign =>
      rintro li pre x W K ⟨hA, hI⟩ hK
      simp only [encRn]
      gi_wp2
      have hbA := (Below.refl W.heap.size W).alloc (Nat.le_refl _) (.cells #[.int .i64 x.1.2.1, .int .i64 x.1.2.2] 43)
      exact hK _ _ (keepsFrom_of hbA) (hI.keeps (hI.step hbA) (hbA.mono hI.lo.size)) ⟨hA.step hbA, hI.step hbA⟩ ⟨W.heap.size, hI.bq.lt, Blk.new _ _ _, rfl⟩
    case body =>
      rintro li pre x a' W hl ⟨r, hr⟩ ⟨hA, hI⟩ ⟨Bx, hBx, bX, rfl⟩ hlt
      have hi0 : AgI w bs bb (P + 1 + 1) (P + 1) (P + 1 + 1 + 1) (.slice pa l.length ca) l f t W0.heap.size Bx x W (wrap64 (agR pre).s) (agR pre).g (agR pre).mn (agR pre).mx W := ⟨hA, hI, bX, Below.refl _ _, KeepsFrom.refl _ _⟩
      have hgd := agR_good pre
      have HSN := Lib.hid (agR_snoc pre x)
      have hxx := x.2
      have HB1 : bs < P + 1 + 1 ∧ bs < P + 1 ∧ bs < P + 1 + 1 + 1 ∧ bs < Bx := by omega
      have HB2 : bb < P + 1 + 1 ∧ bb < P + 1 ∧ bb < P + 1 + 1 + 1 ∧ bb < Bx := by omega
      have HI := Lib.hid hI
      clear hA hI bX hr
      generalize hAg : agR pre = A at *
      have hg0 : 0 ≤ A.g ∧ A.g ≤ 1728432000000000 := by omega
      clear hAg hgd
      obtain ⟨mn0, hmn0⟩ : ∃ m, m = if A.g = 0 then x.1.1 else A.mn := ⟨_, rfl⟩
      obtain ⟨mx0, hmx0⟩ : ∃ m, m = if A.g = 0 then x.1.1 else A.mx := ⟨_, rfl⟩
      obtain ⟨mn1, hmn1⟩ : ∃ m, m = if mn0 ≤ x.1.1 then mn0 else x.1.1 := ⟨_, rfl⟩
      obtain ⟨mx1, hmx1⟩ : ∃ m, m = if mx0 < x.1.1 then x.1.1 else mx0 := ⟨_, rfl⟩
      have HT := Lib.hid (show agT A x.1.1 x.1.2.1 x.1.2.2 = ⟨A.g + (x.1.2.2 - x.1.2.1), mn1, mx1, A.s + x.1.1 * (x.1.2.2 - x.1.2.1)⟩ by unfold agT; rw [hmn1, hmx1, hmn0, hmx0])
      have HM0 := Lib.hid hmn0
      have HX0 := Lib.hid hmx0
      have HM1 := Lib.hid hmn1
      have HX1 := Lib.hid hmx1
      clear hmn0 hmx0 hmn1 hmx1
      obtain ⟨⟨c0, c1, c2, c3, c4, c5⟩, f0, f1, f2, f3, z1, z2, z3⟩ := hi0.cells
      gi_upto_if 19 with fail
      gi_cut [] from 17 (fun wx => AgI w bs bb (P + 1 + 1) (P + 1) (P + 1 + 1 + 1) (.slice pa l.length ca) l f t W0.heap.size Bx x W (wrap64 A.s) A.g mn0 mx0 wx)
      case first =>
        by_cases hg : A.g = 0
        · have hg' : (A.g == 0) = true := by simpa using hg
          have HG := Lib.hid hg
          clear hg
          gi_wp2
          gi_meet
          rw [HM0.out, HX0.out, if_pos HG.out, if_pos HG.out]
          exact (hi0.setMn hR HB2 _).setMx hR HB2 _
        · have hg' : (A.g == 0) = false := by simpa using hg
          have HG := Lib.hid hg
          clear hg
          gi_wp2
          gi_meet
          rw [HM0.out, HX0.out, if_neg HG.out, if_neg HG.out]
          exact hi0
      case rest =>
        have hi1 := hcut
        clear hcut hi0 c0 c1 c2 c3 c4 c5 f0 f1 f2 f3 z1 z2 z3
        obtain ⟨⟨c0, c1, c2, c3, c4, c5⟩, f0, f1, f2, f3, z1, z2, z3⟩ := hi1.cells
        gi_upto_region 7 with fail
        gi_cut [] from 17 (fun wx => AgI w bs bb (P + 1 + 1) (P + 1) (P + 1 + 1 + 1) (.slice pa l.length ca) l f t W0.heap.size Bx x W (wrap64 A.s) A.g mn1 mx1 wx)
        case first =>
          by_cases ha : mn0 ≤ x.1.1
          all_goals by_cases hb : mx0 < x.1.1
          all_goals
            have hm1 := HM1.out
            have hx1 := HX1.out
            (first | rw [if_pos ha] at hm1 | rw [if_neg ha] at hm1)
            (first | rw [if_pos hb] at hx1 | rw [if_neg hb] at hx1)
            have HMM := Lib.hid hm1
            have HXX := Lib.hid hx1
            clear hm1 hx1
            gi_wp2
            gi_meet
            rw [HMM.out, HXX.out]
            exact (hi1.setMn hR HB2 _).setMx hR HB2 _
        case rest =>
          have hi2 := hcut
          clear hcut hi1 c0 c1 c2 c3 c4 c5 f0 f1 f2 f3 z1 z2 z3
          obtain ⟨⟨c0, c1, c2, c3, c4, c5⟩, f0, f1, f2, f3, z1, z2, z3⟩ := hi2.cells
          have hlg := fun w => long_eq x.1.2.1 x.1.2.2 w ⟨by omega, by omega, by omega⟩
          have d1 : 1 ≤ 5 - 1 - 1 := by omega
          gi_upto_region 8 with fail
          gi_cut [] from 17 (fun wx => AgI w bs bb (P + 1 + 1) (P + 1) (P + 1 + 1 + 1) (.slice pa l.length ca) l f t W0.heap.size Bx x W (wrap64 A.s) (A.g + (x.1.2.2 - x.1.2.1)) mn1 mx1 wx)
          case first =>
            gi_region_with_o (refine ⟨trivial, ?_⟩; gi_at_call 61; refine (CallsIn.inRound li (callsIn_wide.2 (hlg _))).mono ?_; rintro e w' ⟨rfl, rfl⟩)
            all_goals gi_wp2
            all_goals gi_meet
            all_goals
              have hwr : IntKind.i64.wrap (A.g + (x.1.2.2 - x.1.2.1)) = A.g + (x.1.2.2 - x.1.2.1) := IntWalk.i64_in _ (by omega)
              rw [hwr]
              exact ((hi2.setG hR HB2 _).step ((Below.refl _ _).alloc (Nat.le_refl _) _)).drew
          case rest =>
            have hi3 := hcut
            clear hcut hi2 c0 c1 c2 c3 c4 c5 f0 f1 f2 f3 z1 z2 z3
            obtain ⟨⟨c0, c1, c2, c3, c4, c5⟩, f0, f1, f2, f3, z1, z2, z3⟩ := hi3.cells
            have hmu := mul_bound x.1.1 (x.1.2.2 - x.1.2.1) 1000000 345686400000 (by omega) (by omega)
            simp only [Nat.reduceMul] at hmu
            have hw1 : IntKind.i64.wrap (x.1.1 * (x.1.2.2 - x.1.2.1)) = x.1.1 * (x.1.2.2 - x.1.2.1) := IntWalk.i64_in _ (by omega)
            gi_upto_region 9 with fail
            gi_region_with_o (refine ⟨trivial, ?_⟩; gi_at_call 61; refine (CallsIn.inRound li (callsIn_wide.2 (hlg _))).mono ?_; rintro e w' ⟨rfl, rfl⟩)
            all_goals gi_wp2
            all_goals
              rw [IntWalk.i64_left, wrap64_twice]
              have hf := ((hi3.setS hR HB1 (wrap64 (A.s + x.1.1 * (x.1.2.2 - x.1.2.1)))).step ((Below.refl _ _).alloc (Nat.le_refl _) (.cells #[.int .i64 x.1.2.1, .int .i64 x.1.2.2] 43))).drew
              exact ⟨hf.kf, HI.out.keeps hf.rn hf.lo, by rw [HSN.out, HT.out]; exact hf.ag, hf.rn⟩
    case done =>
      rintro D ys W hD rfl ⟨hA, hI⟩ hK
      have hbd := aggV_bound hS hW
      rw [aggV_is hS hW, IntWalk.wrap64_in _ (by omega)] at hA
      have HAV := Lib.hid (show avgV l f t = if 0 < (aggV l f t).g then fracOf (aggV l f t).s (aggV l f t).g else (0, 0) from rfl)
      have hDD : W0.heap.size ≤ D := hD
      generalize hAA : aggV l f t = A at *
      generalize hVV : avgV l f t = V at *
      have HAA := Lib.hid hAA
      have HVV := Lib.hid hVV
      clear hAA hVV
      have z1 := hA.bk.lt
      have z2 := hA.sb.lt
      have z3 := hA.rb.lt
      have n1 := hA.h1
      have n2 := hA.h2
      have n3 := hA.h3
      have s0 := hA.sb.cell 0
      have b0 := hA.bk.cell 0
      have b1 := hA.bk.cell 1
      have b2 := hA.bk.cell 2
      have b3 := hA.bk.cell 3
      have b4 := hA.bk.cell 4
      have b5 := hA.bk.cell 5
      have b6 := hA.bk.cell 6
      gi_upto_if 48 with fail
      gi_cut [] from 46 (fun wx => (Blk wx bb 75 #[.int .i64 f, .int .i64 t, .int .i64 A.g, .int .i64 V.1, .int .i64 V.2, .int .i64 A.mn, .int .i64 A.mx] ∧ Blk wx bs 3 #[.int .i64 A.s] ∧ Blk wx (w.heap.size + 1) 75 #[.int .i64 0, .int .i64 0, .int .i64 0, .int .i64 0, .int .i64 0, .int .i64 0, .int .i64 0]) ∧ Below w.heap.size w wx ∧ wx.heap[D]? = some (.deferred (some [])))
      case first =>
        by_cases hg : 0 < A.g
        · have HV := Lib.hid (show V = fracOf A.s A.g by rw [HAV.out, if_pos hg])
          have hred := fun w => reduced_any A.s A.g w (by omega) (by omega)
          rw [← HV.out] at hred
          gi_wp2_with (refine ⟨trivial, ?_⟩; gi_at_call 112; refine (callsIn_wide.2 (hred _)).mono ?_; rintro e w3 ⟨rfl, hb3⟩; have hA3 := hA.step hb3; have hI3 := hI.step hb3; have d3 := hA3.bk.frozen 3; have d4 := hA3.bk.frozen 4; have d5 := hA3.bk.cell 3; have d6 := hA3.bk.cell 4)
          gi_meet
          have hD3 : w3.heap[D]? = some (.deferred (some [])) := (hb3.block D (lt_of_heap hK)).trans hK
          exact ⟨⟨blk_set (blk_set hA3.bk 3 _) 4 _, (hA3.sb.setOther (by simp; omega) _).setOther (by simp; omega) _, (hA3.rb.setOther (by simp; omega) _).setOther (by simp; omega) _⟩, (hI3.lo.setCell (by simp; omega) _).setCell (by simp; omega) _, (Below.heap_setCell _ _ _ _ (by simp; omega)).trans ((Below.heap_setCell _ _ _ _ (by simp; omega)).trans hD3)⟩
        · have HV := Lib.hid (show V = (0, 0) by rw [HAV.out, if_neg hg])
          gi_wp2
          gi_meet
          exact ⟨⟨by rw [HV.out]; exact hA.bk, hA.sb, hA.rb⟩, hI.lo, hK⟩
      case rest =>
        obtain ⟨⟨hbk, hsb, hrb⟩, hlo, hKK⟩ := hcut
        clear b0 b1 b2 b3 b4 b5 b6 s0 hA hI hK
        have b0 := hbk.cell 0
        have b1 := hbk.cell 1
        have b2 := hbk.cell 2
        have b3 := hbk.cell 3
        have b4 := hbk.cell 4
        have b5 := hbk.cell 5
        have b6 := hbk.cell 6
        have s0 := hsb.cell 0
        have r0 := hrb.cell 0
        have r1 := hrb.cell 1
        have r2 := hrb.cell 2
        have r3 := hrb.cell 3
        have r4 := hrb.cell 4
        have r5 := hrb.cell 5
        have r6 := hrb.cell 6
        have q0 := hrb.frozen 0
        have q1 := hrb.frozen 1
        have q2 := hrb.frozen 2
        have q3 := hrb.frozen 3
        have q4 := hrb.frozen 4
        have q5 := hrb.frozen 5
        have q6 := hrb.frozen 6
        gi_wp2
        gi_region
        all_goals gi_wp2
        all_goals
          have hs0 : Blk (wc.setCell ⟨w.heap.size + 1, 0, none⟩ (.int .i64 f)) (w.heap.size + 1) 75 #[.int .i64 f, .int .i64 0, .int .i64 0, .int .i64 0, .int .i64 0, .int .i64 0, .int .i64 0] := blk_set hrb 0 _
          have hs1 : Blk ((wc.setCell ⟨w.heap.size + 1, 0, none⟩ (.int .i64 f)).setCell ⟨w.heap.size + 1, 1, none⟩ (.int .i64 t)) (w.heap.size + 1) 75 #[.int .i64 f, .int .i64 t, .int .i64 0, .int .i64 0, .int .i64 0, .int .i64 0, .int .i64 0] := blk_set hs0 1 _
          have hs2 : Blk (((wc.setCell ⟨w.heap.size + 1, 0, none⟩ (.int .i64 f)).setCell ⟨w.heap.size + 1, 1, none⟩ (.int .i64 t)).setCell ⟨w.heap.size + 1, 2, none⟩ (.int .i64 A.g)) (w.heap.size + 1) 75 #[.int .i64 f, .int .i64 t, .int .i64 A.g, .int .i64 0, .int .i64 0, .int .i64 0, .int .i64 0] := blk_set hs1 2 _
          have hs3 : Blk ((((wc.setCell ⟨w.heap.size + 1, 0, none⟩ (.int .i64 f)).setCell ⟨w.heap.size + 1, 1, none⟩ (.int .i64 t)).setCell ⟨w.heap.size + 1, 2, none⟩ (.int .i64 A.g)).setCell ⟨w.heap.size + 1, 3, none⟩ (.int .i64 V.1)) (w.heap.size + 1) 75 #[.int .i64 f, .int .i64 t, .int .i64 A.g, .int .i64 V.1, .int .i64 0, .int .i64 0, .int .i64 0] := blk_set hs2 3 _
          have hs4 : Blk (((((wc.setCell ⟨w.heap.size + 1, 0, none⟩ (.int .i64 f)).setCell ⟨w.heap.size + 1, 1, none⟩ (.int .i64 t)).setCell ⟨w.heap.size + 1, 2, none⟩ (.int .i64 A.g)).setCell ⟨w.heap.size + 1, 3, none⟩ (.int .i64 V.1)).setCell ⟨w.heap.size + 1, 4, none⟩ (.int .i64 V.2)) (w.heap.size + 1) 75 #[.int .i64 f, .int .i64 t, .int .i64 A.g, .int .i64 V.1, .int .i64 V.2, .int .i64 0, .int .i64 0] := blk_set hs3 4 _
          have hs5 : Blk ((((((wc.setCell ⟨w.heap.size + 1, 0, none⟩ (.int .i64 f)).setCell ⟨w.heap.size + 1, 1, none⟩ (.int .i64 t)).setCell ⟨w.heap.size + 1, 2, none⟩ (.int .i64 A.g)).setCell ⟨w.heap.size + 1, 3, none⟩ (.int .i64 V.1)).setCell ⟨w.heap.size + 1, 4, none⟩ (.int .i64 V.2)).setCell ⟨w.heap.size + 1, 5, none⟩ (.int .i64 A.mn)) (w.heap.size + 1) 75 #[.int .i64 f, .int .i64 t, .int .i64 A.g, .int .i64 V.1, .int .i64 V.2, .int .i64 A.mn, .int .i64 0] := blk_set hs4 5 _
          have hs6 : Blk (((((((wc.setCell ⟨w.heap.size + 1, 0, none⟩ (.int .i64 f)).setCell ⟨w.heap.size + 1, 1, none⟩ (.int .i64 t)).setCell ⟨w.heap.size + 1, 2, none⟩ (.int .i64 A.g)).setCell ⟨w.heap.size + 1, 3, none⟩ (.int .i64 V.1)).setCell ⟨w.heap.size + 1, 4, none⟩ (.int .i64 V.2)).setCell ⟨w.heap.size + 1, 5, none⟩ (.int .i64 A.mn)).setCell ⟨w.heap.size + 1, 6, none⟩ (.int .i64 A.mx)) (w.heap.size + 1) 75 #[.int .i64 f, .int .i64 t, .int .i64 A.g, .int .i64 V.1, .int .i64 V.2, .int .i64 A.mn, .int .i64 A.mx] := blk_set hs5 6 _
          have hfin : Blk ((((((((wc.setCell ⟨w.heap.size + 1, 0, none⟩ (.int .i64 f)).setCell ⟨w.heap.size + 1, 1, none⟩ (.int .i64 t)).setCell ⟨w.heap.size + 1, 2, none⟩ (.int .i64 A.g)).setCell ⟨w.heap.size + 1, 3, none⟩ (.int .i64 V.1)).setCell ⟨w.heap.size + 1, 4, none⟩ (.int .i64 V.2)).setCell ⟨w.heap.size + 1, 5, none⟩ (.int .i64 A.mn)).setCell ⟨w.heap.size + 1, 6, none⟩ (.int .i64 A.mx)).drew) (w.heap.size + 1) 75 #[.int .i64 f, .int .i64 t, .int .i64 A.g, .int .i64 V.1, .int .i64 V.2, .int .i64 A.mn, .int .i64 A.mx] := Blk.drew hs6
          clear hs0 hs1 hs2 hs3 hs4 hs5 hs6
          have hDf : ((((((((wc.setCell ⟨w.heap.size + 1, 0, none⟩ (.int .i64 f)).setCell ⟨w.heap.size + 1, 1, none⟩ (.int .i64 t)).setCell ⟨w.heap.size + 1, 2, none⟩ (.int .i64 A.g)).setCell ⟨w.heap.size + 1, 3, none⟩ (.int .i64 V.1)).setCell ⟨w.heap.size + 1, 4, none⟩ (.int .i64 V.2)).setCell ⟨w.heap.size + 1, 5, none⟩ (.int .i64 A.mn)).setCell ⟨w.heap.size + 1, 6, none⟩ (.int .i64 A.mx)).drew).heap[D]? = some (.deferred (some [])) := by rw [drew_heap]; exact ((Below.heap_setCell _ _ _ _ (by simp; omega)).trans ((Below.heap_setCell _ _ _ _ (by simp; omega)).trans ((Below.heap_setCell _ _ _ _ (by simp; omega)).trans ((Below.heap_setCell _ _ _ _ (by simp; omega)).trans ((Below.heap_setCell _ _ _ _ (by simp; omega)).trans ((Below.heap_setCell _ _ _ _ (by simp; omega)).trans ((Below.heap_setCell _ _ _ _ (by simp; omega)).trans hKK)))))))
          have hbf : Below w.heap.size w ((((((((wc.setCell ⟨w.heap.size + 1, 0, none⟩ (.int .i64 f)).setCell ⟨w.heap.size + 1, 1, none⟩ (.int .i64 t)).setCell ⟨w.heap.size + 1, 2, none⟩ (.int .i64 A.g)).setCell ⟨w.heap.size + 1, 3, none⟩ (.int .i64 V.1)).setCell ⟨w.heap.size + 1, 4, none⟩ (.int .i64 V.2)).setCell ⟨w.heap.size + 1, 5, none⟩ (.int .i64 A.mn)).setCell ⟨w.heap.size + 1, 6, none⟩ (.int .i64 A.mx)).drew) := (((((((hlo.setCell (by simp) _).setCell (by simp) _).setCell (by simp) _).setCell (by simp) _).setCell (by simp) _).setCell (by simp) _).setCell (by simp) _).drew
          generalize (((((((wc.setCell ⟨w.heap.size + 1, 0, none⟩ (.int .i64 f)).setCell ⟨w.heap.size + 1, 1, none⟩ (.int .i64 t)).setCell ⟨w.heap.size + 1, 2, none⟩ (.int .i64 A.g)).setCell ⟨w.heap.size + 1, 3, none⟩ (.int .i64 V.1)).setCell ⟨w.heap.size + 1, 4, none⟩ (.int .i64 V.2)).setCell ⟨w.heap.size + 1, 5, none⟩ (.int .i64 A.mn)).setCell ⟨w.heap.size + 1, 6, none⟩ (.int .i64 A.mx)).drew = wf at *
          refine ⟨by simp, .inl ⟨_, _, rfl, run_takeDeferred hDf, ?_⟩⟩
          have hp : Blk (wf.putObj D (.deferred none)) (w.heap.size + 1) 75 #[.int .i64 f, .int .i64 t, .int .i64 A.g, .int .i64 V.1, .int .i64 V.2, .int .i64 A.mn, .int .i64 A.mx] := (World.putObj_heap_other (by omega)).trans hfin
          have p0 := hp.cell 0
          have p1 := hp.cell 1
          have p2 := hp.cell 2
          have p3 := hp.cell 3
          have p4 := hp.cell 4
          have p5 := hp.cell 5
          have p6 := hp.cell 6
          rw [HAA.out, HVV.out]
          refine ⟨.tuple #[.int .i64 A.s, .agg #[.int .i64 f, .int .i64 t, .int .i64 A.g, .int .i64 V.1, .int .i64 V.2, .int .i64 A.mn, .int .i64 A.mx]], ?_, rfl, ?_⟩
          · simp [results, Try.results80, go_sem, p0, p1, p2, p3, p4, p5, p6]
          · exact hbf.trans (belowK_b (w := w) (Nat.le_refl _) wf D _ _ (by omega) hDf rfl rfl)
    case stop =>
      rintro D c pre W _ _ h _
      exact h.elim
end Go.Proofs.Ytmcojidaimeijaa
