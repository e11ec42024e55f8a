import Derived.Test.YtblbfpokkpkcjaaCom20
import Derived.Test.YtblbfpokkpkcjaaCom12
import Derived.Test.YtblbfpokkpkcjaaCom21
import Derived.OwnWalk
/- The contract of shortest (package compress). -/

namespace Go.Proofs.Ytblbfpokkpkcjaa
open Go.RowKit
set_option linter.unusedVariables false
set_option linter.unusedSimpArgs false

/-- A row that was made is a block of its own. -/
theorem made_blk {w : World} {base g n : Nat} (h : w.ownsRow base 3 1 (.slice (some ⟨g, 0, none⟩) n n) n (madeCells (Value.cells (.int .i64 0)) (n * 1)).toList) : Blk w g 3 (cellsN (List.replicate n 0)) := by
  rcases h.2 with ⟨e, _⟩ | ⟨g', cap, cur, e, _, hg, _, _, hs, ht⟩
  · cases e
  · simp only [Value.slice.injEq, Option.some.injEq, Addr.mk.injEq, and_true, true_and] at e
    obtain ⟨rfl, rfl⟩ := e
    have e2 : cur = cellsN (List.replicate n 0) := by
      apply Array.toList_inj.1
      rw [← List.take_of_length_le (l := cur.toList) (i := n * 1) (by simp; omega), ht]
      have e3 : (madeCells (Value.cells (.int .i64 0)) (n * 1)).toList = List.replicate n (Value.int .i64 0) := by
        rw [List.eq_replicate_iff]
        refine ⟨by simp [madeCells], fun b hb => ?_⟩
        simp [madeCells, Value.cells, Nat.mod_one] at hb
        exact hb.2.symm
      rw [e3]
      simp [cellsN]
    rw [e2] at hg
    exact hg
theorem info_int : (Try.prog.info? 3).map (fun i => (i.zero, i.size, i.bytes)) = some (some (.int .i64 0), 1, 8) := by kernel_rfl

/-- The number in a box, and one more. -/
def boxN : Value → World → Nat
  | .pointer (some a), W => match W.cell? a with
    | some (.int _ x) => (x + 1).toNat
    | _ => 0
  | _, _ => 0
theorem boxN_eq {W : World} {g : Nat} {x : Int} (h : Blk W g 3 #[.int .i64 x]) : boxN (.pointer (some ⟨g, 0, none⟩)) W = (x + 1).toNat := by
  have := h.cell 0
  simp only [boxN]
  rw [this]
  rfl

/-- What lies while shortest works; g is the box of the place, which is i - 1. -/
structure ShK (w0 : World) (d m : Int) (v : Value) (l : List Smp) (gf bf gn bn : Nat) (i : Nat) (N F : List Nat) (g : Nat) (W : World) : Prop where
  bd : Blk W w0.heap.size 30 #[.int .i64 d, .int .i64 m]
  bl : Blk W (w0.heap.size + 1) 32 #[v]
  rf : Blk W gf 3 (cellsN F)
  xf : Blk W bf 22 #[.slice (some ⟨gf, 0, none⟩) l.length l.length]
  rn : Blk W gn 3 (cellsN N)
  xn : Blk W bn 22 #[.slice (some ⟨gn, 0, none⟩) l.length l.length]
  bi : Blk W g 3 #[.int .i64 ((i : Int) - 1)]
  lo : Below w0.heap.size w0 W
  o1 : w0.heap.size + 1 < gf
  o2 : gf < bf
  o3 : bf < gn
  o4 : gn < bn
  o5 : bn < g

theorem blk_ne {w : World} {a b : Nat} {t e : TypeId} {cs cm : Array Value} (h : Blk w a t cs) (hm : Blk w b e cm) (hne : t ≠ e) : a ≠ b := by
  intro h2
  subst h2
  exact h.no hne _ _ hm
theorem atS_drop (l : List Smp) (a j : Nat) : atS (l.drop a) j = atS l (a + j) := by
  unfold atS
  rw [List.getD_eq_getElem?_getD, List.getD_eq_getElem?_getD, List.getElem?_drop]
theorem But2.below {c s : Nat} {w0 a b : World} (h : Below w0.heap.size w0 a) (k : But2 c s a b) (hc : w0.heap.size ≤ c) (hs : w0.heap.size ≤ s) : Below w0.heap.size w0 b :=
  ⟨k.os.trans h.os, k.tape.trans h.tape, k.output.trans h.output, Nat.le_trans h.size k.size, fun i hi => (k.block i (Nat.lt_of_lt_of_le hi h.size) (by omega) (by omega)).trans (h.block i hi)⟩

/-- The samples that can follow sample q. -/
theorem shortEach_any (d m : Int) (v : Value) (l : List Smp) (q : Nat) (N F : List Nat) (bi bn bl bf gn gf c : Nat) (pa : Option Addr) (W0 : World)
    (hR : RdS W0 71 v (l.drop q)) (hq : q < l.length) (hlong : l.length ≤ 300) (hfit : FitL l) (hd : 0 ≤ d ∧ d ≤ 2000000)
    (xi : Blk W0 bi 3 #[.int .i64 (q : Int)]) (xn : Blk W0 bn 22 #[.slice (some ⟨gn, 0, none⟩) l.length l.length]) (xl : Blk W0 bl 32 #[.slice pa l.length c]) (xf : Blk W0 bf 22 #[.slice (some ⟨gf, 0, none⟩) l.length l.length])
    (rn : Blk W0 gn 3 (cellsN (N.set q l.length))) (rf : Blk W0 gf 3 (cellsN F)) (htab : TabR d m l (q + 1) N F) (hne : gn ≠ gf) (hbi : bi ≠ gn ∧ bi ≠ gf) :
    Calls Try.prog 169 #[.agg #[.int .i64 d, .int .i64 m], v, .func (.func 171) #[] #[.pointer (some ⟨bi, 0, none⟩), .pointer (some ⟨bn, 0, none⟩), .pointer (some ⟨bl, 0, none⟩), .pointer (some ⟨bf, 0, none⟩)]] W0 fun e w' => e = .returned (.tuple #[]) ∧ But2 gn gf W0 w' ∧
      Blk w' gn 3 (cellsN (N.set q (nbst d m l F q (l.length - q)).1)) ∧ Blk w' gf 3 (cellsN (F.set q (nbst d m l F q (l.length - q)).2)) := by
  have hdl : (l.drop q).length = l.length - q := by simp
  have hfd : FitL (l.drop q) := by
    have h := hfit.part (a := q) (b := l.length - 1) (by omega) (by omega)
    rwa [List.take_of_length_le (by simp; omega)] at h
  have hsh := fun k => nextB_shift (d := d) (m := m) (seg := l.drop q) (l := l) (a := q) (k := k) (fun j _ => atS_drop l q j)
  have hbn : bn ≠ gn ∧ bn ≠ gf := ⟨blk_ne xn rn (by decide), blk_ne xn rf (by decide)⟩
  have hbl : bl ≠ gn ∧ bl ≠ gf := ⟨blk_ne xl rn (by decide), blk_ne xl rf (by decide)⟩
  have hbf : bf ≠ gn ∧ bf ≠ gf := ⟨blk_ne xf rn (by decide), blk_ne xf rf (by decide)⟩
  have hrl := rn.lt
  have hfl := rf.lt
  have h := eachNext_any 171 #[.pointer (some ⟨bi, 0, none⟩), .pointer (some ⟨bn, 0, none⟩), .pointer (some ⟨bl, 0, none⟩), .pointer (some ⟨bf, 0, none⟩)] d m v (l.drop q) W0
    (fun k W => But2 gn gf W0 W ∧ Blk W gn 3 (cellsN (N.set q (nbst d m l F q k).1)) ∧ Blk W gf 3 (cellsN (F.set q (nbst d m l F q k).2)))
    (by omega) (by omega) hfd hd enter_shortest1
    (fun k W h => Rd.keep hR fun b cur fr hb => h.1.block b (lt_of_heap hb)
      (fun e => by subst e; rw [show W0.heap[b]? = _ from rn] at hb; cases hb) (fun e => by subst e; rw [show W0.heap[b]? = _ from rf] at hb; cases hb))
    (fun k A B s hs hb h => ⟨⟨hb.os.trans h.1.os, hb.tape.trans h.1.tape, hb.output.trans h.1.output, Nat.le_trans h.1.size hb.size, fun b h1 h2 h3 => (hb.block b (Nat.lt_of_lt_of_le h1 h.1.size) (by omega)).trans (h.1.block b h1 h2 h3)⟩,
      (hb.block _ h.2.1.lt (by omega)).trans h.2.1, (hb.block _ h.2.2.lt (by omega)).trans h.2.2⟩)
    (fun k A h0 hk hn hsz h => by
      rw [hdl] at hk
      rw [hsh] at hn
      have hst := rows_step (N := N) (F := F) htab.hN htab.hF hq h0 hn
      have hbb := set_bound htab.hF hq htab.hb (nbst_bound (d := d) (m := m) htab.hb hq (show q + k ≤ l.length by omega))
      have hmb := mem_bound (by rw [List.length_set]; exact htab.hF) hbb
      have kp : ∀ {b : Nat} {t : TypeId} {cs : Array Value}, Blk W0 b t cs → b ≠ gn ∧ b ≠ gf → Blk A b t cs := fun hx hy => (h.1.block _ hx.lt hy.1 hy.2).trans hx
      refine (shortest1_any bi bn bl bf gn gf l.length q k c pa (N.set q (nbst d m l F q k).1) (F.set q (nbst d m l F q k).2) A (kp xi hbi) (kp xn hbn) (kp xl hbl) (kp xf hbf) h.2.1 h.2.2 (by rw [List.length_set]; exact htab.hN) (by rw [List.length_set]; exact htab.hF) (by omega) (by omega) (fun x hx => by have := hmb x hx; omega) hne hbi).mono ?_
      rintro e w' ⟨rfl, N', F', hN', hF', gN, gF, k1, k2, k3, k4, k5⟩
      rw [hst.1] at hN'
      rw [hst.2] at hF'
      subst hN'
      subst hF'
      exact ⟨rfl, ⟨⟨k1.trans h.1.os, k2.trans h.1.tape, k3.trans h.1.output, Nat.le_trans h.1.size k4, fun b h1 h2 h3 => (k5 b (Nat.lt_of_lt_of_le h1 h.1.size) h2 h3).trans (h.1.block b h1 h2 h3)⟩, gN, gF⟩, k4, fun b hb hlt => k5 b hlt (by omega) (by omega)⟩)
    (fun k A hk hn h => by
      rw [hsh] at hn
      rw [nbst_skip hn]
      exact h)
    ⟨⟨rfl, rfl, rfl, Nat.le_refl _, fun _ _ _ _ => rfl⟩, by rw [nbst_zero]; exact rn, by
      rw [nbst_zero, set_same F q 0 (by rw [htab.hF]; exact hq) (htab.z q (by omega))]; exact rf⟩
  rw [hdl] at h
  exact h

set_option maxRecDepth 100000 in
set_option maxHeartbeats 4000000 in
theorem shortest_any (d m : Int) (v : Value) (l : List Smp) (w : World) (hR : RdS w 71 v l) (hfit : FitL l) (hlong : l.length ≤ 300) (hd : 0 ≤ d ∧ d ≤ 2000000) :
    Calls Try.prog 110 #[.agg #[.int .i64 d, .int .i64 m], v] w fun e w' => ∃ (g : Nat) (N F : List Nat), e = .returned (.slice (some ⟨g, 0, none⟩) l.length l.length) ∧ N.length = l.length ∧ (∀ i, i < l.length → (N.getD i 0, F.getD i 0) = bestTo (nextB d m l i) (fun j => F.getD j 0) l.length l.length) ∧ Blk w' g 3 (cellsN N) ∧ Below w.heap.size w w' := by
  obtain ⟨pa, ca, rfl⟩ := hR.lenv
  have hmx : Try.prog.follows .mixedOrders = true := by kernel_rfl
  obtain ⟨i0, hi0, hz0, hz1, hz2⟩ := info_parts info_int
  have HMK := Lib.hid hi0
  have HZ := Lib.hid (And.intro hz0 (And.intro hz1 hz2))
  have HUN := Lib.hid (show Try.prog.underlying 22 = some (.slice 3) from Try.underlying22)
  clear hi0 hz0 hz1 hz2
  go_enter Try.func110, Try.ntmps110
  go_upto_region 1 with fail
  have b1 : Blk ((w.alloc (.cells #[.int .i64 d, .int .i64 m] 30)).alloc (.cells #[.slice pa l.length ca] 32)) w.heap.size 30 #[.int .i64 d, .int .i64 m] := (Blk.new w _ _).alloc _
  have b2 : Blk ((w.alloc (.cells #[.int .i64 d, .int .i64 m] 30)).alloc (.cells #[.slice pa l.length ca] 32)) (w.heap.size + 1) 32 #[.slice pa l.length ca] := Blk.new1 _ _ _ _
  have hlo : Below w.heap.size w ((w.alloc (.cells #[.int .i64 d, .int .i64 m] 30)).alloc (.cells #[.slice pa l.length ca] 32)) := ((Below.refl _ w).alloc (Nat.le_refl _) _).alloc (by simp) _
  generalize (w.alloc (.cells #[.int .i64 d, .int .i64 m] 30)).alloc (.cells #[.slice pa l.length ca] 32) = w1 at *
  have e0 := b2.cell 0
  go_upto_region 2 with (at_make; refine wpList_make_full _ rfl (.tmp 9) (.tmp 9) 22 rfl w.heap.size 3 i0 (.int .i64 0) 1 HUN.out HMK.out HZ.out.1 HZ.out.2.1 .i64 .i64 (l.length : Int) (l.length : Int) l.length rfl rfl rfl rfl (by rw [HZ.out.2.2]; omega) (by simp only [maxLen]; omega) (by exact hlo.size) ?_; intro wm hown hgrow)
  have rf := (made_blk hown).alloc (.cells #[.slice (some ⟨w1.heap.size, 0, none⟩) l.length l.length] 22)
  have xf : Blk (wm.alloc (.cells #[.slice (some ⟨w1.heap.size, 0, none⟩) l.length l.length] 22)) wm.heap.size 22 #[.slice (some ⟨w1.heap.size, 0, none⟩) l.length l.length] := Blk.new _ _ _
  have o1 : w.heap.size + 1 < w1.heap.size := b2.lt
  have o2 : w1.heap.size < wm.heap.size := (made_blk hown).lt
  have c1 := (show Blk wm _ _ _ from (hgrow.block _ b1.lt (by simp)).trans b1).alloc (.cells #[.slice (some ⟨w1.heap.size, 0, none⟩) l.length l.length] 22)
  have c2 := (show Blk wm _ _ _ from (hgrow.block _ b2.lt (by simp)).trans b2).alloc (.cells #[.slice (some ⟨w1.heap.size, 0, none⟩) l.length l.length] 22)
  have hlo2 := (hlo.grown hgrow hlo.size (fun k h => by cases h)).alloc (by omega) (.cells #[.slice (some ⟨w1.heap.size, 0, none⟩) l.length l.length] 22)
  clear b1 b2 hlo e0 hown hgrow
  generalize wm.alloc (.cells #[.slice (some ⟨w1.heap.size, 0, none⟩) l.length l.length] 22) = w2 at *
  generalize w1.heap.size = gf at *
  generalize wm.heap.size = bf at *
  have e0 := c2.cell 0
  go_upto_region 3 with (at_make; refine wpList_make_full _ rfl (.tmp 12) (.tmp 12) 22 rfl w.heap.size 3 i0 (.int .i64 0) 1 HUN.out HMK.out HZ.out.1 HZ.out.2.1 .i64 .i64 (l.length : Int) (l.length : Int) l.length rfl rfl rfl rfl (by rw [HZ.out.2.2]; omega) (by simp only [maxLen]; omega) (by exact hlo2.size) ?_; intro wm hown hgrow)
  have rn := (made_blk hown).alloc (.cells #[.slice (some ⟨w2.heap.size, 0, none⟩) l.length l.length] 22)
  have xn : Blk (wm.alloc (.cells #[.slice (some ⟨w2.heap.size, 0, none⟩) l.length l.length] 22)) wm.heap.size 22 #[.slice (some ⟨w2.heap.size, 0, none⟩) l.length l.length] := Blk.new _ _ _
  have o3 : bf < w2.heap.size := xf.lt
  have o4 : w2.heap.size < wm.heap.size := (made_blk hown).lt
  have kp : ∀ {b : Nat} {t : TypeId} {cs : Array Value}, Blk w2 b t cs → Blk (wm.alloc (.cells #[.slice (some ⟨w2.heap.size, 0, none⟩) l.length l.length] 22)) b t cs := fun h => (show Blk wm _ _ _ from (hgrow.block _ h.lt (by simp)).trans h).alloc _
  have d1 := kp c1
  have d2 := kp c2
  have d3 := kp rf
  have d4 := kp xf
  have hlo3 := (hlo2.grown hgrow hlo2.size (fun k h => by cases h)).alloc (by omega) (.cells #[.slice (some ⟨w2.heap.size, 0, none⟩) l.length l.length] 22)
  clear c1 c2 rf xf hlo2 e0 hown hgrow kp
  generalize wm.alloc (.cells #[.slice (some ⟨w2.heap.size, 0, none⟩) l.length l.length] 22) = w3 at *
  generalize w2.heap.size = gn at *
  generalize wm.heap.size = bn at *
  have e0 := d2.cell 0
  have hw0 : IntKind.i64.wrap ((l.length : Int) - 1) = (l.length : Int) - 1 := IntWalk.i64_in _ (by omega)
  go_wp2_with fail
  have hK0 : ShK w d m (.slice pa l.length ca) l gf bf gn bn l.length (List.replicate l.length 0) (List.replicate l.length 0) w3.heap.size (w3.alloc (.cells #[.int .i64 ((l.length : Int) - 1)] 3)) :=
    ⟨d1.alloc _, d2.alloc _, d3.alloc _, d4.alloc _, rn.alloc _, xn.alloc _, Blk.new _ _ _, hlo3.alloc hlo3.size _, o1, o2, o3, o4, xn.lt⟩
  have HFIT := Lib.hid hfit
  have HRD := Lib.hid hR
  clear d1 d2 d3 d4 rn xn hlo3 o1 o2 o3 o4 e0 hw0 HMK HZ HUN hfit hR
  go_loopw [7] (fun p wr => ∃ (i : Nat) (N F : List Nat) (g : Nat), i ≤ l.length ∧ p = .pointer (some ⟨g, 0, none⟩) ∧ TabR d m l i N F ∧ ShK w d m (.slice pa l.length ca) l gf bf gn bn i N F g wr) (fun p wr => boxN p wr)
  case atStart => exact ⟨l.length, _, _, _, Nat.le_refl _, rfl, tab_zero d m l, hK0⟩
  case round =>
    clear hK0
    obtain ⟨i, N, F, g, hil, rfl, htab, hk⟩ := hrel
    cases i with
    | zero =>
      have hbi := hk.bi
      rw [show (((0 : Nat) : Int) - 1) = -1 by omega] at hbi
      have e0 := hbi.cell 0
      have e1 := hk.xn.cell 0
      have HT := Lib.hid htab
      clear htab hbi
      go_wp2_with fail
      go_ret
      exact ⟨gn, N, F, rfl, HT.out.hN, fun j hj => HT.out.eq j (Nat.zero_le _) hj, hk.rn, hk.lo⟩
    | succ q =>
      have hbi := hk.bi
      rw [show (((q + 1 : Nat) : Int) - 1) = (q : Int) by omega] at hbi
      have HB0 := Lib.hid hbi
      have e0 := hbi.cell 0
      have e1 := hk.bl.cell 0
      have e2 := hk.xn.cell 0
      have f0 := hk.rn.frozen q
      have n0 : wr.cell? ⟨gn, q, none⟩ = some (.int .i64 ((N.getD q 0 : Nat) : Int)) := (hk.rn.cell q).trans (cellsN_at N q (by rw [htab.hN]; omega))
      have HT := Lib.hid htab
      clear htab
      go_upto_region 7 with fail
      have p1 := hk.rn.set_ q (.int .i64 (l.length : Int))
      rw [cellsN_set] at p1
      have hgne : g ≠ gn := by have := hk.o4; have := hk.o5; omega
      have hfne : gf ≠ gn := by have := hk.o2; have := hk.o3; omega
      have p2 := hk.rf.setOther (p := ⟨gn, q, none⟩) hfne (.int .i64 (l.length : Int))
      have p3 := hbi.setOther (p := ⟨gn, q, none⟩) hgne (.int .i64 (l.length : Int))
      have p4 := hk.bl.setOther (p := ⟨gn, q, none⟩) (blk_ne hk.bl hk.rn (by decide)) (.int .i64 (l.length : Int))
      have p5 := hk.xf.setOther (p := ⟨gn, q, none⟩) (blk_ne hk.xf hk.rn (by decide)) (.int .i64 (l.length : Int))
      have p6 := hk.xn.setOther (p := ⟨gn, q, none⟩) (blk_ne hk.xn hk.rn (by decide)) (.int .i64 (l.length : Int))
      have p7 := hk.bd.setOther (p := ⟨gn, q, none⟩) (blk_ne hk.bd hk.rn (by decide)) (.int .i64 (l.length : Int))
      have hlow := hk.lo.setCell (p := ⟨gn, q, none⟩) (by have := hk.o1; have := hk.o2; have := hk.o3; simp; omega) (.int .i64 (l.length : Int))
      have hgfn : g ≠ gf := by have := hk.o2; have := hk.o3; have := hk.o4; have := hk.o5; omega
      have hR2 : RdS (wr.setCell ⟨gn, q, none⟩ (.int .i64 (l.length : Int))) 71 (.slice pa l.length ca) l := Rd.setCell (Rd.below HRD.out hk.lo) _ _ (hk.rn.no (by decide))
      have HO := Lib.hid (And.intro hk.o1 (And.intro hk.o2 (And.intro hk.o3 (And.intro hk.o4 hk.o5))))
      clear hk hbi e0 e1 e2 f0 n0
      generalize wr.setCell ⟨gn, q, none⟩ (.int .i64 (l.length : Int)) = wA at *
      obtain ⟨bL, oL, cL, hvL, hcL1, hcL2, hbL, _⟩ := RdS.cells hR2 (by omega)
      cases hvL
      unfold maxLen at hcL2
      have hprt := RdS.part hR2 q l.length (by omega) (Nat.le_refl _) (some ⟨bL, oL + q * 3, none⟩) (fun _ b off h => by cases h; rfl)
      rw [List.take_of_length_le (by simp)] at hprt
      have HE := Lib.hid (shortEach_any d m _ l q N F g bn (w.heap.size + 1) bf gn gf ca (some ⟨bL, oL, none⟩) wA.drew hprt (by omega) hlong HFIT.out hd p3 p6 p4 p5 p1 p2 HT.out (fun e => hfne e.symm) ⟨hgne, hgfn⟩)
      have HBI := Lib.hid p3
      have HP := Lib.hid (And.intro p4 (And.intro p5 (And.intro p6 p7)))
      have e0 := p3.cell 0
      have e1 := p4.cell 0
      have e2 := p7.cell 0
      have e3 := p7.cell 1
      have hcaa : ¬ ca = q := by omega
      have hi1 : (q : Int) ≤ (ca : Int) := by omega
      have hi2 : (q : Int) ≤ (l.length : Int) := by omega
      have hi3 : q ≤ l.length := by omega
      have HG := Lib.hid (And.intro hgne (And.intro hfne hgfn))
      have hql : q + 1 ≤ l.length := hil
      clear hprt hR2 p1 p2 p3 p4 p5 p6 p7 hgne hfne hgfn hil
      go_still_tail 5, (by kernel_rfl)
      change wpList _ _ _ _ _ wA.drew
      go_wp2_with fail
      refine HE.out.mono ?_
      rintro e wk ⟨rfl, hb2, gN, gF⟩
      have hlow2 := hlow.drew
      have a3 : w.heap.size ≤ gn := by have := HO.out; omega
      have a4 : w.heap.size ≤ gf := by have := HO.out; omega
      have hlk := But2.below hlow2 hb2 a3 a4
      have kp : ∀ {b : Nat} {t : TypeId} {cs : Array Value}, Blk wA b t cs → b ≠ gn → b ≠ gf → Blk wk b t cs := fun hx h1 h2 => (hb2.block _ hx.lt h1 h2).trans hx
      have r1 := kp HP.out.1 (by have := HO.out; omega) (by have := HO.out; omega)
      have r2 := kp HP.out.2.1 (by have := HO.out; omega) (by have := HO.out; omega)
      have r3 := kp HP.out.2.2.1 (by have := HO.out; omega) (by have := HO.out; omega)
      have r4 := kp HP.out.2.2.2 (by have := HO.out; omega) (by have := HO.out; omega)
      have r5 := kp HBI.out HG.out.1 HG.out.2.2
      have hgk : g < wk.heap.size := r5.lt
      have e4 := r5.cell 0
      have hw1 : IntKind.i64.wrap ((q : Int) - 1) = (q : Int) - 1 := IntWalk.i64_in _ (by omega)
      have HR := Lib.hid (HT.out.round (by omega : q < l.length))
      have HKK := Lib.hid (show ∀ Z : World, Z = wk.alloc (.cells #[.int .i64 ((q : Int) - 1)] 3) → ShK w d m (.slice (some ⟨bL, oL, none⟩) l.length ca) l gf bf gn bn q (N.set q (nbst d m l F q (l.length - q)).1) (F.set q (nbst d m l F q (l.length - q)).2) wk.heap.size Z from fun Z hZ => by
        subst hZ
        have kq : ∀ {b : Nat} {t : TypeId} {cs : Array Value}, Blk wk b t cs → Blk (wk.alloc (.cells #[.int .i64 ((q : Int) - 1)] 3)) b t cs := fun hx => hx.alloc _
        have ho := HO.out
        exact ⟨kq r4, kq r1, kq gF, kq r2, kq gN, kq r3, Blk.new wk _ _, hlk.alloc hlk.size _, ho.1, ho.2.1, ho.2.2.1, ho.2.2.2.1, r3.lt⟩)
      have HBX := Lib.hid (show boxN (.pointer (some ⟨g, 0, none⟩)) wr = q + 1 by rw [boxN_eq HB0.out]; omega)
      clear hb2 gN gF hlow hlow2 r1 r2 r3 r4 r5 kp HE HP e0 e1 e2 e3 hlk a3 a4
      generalize N.set q (nbst d m l F q (l.length - q)).1 = N2 at *
      generalize F.set q (nbst d m l F q (l.length - q)).2 = F2 at *
      go_wp2_with fail
      go_roundw
      case rel => exact ⟨q, N2, F2, wk.heap.size, by omega, rfl, HR.out, HKK.out _ rfl⟩
      case measure => rw [HBX.out, boxN_eq (HKK.out _ rfl).bi]; omega
end Go.Proofs.Ytblbfpokkpkcjaa
