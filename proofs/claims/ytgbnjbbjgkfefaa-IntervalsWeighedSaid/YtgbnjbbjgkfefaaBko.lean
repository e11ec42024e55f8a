/- BucketsOf (the reference). For a right series, a right window and at most 5000 buckets. -/
import Derived.Test.YtgbnjbbjgkfefaaBkv
import Derived.Test.YtgbnjbbjgkfefaaVlx
import Derived.Test.YtgbnjbbjgkfefaaAgg
namespace Go.Proofs.Ytgbnjbbjgkfefaa
open Go.RowKit
set_option linter.unusedVariables false
set_option linter.unusedSimpArgs false

structure BkK (w0 w1 : World) (f t : Int) (o : Value) (out : List Bkt) (w : World) : Prop where
  own : w.ownsRow w1.heap.size 124 7 o out.length (bktCells out)
  bl : Below w1.heap.size w1 w
  bw : Blk w w0.heap.size 76 #[.int .i64 f, .int .i64 t]
theorem BkK.step {w0 w1 w w' : World} {f t : Int} {o : Value} {out : List Bkt} (h : BkK w0 w1 f t o out w) (hb : Below w.heap.size w w') : BkK w0 w1 f t o out w' :=
  ⟨own_keep h.own fun b _ _ hh => hb.block b (lt_of_heap hh), h.bl.trans (hb.mono h.bl.size), h.bw.below hb h.bw.lt⟩
theorem BkK.alloc {w0 w1 w : World} {f t : Int} {o : Value} {out : List Bkt} (h : BkK w0 w1 f t o out w) (x : Obj) : BkK w0 w1 f t o out (w.alloc x) := h.step ((Below.refl _ _).alloc (Nat.le_refl _) _)
theorem BkK.grown {w0 w1 w w' : World} {f t : Int} {o o' : Value} {out : List Bkt} (h : BkK w0 w1 f t o out w) (x : Bkt) (hB0 : w0.heap.size < w1.heap.size) (hg : w.grownBy w' o.ownBlock) (ho : w'.ownsRow w1.heap.size 124 7 o' (out.length + 1) (bktCells (out ++ [x]))) : BkK w0 w1 f t o' (out ++ [x]) w' :=
  ⟨by simpa using ho, h.bl.trans (below_grown h.own h.bl.size hg), h.bw.below (below_grown h.own h.bl.size hg) hB0⟩

/-- What a round has at hand: the row, the bucket's block, the series. -/
structure BkM (w0 w1 : World) (f t : Int) (o : Value) (out : List Bkt) (n : Nat) (cs : Array Value) (v : Value) (l : List Smp) (w : World) : Prop where
  own : w.ownsRow w1.heap.size 124 7 o out.length (bktCells out)
  bl : Below w1.heap.size w1 w
  bw : Blk w w0.heap.size 76 #[.int .i64 f, .int .i64 t]
  bk : Blk w n 124 cs
  rs : RdS w 71 v l
  ne : some n ≠ o.ownBlock
  n1 : w1.heap.size ≤ n
  n0 : w0.heap.size < w1.heap.size
section
variable {w0 w1 w w' : World} {f t : Int} {o : Value} {out : List Bkt} {n : Nat} {cs : Array Value} {v : Value} {l : List Smp}
theorem BkM.step (h : BkM w0 w1 f t o out n cs v l w) (hb : Below w.heap.size w w') : BkM w0 w1 f t o out n cs v l w' :=
  ⟨own_keep h.own fun b _ _ hh => hb.block b (lt_of_heap hh), h.bl.trans (hb.mono h.bl.size), h.bw.below hb h.bw.lt, h.bk.below hb h.bk.lt, Rd.below h.rs hb, h.ne, h.n1, h.n0⟩
theorem grown_set (W : World) (p : Addr) (u : Value) : W.grownBy (W.setCell p u) (some p.block) :=
  ⟨rfl, rfl, rfl, (KeepsWalks.setCell W _ u).size, fun k _ hk => Below.heap_setCell _ _ _ k (fun e => hk (by rw [e]))⟩
theorem BkM.set (h : BkM w0 w1 f t o out n cs v l w) (i : Nat) (u : Value) : BkM w0 w1 f t o out n (cs.setIfInBounds i u) v l (w.setCell ⟨n, i, none⟩ u) :=
  ⟨h.own.kept (grown_set w ⟨n, i, none⟩ u) (.inr (fun e => h.ne e.symm)), h.bl.setCell h.n1 u, h.bw.setOther (by have := h.n0; have := h.n1; simp; omega) u, blk_set h.bk i u, Rd.setCell h.rs _ _ (Blk.no h.bk (by decide)), h.ne, h.n1, h.n0⟩
theorem blk_new_at (W : World) (t : TypeId) (cs : Array Value) (n : Nat) (h : W.heap.size = n) : Blk (W.alloc (.cells cs t)) n t cs := by rw [← h]; exact Blk.new W t cs
theorem BkM.cells {a b c d e g k : Value} (h : BkM w0 w1 f t o out n #[a, b, c, d, e, g, k] v l w) : (w.cell? ⟨n, 0, none⟩ = some a ∧ w.cell? ⟨n, 1, none⟩ = some b ∧ w.cell? ⟨n, 2, none⟩ = some c ∧ w.cell? ⟨n, 3, none⟩ = some d ∧ w.cell? ⟨n, 4, none⟩ = some e ∧ w.cell? ⟨n, 5, none⟩ = some g ∧ w.cell? ⟨n, 6, none⟩ = some k) ∧
    (w.frozen? ⟨n, 2, none⟩ = false ∧ w.frozen? ⟨n, 3, none⟩ = false ∧ w.frozen? ⟨n, 4, none⟩ = false ∧ w.frozen? ⟨n, 5, none⟩ = false ∧ w.frozen? ⟨n, 6, none⟩ = false) :=
  ⟨⟨h.bk.cell 0, h.bk.cell 1, h.bk.cell 2, h.bk.cell 3, h.bk.cell 4, h.bk.cell 5, h.bk.cell 6⟩, h.bk.frozen 2, h.bk.frozen 3, h.bk.frozen 4, h.bk.frozen 5, h.bk.frozen 6⟩
end

set_option maxRecDepth 100000 in
set_option maxHeartbeats 4000000 in
theorem bucketsOf_any (v : Value) (l : List Smp) (f t ev : Int) (w : World) (hR : RdS w 71 v l) (hS : serErr l = 0) (hW : 0 ≤ f ∧ f ≤ t ∧ t ≤ 345686400000)
    (hv : 1 ≤ ev ∧ ev ≤ 86400000) (hc : ptsCnt f t ev ≤ 5000) :
    Calls Try.prog 72 #[v, .agg #[.int .i64 f, .int .i64 t], .int .i64 ev] w fun e w' => ∃ vr, e = .returned vr ∧ RdBkt w' vr (bktTo l f t ev (ptsCnt f t ev)) ∧ Below w.heap.size w w' := by
  have hB0 := Blk.new w 76 #[.int .i64 f, .int .i64 t]
  have hR1 : RdS _ 71 v l := Rd.alloc hR (.cells #[.int .i64 f, .int .i64 t] 76)
  have hbw : Below w.heap.size w (w.alloc (.cells #[.int .i64 f, .int .i64 t] 76)) := (Below.refl _ w).alloc (Nat.le_refl _) _
  have hsz : (w.alloc (.cells #[.int .i64 f, .int .i64 t] 76)).heap.size = w.heap.size + 1 := by simp
  have hlt := fun k => ptsCnt_lt f t ev k hv.1
  have hsu := fun k h => bktTo_succ l f t ev hW.1 hW.2.2 hv.1 k h
  go_enter Try.func72, Try.ntmps72
  go_upto_region 1 with fail
  generalize w.alloc (.cells #[.int .i64 f, .int .i64 t] 76) = w1 at *
  generalize hcn : ptsCnt f t ev = C at *
  have HLT := Lib.hid hlt
  have HSU := Lib.hid hsu
  have HR1 := Lib.hid hR1
  have HBW := Lib.hid hbw
  have HCN := Lib.hid hcn
  have hlt0 : w.heap.size < w1.heap.size := by omega
  have e0 := hB0.cell 0
  have e1 := hB0.cell 1
  clear hR hR1 hbw hsz hlt hcn hsu
  go_wp2_with fail
  go_loopw [7, 8] (fun o i wr => ∃ (k : Nat) (A : Int), k ≤ C ∧ i = .int .i64 A ∧ A = f + k * ev ∧ BkK w w1 f t o (bktTo l f t ev k) wr) (fun _ i _ => (t - intOf i).toNat)
  case atStart => exact ⟨0, f, by omega, rfl, by simp, World.ownsRow_nil _ _ _ _, Below.refl _ _, hB0⟩
  case round =>
    obtain ⟨k, A, hk, rfl, hA, hst⟩ := hrel
    have hlk := HLT.out k
    rw [← hA] at hlk
    have e0 := hst.bw.cell 0
    have e1 := hst.bw.cell 1
    have z1 := hst.bw.lt
    have hA0 : f ≤ A := by
      have : 0 ≤ (k : Int) * ev := Int.mul_nonneg (by omega) (by omega)
      omega
    have hA1 : A + ev = f + ((k + 1 : Nat) : Int) * ev := by rw [hA, show ((k + 1 : Nat) : Int) = (k : Int) + 1 from by omega, Int.add_mul, Int.one_mul]; omega
    have hlong2 := bktTo_long l f t ev k
    have HA1 := Lib.hid hA1
    have hnext := HSU.out k
    rw [← hA] at hnext
    have HN := Lib.hid hnext
    have HA := Lib.hid hA
    clear hA hA1 hnext
    by_cases hat : A < t
    · have hkC := hlk.1 hat
      obtain ⟨T, hT⟩ : ∃ T, T = if A + ev ≤ t then A + ev else t := ⟨_, rfl⟩
      have hTb : A < T ∧ T ≤ t := by rw [hT]; split <;> omega
      have HN2 := Lib.hid (show bktTo l f t ev (k + 1) = bktTo l f t ev k ++ [bktOf l A T] by rw [HN.out hkC, hT])
      have hyd : bktOf l A T = ⟨A, T, (aggV l A T).g, (avgV l A T).1, (avgV l A T).2, (aggV l A T).mn, (aggV l A T).mx⟩ := rfl
      have h1 := fun w h => integralOf_any v l A T w h hS ⟨by omega, by omega, by omega⟩
      have h2 := fun w h => averageOf_any v l A T w h hS ⟨by omega, by omega, by omega⟩
      have h3 := fun w h => extremesOf_any v l A T w h hS ⟨by omega, by omega, by omega⟩
      generalize aggV l A T = G at *
      generalize avgV l A T = V at *
      have HY := Lib.hid hyd
      have H1 := Lib.hid h1
      have H2 := Lib.hid h2
      have H3 := Lib.hid h3
      have HST := Lib.hid hst
      clear hyd h1 h2 h3 hst hlk
      generalize bktTo l f t ev k = out at *
      have hne : some wr.heap.size ≠ u7.ownBlock := by
        rcases HST.out.own.2 with ⟨rfl, _⟩ | ⟨g, cap, cur, rfl, _, hgb, _⟩
        · simp [Value.ownBlock]
        · simp [Value.ownBlock]; have := lt_of_heap hgb; omega
      have hm0 : BkM w w1 f t u7 out wr.heap.size #[.int .i64 A, .int .i64 T, .int .i64 0, .int .i64 0, .int .i64 0, .int .i64 0, .int .i64 0] v l (wr.alloc (.cells #[.int .i64 A, .int .i64 T, .int .i64 0, .int .i64 0, .int .i64 0, .int .i64 0, .int .i64 0] 124)) :=
        have hs := HST.out.alloc (.cells #[.int .i64 A, .int .i64 T, .int .i64 0, .int .i64 0, .int .i64 0, .int .i64 0, .int .i64 0] 124)
        ⟨hs.own, hs.bl, hs.bw, Blk.new _ _ _, Rd.below HR1.out hs.bl, hne, HST.out.bl.size, hlt0⟩
      have h1 := H1.out
      have h2 := H2.out
      have h3 := H3.out
      have hy := HY.out
      clear H1 H2 H3 HY hTb
      by_cases hae : A + ev ≤ t
      · rw [if_pos hae] at hT
        rw [hT] at hm0 h1 h2 h3 hy
        have HT := Lib.hid hT
        have HY := Lib.hid hy
        clear hT hy
        go_upto_region 6 with fail
        generalize wr.alloc (.cells #[.int .i64 A, .int .i64 (A + ev), .int .i64 0, .int .i64 0, .int .i64 0, .int .i64 0, .int .i64 0] 124) = w5 at *
        generalize wr.heap.size = n5 at *
        obtain ⟨⟨c0, c1, c2, c3, c4, c5, c6⟩, f2, f3, f4, f5, f6⟩ := hm0.cells
        go_wp2_with (first
          | (go_at_call 62; refine (h1 _ hm0.rs).mono ?_; rintro e w6 ⟨rfl, hb6⟩; have hm6 := hm0.step hb6; have hm7 := hm6.set 2 (.int .i64 G.g); clear c0 c1 c2 c3 c4 c5 c6 f2 f3 f4 f5 f6; have f2 := hm6.bk.frozen 2; have x2 := hm6.bk.cell 2; have c0 := hm7.bk.cell 0; have c1 := hm7.bk.cell 1)
          | (go_at_call 63; refine (h2 _ hm7.rs).mono ?_; rintro e w8 ⟨rfl, hb8⟩; have hm8 := hm7.step hb8; have hm9 := (hm8.set 3 (.int .i64 V.1)).set 4 (.int .i64 V.2); clear c0 c1 f2 x2; have f3 := hm8.bk.frozen 3; have f4 := hm8.bk.frozen 4; have x3 := hm8.bk.cell 3; have x4 := hm8.bk.cell 4; have c0 := hm9.bk.cell 0; have c1 := hm9.bk.cell 1)
          | (go_at_call 64; refine (h3 _ hm9.rs).mono ?_; rintro e wa ⟨rfl, hba⟩; have hma := hm9.step hba; have hmb := (hma.set 5 (.int .i64 G.mn)).set 6 (.int .i64 G.mx); clear c0 c1 f3 f4 x3 x4; have f5 := hma.bk.frozen 5; have f6 := hma.bk.frozen 6; have x5 := hma.bk.cell 5; have x6 := hma.bk.cell 6; have c0 := hmb.bk.cell 0; have c1 := hmb.bk.cell 1; have c2 := hmb.bk.cell 2; have c3 := hmb.bk.cell 3; have c4 := hmb.bk.cell 4; have c5 := hmb.bk.cell 5; have c6 := hmb.bk.cell 6; have HMC := Lib.hid (hmb.step ((Below.refl _ _).alloc (Nat.le_refl _) (.cells #[.int .i64 A, .int .i64 (A + ev), .int .i64 G.g, .int .i64 V.1, .int .i64 V.2, .int .i64 G.mn, .int .i64 G.mx] 124))); have HBN := Lib.hid (blk_new_at ((wa.setCell ⟨n5, 5, none⟩ (.int .i64 G.mn)).setCell ⟨n5, 6, none⟩ (.int .i64 G.mx)) 124 #[.int .i64 A, .int .i64 (A + ev), .int .i64 G.g, .int .i64 V.1, .int .i64 V.2, .int .i64 G.mn, .int .i64 G.mx] wa.heap.size (by simp)))
          | (at_builtin; go_loud (refine wpList_append_bkt rfl (.tmp 54) (.tmp 56) rfl w1.heap.size u7 out.length out rfl (by exact HMC.out.own) wa.heap.size rfl ⟨A, (A + ev), G.g, V.1, V.2, G.mn, G.mx⟩ (by exact HBN.out) (by omega) (by exact HMC.out.bl.size) ?_); intro v1 wd hown1 hgrow1; have hkd := (BkK.mk HMC.out.own HMC.out.bl HMC.out.bw).grown ⟨A, (A + ev), G.g, V.1, V.2, G.mn, G.mx⟩ hlt0 hgrow1 hown1; clear hown1 hgrow1; have g0 := hkd.bw.cell 0; have g1 := hkd.bw.cell 1; clear c0 c1 c2 c3 c4 c5 c6 f5 f6 x5 x6))
        go_roundw
        case rel => exact ⟨k + 1, A + ev, by omega, rfl, HA1.out, by rw [HN2.out, HT.out, HY.out]; exact hkd⟩
        case measure => simp [intOf]; omega
      · rw [if_neg hae] at hT
        rw [hT] at hm0 h1 h2 h3 hy
        have HT := Lib.hid hT
        have HY := Lib.hid hy
        clear hT hy
        go_upto_region 6 with fail
        generalize wr.alloc (.cells #[.int .i64 A, .int .i64 t, .int .i64 0, .int .i64 0, .int .i64 0, .int .i64 0, .int .i64 0] 124) = w5 at *
        generalize wr.heap.size = n5 at *
        obtain ⟨⟨c0, c1, c2, c3, c4, c5, c6⟩, f2, f3, f4, f5, f6⟩ := hm0.cells
        go_wp2_with (first
          | (go_at_call 62; refine (h1 _ hm0.rs).mono ?_; rintro e w6 ⟨rfl, hb6⟩; have hm6 := hm0.step hb6; have hm7 := hm6.set 2 (.int .i64 G.g); clear c0 c1 c2 c3 c4 c5 c6 f2 f3 f4 f5 f6; have f2 := hm6.bk.frozen 2; have x2 := hm6.bk.cell 2; have c0 := hm7.bk.cell 0; have c1 := hm7.bk.cell 1)
          | (go_at_call 63; refine (h2 _ hm7.rs).mono ?_; rintro e w8 ⟨rfl, hb8⟩; have hm8 := hm7.step hb8; have hm9 := (hm8.set 3 (.int .i64 V.1)).set 4 (.int .i64 V.2); clear c0 c1 f2 x2; have f3 := hm8.bk.frozen 3; have f4 := hm8.bk.frozen 4; have x3 := hm8.bk.cell 3; have x4 := hm8.bk.cell 4; have c0 := hm9.bk.cell 0; have c1 := hm9.bk.cell 1)
          | (go_at_call 64; refine (h3 _ hm9.rs).mono ?_; rintro e wa ⟨rfl, hba⟩; have hma := hm9.step hba; have hmb := (hma.set 5 (.int .i64 G.mn)).set 6 (.int .i64 G.mx); clear c0 c1 f3 f4 x3 x4; have f5 := hma.bk.frozen 5; have f6 := hma.bk.frozen 6; have x5 := hma.bk.cell 5; have x6 := hma.bk.cell 6; have c0 := hmb.bk.cell 0; have c1 := hmb.bk.cell 1; have c2 := hmb.bk.cell 2; have c3 := hmb.bk.cell 3; have c4 := hmb.bk.cell 4; have c5 := hmb.bk.cell 5; have c6 := hmb.bk.cell 6; have HMC := Lib.hid (hmb.step ((Below.refl _ _).alloc (Nat.le_refl _) (.cells #[.int .i64 A, .int .i64 t, .int .i64 G.g, .int .i64 V.1, .int .i64 V.2, .int .i64 G.mn, .int .i64 G.mx] 124))); have HBN := Lib.hid (blk_new_at ((wa.setCell ⟨n5, 5, none⟩ (.int .i64 G.mn)).setCell ⟨n5, 6, none⟩ (.int .i64 G.mx)) 124 #[.int .i64 A, .int .i64 t, .int .i64 G.g, .int .i64 V.1, .int .i64 V.2, .int .i64 G.mn, .int .i64 G.mx] wa.heap.size (by simp)))
          | (at_builtin; go_loud (refine wpList_append_bkt rfl (.tmp 54) (.tmp 56) rfl w1.heap.size u7 out.length out rfl (by exact HMC.out.own) wa.heap.size rfl ⟨A, t, G.g, V.1, V.2, G.mn, G.mx⟩ (by exact HBN.out) (by omega) (by exact HMC.out.bl.size) ?_); intro v1 wd hown1 hgrow1; have hkd := (BkK.mk HMC.out.own HMC.out.bl HMC.out.bw).grown ⟨A, t, G.g, V.1, V.2, G.mn, G.mx⟩ hlt0 hgrow1 hown1; clear hown1 hgrow1; have g0 := hkd.bw.cell 0; have g1 := hkd.bw.cell 1; clear c0 c1 c2 c3 c4 c5 c6 f5 f6 x5 x6))
        go_roundw
        case rel => exact ⟨k + 1, A + ev, by omega, rfl, HA1.out, by rw [HN2.out, HT.out, HY.out]; exact hkd⟩
        case measure => simp [intOf]; omega
    · have hkC : k = C := by omega
      subst hkC
      go_wp2_with fail
      go_ret
      exact ⟨_, rfl, by rw [HCN.out]; exact Rd.of_own hst.own, HBW.out.trans (hst.bl.mono (by omega))⟩
end Go.Proofs.Ytgbnjbbjgkfefaa
