import Derived.Test.YtjoknaglhahbaaaBx02
import Derived.Deep.RegionHeld3
import Derived.Laws.EntriesVeiled
import Derived.Test.YtjoknaglhahbaaaHfac
import Derived.Test.YtjoknaglhahbaaaRcv
import Derived.Test.YtjoknaglhahbaaaEqw
/- Frames (package batch). No condition. -/

namespace Go.Proofs.Ytjoknaglhahbaaa
open Go.RowKit
set_option linter.unusedVariables false
set_option linter.unusedSimpArgs false

theorem longw_any (f t : Int) (w : World) :
    Calls Try.prog 21 #[.agg #[.int .i64 f, .int .i64 t]] w fun e w' => e = .returned (.int .i64 (IntKind.i64.wrap (t - f))) ∧ Below w.heap.size w w' := by
  have hbw : Below w.heap.size w (w.alloc (.cells #[.int .i64 f, .int .i64 t] 40)) := (Below.refl _ w).alloc (Nat.le_refl _) _
  have hw : ∃ z, IntKind.i64.wrap (t - f) = z := ⟨_, rfl⟩
  obtain ⟨z, hz⟩ := hw
  rw [hz]
  go_enter Try.func21, Try.ntmps21
  go_wp2_with fail
  go_ret
  exact ⟨ret_int (by first | rfl | exact hz), hbw⟩

/-- Whether a frame is too short. -/
def shortB (t : Trg) (y : Int × Int) : Bool := decide (IntKind.i64.wrap (y.2 - y.1) < t.ls)

set_option maxRecDepth 100000 in
set_option maxHeartbeats 1000000 in
theorem frames1_any (y : Int × Int) (B : Nat) (t : Trg) (w : World) (hB : Blk w B 34 (trgCells t)) :
    Calls Try.prog 20 #[wdwAgg y, .pointer (some ⟨B, 0, none⟩)] w fun e w' => e = .returned (.bool (shortB t y)) ∧ Below w.heap.size w w' := by
  have hP : shortB t y = decide (IntKind.i64.wrap (y.2 - y.1) < t.ls) := rfl
  generalize shortB t y = P at *
  obtain ⟨st, sp, jn, ls⟩ := t
  obtain ⟨a, b⟩ := y
  simp only [trgCells, wdwAgg] at hB hP ⊢
  have HL := Lib.hid (fun W => longw_any a b W)
  generalize IntKind.i64.wrap (b - a) = z at *
  have HP := Lib.hid hP
  clear hP
  have hb1 : Below w.heap.size w (w.alloc (.cells #[.int .i64 a, .int .i64 b] 40)) := (Below.refl _ w).alloc (Nat.le_refl _) _
  have hB1 := hB.alloc (.cells #[.int .i64 a, .int .i64 b] 40)
  have hw1 := Blk.new w 40 #[.int .i64 a, .int .i64 b]
  go_enter Try.func20, Try.ntmps20
  go_upto_region 1 with fail
  generalize w.alloc (.cells #[.int .i64 a, .int .i64 b] 40) = w1 at *
  have c0 := hw1.cell 0
  have c1 := hw1.cell 1
  have c3 := hB1.cell 3
  clear hB
  have hbd : Below w.heap.size w w1.drew := hb1.trans ⟨rfl, rfl, rfl, Nat.le_refl _, fun _ _ => rfl⟩
  have hd : ∃ q, decide (z < ls) = q := ⟨_, rfl⟩
  obtain ⟨q, hq⟩ := hd
  go_region_with (go_at_call 21; (with_reducible refine (HL.out _).mono ?_); rintro e w2 ⟨rfl, hb2⟩; have hB2 : Blk w2 B 34 #[.int .i64 st, .int .i64 sp, .int .i64 jn, .int .i64 ls] := (by first | exact hB1.below hb2 hB1.lt | exact (Blk.drew hB1).below hb2 hB1.lt); have c3' := hB2.cell 3)
  all_goals
    go_wp2_with fail
    go_ret
    exact ⟨ret_bool (by rw [HP.out, hq]), (by first | exact hb1.trans (hb2.mono hb1.size) | exact hbd.trans (hb2.mono hb1.size))⟩
theorem enter_frames1 (args : Array Value) (w : World) : (callFunc 20 args).run Try.prog w = .ok (.enter 20 args) w := by kernel_rfl

/-- What Frames keeps: the box of its trigger, the series. -/
structure FrK (w0 : World) (B : Nat) (t : Trg) (v : Value) (l : List Smp) (W : World) : Prop where
  tb : Blk W B 34 (trgCells t)
  rs : RdS W 45 v l
  bl : Below w0.heap.size w0 W
theorem FrK.step {w0 W W' : World} {B : Nat} {t : Trg} {v : Value} {l : List Smp} (hb : Below W.heap.size W W') (h : FrK w0 B t v l W) : FrK w0 B t v l W' :=
  ⟨h.tb.below hb h.tb.lt, Rd.below h.rs hb, h.bl.trans (hb.mono h.bl.size)⟩
theorem FrK.drew {w0 W : World} {B : Nat} {t : Trg} {v : Value} {l : List Smp} (h : FrK w0 B t v l W) : FrK w0 B t v l W.drew :=
  FrK.step (show Below W.heap.size W W.drew from ⟨rfl, rfl, rfl, Nat.le_refl _, fun _ _ => rfl⟩) h

theorem short_eq (t : Trg) (l : List (Int × Int)) (h : InF 345686400000 l) : (l.filter fun y => !shortB t y) = l.filter fun y => !decide (y.2 - y.1 < t.ls) := by
  refine List.filter_congr fun y hy => ?_
  have := h y hy
  unfold shortB
  rw [IntWalk.i64_in (y.2 - y.1) (by omega)]

set_option maxRecDepth 100000 in
set_option maxHeartbeats 4000000 in
theorem frames_any (t : Trg) (v : Value) (l : List Smp) (u : Int) (w : World) (hR : RdS w 45 v l) :
    Calls Try.prog 7 #[.agg (trgCells t), v, .int .i64 u] w fun e w' => ∃ vr, e = .returned (.tuple #[vr, .int .i64 (frmE t l u)]) ∧ RdWdw w' vr (frmR t l u) ∧ Below w.heap.size w w' := by
  have hRR : frmR t l u = if frmE t l u = 0 then frmL t l u else [] := rfl
  have hE : frmE t l u = if trgErr t ≠ 0 then trgErr t else if serErr l ≠ 0 then serErr l else if inB u 0 345686400000 = false then 1 else if 2000 < (frmL t l u).length then 2 else 0 := rfl
  have HLL := Lib.hid (show frmL t l u = (jnTo t.jn (trTo t u l (posF l u)).2 (trTo t u l (posF l u)).2.length).filter fun y => !decide (y.2 - y.1 < t.ls) from rfl)
  have HIN := Lib.hid (trTo_in t u l)
  have HLN := Lib.hid (trTo_len t u l (posF l u)).1
  have HTG := Lib.hid (fun (W : World) (h : RdS W 45 v l) (hS : serErr l = 0) => triggered_any t v l u W h hS)
  have HCT := Lib.hid (fun W => checkTrigger_any t W)
  generalize trgErr t = TE at *
  generalize frmR t l u = RR at *
  generalize frmE t l u = E at *
  generalize frmL t l u = FL at *
  obtain ⟨pa, ca, rfl⟩ := hR.lenv
  have hk0 : FrK w w.heap.size t (.slice pa l.length ca) l (w.alloc (.cells (trgCells t) 34)) := ⟨Blk.new _ _ _, Rd.alloc hR _, (Below.refl _ w).alloc (Nat.le_refl _) _⟩
  obtain ⟨st, sp, jn, ls⟩ := t
  have htc : trgCells ⟨st, sp, jn, ls⟩ = #[.int .i64 st, .int .i64 sp, .int .i64 jn, .int .i64 ls] := rfl
  rw [htc] at hk0 HCT HTG ⊢
  have HE := Lib.hid hE
  have HRR := Lib.hid hRR
  clear hR hE hRR
  go_enter Try.func7, Try.ntmps7
  go_upto_region 1 with fail
  generalize w.alloc (.cells #[.int .i64 st, .int .i64 sp, .int .i64 jn, .int .i64 ls] 34) = w1 at *
  have t0 := hk0.tb.cell 0
  have t1 := hk0.tb.cell 1
  have t2 := hk0.tb.cell 2
  have t3 := hk0.tb.cell 3
  go_wp2_with fail
  refine (HCT.out _).mono ?_
  rintro e w2 ⟨rfl, hb2⟩
  have hk2 := FrK.step hb2 hk0
  clear t0 t1 t2 t3 hk0 hb2
  by_cases hT : TE = 0
  · have hT' : (TE != 0) = false := by simpa using hT
    have HE2 := Lib.hid (show E = if serErr l ≠ 0 then serErr l else if inB u 0 345686400000 = false then 1 else if 2000 < FL.length then 2 else 0 by rw [HE.out, if_neg (by simp [hT])])
    clear hT HE
    go_wp2_with fail
    refine (checkSeries_any _ l _ hk2.rs).mono ?_
    rintro e w3 ⟨rfl, hb3⟩
    have hk3 := FrK.step hb3 hk2
    clear hk2 hb3
    by_cases hS : serErr l = 0
    · have hS' : (serErr l != 0) = false := by simpa using hS
      have HE3 := Lib.hid (show E = if inB u 0 345686400000 = false then 1 else if 2000 < FL.length then 2 else 0 by rw [HE2.out, if_neg (by simp [hS])])
      have HS := Lib.hid hS
      clear hS HE2
      go_wp2_with fail
      refine (within_any u 0 345686400000 _).mono ?_
      rintro e w4 ⟨rfl, rfl⟩
      cases hu : inB u 0 345686400000
      · have HX := Lib.hid (show E = 1 by rw [HE3.out, hu]; rfl)
        have HX2 := Lib.hid (show RR = [] by rw [HRR.out, HX.out]; rfl)
        go_wp2_with fail
        go_ret2
        exact ⟨_, by rw [HX.out]; rfl, by rw [HX2.out]; exact Rd.nil _ _ _, hk3.bl⟩
      · have HE4 := Lib.hid (show E = if 2000 < FL.length then 2 else 0 by rw [HE3.out, hu]; rfl)
        have hub := inB_true.1 hu
        have hser := fun j => (serErr_vt HS.out j).2
        have hple := posF_le l u
        have hpos := fun j (hj : j < l.length) => posF_iff l u none (serErr_rise HS.out) j hj
        have hin0 : InF 345686400000 (trTo ⟨st, sp, jn, ls⟩ u l (posF l u)).2 := fun y hy => by
          have := HIN.out hub.1 (posF l u) (fun j hj => ⟨(hser j).1, by have := hpos j (by omega); omega⟩) y hy; omega
        have hln0 : (trTo ⟨st, sp, jn, ls⟩ u l (posF l u)).2.length ≤ 5000 := by have := HLN.out; have := (serErr_good HS.out).1; omega
        generalize (trTo ⟨st, sp, jn, ls⟩ u l (posF l u)).2 = TR at *
        have hin1 := fun n hn => jnTo_in jn 345686400000 TR hin0 n hn
        have hin2 := hin1 TR.length (Nat.le_refl _)
        have hln2 := jnTo_len jn TR TR.length
        have hsq := short_eq ⟨st, sp, jn, ls⟩ _ hin2
        have HJN := Lib.hid (fun (vv : Value) (W : World) (h : RdWdw W vv TR) => jnf_any vv TR jn W h hln0 hin0)
        generalize jnTo jn TR TR.length = JN at *
        have hF : FL = JN.filter fun y => !shortB ⟨st, sp, jn, ls⟩ y := by rw [hsq]; exact HLL.out
        have HDL := Lib.hid (fun (vv : Value) (W : World) (base : Nat) (ho : W.ownsRow base 40 2 vv JN.length (wdwCells JN)) (hb : base ≤ W.heap.size) (hB : w.heap.size < base) (hk : Blk W w.heap.size 34 #[.int .i64 st, .int .i64 sp, .int .i64 jn, .int .i64 ls]) =>
          deleteW_any vv JN W base 20 (.pointer (some ⟨w.heap.size, 0, none⟩)) (shortB ⟨st, sp, jn, ls⟩) ho hb (by omega) enter_frames1 (fun x w' hb' => frames1_any x w.heap.size ⟨st, sp, jn, ls⟩ w' (Blk.below hk hb' hB)))
        have HLF := Lib.hid hF
        rw [← hF] at HDL
        clear hin0 hin1 hin2 hsq hF HLL HIN HLN hser hpos
        have t0 := hk3.tb.cell 0
        have t1 := hk3.tb.cell 1
        have t2 := hk3.tb.cell 2
        have t3 := hk3.tb.cell 3
        go_upto_region 10 with fail
        go_region_held3 (fun W => W.cell? ⟨w.heap.size, 0, none⟩ = some (.int .i64 st) ∧ W.cell? ⟨w.heap.size, 1, none⟩ = some (.int .i64 sp) ∧ W.cell? ⟨w.heap.size, 2, none⟩ = some (.int .i64 jn) ∧ W.cell? ⟨w.heap.size, 3, none⟩ = some (.int .i64 ls))
          (first | exact ⟨hk7.tb.cell 0, hk7.tb.cell 1, hk7.tb.cell 2, hk7.tb.cell 3⟩ | exact ⟨hk6.tb.cell 0, hk6.tb.cell 1, hk6.tb.cell 2, hk6.tb.cell 3⟩ | exact ⟨hk5.tb.cell 0, hk5.tb.cell 1, hk5.tb.cell 2, hk5.tb.cell 3⟩ | exact ⟨t0, t1, t2, t3⟩ | go_keep)
          (first
          | (go_at_call 24; (with_reducible refine (HTG.out _ ?_ HS.out).mono ?_); (focus (first | exact hk3.rs | exact (FrK.drew hk3).rs; done)); rintro e w5 ⟨vt, rfl, hrt, hb5⟩; have hk5 := FrK.step hb5 (by first | exact hk3 | exact FrK.drew hk3); clear hb5)
          | (go_at_call 23; (with_reducible refine (HJN.out _ _ ?_).mono ?_); (focus (exact hrt; done)); rintro e w6 ⟨vj, rfl, hoj, hb6⟩; have hk6 := FrK.step hb6 hk5; have hs5 := hk5.tb.lt; have hs6 := hb6.size)
          | (go_at_call 22; (with_reducible refine (HDL.out _ _ w5.heap.size ?_ ?_ ?_ ?_).mono ?_); (focus (exact hoj; done)); (focus (exact hs6; done)); (focus (exact hs5; done)); (focus (exact hk6.tb; done)); rintro e w7 ⟨vd, rfl, hod, hb7⟩; have hk7 : FrK w w.heap.size ⟨st, sp, jn, ls⟩ (.slice pa l.length ca) l w7 := ⟨Blk.below hk6.tb hb7 hs5, Rd.below hk5.rs (hb6.trans hb7), hk5.bl.trans ((hb6.trans hb7).mono hk5.bl.size)⟩))
        obtain ⟨pd, cd, rfl⟩ := RdWdw.lenv (Rd.of_own hod)
        have hrd : RdWdw w7 _ FL := Rd.of_own hod
        have hfl : FL.length ≤ 100000 := by rw [HLF.out]; exact Nat.le_trans (List.length_filter_le _ _) (by omega)
        have hbl := hk7.bl
        have HRD := Lib.hid hrd
        clear hod hrd hk7 hk6 hk5 hb6 hb7 hs5 hs6 hoj hrt t0 t1 t2 t3
        by_cases hfx : 2000 < FL.length
        · have HX := Lib.hid (show E = 2 by rw [HE4.out, if_pos hfx])
          have HX2 := Lib.hid (show RR = [] by rw [HRR.out, HX.out]; rfl)
          have hfx' : (2000 : Int) < (FL.length : Int) := by omega
          clear hfx
          go_wp2_with fail
          go_ret2
          exact ⟨_, by rw [HX.out]; rfl, by rw [HX2.out]; exact Rd.nil _ _ _, hbl⟩
        · have HX := Lib.hid (show E = 0 by rw [HE4.out, if_neg hfx])
          have HX2 := Lib.hid (show RR = FL by rw [HRR.out, HX.out]; rfl)
          have hfx' : (FL.length : Int) ≤ (2000 : Int) := by omega
          clear hfx
          go_wp2_with fail
          go_ret2
          exact ⟨_, by rw [HX.out]; rfl, by rw [HX2.out]; exact HRD.out, hbl⟩
    · have hS' : (serErr l != 0) = true := by simpa using hS
      have HX := Lib.hid (show E = serErr l by rw [HE2.out, if_pos hS])
      have HX2 := Lib.hid (show RR = [] by rw [HRR.out, HX.out, if_neg hS])
      clear hS
      go_wp2_with fail
      go_ret2
      exact ⟨_, by rw [HX.out]; rfl, by rw [HX2.out]; exact Rd.nil _ _ _, hk3.bl⟩
  · have hT' : (TE != 0) = true := by simpa using hT
    have HX := Lib.hid (show E = TE by rw [HE.out, if_pos hT])
    have HX2 := Lib.hid (show RR = [] by rw [HRR.out, HX.out, if_neg hT])
    clear hT
    go_wp2_with fail
    go_ret2
    exact ⟨_, by rw [HX.out]; rfl, by rw [HX2.out]; exact Rd.nil _ _ _, hk2.bl⟩
end Go.Proofs.Ytjoknaglhahbaaa

/- TopFramesAreAlarms returns true, for every stream. -/

namespace Go.Proofs.Ytjoknaglhahbaaa
open Go.RowKit
set_option linter.unusedVariables false
set_option linter.unusedSimpArgs false

set_option maxRecDepth 100000 in
set_option maxHeartbeats 4000000 in
theorem topFrames_walk (w : World) (L : List Int) (A : Option Addr) (cap : Nat) (hc : ∀ i, i < L.length → ∃ ad : Addr, A = some ad ∧ ad.block < w.heap.size ∧ w.cell? (ad.add i) = some (.int .i64 (L.getD i 0)))
    (hl : L.length ≤ 9223372036854775807) (hwf : ∀ i, -9223372036854775808 ≤ L.getD i 0 ∧ L.getD i 0 ≤ 9223372036854775807) :
    Calls Try.prog 3 #[.slice A L.length cap] w fun e w' => e = .returned (.bool true) ∧ Below w.heap.size w w' := by
  have hS0 : Strm (w.alloc (.cells #[.slice A L.length cap, .int .i64 0] 25)) w.heap.size L A cap 0 :=
    ⟨heap_alloc_new w _, fun i hi => by
      obtain ⟨ad, e, hb, hcell⟩ := hc i hi
      exact ⟨ad, e, hb, by rw [World.cell?_alloc_lt _ _ _ (by rw [addr_add_block]; exact hb)]; exact hcell⟩, hl, hwf⟩
  have HS0 := Lib.hid hS0
  clear hS0 hc hwf
  go_enter Try.func3, Try.ntmps3
  go_wp2_with fail
  refine (rightCurve_went _ w.heap.size L A cap 0 14 HS0.out (by omega) (by omega)).mono ?_
  rintro e w1 ⟨v, rfl, l, k1, hrd, hlen, hser, hk1, hw1⟩
  go_wp2_with fail
  refine (range_went _ w.heap.size L A cap k1 1 8 hw1.1 (by omega) (by omega) (by omega) (by omega)).mono ?_
  rintro e w2 ⟨rfl, hw2, hz9⟩
  clear hz9
  have hr1 := nxt_range L k1 (8 - 1 + 1) (by omega)
  have hst : 1 ≤ 1 + nxt L k1 (8 - 1 + 1) ∧ 1 + nxt L k1 (8 - 1 + 1) ≤ 8 := by omega
  generalize 1 + nxt L k1 (8 - 1 + 1) = st at *
  clear hr1
  go_wp2_with fail
  refine (range_went _ w.heap.size L A cap (k1 + 1) 1 200 hw2.1 (by omega) (by omega) (by omega) (by omega)).mono ?_
  rintro e w3 ⟨rfl, hw3, hz9⟩
  clear hz9
  have hr2 := nxt_range L (k1 + 1) (200 - 1 + 1) (by omega)
  have hu : 1 ≤ 1 + nxt L (k1 + 1) (200 - 1 + 1) ∧ 1 + nxt L (k1 + 1) (200 - 1 + 1) ≤ 200 := by omega
  generalize 1 + nxt L (k1 + 1) (200 - 1 + 1) = u at *
  clear hr2
  go_wp2_with fail
  refine (range_went _ w.heap.size L A cap (k1 + 1 + 1) 0 4 hw3.1 (by omega) (by omega) (by omega) (by omega)).mono ?_
  rintro e w4 ⟨rfl, hw4, hz9⟩
  clear hz9
  have hr3 := nxt_range L (k1 + 1 + 1) (4 - 0 + 1) (by omega)
  have hd : 0 ≤ 0 + nxt L (k1 + 1 + 1) (4 - 0 + 1) ∧ 0 + nxt L (k1 + 1 + 1) (4 - 0 + 1) ≤ 4 := by omega
  generalize 0 + nxt L (k1 + 1 + 1) (4 - 0 + 1) = d at *
  clear hr3
  have hrd4 : RdS w4 45 v l := Rd.but hw3.1 (by decide) (Rd.but hw2.1 (by decide) (Rd.but hw1.1 (by decide) hrd hw2.2) hw3.2) hw4.2
  have hb4 := hw1.2.trans (hw2.2.trans (hw3.2.trans hw4.2))
  have hlow : Below w.heap.size w w4 := ((Below.refl _ w).alloc (Nat.le_refl _) _).trans ⟨hb4.os, hb4.tape, hb4.output, hb4.size, fun i hi => hb4.block i (by simp; omega) (by omega)⟩
  obtain ⟨pa, ca, rfl⟩ := hrd4.lenv
  have HSER := Lib.hid hser
  have hll : l.length ≤ 2000 := by omega
  have hfa := fun par => frames_alarms (a := st) (b := st - d) (u := u) par hser (by omega)
  have hF0 := frmL_good (t := ⟨st, st - d, 0, 0⟩) (l := l) (u := u) hser ⟨by omega, by omega⟩
  have hT : trgErr ⟨st, st - d, 0, 0⟩ = 0 := by
    unfold trgErr
    rw [if_pos ⟨inB_true.2 ⟨by simp only; omega, by simp only; omega⟩, inB_true.2 ⟨by simp only; omega, by simp only; omega⟩, by simp only; omega, inB_true.2 ⟨by simp only; omega, by simp only; omega⟩, inB_true.2 ⟨by simp only; omega, by simp only; omega⟩⟩]
  have hFE : frmE ⟨st, st - d, 0, 0⟩ l u = 0 := by
    unfold frmE
    rw [if_neg (by simp [hT]), if_neg (by simp [hser]), inB_true.2 ⟨by omega, by omega⟩, if_neg (by simp), if_neg (by omega)]
  have hFR : frmR ⟨st, st - d, 0, 0⟩ l u = frmL ⟨st, st - d, 0, 0⟩ l u := by unfold frmR; rw [if_pos hFE]
  have hz : actE l u = 0 := by
    unfold actE
    rw [if_neg (by simp [hser]), inB_true.2 ⟨by omega, by omega⟩]
    rfl
  have hAR : ∀ par, actR (hiA (st - 1) (st - (st - d)) par) l u = frmL ⟨st, st - d, 0, 0⟩ l u := fun par => by unfold actR; rw [if_pos hz, hfa]
  have hfl : (frmL ⟨st, st - d, 0, 0⟩ l u).length ≤ 2000 := by omega
  have HFR := Lib.hid (fun W (h : RdS W 45 (.slice pa l.length ca) l) => frames_any ⟨st, st - d, 0, 0⟩ (.slice pa l.length ca) l u W h)
  rw [hFE, hFR] at HFR
  have HAC := Lib.hid (fun par W (h : RdS W 45 (.slice pa l.length ca) l) => active_hi (st - 1) (st - (st - d)) par (.slice pa l.length ca) l u W h (by omega) (by omega))
  simp only [hz, hAR] at HAC
  have hv1 : IntKind.i64.wrap (st - d) = st - d := IntWalk.i64_in _ (by omega)
  have hv2 : IntKind.i64.wrap (st - (st - d)) = st - (st - d) := IntWalk.i64_in _ (by omega)
  have hv3 : IntKind.i64.wrap (st - 1) = st - 1 := IntWalk.i64_in _ (by omega)
  have HRD := Lib.hid hrd4
  generalize frmL ⟨st, st - d, 0, 0⟩ l u = F at *
  clear hrd hw1 hw2 hw3 hw4 hb4 hrd4 hk1 hser hfa hF0 hT hFE hFR hz hAR
  go_wp2_with fail
  refine (HFR.out _ HRD.out).mono ?_
  rintro e w5 ⟨vf, rfl, hrf, hb5⟩
  have hlow5 := hlow.trans (hb5.mono hlow.size)
  have HR5 := Lib.hid (Rd.below HRD.out hb5)
  clear hlow hb5 HRD
  go_wp2_with fail
  refine (HAC.out _ _ HR5.out).mono ?_
  rintro e w6 ⟨va, rfl, hra, hb6⟩
  have hrf6 : RdWdw w6 vf F := Rd.below hrf hb6
  have hlow6 := hlow5.trans (hb6.mono hlow5.size)
  have HQE := Lib.hid (equalW_same vf va F _ hrf6 hra)
  clear hrf hb6 hrf6 hra hlow5 HR5
  go_wp2_with fail
  refine HQE.out.mono ?_
  rintro e w7 ⟨rfl, m7, rfl⟩
  have hlow8 : Below w.heap.size w (w6.drewN m7) := hlow6.trans ⟨rfl, rfl, rfl, Nat.le_refl _, fun _ _ => rfl⟩
  generalize w6.drewN m7 = w8 at *
  go_wp2_with fail
  refine (h06_any _).mono ?_
  rintro e w9 ⟨rfl, hb9⟩
  go_wp2_with fail
  go_ret
  exact ⟨rfl, hlow8.trans (hb9.mono hlow8.size)⟩
end Go.Proofs.Ytjoknaglhahbaaa
