import Derived.Test.YtmcojidaimeijaaBt08
import Derived.Test.YtmcojidaimeijaaBt01
import Derived.Test.YtmcojidaimeijaaSerr
import Derived.Test.YtmcojidaimeijaaDist
import Derived.Test.YtmcojidaimeijaaBt03
/- The contracts of New and of a compressor's Flush (package compress), and of the reference's AddFault. -/

namespace Go.Proofs.Ytmcojidaimeijaa
open Go.RowKit
set_option linter.unusedVariables false
set_option linter.unusedSimpArgs false

def flushOut (d m : Int) (l : List Smp) : List Smp := if 0 < l.length ∧ beg d m l = true then [atS l (l.length - 1)] else []
theorem flush_end (d m : Int) (l : List Smp) : choI l (compressed d m l) = arch d m l ++ flushOut d m l := by
  rcases Nat.eq_zero_or_pos l.length with h | h
  · obtain rfl := List.eq_nil_of_length_eq_zero h
    simp [compressed, choI, arch, compTo, flushOut]
  · rw [end_step h]
    unfold flushOut
    by_cases hb : beg d m l = true
    · rw [if_pos hb, if_pos ⟨h, hb⟩]
    · rw [if_neg hb, if_neg (fun hh => hb hh.2)]
theorem CompSt.lens {B c : Nat} {w : World} {d m : Int} {l : List Smp} (h : CompSt B w c d m l) : (l = [] ∧ ∃ H, Blk w c 119 (compCells d m none H)) ∨ (0 < l.length ∧ ∃ s lo hi, Blk w c 119 (compCells d m (some ⟨s, 0, none⟩) (atS l (l.length - 1))) ∧ Blk w s 162 (spanCells d m (atS l (piv d m l)) (beg d m l) false lo hi)) := by
  obtain ⟨_, h | ⟨hl, s, lo, hi, _, hc, hs, _⟩⟩ := h
  · exact .inl h
  · exact .inr ⟨hl, s, lo, hi, hc, hs⟩

/-- What Flush returns, and what it leaves. -/
def FlushEnd (B c : Nat) (d m : Int) (l : List Smp) (w : World) (e : Ending) (w' : World) : Prop :=
  ∃ v, e = .returned v ∧ w'.ownsRow w.heap.size 57 3 v (flushOut d m l).length (cellsOf (flushOut d m l)) ∧ CompSt B w' c d m [] ∧ Cg B w w'
theorem flush_stored {B c : Nat} {w : World} {d m : Int} {sp : Option Addr} {H : Smp} (hB : B ≤ c) (hc : Blk w c 119 (compCells d m sp H)) :
    CompSt B ((((w.setCell ⟨c, 2, none⟩ (.pointer none)).setCell ⟨c, 3, none⟩ (.int .i64 0)).setCell ⟨c, 4, none⟩ (.int .i64 0)).setCell ⟨c, 5, none⟩ (.int .i64 0)) c d m [] ∧ Cg B w ((((w.setCell ⟨c, 2, none⟩ (.pointer none)).setCell ⟨c, 3, none⟩ (.int .i64 0)).setCell ⟨c, 4, none⟩ (.int .i64 0)).setCell ⟨c, 5, none⟩ (.int .i64 0)) :=
  ⟨⟨hB, .inl ⟨rfl, ⟨0, 0, 0⟩, (((hc.set_ 2 (.pointer none)).set_ 3 (.int .i64 0)).set_ 4 (.int .i64 0)).set_ 5 (.int .i64 0)⟩⟩,
   Cg.of_but (((((But.refl c w).setCell (.inl rfl) _).setCell (.inl rfl) _).setCell (.inl rfl) _).setCell (.inl rfl) _) hc hB⟩

set_option maxRecDepth 100000 in
set_option maxHeartbeats 1000000 in
theorem flush_any (B c : Nat) (d m : Int) (l : List Smp) (w : World) (hS : CompSt B w c d m l) (hBw : B ≤ w.heap.size) :
    Calls Try.prog 25 #[.pointer (some ⟨c, 0, none⟩)] w (FlushEnd B c d m l w) := by
  have hBc := hS.1
  rcases hS.lens with ⟨rfl, H, hc⟩ | ⟨hl, s, lo, hi, hc, hs⟩
  · have c2 : w.cell? ⟨c, 2, none⟩ = some (.pointer none) := hc.cell 2
    have c3 : w.cell? ⟨c, 3, none⟩ = some (.int .i64 H.t) := hc.cell 3
    have c4 : w.cell? ⟨c, 4, none⟩ = some (.int .i64 H.v) := hc.cell 4
    have c5 : w.cell? ⟨c, 5, none⟩ = some (.int .i64 H.q) := hc.cell 5
    have f2 : w.frozen? ⟨c, 2, none⟩ = false := hc.frozen 2
    have f3 : w.frozen? ⟨c, 3, none⟩ = false := hc.frozen 3
    have f4 : w.frozen? ⟨c, 4, none⟩ = false := hc.frozen 4
    have f5 : w.frozen? ⟨c, 5, none⟩ = false := hc.frozen 5
    have hst := flush_stored hBc hc
    have hh := fun w h => holds_none c d m H w h
    have HC := Lib.hid (And.intro hc hst)
    have HH := Lib.hid hh
    clear hc hS hst hh
    go_enter Try.func25, Try.ntmps25
    go_wp2_with (go_at_call 71; refine (HH.out _ HC.out.1).mono ?_; rintro e w' ⟨rfl, rfl⟩)
    go_ret
    exact ⟨_, rfl, World.ownsRow_nil _ _ _ _, HC.out.2.1, HC.out.2.2⟩
  · generalize hH : atS l (l.length - 1) = H at *
    have hout : flushOut d m l = if beg d m l = true then [H] else [] := by unfold flushOut; rw [hH]; by_cases hb : beg d m l = true <;> simp [hb, hl]
    have hh := fun w h1 h2 => holds_some c s d m H (atS l (piv d m l)) (beg d m l) lo hi w h1 h2
    have c2 : w.cell? ⟨c, 2, none⟩ = some (.pointer (some ⟨s, 0, none⟩)) := hc.cell 2
    have c3 : w.cell? ⟨c, 3, none⟩ = some (.int .i64 H.t) := hc.cell 3
    have c4 : w.cell? ⟨c, 4, none⟩ = some (.int .i64 H.v) := hc.cell 4
    have c5 : w.cell? ⟨c, 5, none⟩ = some (.int .i64 H.q) := hc.cell 5
    have f2 : w.frozen? ⟨c, 2, none⟩ = false := hc.frozen 2
    have f3 : w.frozen? ⟨c, 3, none⟩ = false := hc.frozen 3
    have f4 : w.frozen? ⟨c, 4, none⟩ = false := hc.frozen 4
    have f5 : w.frozen? ⟨c, 5, none⟩ = false := hc.frozen 5
    have hst := flush_stored hBc hc
    have hlt := hc.lt
    generalize beg d m l = b at *
    have HC := Lib.hid (And.intro hc (And.intro hs hst))
    have HH := Lib.hid hh
    have HO := Lib.hid hout
    clear hc hS hst hh hout hs hl hH
    cases b
    · go_enter Try.func25, Try.ntmps25
      go_wp2_with (go_at_call 71; refine (HH.out _ HC.out.1 HC.out.2.1).mono ?_; rintro e w' ⟨rfl, rfl⟩)
      go_ret
      exact ⟨_, rfl, by rw [HO.out]; exact World.ownsRow_nil _ _ _ _, HC.out.2.2.1, HC.out.2.2.2⟩
    · go_enter Try.func25, Try.ntmps25
      go_wp2_with (first
        | (go_at_call 71; refine (HH.out _ HC.out.1 HC.out.2.1).mono ?_; rintro e w' ⟨rfl, rfl⟩)
        | (at_builtin; go_loud (refine wpList_append_smp rfl (.tmp 6) (.tmp 11) rfl w.heap.size (.slice none 0 0) 0 [] rfl (World.ownsRow_nil _ _ _ _) w.heap.size rfl H (by exact Blk.new _ _ _) (by omega) (by simp) ?_); intro v1 wc hown1 hgrow1; have hbc : Below w.heap.size w wc := ((Below.refl _ w).alloc (Nat.le_refl _) _).trans (below_grown (World.ownsRow_nil _ w.heap.size 57 3) (by simp) hgrow1); have hcc := HC.out.1.below hbc hlt; have d2 : wc.cell? ⟨c, 2, none⟩ = some (.pointer (some ⟨s, 0, none⟩)) := hcc.cell 2; have d3 : wc.cell? ⟨c, 3, none⟩ = some (.int .i64 H.t) := hcc.cell 3; have d4 : wc.cell? ⟨c, 4, none⟩ = some (.int .i64 H.v) := hcc.cell 4; have d5 : wc.cell? ⟨c, 5, none⟩ = some (.int .i64 H.q) := hcc.cell 5; have g2 : wc.frozen? ⟨c, 2, none⟩ = false := hcc.frozen 2; have g3 : wc.frozen? ⟨c, 3, none⟩ = false := hcc.frozen 3; have g4 : wc.frozen? ⟨c, 4, none⟩ = false := hcc.frozen 4; have g5 : wc.frozen? ⟨c, 5, none⟩ = false := hcc.frozen 5; have hst2 := flush_stored hBc hcc; have HST := Lib.hid (And.intro hown1 (And.intro hbc hst2)); clear hown1 hgrow1 hbc hst2 c2 c3 c4 c5 f2 f3 f4 f5))
      obtain ⟨hown1, hbc, hst2⟩ := HST.out
      go_ret
      exact ⟨_, rfl, by rw [HO.out]; exact hst2.2.own hown1 (by decide) (by decide), hst2.1, (Cg.of_below hbc hBw).trans hst2.2⟩

set_option maxRecDepth 100000 in
set_option maxHeartbeats 400000 in
theorem new_any (d m : Int) (w : World) :
    Calls Try.prog 23 #[.agg #[.int .i64 d, .int .i64 m]] w fun e w' => Below w.heap.size w w' ∧ ((doorErr d m ≠ 0 ∧ e = .returned (.tuple #[.pointer none, .int .i64 (doorErr d m)])) ∨ (doorErr d m = 0 ∧ ∃ c, e = .returned (.tuple #[.pointer (some ⟨c, 0, none⟩), .int .i64 0]) ∧ CompSt w.heap.size w' c d m [])) := by
  have hcd := fun w => checkDoor_any d m w
  have hB0 := Blk.new w 50 #[.int .i64 d, .int .i64 m]
  have HB0 := Lib.hid hB0
  clear hB0
  by_cases hz : doorErr d m = 0
  · rw [hz] at hcd ⊢
    clear hz
    go_enter Try.func23, Try.ntmps23
    go_wp2_with (go_at_call 68; refine (hcd _).mono ?_; rintro e wa ⟨rfl, hba⟩; have hD := HB0.out.below hba (by simp); have hsz := hba.size; simp at hsz; have d0 : wa.cell? ⟨w.heap.size, 0, none⟩ = some (.int .i64 d) := hD.cell 0; have d1 : wa.cell? ⟨w.heap.size, 1, none⟩ = some (.int .i64 m) := hD.cell 1)
    go_ret2
    refine ⟨?_, .inr ⟨trivial, _, rfl, by omega, .inl ⟨rfl, ⟨0, 0, 0⟩, Blk.new _ _ _⟩⟩⟩
    exact (((Below.refl _ w).alloc (Nat.le_refl _) _).trans (hba.mono (by simp))).alloc (by omega) _
  · have hne : (doorErr d m != 0) = true := by simpa using hz
    have hz2 := Lib.hid hz
    generalize doorErr d m = E at *
    clear hz
    go_enter Try.func23, Try.ntmps23
    go_wp2_with (go_at_call 68; refine (hcd _).mono ?_; rintro e wa ⟨rfl, hba⟩)
    go_ret2
    exact ⟨((Below.refl _ w).alloc (Nat.le_refl _) _).trans (hba.mono (by simp)), .inl ⟨hz2.out, rfl⟩⟩
end Go.Proofs.Ytmcojidaimeijaa

/- The contract of Compress (package compress). No condition. -/

namespace Go.Proofs.Ytmcojidaimeijaa
open Go.RowKit
set_option linter.unusedVariables false
set_option linter.unusedSimpArgs false

def erE (a b : Int) : Int := if a ≠ 0 then a else b
theorem erE_zero {a b : Int} (h : erE a b = 0) : a = 0 ∧ b = 0 := by unfold erE at h; split at h <;> omega
theorem serErr_fit {l : List Smp} (h : serErr l = 0) : FitL l := by
  have hg := (serErr_good h).2
  have ha : ∀ i, i < l.length → smpErr (atS l i) = 0 := fun i hi => hg _ (by unfold atS; rw [List.getD_eq_getElem?_getD, List.getElem?_eq_getElem hi]; exact List.getElem_mem hi)
  exact ⟨⟨fun i k hik hk => rise_ltA (serErr_rise h) i k hik hk, fun j hj hq => (smpErr_good (ha j hj)).2.2.2 hq⟩, fun i hi => ⟨(smpErr_good (ha i hi)).2.2.1, (smpErr_good (ha i hi)).1⟩⟩

theorem FitL.take {l : List Smp} (h : FitL l) (k : Nat) : FitL (l.take k) := by
  have e : ∀ i, i < (l.take k).length → atS (l.take k) i = atS l i ∧ i < l.length := fun i hi => by simp at hi; exact ⟨atS_take l k i (by omega), by omega⟩
  refine ⟨⟨fun i j hij hj => ?_, fun j hj hq => ?_⟩, fun i hi => ?_⟩
  · rw [(e i (by omega)).1, (e j hj).1]; exact h.ok.lt i j hij (e j hj).2
  · rw [(e j hj).1] at hq ⊢; exact h.ok.bad j (e j hj).2 hq
  · rw [(e i hi).1]; exact h.fit i (e i hi).2
theorem compTo_long (d m : Int) (l : List Smp) (k : Nat) : (compTo d m l k).1.length ≤ 2 * k := by
  rcases Nat.eq_zero_or_pos k with rfl | hk
  · simp [compTo]
  · exact (compTo_inv d m l k hk).2.2.2
theorem checkBoth_any (d m : Int) (v : Value) (l : List Smp) (w : World) (hR : RdS w 57 v l) :
    Calls Try.prog 72 #[.agg #[.int .i64 d, .int .i64 m], v] w fun e w' => e = .returned (.int .i64 (erE (doorErr d m) (serErr l))) ∧ Below w.heap.size w w' := by
  have hbw : Below w.heap.size w (w.alloc (.cells #[.int .i64 d, .int .i64 m] 50)) := (Below.refl _ w).alloc (Nat.le_refl _) _
  have HCD := Lib.hid (fun w => checkDoor_any d m w)
  have HCS := Lib.hid (fun (W : World) (hb : Below w.heap.size w W) => checkSeries_any v l W (Rd.below hR hb))
  have HO := Lib.hid (show erE (doorErr d m) (serErr l) = if doorErr d m ≠ 0 then doorErr d m else serErr l from rfl)
  generalize erE (doorErr d m) (serErr l) = R at *
  generalize doorErr d m = E at *
  generalize serErr l = S at *
  clear hR
  go_enter Try.func72, Try.ntmps72
  go_wp2_with fail
  refine (HCD.out _).mono ?_
  rintro e w1 ⟨rfl, hb1⟩
  have hb := hbw.trans (hb1.mono hbw.size)
  clear hbw hb1
  by_cases hE : E = 0
  · have hE' : (E != 0) = false := by simpa using hE
    have HX := Lib.hid (show R = S by rw [HO.out, if_neg (by simpa using hE)])
    clear hE
    go_wp2_with fail
    refine (HCS.out _ hb).mono ?_
    rintro e w2 ⟨rfl, hb2⟩
    go_wp2_with fail
    go_ret
    exact ⟨by rw [HX.out]; rfl, hb.trans (hb2.mono hb.size)⟩
  · have hE' : (E != 0) = true := by simpa using hE
    have HX := Lib.hid (show R = E by rw [HO.out, if_pos hE])
    clear hE
    go_wp2_with fail
    go_ret
    exact ⟨by rw [HX.out]; rfl, hb⟩

/-- What Compress returns. -/
def cprE (d m : Int) (l : List Smp) : Int := erE (doorErr d m) (serErr l)
def cprR (d m : Int) (l : List Smp) : List Int := if cprE d m l = 0 then compressed d m l else []

/-- Between two rounds of Compress: the compressor has taken k samples, their indices are kept. -/
structure CprK (w0 : World) (B c : Nat) (d m : Int) (l : List Smp) (k : Nat) (vo : Value) (out : List Int) (w : World) : Prop where
  cs : CompSt B w c d m (l.take k)
  ow : w.ownsRow w0.heap.size 3 1 vo out.length (out.map (Value.int .i64))
  bl : Below w0.heap.size w0 w
  sz : B ≤ w.heap.size
  lo : w0.heap.size ≤ B
section
variable {w0 w w' : World} {B c k : Nat} {d m : Int} {l : List Smp} {vo : Value} {out : List Int}
theorem CprK.step (h : CprK w0 B c d m l k vo out w) (hb : Below w.heap.size w w') : CprK w0 B c d m l k vo out w' :=
  ⟨h.cs.below hb, own_keep h.ow fun b _ _ hh => hb.block b (lt_of_heap hh), h.bl.trans (hb.mono h.bl.size), Nat.le_trans h.sz hb.size, h.lo⟩
theorem CprK.alloc (h : CprK w0 B c d m l k vo out w) (o : Obj) : CprK w0 B c d m l k vo out (w.alloc o) := h.step ((Below.refl _ w).alloc (Nat.le_refl _) o)
theorem CprK.grown (h : CprK w0 B c d m l k vo out w) {v' : Value} {out' : List Int} {n : Nat} (hn : n = out'.length) (hg : w.grownBy w' vo.ownBlock) (ho : w'.ownsRow w0.heap.size 3 1 v' n (out'.map (Value.int .i64))) : CprK w0 B c d m l k v' out' w' := by
  subst hn
  exact ⟨h.cs.grown h.ow (by decide) (by decide) hg, ho, h.bl.trans (below_grown h.ow h.bl.size hg), Nat.le_trans h.sz hg.size, h.lo⟩
end

set_option maxRecDepth 100000 in
set_option maxHeartbeats 4000000 in
theorem compress_any (d m : Int) (v : Value) (l : List Smp) (w : World) (hR : RdS w 57 v l) :
    Calls Try.prog 26 #[.agg #[.int .i64 d, .int .i64 m], v] w fun e w' => ∃ vr, e = .returned (.tuple #[vr, .int .i64 (cprE d m l)]) ∧ RdI w' vr (cprR d m l) ∧ Below w.heap.size w w' := by
  obtain ⟨pa, ca, rfl⟩ := hR.lenv
  have hbw : Below w.heap.size w (w.alloc (.cells #[.int .i64 d, .int .i64 m] 50)) := (Below.refl _ w).alloc (Nat.le_refl _) _
  have bd0 : Blk (w.alloc (.cells #[.int .i64 d, .int .i64 m] 50)) w.heap.size 50 #[.int .i64 d, .int .i64 m] := Blk.new w _ _
  have hcb := checkBoth_any d m (.slice pa l.length ca) l _ (Rd.below hR hbw)
  have HZ := Lib.hid (fun h : cprE d m l = 0 => And.intro (doorErr_ok (erE_zero h).1) (erE_zero h).2)
  have HRR := Lib.hid (show cprR d m l = if cprE d m l = 0 then compressed d m l else [] from rfl)
  rw [show erE (doorErr d m) (serErr l) = cprE d m l from rfl] at hcb
  generalize cprR d m l = RR at *
  generalize cprE d m l = E at *
  have HCB := Lib.hid hcb
  have HR := Lib.hid hR
  clear hcb hR
  go_enter Try.func26, Try.ntmps26
  go_upto_region 1 with fail
  generalize w.alloc (.cells #[.int .i64 d, .int .i64 m] 50) = w1 at *
  have e0 := bd0.cell 0
  have e1 := bd0.cell 1
  go_wp2_with fail
  refine HCB.out.mono ?_
  rintro e w2 ⟨rfl, hb2⟩
  have bd2 := bd0.below hb2 bd0.lt
  have hb := hbw.trans (hb2.mono hbw.size)
  clear hbw hb2 bd0 e0 e1
  by_cases hE : E = 0
  · have hE' : (E != 0) = false := by simpa using hE
    have HE := Lib.hid hE
    obtain ⟨⟨hd, hm⟩, hS⟩ := HZ.out hE
    have HX := Lib.hid (show RR = compressed d m l by rw [HRR.out, if_pos hE])
    have hfit := serErr_fit hS
    have hlong := (serErr_good hS).1
    clear hE HZ HRR HCB
    have e0 := bd2.cell 0
    have e1 := bd2.cell 1
    go_wp2_with fail
    have hk0 : CprK w w2.heap.size w2.heap.size d m l 0 (.slice none 0 0) [] (w2.alloc (.cells #[.int .i64 d, .int .i64 m, .pointer none, .int .i64 0, .int .i64 0, .int .i64 0] 119)) :=
      ⟨⟨Nat.le_refl _, .inl ⟨by simp, ⟨0, 0, 0⟩, Blk.new _ _ _⟩⟩, World.ownsRow_nil _ _ _ _, hb.alloc hb.size _, by simp, hb.size⟩
    generalize hwc : w2.alloc (.cells #[.int .i64 d, .int .i64 m, .pointer none, .int .i64 0, .int .i64 0, .int .i64 0] 119) = wc at *
    generalize w2.heap.size = B at *
    have HBC := Lib.hid hk0.bl
    have HFIT := Lib.hid hfit
    clear hfit hwc bd2 e0 e1 hb
    go_loopw [7, 23] (fun so i wr => ∃ (k : Nat) (vo : Value), so = vo ∧ k ≤ l.length ∧ i = .int .i64 (k : Int) ∧ CprK w B B d m l k vo (compTo d m l k).1 wr) (fun _ i _ => l.length - (intOf i).toNat)
    case atStart => exact ⟨0, _, rfl, by omega, rfl, hk0⟩
    case round =>
      obtain ⟨k, vo, rfl, hk, rfl, hkk⟩ := hrel
      by_cases hkl : k < l.length
      · have hRr : RdS wr _ (.slice pa l.length ca) l := Rd.below HR.out hkk.bl
        obtain ⟨b, off, cc, hv, hc1, hc2, hblt, hcell⟩ := RdS.at_ hRr (by omega)
        cases hv
        unfold maxLen at hc2
        obtain ⟨c0, c1, c2⟩ := hcell k hkl
        have hkx := hkk.alloc (.cells #[.int .i64 (atS l k).t, .int .i64 (atS l k).v, .int .i64 (atS l k).q] 57)
        have hpr := process_step B B d m (l.take k) (atS l k) _ hkx.cs (by rw [take_more l k hkl]; exact HFIT.out.take (k + 1)) hd hkx.sz
        have HST := Lib.hid (fun (bf nw : Bool) h1 h2 => idx_step (d := d) (m := m) HFIT.out.ok hkl (bf := bf) (nw := nw) h1 h2)
        have hol := compTo_long d m l k
        have HTM := Lib.hid (take_more l k hkl)
        generalize atS l k = x at *
        generalize (compTo d m l k).1 = out at *
        have HKX := Lib.hid hkx
        have HPR := Lib.hid hpr
        have hw1 : IntKind.i64.wrap ((k : Int) - 1) = (k : Int) - 1 := IntWalk.i64_in _ (by omega)
        clear hcell hRr hkx hpr hkk
        go_wp2_with fail
        refine HPR.out.mono ?_
        rintro e w6 ⟨bf, nw, rfl, har, hcs6, hcg6, hbf⟩
        rw [HTM.out] at hcs6
        have hk6 : CprK w B B d m l (k + 1) u7 out w6 := ⟨hcs6, hcg6.own HKX.out.ow (by decide) (by decide), HKX.out.bl.trans (hcg6.bl.mono HKX.out.lo), Nat.le_trans HKX.out.sz hcg6.bl.size, HKX.out.lo⟩
        have HN := Lib.hid (HST.out bf nw har hbf)
        have HK6 := Lib.hid hk6
        have hs6 := hk6.bl.size
        clear har hcs6 hcg6 hbf hk6 HST HPR HKX c0 c1 c2
        cases bf
        · cases nw
          · go_wp2_with fail
            go_roundw
            case rel => exact ⟨k + 1, _, rfl, by omega, by go_num, by rw [HN.out]; simpa using HK6.out⟩
            case measure => simp [intOf]; omega
          · have HO := Lib.hid (HK6.out.alloc (.cells #[.int .i64 (k : Int)] 3))
            go_wp2_with (at_builtin; go_loud (refine wpList_append_num rfl (.tmp 40) (.tmp 42) rfl w.heap.size u7 out.length out rfl (by exact HO.out.ow) w6.heap.size rfl (k : Int) (by exact Blk.new _ _ _) (by omega) (by exact HO.out.bl.size) ?_); intro v1 wd hown1 hgrow1)
            have hkd := HO.out.grown (out' := out ++ [(k : Int)]) (by simp) hgrow1 hown1
            clear hown1 hgrow1
            go_roundw
            case rel => exact ⟨k + 1, _, rfl, by omega, by go_num, by rw [HN.out]; simpa using hkd⟩
            case measure => simp [intOf]; omega
        · have HO := Lib.hid (HK6.out.alloc (.cells #[.int .i64 ((k : Int) - 1)] 3))
          cases nw
          · go_wp2_with (at_builtin; go_loud (refine wpList_append_num rfl (.tmp 34) (.tmp 37) rfl w.heap.size u7 out.length out rfl (by exact HO.out.ow) w6.heap.size rfl ((k : Int) - 1) (by exact Blk.new _ _ _) (by omega) (by exact HO.out.bl.size) ?_); intro v1 wd hown1 hgrow1)
            have hkd := HO.out.grown (out' := out ++ [(k : Int) - 1]) (by simp) hgrow1 hown1
            clear hown1 hgrow1
            go_roundw
            case rel => exact ⟨k + 1, _, rfl, by omega, by go_num, by rw [HN.out]; simpa using hkd⟩
            case measure => simp [intOf]; omega
          · go_wp2_with (at_builtin; first
              | (go_loud (refine wpList_append_num rfl (.tmp 34) (.tmp 37) rfl w.heap.size u7 out.length out rfl (by exact HO.out.ow) w6.heap.size rfl ((k : Int) - 1) (by exact Blk.new _ _ _) (by omega) (by exact HO.out.bl.size) ?_); intro v1 wd hown1 hgrow1; have HD := Lib.hid ((HO.out.grown (out' := out ++ [(k : Int) - 1]) (by simp) hgrow1 hown1).alloc (.cells #[.int .i64 (k : Int)] 3)); clear hown1 hgrow1)
              | (go_loud (refine wpList_append_num rfl (.tmp 40) (.tmp 42) rfl w.heap.size v1 (out ++ [(k : Int) - 1]).length (out ++ [(k : Int) - 1]) rfl (by exact HD.out.ow) wd.heap.size rfl (k : Int) (by exact Blk.new _ _ _) (by simp; omega) (by exact HD.out.bl.size) ?_); intro v2 we hown2 hgrow2))
            have hkd := HD.out.grown (out' := out ++ [(k : Int) - 1] ++ [(k : Int)]) (by simp) hgrow2 hown2
            clear hown2 hgrow2
            go_roundw
            case rel => exact ⟨k + 1, _, rfl, by omega, by go_num, by rw [HN.out]; simpa using hkd⟩
            case measure => simp [intOf]; omega
      · obtain rfl : k = l.length := by omega
        have hcs := hkk.cs
        rw [List.take_length] at hcs
        have hend := flush_end d m l
        unfold flushOut at hend
        have HN := Lib.hid (idx_end HFIT.out.ok hend (compressed_range d m l))
        have hlen := hcs.lens
        have hol := compTo_long d m l l.length
        generalize (compTo d m l l.length).1 = out at *
        have HKK := Lib.hid hkk
        clear hcs hkk hend
        rcases hlen with ⟨hn, H, hB⟩ | ⟨hp, s, lo, hi, hB, hS2⟩
        · have HX2 := Lib.hid (show RR = out by rw [HX.out, HN.out, hn]; simp)
          have HH := Lib.hid (holds_none B d m H wr hB)
          clear hn hB
          go_wp2_with (go_at_call 71; refine HH.out.mono ?_; rintro e wk ⟨rfl, rfl⟩)
          go_ret2
          exact ⟨_, by rw [HE.out]; rfl, by rw [HX2.out]; exact Rd.of_own HKK.out.ow, HKK.out.bl⟩
        · have HH := Lib.hid (holds_some B s d m _ _ _ lo hi wr hB hS2)
          generalize beg d m l = bg at *
          clear hB hS2
          cases bg
          · have HX2 := Lib.hid (show RR = out by rw [HX.out, HN.out]; simp)
            go_wp2_with (go_at_call 71; refine HH.out.mono ?_; rintro e wk ⟨rfl, rfl⟩)
            go_ret2
            exact ⟨_, by rw [HE.out]; rfl, by rw [HX2.out]; exact Rd.of_own HKK.out.ow, HKK.out.bl⟩
          · have HX2 := Lib.hid (show RR = out ++ [(l.length : Int) - 1] by rw [HX.out, HN.out]; simp [hp])
            have HO := Lib.hid (HKK.out.alloc (.cells #[.int .i64 ((l.length : Int) - 1)] 3))
            have hw1 : IntKind.i64.wrap ((l.length : Int) - 1) = (l.length : Int) - 1 := IntWalk.i64_in _ (by omega)
            go_wp2_with (first
              | (go_at_call 71; refine HH.out.mono ?_; rintro e wk ⟨rfl, rfl⟩)
              | (at_builtin; go_loud (refine wpList_append_num rfl (.tmp 46) (.tmp 50) rfl w.heap.size u7 out.length out rfl (by exact HO.out.ow) wr.heap.size rfl ((l.length : Int) - 1) (by exact Blk.new _ _ _) (by omega) (by exact HO.out.bl.size) ?_); intro v1 wd hown1 hgrow1))
            have hkd := HO.out.grown (out' := out ++ [(l.length : Int) - 1]) (by simp) hgrow1 hown1
            go_ret2
            exact ⟨_, by rw [HE.out]; rfl, by rw [HX2.out]; exact Rd.of_own hkd.ow, hkd.bl⟩
  · have hE' : (E != 0) = true := by simpa using hE
    have HX := Lib.hid (show RR = [] by rw [HRR.out, if_neg hE])
    clear hE
    go_wp2_with fail
    go_ret2
    exact ⟨_, rfl, by rw [HX.out]; exact Rd.nil _ _ _, hb⟩
end Go.Proofs.Ytmcojidaimeijaa

/- The contracts of ExceptionOf and DoorOf (package logmake): two numbers within bounds. -/

namespace Go.Proofs.Ytmcojidaimeijaa
open Go.RowKit
set_option linter.unusedVariables false
set_option linter.unusedSimpArgs false

set_option maxRecDepth 100000 in
set_option maxHeartbeats 2000000 in
theorem doorOf_went (w : World) (g : Nat) (L : List Int) (A : Option Addr) (cap k : Nat) (hS : Strm w g L A cap k) (hk : k ≤ 800000000) :
    Calls Try.prog 21 #[.pointer (some ⟨g, 0, none⟩)] w fun e w' =>
      ∃ (a b : Int) (k' : Nat), e = .returned (.agg #[.int .i64 a, .int .i64 b]) ∧ (-1099511627776 ≤ a ∧ a ≤ 1099511627776) ∧ (-1099511627776 ≤ b ∧ b ≤ 1099511627776) ∧ k' ≤ k + 7 ∧ Went w g L A cap k' w' := by
  have hlt0 := hS.lt
  have hB := Blk.new w 50 #[.int .i64 0, .int .i64 0]
  have HB := Lib.hid hB
  clear hB
  go_enter Try.func21, Try.ntmps21
  go_wp2_with fail
  refine (pick_new _ _ g L A cap k [0, 1, 1, 2, 4] (hS.alloc _) (by simp) (by omega) (by simp)).mono ?_
  rintro e w1 ⟨rfl, hw1⟩
  have hm1 := pk_mem [0, 1, 1, 2, 4] L k (by simp)
  simp only [List.mem_cons, List.not_mem_nil, or_false] at hm1
  generalize pk [0, 1, 1, 2, 4] L k = a at *
  have ha : 0 ≤ a ∧ a ≤ 1000 := by omega
  clear hm1
  go_wp2_with fail
  refine (pick_new _ _ g L A cap (k + 1) [1, 10, 30, 1000, 1000] hw1.1 rfl (by omega) (by simp)).mono ?_
  rintro e w2 ⟨rfl, hw2⟩
  have hm2 := pk_mem [1, 10, 30, 1000, 1000] L (k + 1) (by simp)
  simp only [List.mem_cons, List.not_mem_nil, or_false] at hm2
  generalize pk [1, 10, 30, 1000, 1000] L (k + 1) = b at *
  have hb : 0 ≤ b ∧ b ≤ 1000 := by omega
  clear hm2
  have hg2 : But g w w2 := ((But.refl g w).alloc _).trans (hw1.2.trans hw2.2)
  have hr2 : Blk w2 w.heap.size 50 #[.int .i64 0, .int .i64 0] := (HB.out.but hw1.2 (by omega)).but hw2.2 (by omega)
  have hs2 := hw2.1
  have hlt2 := hr2.lt
  have hf2 := Blk.new w2 50 #[.int .i64 a, .int .i64 b]
  have HR2 := Lib.hid hr2
  have HF2 := Lib.hid hf2
  clear hw1 hw2 hr2 hf2
  go_wp2_with fail
  refine (flip_went _ g L A cap (k + 2) 15 (hs2.alloc _) (by omega) (by omega)).mono ?_
  rintro e w3 ⟨rfl, hw3, hz3⟩
  have hr3 : Blk w3 w.heap.size 50 #[.int .i64 0, .int .i64 0] := (HR2.out.alloc _).but hw3.2 (by omega)
  have hf3 : Blk w3 w2.heap.size 50 #[.int .i64 a, .int .i64 b] := HF2.out.but hw3.2 (by omega)
  have hg3 : But g w w3 := (hg2.alloc _).trans hw3.2
  have hs3 := hw3.1
  have HZ3 := Lib.hid hz3
  clear hz3 hw3 hg2 hs2
  have hne : ¬ w2.heap.size = w.heap.size := by omega
  have hne' : ¬ w.heap.size = w2.heap.size := by omega
  by_cases hN : nxt L (k + 2) 15 = 0
  · have hN' : (nxt L (k + 2) 15 == 0) = true := by simpa using hN
    clear hN
    have HR3 := Lib.hid hr3
    have HF3 := Lib.hid hf3
    clear hr3 hf3
    go_wp2_with fail
    refine (odd_went _ g L A cap (k + 3) 0 2000000 hs3 (by omega) (by omega) (by omega) (by omega)).mono ?_
    rintro e w4 ⟨x, rfl, hx, hw4⟩
    have hr4 := HR3.out.but hw4.2 (by omega)
    have hf4 := HF3.out.but hw4.2 (by omega)
    go_wp2_with fail
    refine (odd_went _ g L A cap (k + 5) 1 34560000000 hw4.1 (by omega) (by omega) (by omega) (by omega)).mono ?_
    rintro e w5 ⟨y, rfl, hy, hw5⟩
    have hr5 := hr4.but hw5.2 (by omega)
    have hf5 := hf4.but hw5.2 (by omega)
    have hw5' : Went w g L A cap (k + 7) w5 := ⟨hw5.1, hg3.trans (hw4.2.trans hw5.2)⟩
    have c0 : w5.cell? ⟨w.heap.size, 0, none⟩ = some (.int .i64 0) := hr5.cell 0
    have c1 : w5.cell? ⟨w.heap.size, 1, none⟩ = some (.int .i64 0) := hr5.cell 1
    have d0 : w5.cell? ⟨w2.heap.size, 0, none⟩ = some (.int .i64 a) := hf5.cell 0
    have d1 : w5.cell? ⟨w2.heap.size, 1, none⟩ = some (.int .i64 b) := hf5.cell 1
    have fr0 : w5.frozen? ⟨w.heap.size, 0, none⟩ = false := hr5.frozen 0
    have fr1 : w5.frozen? ⟨w.heap.size, 1, none⟩ = false := hr5.frozen 1
    have fs0 : w5.frozen? ⟨w2.heap.size, 0, none⟩ = false := hf5.frozen 0
    have fs1 : w5.frozen? ⟨w2.heap.size, 1, none⟩ = false := hf5.frozen 1
    clear hr4 hf4 hr5 hf5 hw4 hw5 hg3 hs3
    go_wp2_with fail
    refine bodyPost_ret (v := .agg #[.int .i64 x, .int .i64 y]) (by simp [results, Try.results21, go_sem, c0, c1, d0, d1, hne, hne']) rfl ⟨x, y, k + 7, rfl, hx, hy, by omega, ?_⟩
    exact hw5'.below hlt0 (by (repeat (refine Below.setCell ?_ (by first | exact Nat.le_refl _ | exact Nat.le_of_lt hlt2) _)); exact Below.refl _ _)
  · have hN' : (nxt L (k + 2) 15 == 0) = false := by simpa using hN
    clear hN
    have c0 : w3.cell? ⟨w.heap.size, 0, none⟩ = some (.int .i64 0) := hr3.cell 0
    have c1 : w3.cell? ⟨w.heap.size, 1, none⟩ = some (.int .i64 0) := hr3.cell 1
    have d0 : w3.cell? ⟨w2.heap.size, 0, none⟩ = some (.int .i64 a) := hf3.cell 0
    have d1 : w3.cell? ⟨w2.heap.size, 1, none⟩ = some (.int .i64 b) := hf3.cell 1
    have fr0 : w3.frozen? ⟨w.heap.size, 0, none⟩ = false := hr3.frozen 0
    have fr1 : w3.frozen? ⟨w.heap.size, 1, none⟩ = false := hr3.frozen 1
    have fs0 : w3.frozen? ⟨w2.heap.size, 0, none⟩ = false := hf3.frozen 0
    have fs1 : w3.frozen? ⟨w2.heap.size, 1, none⟩ = false := hf3.frozen 1
    have hw3' : Went w g L A cap (k + 3) w3 := ⟨hs3, hg3⟩
    clear hr3 hf3 hg3 hs3
    go_wp2_with fail
    refine bodyPost_ret (v := .agg #[.int .i64 a, .int .i64 b]) (by simp [results, Try.results21, go_sem, c0, c1, d0, d1, hne, hne']) rfl ⟨a, b, k + 3, rfl, by omega, by omega, by omega, ?_⟩
    exact hw3'.below hlt0 (by (repeat (refine Below.setCell ?_ (by first | exact Nat.le_refl _ | exact Nat.le_of_lt hlt2) _)); exact Below.refl _ _)
end Go.Proofs.Ytmcojidaimeijaa
