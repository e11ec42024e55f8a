import Derived.Test.YtmcojidaimeijaaChk
import Derived.Test.YtmcojidaimeijaaRq01
import Derived.Test.YtmcojidaimeijaaSerr
import Derived.Test.YtmcojidaimeijaaRq04
import Derived.Test.YtmcojidaimeijaaPos
import Derived.Test.YtmcojidaimeijaaAt
import Derived.Deep.DeepCutAuto
import Derived.BigQuiet
import Derived.Deep.RegionHeld3
import Derived.Laws.EntriesVeiled
/- CheckTrigger (package batch), and the mathematics of frames. No condition. -/

namespace Go.Proofs.Ytmcojidaimeijaa
open Go.RowKit
set_option linter.unusedVariables false
set_option linter.unusedSimpArgs false

/-- A trigger as data. -/
structure Trg where
  st : Int
  sp : Int
  jn : Int
  ls : Int
def trgCells (t : Trg) : Array Value := #[.int .i64 t.st, .int .i64 t.sp, .int .i64 t.jn, .int .i64 t.ls]
/-- What is wrong with a trigger. -/
def trgErr (t : Trg) : Int := if inB t.st (-1000000) 1000000 = true ∧ inB t.sp (-1000000) 1000000 = true ∧ t.sp ≤ t.st ∧ inB t.jn 0 86400000 = true ∧ inB t.ls 0 86400000 = true then 0 else 1

set_option maxRecDepth 100000 in
set_option maxHeartbeats 4000000 in
theorem checkTrigger_any (t : Trg) (w : World) : Calls Try.prog 92 #[.agg (trgCells t)] w fun e w' => e = .returned (.int .i64 (trgErr t)) ∧ Below w.heap.size w w' := by
  have hE : trgErr t = if inB t.st (-1000000) 1000000 = true ∧ inB t.sp (-1000000) 1000000 = true ∧ t.sp ≤ t.st ∧ inB t.jn 0 86400000 = true ∧ inB t.ls 0 86400000 = true then 0 else 1 := rfl
  obtain ⟨st, sp, jn, ls⟩ := t
  generalize trgErr ⟨st, sp, jn, ls⟩ = E at *
  simp only [trgCells] at hE ⊢
  have h1 := within_any jn 0 86400000
  have h2 := within_any ls 0 86400000
  have h3 := isValue_any st
  have h4 := isValue_any sp
  have hbw : Below w.heap.size w (w.alloc (.cells #[.int .i64 st, .int .i64 sp, .int .i64 jn, .int .i64 ls] 93)) := (Below.refl _ w).alloc (Nat.le_refl _) _
  have H1 := Lib.hid h1
  have H2 := Lib.hid h2
  have H3 := Lib.hid h3
  have H4 := Lib.hid h4
  generalize inB jn 0 86400000 = a at *
  generalize inB ls 0 86400000 = b at *
  generalize inB st (-1000000) 1000000 = c at *
  generalize inB sp (-1000000) 1000000 = d at *
  have HE := Lib.hid hE
  clear h1 h2 h3 h4 hE
  cases a
  all_goals cases b
  all_goals cases c
  all_goals cases d
  all_goals by_cases hlt : st < sp
  all_goals
    go_enter Try.func92, Try.ntmps92
    go_wp2_with (first | (go_at_call 93; (with_reducible refine (H1.out _).mono ?_); rintro e w2 ⟨rfl, rfl⟩) | (go_at_call 93; (with_reducible refine (H2.out _).mono ?_); rintro e w2 ⟨rfl, rfl⟩) | (go_at_call 58; (with_reducible refine (H3.out _).mono ?_); rintro e w2 ⟨rfl, rfl⟩) | (go_at_call 58; (with_reducible refine (H4.out _).mono ?_); rintro e w2 ⟨rfl, rfl⟩))
    go_ret
    exact ⟨ret_int (by rw [HE.out]; simp; try omega), hbw⟩

/-- What a sample makes of the frames so far, and of whether there is a current one. -/
def trs (t : Trg) (u : Int) (S : Bool × List (Int × Int)) (x : Smp) : Bool × List (Int × Int) :=
  if x.q = 2 then S
  else if S.1 = false ∧ t.st ≤ x.v then (true, S.2 ++ [(x.t, u)])
  else if S.1 = true ∧ x.v < t.sp then (false, setE S.2 x.t) else S
def trTo (t : Trg) (u : Int) (l : List Smp) : Nat → Bool × List (Int × Int)
  | 0 => (false, [])
  | j + 1 => trs t u (trTo t u l j) (atS l j)
/-- What a frame makes of those joined so far. -/
def jnS (ap : Int) (out : List (Int × Int)) (f : Int × Int) : List (Int × Int) :=
  if out ≠ [] ∧ f.1 - (out.getD (out.length - 1) (0, 0)).2 < ap then setE out f.2 else out ++ [f]
def jnTo (ap : Int) (l : List (Int × Int)) : Nat → List (Int × Int)
  | 0 => []
  | j + 1 => jnS ap (jnTo ap l j) (atW l j)
/-- The frames of a trigger before a moment. -/
def frmL (t : Trg) (l : List Smp) (u : Int) : List (Int × Int) :=
  let r := (trTo t u l (posF l u)).2
  (jnTo t.jn r r.length).filter fun y => !decide (y.2 - y.1 < t.ls)
def frmE (t : Trg) (l : List Smp) (u : Int) : Int :=
  if trgErr t ≠ 0 then trgErr t else if serErr l ≠ 0 then serErr l else if inB u 0 345686400000 = false then 1 else if 2000 < (frmL t l u).length then 2 else 0
def frmR (t : Trg) (l : List Smp) (u : Int) : List (Int × Int) := if frmE t l u = 0 then frmL t l u else []

/-- Windows whose ends lie between 0 and u. -/
def InF (u : Int) (l : List (Int × Int)) : Prop := ∀ y ∈ l, (0 ≤ y.1 ∧ y.1 ≤ u) ∧ 0 ≤ y.2 ∧ y.2 ≤ u
theorem InF.nil (u : Int) : InF u [] := fun _ h => by cases h
theorem InF.snoc {u : Int} {l : List (Int × Int)} (h : InF u l) {y : Int × Int} (hy : (0 ≤ y.1 ∧ y.1 ≤ u) ∧ 0 ≤ y.2 ∧ y.2 ≤ u) : InF u (l ++ [y]) := by
  intro z hz
  rcases List.mem_append.1 hz with hz | hz
  · exact h z hz
  · rw [List.mem_singleton.1 hz]; exact hy
theorem getD_mem {l : List (Int × Int)} (h : 0 < l.length) : l.getD (l.length - 1) (0, 0) ∈ l := by
  rw [List.getD_eq_getElem?_getD, List.getElem?_eq_getElem (by omega)]
  exact List.getElem_mem _
theorem InF.setE {u : Int} {l : List (Int × Int)} (h : InF u l) {b : Int} (hb : 0 ≤ b ∧ b ≤ u) : InF u (setE l b) := by
  intro z hz
  unfold Go.Proofs.Ytmcojidaimeijaa.setE at hz
  rcases List.mem_or_eq_of_mem_set hz with hz | rfl
  · exact h z hz
  · by_cases hl : 0 < l.length
    · exact ⟨(h _ (getD_mem hl)).1, hb⟩
    · have : l = [] := List.eq_nil_of_length_eq_zero (by omega)
      subst this
      simp at hz
theorem trTo_in (t : Trg) (u : Int) (l : List Smp) (hu : 0 ≤ u) (n : Nat) (hx : ∀ j, j < n → 0 ≤ (atS l j).t ∧ (atS l j).t ≤ u) : InF u (trTo t u l n).2 := by
  induction n with
  | zero => exact InF.nil u
  | succ n ih =>
    have h1 := ih fun j hj => hx j (by omega)
    have h2 := hx n (by omega)
    rw [show trTo t u l (n + 1) = trs t u (trTo t u l n) (atS l n) from rfl]
    unfold trs
    split
    · exact h1
    · split
      · exact h1.snoc ⟨h2, hu, Int.le_refl _⟩
      · split
        · exact h1.setE h2
        · exact h1
theorem trTo_len (t : Trg) (u : Int) (l : List Smp) (n : Nat) : (trTo t u l n).2.length ≤ n ∧ ((trTo t u l n).1 = true → 0 < (trTo t u l n).2.length) := by
  induction n with
  | zero => simp [trTo]
  | succ n ih =>
    rw [show trTo t u l (n + 1) = trs t u (trTo t u l n) (atS l n) from rfl]
    unfold trs
    split
    · exact ⟨by omega, ih.2⟩
    · split
      · simp; omega
      · split
        · simp [setE_len]; omega
        · exact ⟨by omega, ih.2⟩
theorem jnTo_in (ap u : Int) (l : List (Int × Int)) (hl : InF u l) (n : Nat) (hn : n ≤ l.length) : InF u (jnTo ap l n) := by
  induction n with
  | zero => exact InF.nil u
  | succ n ih =>
    have h1 := ih (by omega)
    have h2 : (0 ≤ (atW l n).1 ∧ (atW l n).1 ≤ u) ∧ 0 ≤ (atW l n).2 ∧ (atW l n).2 ≤ u := by
      rw [← atW_eq l n (by omega)]; exact hl _ (List.getElem_mem _)
    rw [show jnTo ap l (n + 1) = jnS ap (jnTo ap l n) (atW l n) from rfl]
    unfold jnS
    split
    · exact h1.setE h2.2
    · exact h1.snoc h2
theorem jnTo_len (ap : Int) (l : List (Int × Int)) (n : Nat) : (jnTo ap l n).length ≤ n := by
  induction n with
  | zero => simp [jnTo]
  | succ n ih =>
    rw [show jnTo ap l (n + 1) = jnS ap (jnTo ap l n) (atW l n) from rfl]
    unfold jnS
    split
    · simp [setE_len]; omega
    · simp; omega

/-- The row of windows, as the loops keep it. -/
structure StW (w1 : World) (o : Value) (out : List (Int × Int)) (w : World) : Prop where
  own : w.ownsRow w1.heap.size 43 2 o out.length (wdwCells out)
  bl : Below w1.heap.size w1 w
theorem StW.step {w1 w w' : World} {o : Value} {out : List (Int × Int)} (h : StW w1 o out w) (hb : Below w.heap.size w w') : StW w1 o out w' :=
  ⟨own_keep h.own fun b _ _ hh => hb.block b (lt_of_heap hh), h.bl.trans (hb.mono h.bl.size)⟩
theorem StW.alloc {w1 w : World} {o : Value} {out : List (Int × Int)} (h : StW w1 o out w) (x : Obj) : StW w1 o out (w.alloc x) := h.step ((Below.refl _ _).alloc (Nat.le_refl _) _)
theorem StW.drewN {w1 w : World} {o : Value} {out : List (Int × Int)} (h : StW w1 o out w) (m : Nat) : StW w1 o out (w.drewN m) :=
  h.step (show Below w.heap.size w (w.drewN m) from ⟨rfl, rfl, rfl, Nat.le_refl _, fun _ _ => rfl⟩)
theorem StW.grown {w1 w w' : World} {o o' : Value} {out : List (Int × Int)} (h : StW w1 o out w) (x : Int × Int) (hg : w.grownBy w' o.ownBlock) (ho : w'.ownsRow w1.heap.size 43 2 o' (out.length + 1) (wdwCells (out ++ [x]))) : StW w1 o' (out ++ [x]) w' :=
  ⟨by simpa using ho, h.bl.trans (below_grown h.own h.bl.size hg)⟩
theorem own_setE {W : World} {base g c n : Nat} {out : List (Int × Int)} (h : W.ownsRow base 43 2 (.slice (some ⟨g, 0, none⟩) n c) out.length (wdwCells out)) (hn : 0 < out.length) (m : Nat) (hm : m + 1 = out.length) (b : Int) :
    (W.setCell ⟨g, m * 2 + 1, none⟩ (.int .i64 b)).ownsRow base 43 2 (.slice (some ⟨g, 0, none⟩) n c) (setE out b).length (wdwCells (setE out b)) ∧ base ≤ g := by
  obtain ⟨g', cap, hv, hbg, hnc, hcm⟩ := own_form h hn
  simp only [Value.slice.injEq, Option.some.injEq, Addr.mk.injEq, and_true] at hv
  obtain ⟨rfl, rfl, rfl⟩ := hv
  obtain rfl : m = out.length - 1 := by omega
  have hm : out.length - 1 < out.length := by omega
  have hcs : (wdwCells out).set ((out.length - 1) * 2 + 1) (.int .i64 b) = wdwCells (setE out b) := by
    have h0 := wdwCells_set out (out.length - 1) hm (out[out.length - 1].1, b)
    have h1 := (wdwCells_get out (out.length - 1) hm).1
    obtain ⟨hlt2, h1⟩ := List.getElem?_eq_some_iff.1 h1
    unfold setE
    rw [show (out.getD (out.length - 1) (0, 0)) = out[out.length - 1] by simp [List.getD_eq_getElem?_getD, List.getElem?_eq_getElem hm], ← h0]
    congr 1
    rw [← h1, List.set_getElem_self]
  have hst := (h.stored ((out.length - 1) * 2 + 1) (.int .i64 b)).1
  rw [hcs] at hst
  exact ⟨by rw [setE_len]; exact hst, hbg⟩
theorem StW.setLast {w1 w : World} {g c n : Nat} {out : List (Int × Int)} (h : StW w1 (.slice (some ⟨g, 0, none⟩) n c) out w) (m : Nat) (hm : m + 1 = out.length) (b : Int) :
    StW w1 (.slice (some ⟨g, 0, none⟩) n c) (setE out b) (w.setCell ⟨g, m * 2 + 1, none⟩ (.int .i64 b)) := by
  obtain ⟨h1, h2⟩ := own_setE h.own (by omega) m hm b
  exact ⟨h1, h.bl.setCell (by simpa using h2) _⟩
end Go.Proofs.Ytmcojidaimeijaa

/- triggered (package batch), for a right series and a moment within all moments. -/

namespace Go.Proofs.Ytmcojidaimeijaa
open Go.RowKit
set_option linter.unusedVariables false
set_option linter.unusedSimpArgs false

set_option maxRecDepth 100000 in
set_option maxHeartbeats 4000000 in
theorem triggered_any (t : Trg) (v : Value) (l : List Smp) (u : Int) (w : World) (hR : RdS w 57 v l) (hS : serErr l = 0) :
    Calls Try.prog 97 #[.agg (trgCells t), v, .int .i64 u] w fun e w' => ∃ vr, e = .returned vr ∧ RdWdw w' vr (trTo t u l (posF l u)).2 ∧ Below w.heap.size w w' := by
  obtain ⟨st, sp, jn, ls⟩ := t
  simp only [trgCells]
  have hlong := (serErr_good hS).1
  obtain ⟨pa, ca, rfl⟩ := hR.lenv
  have HT := Lib.hid (fun n => trTo_len ⟨st, sp, jn, ls⟩ u l n)
  have HS := Lib.hid (fun j => (show trTo ⟨st, sp, jn, ls⟩ u l (j + 1) = trs ⟨st, sp, jn, ls⟩ u (trTo ⟨st, sp, jn, ls⟩ u l j) (atS l j) from rfl))
  have hB := Blk.new w 93 #[.int .i64 st, .int .i64 sp, .int .i64 jn, .int .i64 ls]
  have hbw : Below w.heap.size w (w.alloc (.cells #[.int .i64 st, .int .i64 sp, .int .i64 jn, .int .i64 ls] 93)) := (Below.refl _ w).alloc (Nat.le_refl _) _
  have hRa := Rd.below hR hbw
  have HP := Lib.hid (position_any (.slice pa l.length ca) l u _ hRa (serErr_rise hS) hlong)
  have hple := posF_le l u
  have HR := Lib.hid hR
  clear hR hRa hS
  go_enter Try.func97, Try.ntmps97
  go_upto_region 3 with fail
  generalize w.alloc (.cells #[.int .i64 st, .int .i64 sp, .int .i64 jn, .int .i64 ls] 93) = w1 at *
  have HBW := Lib.hid hbw
  clear hbw
  go_cut [15, 16, 17] (fun s15 s16 s17 wx => s16 = .int .i64 (posF l u : Int) ∧ s17 = .int .i64 0 ∧ (∃ P, s15 = .slice P (posF l u) ca ∧ (0 < posF l u → P = pa)) ∧ Below w1.heap.size w1 wx)
  case first =>
    obtain ⟨hcl, hcm, hpa⟩ : l.length ≤ ca ∧ ca ≤ maxLen ∧ (0 < posF l u → ∃ b off, pa = some ⟨b, off, none⟩) := by
      obtain ⟨_, pa', ca', hv, h1, h2, h3⟩ := HR.out
      cases hv
      exact ⟨h1, h2, fun h => by obtain ⟨b, off, _, _, hh, _⟩ := h3 (by omega); exact ⟨b, off, hh⟩⟩
    unfold maxLen at hcm
    have hpc : posF l u ≤ ca := by omega
    go_wp2_with fail
    refine HP.out.mono ?_
    rintro e w2 ⟨rfl, hb2⟩
    generalize posF l u = n at *
    by_cases hc0 : ca = 0
    · obtain rfl : n = 0 := by omega
      subst hc0
      go_wp2_with fail
      go_meet
      exact ⟨rfl, rfl, ⟨pa, rfl, fun _ => rfl⟩, hb2⟩
    · go_wp2_with fail
      go_meet
      refine ⟨rfl, rfl, ⟨_, rfl, fun h => ?_⟩, hb2⟩
      obtain ⟨b, off, rfl⟩ := hpa h
      simp
  case rest =>
    obtain ⟨rfl, rfl, ⟨P, rfl, hP⟩, hb2⟩ := hcut
    have hB2 := hB.below hb2 hB.lt
    have hbx := HBW.out.trans (hb2.mono HBW.out.size)
    have hR2 := Rd.below HR.out hbx
    have HRX := Lib.hid hR2
    have HBX := Lib.hid hbx
    have HB2 := Lib.hid hB2
    clear hB hb2 HBW HR HP hR2 hbx hB2
    go_wp2_with fail
    go_loopw [7, 8, 17] (fun o cu i wr => ∃ j : Nat, j ≤ posF l u ∧ i = .int .i64 (j : Int) ∧ cu = .bool (trTo ⟨st, sp, jn, ls⟩ u l j).1 ∧ StW wc o (trTo ⟨st, sp, jn, ls⟩ u l j).2 wr) (fun _ _ i _ => posF l u - (intOf i).toNat)
    case atStart => exact ⟨0, by omega, rfl, rfl, World.ownsRow_nil _ _ _ _, Below.refl _ _⟩
    case round =>
      obtain ⟨j, hj, rfl, rfl, hk⟩ := hrel
      by_cases hlt : j < posF l u
      · obtain rfl := hP (by omega)
        have hRr : RdS wr _ _ l := Rd.below HRX.out hk.bl
        obtain ⟨b, off, c, hv, hc1, hc2, hblt, hcell⟩ := RdS.at_ hRr (by omega)
        cases hv
        unfold maxLen at hc2
        obtain ⟨c0, c1, c2⟩ := hcell j (by omega)
        have hl2 := HT.out j
        have hs2 := HS.out j
        have hBr := HB2.out.below hk.bl HB2.out.lt
        generalize trTo ⟨st, sp, jn, ls⟩ u l j = S2 at *
        obtain ⟨cur, out⟩ := S2
        generalize atS l j = x at *
        obtain ⟨xt, xv, xq⟩ := x
        simp only at c0 c1 c2 hk hl2
        obtain ⟨po, co, rfl⟩ := RdWdw.lenv (Rd.of_own hk.own)
        have HS2 := Lib.hid hs2
        have hbo := Blk.new wr 57 #[.int .i64 xt, .int .i64 xv, .int .i64 xq]
        have hk2 := hk.alloc (.cells #[.int .i64 xt, .int .i64 xv, .int .i64 xq] 57)
        have hB3 := hBr.alloc (.cells #[.int .i64 xt, .int .i64 xv, .int .i64 xq] 57)
        have hol : out.length ≤ 5000 := by omega
        clear hs2 hRr hcell hBr hk
        go_upto_region 6 with fail
        generalize wr.alloc (.cells #[.int .i64 xt, .int .i64 xv, .int .i64 xq] 57) = wm at *
        generalize wr.heap.size = Z at *
        clear c0 c1 c2
        have e0 := hbo.cell 0
        have e1 := hbo.cell 1
        have e2 := hbo.cell 2
        have t0 := hB3.cell 0
        have t1 := hB3.cell 1
        by_cases hq : xq = 2
        · have hq' : (xq == 2) = true := by simpa using hq
          have HE := Lib.hid (show trTo ⟨st, sp, jn, ls⟩ u l (j + 1) = (cur, out) by rw [HS2.out]; unfold trs; rw [if_pos hq])
          have HKD := Lib.hid hk2
          clear hk2 hq
          go_wp2_with fail
          go_roundw
          case rel => exact ⟨j + 1, by omega, by go_num, by rw [HE.out], by rw [HE.out]; exact HKD.out⟩
          case measure => simp [intOf]; omega
        · have hq' : (xq == 2) = false := by simpa using hq
          cases cur
          · by_cases hst : st ≤ xv
            · have HE := Lib.hid (show trTo ⟨st, sp, jn, ls⟩ u l (j + 1) = (true, out ++ [(xt, u)]) by rw [HS2.out]; unfold trs; rw [if_neg hq, if_pos ⟨rfl, hst⟩])
              have ho := hk2.alloc (.cells #[.int .i64 xt, .int .i64 u] 43)
              have HO := Lib.hid ho
              have hso := ho.bl.size
              clear hk2 hq ho
              go_wp2_with (at_builtin; go_loud (refine wpList_append_wdw rfl (.tmp 35) (.tmp 40) rfl wc.heap.size _ _ out rfl (by exact HO.out.own) wm.heap.size rfl (xt, u) (by exact Blk.new _ _ _) (by omega) (by exact hso) ?_); intro v1 wd hown1 hgrow1)
              have hkd := HO.out.grown _ hgrow1 hown1
              clear hown1 hgrow1
              go_roundw
              case rel => exact ⟨j + 1, by omega, by go_num, by rw [HE.out], by rw [HE.out]; exact hkd⟩
              case measure => simp [intOf]; omega
            · have HE := Lib.hid (show trTo ⟨st, sp, jn, ls⟩ u l (j + 1) = (false, out) by rw [HS2.out]; unfold trs; rw [if_neg hq, if_neg (fun h => hst h.2), if_neg (fun h => by simp at h)])
              have hst' : xv < st := by omega
              have HKD := Lib.hid hk2
              clear hk2 hq hst
              go_wp2_with fail
              go_roundw
              case rel => exact ⟨j + 1, by omega, by go_num, by rw [HE.out], by rw [HE.out]; exact HKD.out⟩
              case measure => simp [intOf]; omega
          · by_cases hsp : xv < sp
            · have HE := Lib.hid (show trTo ⟨st, sp, jn, ls⟩ u l (j + 1) = (false, setE out xt) by rw [HS2.out]; unfold trs; rw [if_neg hq, if_neg (fun h => by simp at h), if_pos ⟨rfl, hsp⟩])
              have hop := hl2.2 rfl
              obtain ⟨m, hm⟩ : ∃ m, m + 1 = out.length := ⟨out.length - 1, by omega⟩
              obtain ⟨g, cap, hv, hbg, hnc, hcm⟩ := own_form hk2.own (by omega)
              cases hv
              unfold maxLen at hcm
              have hmo : m < out.length := by omega
              obtain ⟨k0, k1⟩ := own_wdw hk2.own rfl m hmo
              have f1 := hk2.own.frozenAt (m * 2 + 1)
              have hwm : IntKind.i64.wrap ((out.length : Int) - 1) = (m : Int) := by rw [← hm]; exact (IntWalk.i64_in _ (by omega)).trans (by omega)
              have i1 : (0 : Int) ≤ (m : Int) := by omega
              have i2 : (m : Int) < (out.length : Int) := by omega
              have hkd := hk2.setLast m hm xt
              have HKD := Lib.hid hkd
              clear hkd hk2 hq hm
              go_wp2_with fail
              go_roundw
              case rel => exact ⟨j + 1, by omega, by go_num, by rw [HE.out], by rw [HE.out]; exact HKD.out⟩
              case measure => simp [intOf]; omega
            · have HE := Lib.hid (show trTo ⟨st, sp, jn, ls⟩ u l (j + 1) = (true, out) by rw [HS2.out]; unfold trs; rw [if_neg hq, if_neg (fun h => by simp at h), if_neg (fun h => hsp h.2)])
              have hsp' : sp ≤ xv := by omega
              have HKD := Lib.hid hk2
              clear hk2 hq hsp
              go_wp2_with fail
              go_roundw
              case rel => exact ⟨j + 1, by omega, by go_num, by rw [HE.out], by rw [HE.out]; exact HKD.out⟩
              case measure => simp [intOf]; omega
      · obtain rfl : j = posF l u := by omega
        go_wp2_with fail
        go_ret
        exact ⟨_, rfl, Rd.of_own hk.own, HBX.out.trans (hk.bl.mono HBX.out.size)⟩
end Go.Proofs.Ytmcojidaimeijaa

/- joined (package batch), for windows within all moments. -/

namespace Go.Proofs.Ytmcojidaimeijaa
open Go.RowKit
set_option linter.unusedVariables false
set_option linter.unusedSimpArgs false

set_option maxRecDepth 100000 in
set_option maxHeartbeats 4000000 in
theorem jnf_any (v : Value) (l : List (Int × Int)) (ap : Int) (w : World) (hR : RdWdw w v l) (hlong : l.length ≤ 5000) (hin : InF 345686400000 l) :
    Calls Try.prog 96 #[v, .int .i64 ap] w fun e w' => ∃ vr, e = .returned vr ∧ w'.ownsRow w.heap.size 43 2 vr (jnTo ap l l.length).length (wdwCells (jnTo ap l l.length)) ∧ Below w.heap.size w w' := by
  obtain ⟨pa, ca, rfl⟩ := hR.lenv
  have HR := Lib.hid hR
  have HL := Lib.hid (fun n => jnTo_len ap l n)
  have HI := Lib.hid (fun n (hn : n ≤ l.length) => jnTo_in ap _ l hin n hn)
  have HIN := Lib.hid hin
  clear hR hin
  go_enter Try.func96, Try.ntmps96
  go_wp2_with fail
  go_loopw [5, 11] (fun o i wr => ∃ j : Nat, j ≤ l.length ∧ i = .int .i64 (j : Int) ∧ StW w o (jnTo ap l j) wr) (fun _ i _ => l.length - (intOf i).toNat)
  case atStart => exact ⟨0, by omega, rfl, World.ownsRow_nil _ _ _ _, Below.refl _ _⟩
  case round =>
    obtain ⟨j, hj, rfl, hk⟩ := hrel
    by_cases hlt : j < l.length
    · have hl2 := HL.out j
      have hin2 := HI.out j hj
      have hRr : RdWdw wr _ l := Rd.below HR.out hk.bl
      obtain ⟨b, off, c, hv, hc1, hc2, hblt, hcell⟩ := RdWdw.at_ hRr (by omega)
      cases hv
      unfold maxLen at hc2
      obtain ⟨c0, c1⟩ := hcell j hlt
      have hyb : (0 ≤ (atW l j).1 ∧ (atW l j).1 ≤ 345686400000) ∧ 0 ≤ (atW l j).2 ∧ (atW l j).2 ≤ 345686400000 := by
        rw [← atW_eq l j hlt]; exact HIN.out _ (List.getElem_mem _)
      have hst : jnTo ap l (j + 1) = jnS ap (jnTo ap l j) (atW l j) := rfl
      generalize jnTo ap l j = out at *
      generalize atW l j = y at *
      obtain ⟨ya, yb⟩ := y
      simp only at hyb c0 c1
      have HST := Lib.hid hst
      have HK := Lib.hid hk
      have hb0r := hk.bl.size
      clear hst hk hcell hRr
      go_upto_region 5 with fail
      have hB := Blk.new wr 43 #[.int .i64 ya, .int .i64 yb]
      have hk2 := HK.out.alloc (.cells #[.int .i64 ya, .int .i64 yb] 43)
      generalize hwm : wr.alloc (.cells #[.int .i64 ya, .int .i64 yb] 43) = wm at *
      generalize wr.heap.size = Z at *
      clear hwm HK c0 c1
      have c0 := hB.cell 0
      have c1 := hB.cell 1
      obtain ⟨po, co, rfl⟩ := RdWdw.lenv (Rd.of_own hk2.own)
      have hol : out.length ≤ 5000 := by omega
      by_cases ho : out = []
      · subst ho
        have HE := Lib.hid (show jnTo ap l (j + 1) = [] ++ [(ya, yb)] by rw [HST.out]; simp [jnS])
        have HK2 := Lib.hid hk2
        have HBB := Lib.hid hB
        clear hk2 hB HST
        go_upto_region 6 with fail
        go_quiet (fail)
        go_upto_region 8 with fail
        have hk3 := HK2.out.drewN nq
        have hB3 : Blk (wm.drewN nq) Z 43 #[.int .i64 ya, .int .i64 yb] := HBB.out.drewN nq
        generalize wm.drewN nq = wz at *
        have e0 := hB3.cell 0
        have e1 := hB3.cell 1
        have ho := hk3.alloc (.cells #[.int .i64 ya, .int .i64 yb] 43)
        have HO := Lib.hid ho
        have hso := ho.bl.size
        clear ho hk3 hB3 c0 c1
        go_wp2_with (at_builtin; go_loud (refine wpList_append_wdw rfl (.tmp 38) (.tmp 40) rfl w.heap.size _ _ [] rfl (by exact HO.out.own) wz.heap.size rfl (ya, yb) (by exact Blk.new _ _ _) (by omega) (by exact hso) ?_); intro v1 wd hown1 hgrow1)
        have hkd := HO.out.grown _ hgrow1 hown1
        clear hown1 hgrow1
        go_roundw
        case rel => exact ⟨j + 1, by omega, by go_num, by rw [HE.out]; exact hkd⟩
        case measure => simp [intOf]; omega
      · obtain ⟨m, hm⟩ : ∃ m, m + 1 = out.length := ⟨out.length - 1, by have := List.length_pos_iff.2 ho; omega⟩
        obtain ⟨g, cap, hv, hbg, hnc, hcm⟩ := own_form hk2.own (by omega)
        cases hv
        unfold maxLen at hcm
        obtain ⟨k0, k1⟩ := own_wdw hk2.own rfl m (by omega)
        have f1 := hk2.own.frozenAt (m * 2 + 1)
        have hgt : out.getD (out.length - 1) (0, 0) = out[m]'(by omega) := by
          rw [show out.length - 1 = m by omega, List.getD_eq_getElem?_getD, List.getElem?_eq_getElem (by omega)]; rfl
        have hzb := hin2 (out[m]'(by omega)) (List.getElem_mem _)
        have hwm : IntKind.i64.wrap ((out.length : Int) - 1) = (m : Int) := by rw [← hm]; exact (IntWalk.i64_in _ (by omega)).trans (by omega)
        have hst2 : jnTo ap l (j + 1) = if ya - (out[m]'(by omega)).2 < ap then setE out yb else out ++ [(ya, yb)] := by
          rw [HST.out]; unfold jnS; rw [hgt]; simp [ho]
        generalize out[m]'(by omega) = z at *
        obtain ⟨za, zb⟩ := z
        simp only at k0 k1 hzb hst2
        have HST2 := Lib.hid hst2
        have hmo : m < out.length := by omega
        have i1 : (0 : Int) ≤ (m : Int) := by omega
        have i2 : (m : Int) < (out.length : Int) := by omega
        have d1 : decide ((0 : Int) ≤ (m : Int)) = true := by simp
        have hws : IntKind.i64.wrap (ya - zb) = ya - zb := IntWalk.i64_in _ (by omega)
        have HM := Lib.hid hm
        have HK2 := Lib.hid hk2
        have HBB := Lib.hid hB
        clear hk2 hB HST hst2 hgt hin2 hm ho
        go_upto_region 6 with fail
        by_cases hap : ya - zb < ap
        · have hd : decide (ya - zb < ap) = true := by simpa using hap
          go_quiet (fail)
          have HE := Lib.hid (show jnTo ap l (j + 1) = setE out yb by rw [HST2.out, if_pos hap])
          have hk3 := HK2.out.drewN nq
          have hB3 : Blk (wm.drewN nq) Z 43 #[.int .i64 ya, .int .i64 yb] := HBB.out.drewN nq
          generalize wm.drewN nq = wz at *
          have e1 := hB3.cell 1
          have f2 := hk3.own.frozenAt (m * 2 + 1)
          obtain ⟨_, k2⟩ := own_wdw hk3.own rfl m hmo
          have hkd := hk3.setLast m HM.out yb
          have HKD := Lib.hid hkd
          clear hkd hk3 hB3 c0 c1 k0 k1 f1
          go_wp2_with fail
          go_roundw
          case rel => exact ⟨j + 1, by omega, by go_num, by rw [HE.out]; exact HKD.out⟩
          case measure => simp [intOf]; omega
        · have hd : decide (ya - zb < ap) = false := by simpa using hap
          go_quiet (fail)
          go_upto_region 8 with fail
          have HE := Lib.hid (show jnTo ap l (j + 1) = out ++ [(ya, yb)] by rw [HST2.out, if_neg hap])
          have hk3 := HK2.out.drewN nq
          have hB3 : Blk (wm.drewN nq) Z 43 #[.int .i64 ya, .int .i64 yb] := HBB.out.drewN nq
          generalize wm.drewN nq = wz at *
          have e0 := hB3.cell 0
          have e1 := hB3.cell 1
          have ho := hk3.alloc (.cells #[.int .i64 ya, .int .i64 yb] 43)
          have HO := Lib.hid ho
          have hso := ho.bl.size
          clear ho hk3 hB3 c0 c1
          go_wp2_with (at_builtin; go_loud (refine wpList_append_wdw rfl (.tmp 38) (.tmp 40) rfl w.heap.size _ _ out rfl (by exact HO.out.own) wz.heap.size rfl (ya, yb) (by exact Blk.new _ _ _) (by omega) (by exact hso) ?_); intro v1 wd hown1 hgrow1)
          have hkd := HO.out.grown _ hgrow1 hown1
          clear hown1 hgrow1
          go_roundw
          case rel => exact ⟨j + 1, by omega, by go_num, by rw [HE.out]; exact hkd⟩
          case measure => simp [intOf]; omega
    · obtain rfl : j = l.length := by omega
      go_wp2_with fail
      go_ret
      exact ⟨_, rfl, hk.own, hk.bl⟩
end Go.Proofs.Ytmcojidaimeijaa

/- Frames (package batch). No condition. -/

namespace Go.Proofs.Ytmcojidaimeijaa
open Go.RowKit
set_option linter.unusedVariables false
set_option linter.unusedSimpArgs false

theorem longw_any (f t : Int) (w : World) :
    Calls Try.prog 61 #[.agg #[.int .i64 f, .int .i64 t]] w fun e w' => e = .returned (.int .i64 (IntKind.i64.wrap (t - f))) ∧ Below w.heap.size w w' := by
  have hbw : Below w.heap.size w (w.alloc (.cells #[.int .i64 f, .int .i64 t] 43)) := (Below.refl _ w).alloc (Nat.le_refl _) _
  have hw : ∃ z, IntKind.i64.wrap (t - f) = z := ⟨_, rfl⟩
  obtain ⟨z, hz⟩ := hw
  rw [hz]
  go_enter Try.func61, Try.ntmps61
  go_wp2_with fail
  go_ret
  exact ⟨ret_int (by first | rfl | exact hz), hbw⟩

/-- Whether a frame is too short. -/
def shortB (t : Trg) (y : Int × Int) : Bool := decide (IntKind.i64.wrap (y.2 - y.1) < t.ls)

set_option maxRecDepth 100000 in
set_option maxHeartbeats 1000000 in
theorem frames1_any (y : Int × Int) (B : Nat) (t : Trg) (w : World) (hB : Blk w B 93 (trgCells t)) :
    Calls Try.prog 94 #[wdwAgg y, .pointer (some ⟨B, 0, none⟩)] w fun e w' => e = .returned (.bool (shortB t y)) ∧ Below w.heap.size w w' := by
  have hP : shortB t y = decide (IntKind.i64.wrap (y.2 - y.1) < t.ls) := rfl
  generalize shortB t y = P at *
  obtain ⟨st, sp, jn, ls⟩ := t
  obtain ⟨a, b⟩ := y
  simp only [trgCells, wdwAgg] at hB hP ⊢
  have HL := Lib.hid (fun W => longw_any a b W)
  generalize IntKind.i64.wrap (b - a) = z at *
  have HP := Lib.hid hP
  clear hP
  have hb1 : Below w.heap.size w (w.alloc (.cells #[.int .i64 a, .int .i64 b] 43)) := (Below.refl _ w).alloc (Nat.le_refl _) _
  have hB1 := hB.alloc (.cells #[.int .i64 a, .int .i64 b] 43)
  have hw1 := Blk.new w 43 #[.int .i64 a, .int .i64 b]
  go_enter Try.func94, Try.ntmps94
  go_upto_region 1 with fail
  generalize w.alloc (.cells #[.int .i64 a, .int .i64 b] 43) = w1 at *
  have c0 := hw1.cell 0
  have c1 := hw1.cell 1
  have c3 := hB1.cell 3
  clear hB
  have hbd : Below w.heap.size w w1.drew := hb1.trans ⟨rfl, rfl, rfl, Nat.le_refl _, fun _ _ => rfl⟩
  have hd : ∃ q, decide (z < ls) = q := ⟨_, rfl⟩
  obtain ⟨q, hq⟩ := hd
  go_region_with (go_at_call 61; (with_reducible refine (HL.out _).mono ?_); rintro e w2 ⟨rfl, hb2⟩; have hB2 : Blk w2 B 93 #[.int .i64 st, .int .i64 sp, .int .i64 jn, .int .i64 ls] := (by first | exact hB1.below hb2 hB1.lt | exact (Blk.drew hB1).below hb2 hB1.lt); have c3' := hB2.cell 3)
  all_goals
    go_wp2_with fail
    go_ret
    exact ⟨ret_bool (by rw [HP.out, hq]), (by first | exact hb1.trans (hb2.mono hb1.size) | exact hbd.trans (hb2.mono hb1.size))⟩
theorem enter_frames1 (args : Array Value) (w : World) : (callFunc 94 args).run Try.prog w = .ok (.enter 94 args) w := by kernel_rfl

/-- What Frames keeps: the box of its trigger, the series. -/
structure FrK (w0 : World) (B : Nat) (t : Trg) (v : Value) (l : List Smp) (W : World) : Prop where
  tb : Blk W B 93 (trgCells t)
  rs : RdS W 57 v l
  bl : Below w0.heap.size w0 W
theorem FrK.step {w0 W W' : World} {B : Nat} {t : Trg} {v : Value} {l : List Smp} (hb : Below W.heap.size W W') (h : FrK w0 B t v l W) : FrK w0 B t v l W' :=
  ⟨h.tb.below hb h.tb.lt, Rd.below h.rs hb, h.bl.trans (hb.mono h.bl.size)⟩
theorem FrK.drew {w0 W : World} {B : Nat} {t : Trg} {v : Value} {l : List Smp} (h : FrK w0 B t v l W) : FrK w0 B t v l W.drew :=
  FrK.step (show Below W.heap.size W W.drew from ⟨rfl, rfl, rfl, Nat.le_refl _, fun _ _ => rfl⟩) h

theorem short_eq (t : Trg) (l : List (Int × Int)) (h : InF 345686400000 l) : (l.filter fun y => !shortB t y) = l.filter fun y => !decide (y.2 - y.1 < t.ls) := by
  refine List.filter_congr fun y hy => ?_
  have := h y hy
  unfold shortB
  rw [IntWalk.i64_in (y.2 - y.1) (by omega)]

set_option maxRecDepth 100000 in
set_option maxHeartbeats 4000000 in
theorem frames_any (t : Trg) (v : Value) (l : List Smp) (u : Int) (w : World) (hR : RdS w 57 v l) :
    Calls Try.prog 47 #[.agg (trgCells t), v, .int .i64 u] w fun e w' => ∃ vr, e = .returned (.tuple #[vr, .int .i64 (frmE t l u)]) ∧ RdWdw w' vr (frmR t l u) ∧ Below w.heap.size w w' := by
  have hRR : frmR t l u = if frmE t l u = 0 then frmL t l u else [] := rfl
  have hE : frmE t l u = if trgErr t ≠ 0 then trgErr t else if serErr l ≠ 0 then serErr l else if inB u 0 345686400000 = false then 1 else if 2000 < (frmL t l u).length then 2 else 0 := rfl
  have HLL := Lib.hid (show frmL t l u = (jnTo t.jn (trTo t u l (posF l u)).2 (trTo t u l (posF l u)).2.length).filter fun y => !decide (y.2 - y.1 < t.ls) from rfl)
  have HIN := Lib.hid (trTo_in t u l)
  have HLN := Lib.hid (trTo_len t u l (posF l u)).1
  have HTG := Lib.hid (fun (W : World) (h : RdS W 57 v l) (hS : serErr l = 0) => triggered_any t v l u W h hS)
  have HCT := Lib.hid (fun W => checkTrigger_any t W)
  generalize trgErr t = TE at *
  generalize frmR t l u = RR at *
  generalize frmE t l u = E at *
  generalize frmL t l u = FL at *
  obtain ⟨pa, ca, rfl⟩ := hR.lenv
  have hk0 : FrK w w.heap.size t (.slice pa l.length ca) l (w.alloc (.cells (trgCells t) 93)) := ⟨Blk.new _ _ _, Rd.alloc hR _, (Below.refl _ w).alloc (Nat.le_refl _) _⟩
  obtain ⟨st, sp, jn, ls⟩ := t
  have htc : trgCells ⟨st, sp, jn, ls⟩ = #[.int .i64 st, .int .i64 sp, .int .i64 jn, .int .i64 ls] := rfl
  rw [htc] at hk0 HCT HTG ⊢
  have HE := Lib.hid hE
  have HRR := Lib.hid hRR
  clear hR hE hRR
  go_enter Try.func47, Try.ntmps47
  go_upto_region 1 with fail
  generalize w.alloc (.cells #[.int .i64 st, .int .i64 sp, .int .i64 jn, .int .i64 ls] 93) = w1 at *
  have t0 := hk0.tb.cell 0
  have t1 := hk0.tb.cell 1
  have t2 := hk0.tb.cell 2
  have t3 := hk0.tb.cell 3
  go_wp2_with fail
  refine (HCT.out _).mono ?_
  rintro e w2 ⟨rfl, hb2⟩
  have hk2 := FrK.step hb2 hk0
  clear t0 t1 t2 t3 hk0 hb2
  by_cases hT : TE = 0
  · have hT' : (TE != 0) = false := by simpa using hT
    have HE2 := Lib.hid (show E = if serErr l ≠ 0 then serErr l else if inB u 0 345686400000 = false then 1 else if 2000 < FL.length then 2 else 0 by rw [HE.out, if_neg (by simp [hT])])
    clear hT HE
    go_wp2_with fail
    refine (checkSeries_any _ l _ hk2.rs).mono ?_
    rintro e w3 ⟨rfl, hb3⟩
    have hk3 := FrK.step hb3 hk2
    clear hk2 hb3
    by_cases hS : serErr l = 0
    · have hS' : (serErr l != 0) = false := by simpa using hS
      have HE3 := Lib.hid (show E = if inB u 0 345686400000 = false then 1 else if 2000 < FL.length then 2 else 0 by rw [HE2.out, if_neg (by simp [hS])])
      have HS := Lib.hid hS
      clear hS HE2
      go_wp2_with fail
      refine (within_any u 0 345686400000 _).mono ?_
      rintro e w4 ⟨rfl, rfl⟩
      cases hu : inB u 0 345686400000
      · have HX := Lib.hid (show E = 1 by rw [HE3.out, hu]; rfl)
        have HX2 := Lib.hid (show RR = [] by rw [HRR.out, HX.out]; rfl)
        go_wp2_with fail
        go_ret2
        exact ⟨_, by rw [HX.out]; rfl, by rw [HX2.out]; exact Rd.nil _ _ _, hk3.bl⟩
      · have HE4 := Lib.hid (show E = if 2000 < FL.length then 2 else 0 by rw [HE3.out, hu]; rfl)
        have hub := inB_true.1 hu
        have hser := fun j => (serErr_vt HS.out j).2
        have hple := posF_le l u
        have hpos := fun j (hj : j < l.length) => posF_iff l u none (serErr_rise HS.out) j hj
        have hin0 : InF 345686400000 (trTo ⟨st, sp, jn, ls⟩ u l (posF l u)).2 := fun y hy => by
          have := HIN.out hub.1 (posF l u) (fun j hj => ⟨(hser j).1, by have := hpos j (by omega); omega⟩) y hy; omega
        have hln0 : (trTo ⟨st, sp, jn, ls⟩ u l (posF l u)).2.length ≤ 5000 := by have := HLN.out; have := (serErr_good HS.out).1; omega
        generalize (trTo ⟨st, sp, jn, ls⟩ u l (posF l u)).2 = TR at *
        have hin1 := fun n hn => jnTo_in jn 345686400000 TR hin0 n hn
        have hin2 := hin1 TR.length (Nat.le_refl _)
        have hln2 := jnTo_len jn TR TR.length
        have hsq := short_eq ⟨st, sp, jn, ls⟩ _ hin2
        have HJN := Lib.hid (fun (vv : Value) (W : World) (h : RdWdw W vv TR) => jnf_any vv TR jn W h hln0 hin0)
        generalize jnTo jn TR TR.length = JN at *
        have hF : FL = JN.filter fun y => !shortB ⟨st, sp, jn, ls⟩ y := by rw [hsq]; exact HLL.out
        have HDL := Lib.hid (fun (vv : Value) (W : World) (base : Nat) (ho : W.ownsRow base 43 2 vv JN.length (wdwCells JN)) (hb : base ≤ W.heap.size) (hB : w.heap.size < base) (hk : Blk W w.heap.size 93 #[.int .i64 st, .int .i64 sp, .int .i64 jn, .int .i64 ls]) =>
          deleteW_any vv JN W base 94 (.pointer (some ⟨w.heap.size, 0, none⟩)) (shortB ⟨st, sp, jn, ls⟩) ho hb (by omega) enter_frames1 (fun x w' hb' => frames1_any x w.heap.size ⟨st, sp, jn, ls⟩ w' (Blk.below hk hb' hB)))
        have HLF := Lib.hid hF
        rw [← hF] at HDL
        clear hin0 hin1 hin2 hsq hF HLL HIN HLN hser hpos
        have t0 := hk3.tb.cell 0
        have t1 := hk3.tb.cell 1
        have t2 := hk3.tb.cell 2
        have t3 := hk3.tb.cell 3
        go_upto_region 10 with fail
        go_region_held3 (fun W => W.cell? ⟨w.heap.size, 0, none⟩ = some (.int .i64 st) ∧ W.cell? ⟨w.heap.size, 1, none⟩ = some (.int .i64 sp) ∧ W.cell? ⟨w.heap.size, 2, none⟩ = some (.int .i64 jn) ∧ W.cell? ⟨w.heap.size, 3, none⟩ = some (.int .i64 ls))
          (first | exact ⟨hk7.tb.cell 0, hk7.tb.cell 1, hk7.tb.cell 2, hk7.tb.cell 3⟩ | exact ⟨hk6.tb.cell 0, hk6.tb.cell 1, hk6.tb.cell 2, hk6.tb.cell 3⟩ | exact ⟨hk5.tb.cell 0, hk5.tb.cell 1, hk5.tb.cell 2, hk5.tb.cell 3⟩ | exact ⟨t0, t1, t2, t3⟩ | go_keep)
          (first
          | (go_at_call 97; (with_reducible refine (HTG.out _ ?_ HS.out).mono ?_); (focus (first | exact hk3.rs | exact (FrK.drew hk3).rs; done)); rintro e w5 ⟨vt, rfl, hrt, hb5⟩; have hk5 := FrK.step hb5 (by first | exact hk3 | exact FrK.drew hk3); clear hb5)
          | (go_at_call 96; (with_reducible refine (HJN.out _ _ ?_).mono ?_); (focus (exact hrt; done)); rintro e w6 ⟨vj, rfl, hoj, hb6⟩; have hk6 := FrK.step hb6 hk5; have hs5 := hk5.tb.lt; have hs6 := hb6.size)
          | (go_at_call 95; (with_reducible refine (HDL.out _ _ w5.heap.size ?_ ?_ ?_ ?_).mono ?_); (focus (exact hoj; done)); (focus (exact hs6; done)); (focus (exact hs5; done)); (focus (exact hk6.tb; done)); rintro e w7 ⟨vd, rfl, hod, hb7⟩; have hk7 : FrK w w.heap.size ⟨st, sp, jn, ls⟩ (.slice pa l.length ca) l w7 := ⟨Blk.below hk6.tb hb7 hs5, Rd.below hk5.rs (hb6.trans hb7), hk5.bl.trans ((hb6.trans hb7).mono hk5.bl.size)⟩))
        obtain ⟨pd, cd, rfl⟩ := RdWdw.lenv (Rd.of_own hod)
        have hrd : RdWdw w7 _ FL := Rd.of_own hod
        have hfl : FL.length ≤ 100000 := by rw [HLF.out]; exact Nat.le_trans (List.length_filter_le _ _) (by omega)
        have hbl := hk7.bl
        have HRD := Lib.hid hrd
        clear hod hrd hk7 hk6 hk5 hb6 hb7 hs5 hs6 hoj hrt t0 t1 t2 t3
        by_cases hfx : 2000 < FL.length
        · have HX := Lib.hid (show E = 2 by rw [HE4.out, if_pos hfx])
          have HX2 := Lib.hid (show RR = [] by rw [HRR.out, HX.out]; rfl)
          have hfx' : (2000 : Int) < (FL.length : Int) := by omega
          clear hfx
          go_wp2_with fail
          go_ret2
          exact ⟨_, by rw [HX.out]; rfl, by rw [HX2.out]; exact Rd.nil _ _ _, hbl⟩
        · have HX := Lib.hid (show E = 0 by rw [HE4.out, if_neg hfx])
          have HX2 := Lib.hid (show RR = FL by rw [HRR.out, HX.out]; rfl)
          have hfx' : (FL.length : Int) ≤ (2000 : Int) := by omega
          clear hfx
          go_wp2_with fail
          go_ret2
          exact ⟨_, by rw [HX.out]; rfl, by rw [HX2.out]; exact HRD.out, hbl⟩
    · have hS' : (serErr l != 0) = true := by simpa using hS
      have HX := Lib.hid (show E = serErr l by rw [HE2.out, if_pos hS])
      have HX2 := Lib.hid (show RR = [] by rw [HRR.out, HX.out, if_neg hS])
      clear hS
      go_wp2_with fail
      go_ret2
      exact ⟨_, by rw [HX.out]; rfl, by rw [HX2.out]; exact Rd.nil _ _ _, hk3.bl⟩
  · have hT' : (TE != 0) = true := by simpa using hT
    have HX := Lib.hid (show E = TE by rw [HE.out, if_pos hT])
    have HX2 := Lib.hid (show RR = [] by rw [HRR.out, HX.out, if_neg hT])
    clear hT
    go_wp2_with fail
    go_ret2
    exact ⟨_, by rw [HX.out]; rfl, by rw [HX2.out]; exact Rd.nil _ _ _, hk2.bl⟩
end Go.Proofs.Ytmcojidaimeijaa
