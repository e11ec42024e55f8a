/- The contract of Jumps (package sample). -/
import Derived.Test.YtjkncmhmmafmjaaJump
import Derived.Test.YtjkncmhmmafmjaaStuck
import Derived.Deep.RegionWith
namespace Go.Proofs.Ytjkncmhmmafmjaa
open Go.RowKit
set_option linter.unusedVariables false

theorem undr {B : Nat} {w w' : World} (h : Below B w.drew w') : Below B w w' := ⟨h.os, h.tape, h.output, h.size, h.block⟩
theorem undrN {B m : Nat} {w w' : World} (h : Below B (w.drewN m) w') : Below B w w' := ⟨h.os, h.tape, h.output, h.size, h.block⟩
def jumpsE (l : List Smp) (n d : Int) : Int := orE (serErr l) (rateErr n d)
def jumpsR (l : List Smp) (n d : Int) : List Int := if jumpsE l n d = 0 then jumpsF l n d none 0 else []
theorem serErr_vt {l : List Smp} (h : serErr l = 0) (i : Nat) : (-1000000 ≤ (atS l i).v ∧ (atS l i).v ≤ 1000000) ∧ (0 ≤ (atS l i).t ∧ (atS l i).t ≤ 345686399999) := by
  obtain ⟨_, hall⟩ := serErr_good h
  rcases Nat.lt_or_ge i l.length with hi | hi
  · rw [← atS_eq l i hi]; have := smpErr_good (hall _ (List.getElem_mem hi)); exact ⟨this.2.2.1, this.1⟩
  · simp [atS, List.getD_eq_getElem?_getD, List.getElem?_eq_none hi]
theorem rateErr_good {n d : Int} (h : rateErr n d = 0) : lowB n d = true ∧ (0 ≤ n ∧ n ≤ 1000000) ∧ (1 ≤ d ∧ d ≤ 1000000) := by
  unfold rateErr at h
  split at h; · omega
  split at h; · omega
  rename_i h1 h2
  have h3 : lowB n d = true := by
    rcases Bool.eq_false_or_eq_true (lowB n d) with h | h
    · exact h
    · exact absurd (.inl h) h1
  have h4 : 0 < d := by simp [lowB] at h3; exact h3.1
  exact ⟨h3, by omega, by omega⟩

set_option maxRecDepth 100000 in
set_option maxHeartbeats 4000000 in
theorem jumps_ok (v : Value) (l : List Smp) (n d : Int) (w : World) (hR : RdS w 27 v l) (hS : serErr l = 0) (hF : rateErr n d = 0) :
    Calls Try.prog 25 #[v, .agg #[.int .i64 n, .int .i64 d]] w fun e w' => ∃ v', e = .returned (.tuple #[v', .int .i64 0]) ∧ RdI w' v' (jumpsF l n d none 0) ∧ Below w.heap.size w w' := by
  obtain ⟨hlw, hn, hd⟩ := rateErr_good hF
  have hat := serErr_vt hS
  have hlong := (serErr_good hS).1
  have hS' : (serErr l != 0) = false := by simpa using hS
  have hB := Blk.new w 48 #[.int .i64 n, .int .i64 d]
  have HB := Lib.hid hB
  have HS := Lib.hid hS
  have HAT := Lib.hid hat
  clear hS hat hF hB
  go_enter Try.func25, Try.ntmps25
  go_wp2_with fail
  refine (checkSeries_any v l _ (Rd.alloc hR _)).mono ?_
  rintro e w1 ⟨rfl, hb1⟩
  have hbf1 : Blk w1 w.heap.size 48 #[.int .i64 n, .int .i64 d] := HB.out.below hb1 (by simp)
  have hbw1 : Below w.heap.size w w1 := ((Below.refl _ w).alloc (Nat.le_refl _) _).trans (hb1.mono (by simp))
  have c0 : w1.cell? ⟨w.heap.size, 0, none⟩ = some (.int .i64 n) := hbf1.cell 0
  have c1 : w1.cell? ⟨w.heap.size, 1, none⟩ = some (.int .i64 d) := hbf1.cell 1
  have HBF1 := Lib.hid hbf1
  clear hb1 hbf1
  go_wp2_with fail
  refine (lowest_any n d _ (by omega) (by omega)).mono ?_
  rintro e w2 ⟨rfl, hb2⟩
  have hbf2 : Blk w2 w.heap.size 48 #[.int .i64 n, .int .i64 d] := HBF1.out.below hb2 HBF1.out.lt
  have hbw2 : Below w.heap.size w w2 := hbw1.trans (hb2.mono hbw1.size)
  have hlt2 : w.heap.size < w2.heap.size := hbf2.lt
  have d0 : w2.cell? ⟨w.heap.size, 0, none⟩ = some (.int .i64 n) := hbf2.cell 0
  have d1 : w2.cell? ⟨w.heap.size, 1, none⟩ = some (.int .i64 d) := hbf2.cell 1
  have HBF2 := Lib.hid hbf2
  have hR2 : RdS w2 27 v l := Rd.below hR hbw2
  obtain ⟨hlen1, pa, ca, rfl, na1, na2, ca3⟩ := hR2
  have HR2 := Lib.hid (show RdS w2 27 (.slice pa l.length ca) l from ⟨hlen1, pa, ca, rfl, na1, na2, ca3⟩)
  clear hb2 hbf2 c0 c1 hlen1 ca3 hbw1
  go_wp2_with fail
  go_loopw [7, 8, 34] (fun sv sl si wr => ∃ (j : Nat) (acc : List Int) (last : Option Nat), j ≤ l.length ∧ si = .int .i64 (j : Int) ∧ sl = .int .i64 (lastV last) ∧ (∀ p, last = some p → p < j) ∧ wr.ownsRow w2.heap.size 3 1 sv acc.length (acc.map (Value.int .i64)) ∧ acc ++ jumpsF l n d last j = jumpsF l n d none 0 ∧ acc.length ≤ j ∧ Below w2.heap.size w2 wr) (fun _ _ si _ => l.length - (intOf si).toNat)
  case atStart => exact ⟨0, [], none, by omega, rfl, rfl, by simp, World.ownsRow_nil _ _ _ _, rfl, by simp, Below.refl _ _⟩
  case round =>
    obtain ⟨j, acc, last, hj, rfl, rfl, hlast, hown, hacc, hal, hbr⟩ := hrel
    have HACC := Lib.hid hacc
    clear hacc
    have hwz := hbr.size
    have hltr : w.heap.size < wr.heap.size := by omega
    have e0 : wr.cell? ⟨w.heap.size, 0, none⟩ = some (.int .i64 n) := (HBF2.out.below hbr hlt2).cell 0
    have e1 : wr.cell? ⟨w.heap.size, 1, none⟩ = some (.int .i64 d) := (HBF2.out.below hbr hlt2).cell 1
    by_cases hlt : j < l.length
    · have hRr : RdS wr 27 (.slice pa l.length ca) l := Rd.below HR2.out hbr
      obtain ⟨b, off, c, hv, hc1, hc2, hblt, hcell⟩ := RdS.at_ hRr (by omega)
      simp only [Value.slice.injEq, true_and] at hv
      obtain ⟨rfl, rfl⟩ := hv
      obtain ⟨c0, c1, c2⟩ := hcell j hlt
      have HC := Lib.hid hcell
      unfold maxLen at hc2
      have tv := HAT.out j
      by_cases hq : (atS l j).q = 2
      · have hb := fun last => jumpsF_bad l n d last j hlt hq
        have hq' : ((atS l j).q == 2) = true := by simpa using hq
        generalize atS l j = x at *
        have HBAD := Lib.hid hb
        clear hq hb hcell hRr
        go_wp2_with fail
        go_roundw
        case rel => exact ⟨j + 1, acc, last, by omega, by go_num, rfl, fun p hp => by have := hlast p hp; omega, hown.alloc _, by rw [← HACC.out, HBAD.out], by omega, hbr.alloc hwz _⟩
        case measure => simp [intOf]; omega
      · have hq' : ((atS l j).q == 2) = false := by simpa using hq
        rcases last with _ | p
        · have hb := jumpsF_first l n d j hlt hq
          generalize atS l j = x at *
          have HFST := Lib.hid hb
          clear hq hb hcell hRr
          unfold lastV
          go_wp2_with fail
          go_quiet (fail)
          go_wp2_with fail
          go_roundw
          case rel => exact ⟨j + 1, acc, some j, by omega, by go_num, rfl, fun p hp => by injection hp with hp; omega, hown.alloc _, by rw [← HACC.out, HFST.out], by omega, bdrewN (hbr.alloc hwz _) _⟩
          case measure => simp [intOf]; omega
        · have hpj := hlast p rfl
          obtain ⟨p0, p1, p2⟩ := hcell p (by omega)
          have hb := jumpsF_next l n d p j hlt hq
          have tvp := HAT.out p
          have hfa := faster_any (atS l p) (atS l j) n d
          have hpl : (p : Int) < (l.length : Int) := by omega
          generalize atS l j = x at *
          generalize atS l p = y at *
          have HNXT := Lib.hid hb
          have HFA := Lib.hid hfa
          clear hq hb hcell hRr hfa
          unfold lastV
          go_wp2_with fail
          go_region_with (go_at_call 69; refine (HFA.out _ tvp.1 tv.1 tvp.2 tv.2 hn hd).mono ?_; rintro e w5 ⟨rfl, hb5⟩)
          all_goals
            have hb5' : Below (wr.alloc (.cells #[.int .i64 x.t, .int .i64 x.v, .int .i64 x.q] 27)).heap.size (wr.alloc (.cells #[.int .i64 x.t, .int .i64 x.v, .int .i64 x.q] 27)) w5 := by first | exact undr hb5 | exact undrN hb5
            have hbr5 : Below w2.heap.size w2 w5 := (hbr.alloc hwz _).trans (hb5'.mono (by simp; omega))
            have hown5 : w5.ownsRow w2.heap.size 3 1 u7 acc.length (acc.map (Value.int .i64)) := own_keep (hown.alloc _) fun b _ _ hh => hb5'.block b (lt_of_heap hh)
            have hwz5 := hbr5.size
            clear hb5 hb5' c0 c1 c2 p0 p1 p2 e0 e1
            generalize fastB n d y x = fb at *
            cases fb
            · go_wp2_with fail
              go_roundw
              case rel => exact ⟨j + 1, acc, some j, by omega, by go_num, rfl, fun p hp => by injection hp with hp; omega, hown5, by rw [← HACC.out, HNXT.out]; rfl, by omega, hbr5⟩
              case measure => simp [intOf]; omega
            · go_wp2_with (at_builtin; refine wpList_append_num rfl (.tmp 53) (.tmp 55) rfl w2.heap.size u7 acc.length acc rfl (by exact hown5.alloc _) w5.heap.size rfl (j : Int) (by exact Blk.new _ _ _) (by omega) (by simp; omega) ?_; intro v6 w6 hown6 hgrow6)
              have hbr6 : Below w2.heap.size w2 w6 := (hbr5.alloc hwz5 _).trans (below_grown (hown5.alloc _) (by simp; omega) hgrow6)
              clear hgrow6
              go_roundw
              case rel => exact ⟨j + 1, acc ++ [(j : Int)], some j, by omega, by go_num, rfl, fun p hp => by injection hp with hp; omega, by rw [List.length_append]; exact hown6, by rw [← HACC.out, HNXT.out]; simp, by simp; omega, hbr6⟩
              case measure => simp [intOf]; omega
    · obtain rfl : j = l.length := by omega
      have hfin : acc = jumpsF l n d none 0 := by have := HACC.out; rw [jumpsF_end l n d last l.length (Nat.le_refl _)] at this; simpa using this
      have HFIN := Lib.hid hfin
      have hrd : RdI wr u7 acc := by have := Rd.of_own hown; exact this
      clear hfin hown
      go_wp2_with fail
      go_ret2
      refine ⟨u7, rfl, ?_, hbw2.trans (hbr.mono hbw2.size)⟩
      rw [← HFIN.out]; exact hrd
end Go.Proofs.Ytjkncmhmmafmjaa
