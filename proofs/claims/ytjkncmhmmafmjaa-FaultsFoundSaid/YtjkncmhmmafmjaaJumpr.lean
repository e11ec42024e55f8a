/- The contract of the reference of Jumps, and of Jumps where it returns an error. -/
import Derived.Test.YtjkncmhmmafmjaaJumps
import Derived.Test.YtjkncmhmmafmjaaWin
namespace Go.Proofs.Ytjkncmhmmafmjaa
open Go.RowKit
set_option linter.unusedVariables false

set_option maxRecDepth 100000 in
set_option maxHeartbeats 4000000 in
theorem jumpsOf_any (v : Value) (l : List Smp) (n d : Int) (w : World) (hR : RdS w 27 v l) (hS : serErr l = 0) (hn : 0 ≤ n ∧ n ≤ 1000000) (hd : 1 ≤ d ∧ d ≤ 1000000) :
    Calls Try.prog 30 #[v, .agg #[.int .i64 n, .int .i64 d]] w fun e w' => ∃ v', e = .returned v' ∧ RdI w' v' (jumpsF l n d none 0) ∧ Below w.heap.size w w' := by
  have hat := serErr_vt hS
  have hlong := (serErr_good hS).1
  have hB := Blk.new w 48 #[.int .i64 n, .int .i64 d]
  have HB := Lib.hid hB
  have HAT := Lib.hid hat
  obtain ⟨hlen1, pa, ca, rfl, na1, na2, ca3⟩ := hR
  have HR := Lib.hid (show RdS w 27 (.slice pa l.length ca) l from ⟨hlen1, pa, ca, rfl, na1, na2, ca3⟩)
  clear hS hat hB hlen1 ca3
  go_enter Try.func30, Try.ntmps30
  go_wp2_with fail
  go_loopw [5, 6, 12] (fun sv sl si wr => ∃ (j : Nat) (acc : List Int) (last : Option Nat), j ≤ l.length ∧ si = .int .i64 (j : Int) ∧ sl = .int .i64 (lastV last) ∧ (∀ p, last = some p → p < j) ∧ wr.ownsRow (w.heap.size + 1) 3 1 sv acc.length (acc.map (Value.int .i64)) ∧ acc ++ jumpsF l n d last j = jumpsF l n d none 0 ∧ acc.length ≤ j ∧ Below (w.heap.size + 1) (w.alloc (.cells #[.int .i64 n, .int .i64 d] 48)) wr) (fun _ _ si _ => l.length - (intOf si).toNat)
  case atStart => exact ⟨0, [], none, by omega, rfl, rfl, by simp, World.ownsRow_nil _ _ _ _, rfl, by simp, Below.refl _ _⟩
  case round =>
    obtain ⟨j, acc, last, hj, rfl, rfl, hlast, hown, hacc, hal, hbr⟩ := hrel
    have HACC := Lib.hid hacc
    clear hacc
    have hbwr : Below w.heap.size w wr := ((Below.refl _ w).alloc (Nat.le_refl _) _).trans (hbr.mono (by omega))
    have hwz : w.heap.size + 1 ≤ wr.heap.size := by have := hbr.size; simpa using this
    have hltr : w.heap.size < wr.heap.size := by omega
    have e0 : wr.cell? ⟨w.heap.size, 0, none⟩ = some (.int .i64 n) := (HB.out.below hbr (by omega)).cell 0
    have e1 : wr.cell? ⟨w.heap.size, 1, none⟩ = some (.int .i64 d) := (HB.out.below hbr (by omega)).cell 1
    by_cases hlt : j < l.length
    · have hRr : RdS wr 27 (.slice pa l.length ca) l := Rd.below HR.out hbwr
      obtain ⟨b, off, c, hv, hc1, hc2, hblt, hcell⟩ := RdS.at_ hRr (by omega)
      simp only [Value.slice.injEq, true_and] at hv
      obtain ⟨rfl, rfl⟩ := hv
      obtain ⟨c0, c1, c2⟩ := hcell j hlt
      have HC := Lib.hid hcell
      unfold maxLen at hc2
      have tv := HAT.out j
      by_cases hq : (atS l j).q = 2
      · have hb := fun last => jumpsF_bad l n d last j hlt hq
        have hq' : ((atS l j).q == 2) = true := by simpa using hq
        generalize atS l j = x at *
        have HBAD := Lib.hid hb
        clear hq hb hcell hRr
        go_wp2_with fail
        go_roundw
        case rel => exact ⟨j + 1, acc, last, by omega, by go_num, rfl, fun p hp => by have := hlast p hp; omega, hown.alloc _, by rw [← HACC.out, HBAD.out], by omega, hbr.alloc hwz _⟩
        case measure => simp [intOf]; omega
      · have hq' : ((atS l j).q == 2) = false := by simpa using hq
        rcases last with _ | p
        · have hb := jumpsF_first l n d j hlt hq
          generalize atS l j = x at *
          have HFST := Lib.hid hb
          clear hq hb hcell hRr
          unfold lastV
          go_wp2_with fail
          go_roundw
          case rel => exact ⟨j + 1, acc, some j, by omega, by go_num, rfl, fun p hp => by injection hp with hp; omega, hown.alloc _, by rw [← HACC.out, HFST.out], by omega, hbr.alloc hwz _⟩
          case measure => simp [intOf]; omega
        · have hpj := hlast p rfl
          obtain ⟨p0, p1, p2⟩ := hcell p (by omega)
          have hb := jumpsF_next l n d p j hlt hq
          have tvp := HAT.out p
          have hpl : (p : Int) < (l.length : Int) := by omega
          generalize atS l j = x at *
          generalize atS l p = y at *
          have hfd : fastB n d y x = decide (n * (x.t - y.t) < max (y.v - x.v) (x.v - y.v) * d) := rfl
          generalize fastB n d y x = fb at *
          have HNXT := Lib.hid hb
          have HFD := Lib.hid hfd
          clear hq hb hcell hRr hfd
          unfold lastV
          have a1 : IntKind.i64.wrap (x.v - y.v) = x.v - y.v := IntWalk.i64_in _ (by omega)
          go_wp2_with fail
          go_quiet (fail)
          clear a1
          have hm2 := mulN_range n (x.t - y.t) 1000000 345686400000 hn (by omega)
          have hDr : -2000000 ≤ x.v - y.v ∧ x.v - y.v ≤ 2000000 := by omega
          generalize hD : x.v - y.v = D at *
          have HD := Lib.hid hD
          clear hD
          have b2 : IntKind.i64.wrap (x.t - y.t) = x.t - y.t := IntWalk.i64_in _ (by omega)
          have b3 : IntKind.i64.wrap (n * (x.t - y.t)) = n * (x.t - y.t) := IntWalk.i64_in _ (by omega)
          rcases Int.lt_or_le D 0 with hneg | hneg
          · obtain ⟨M, rfl⟩ : ∃ M, D = -M := ⟨-D, by omega⟩
            have hm1 := mulP_range d M 1000000 2000000 (by omega) (by omega)
            have hfb : fb = decide (n * (x.t - y.t) < d * M) := by
              have h := HD.out
              rw [HFD.out, show max (y.v - x.v) (-M) = M from by omega, Int.mul_comm M d]
            have HFB := Lib.hid hfb
            clear hfb
            have b1 : IntKind.i64.wrap M = M := IntWalk.i64_in _ (by omega)
            have b4 : IntKind.i64.wrap (d * M) = d * M := IntWalk.i64_in _ (by omega)
            have b5 : -M < M := by omega
            by_cases hcmp : n * (x.t - y.t) < d * M
            · have hfb' : fb = true := by rw [HFB.out]; simpa using hcmp
              have HFB2 := Lib.hid hfb'
              clear hfb'
              go_wp2_with fail
              go_quiet (fail)
              clear b1 b2 b3 b4 b5
              go_wp2_with (at_builtin; refine wpList_append_num rfl (.tmp 49) (.tmp 51) rfl (w.heap.size + 1) u5 acc.length acc rfl (by exact (ownDrewN (hown.alloc _) _).alloc _) (wr.heap.size + 1) rfl (j : Int) (by exact Blk.new1 (World.drewN _ _) _ _ _) (by omega) (by simp; omega) ?_; intro v6 w6 hown6 hgrow6)
              have hbr6 : Below (w.heap.size + 1) (w.alloc (.cells #[.int .i64 n, .int .i64 d] 48)) w6 := ((bdrewN (hbr.alloc hwz _) _).alloc (by simp; omega) _).trans (below_grown ((ownDrewN (hown.alloc _) _).alloc _) (by simp; omega) hgrow6)
              clear hgrow6
              go_roundw
              case rel => exact ⟨j + 1, acc ++ [(j : Int)], some j, by omega, by go_num, rfl, fun p hp => by injection hp with hp; omega, by rw [List.length_append]; exact hown6, by rw [← HACC.out, HNXT.out, HFB2.out]; simp, by simp; omega, hbr6⟩
              case measure => simp [intOf]; omega
            · have hfb' : fb = false := by rw [HFB.out]; simpa using hcmp
              have HFB2 := Lib.hid hfb'
              clear hfb'
              go_wp2_with fail
              go_quiet (fail)
              clear b1 b2 b3 b4 b5
              go_wp2_with fail
              go_roundw
              case rel => exact ⟨j + 1, acc, some j, by omega, by go_num, rfl, fun p hp => by injection hp with hp; omega, ownDrewN (hown.alloc _) _, by rw [← HACC.out, HNXT.out, HFB2.out]; rfl, by omega, bdrewN (hbr.alloc hwz _) _⟩
              case measure => simp [intOf]; omega
          · have hm1 := mulP_range d D 1000000 2000000 (by omega) (by omega)
            have hfb : fb = decide (n * (x.t - y.t) < d * D) := by
              have h := HD.out
              rw [HFD.out, show max (y.v - x.v) D = D from by omega, Int.mul_comm D d]
            have HFB := Lib.hid hfb
            clear hfb
            have b1 : IntKind.i64.wrap (-D) = -D := IntWalk.i64_in _ (by omega)
            have b4 : IntKind.i64.wrap (d * D) = d * D := IntWalk.i64_in _ (by omega)
            have b5 : ¬ D < -D := by omega
            by_cases hcmp : n * (x.t - y.t) < d * D
            · have hfb' : fb = true := by rw [HFB.out]; simpa using hcmp
              have HFB2 := Lib.hid hfb'
              clear hfb'
              go_wp2_with fail
              go_quiet (fail)
              clear b1 b2 b3 b4 b5
              go_wp2_with (at_builtin; refine wpList_append_num rfl (.tmp 49) (.tmp 51) rfl (w.heap.size + 1) u5 acc.length acc rfl (by exact (ownDrewN (hown.alloc _) _).alloc _) (wr.heap.size + 1) rfl (j : Int) (by exact Blk.new1 (World.drewN _ _) _ _ _) (by omega) (by simp; omega) ?_; intro v6 w6 hown6 hgrow6)
              have hbr6 : Below (w.heap.size + 1) (w.alloc (.cells #[.int .i64 n, .int .i64 d] 48)) w6 := ((bdrewN (hbr.alloc hwz _) _).alloc (by simp; omega) _).trans (below_grown ((ownDrewN (hown.alloc _) _).alloc _) (by simp; omega) hgrow6)
              clear hgrow6
              go_roundw
              case rel => exact ⟨j + 1, acc ++ [(j : Int)], some j, by omega, by go_num, rfl, fun p hp => by injection hp with hp; omega, by rw [List.length_append]; exact hown6, by rw [← HACC.out, HNXT.out, HFB2.out]; simp, by simp; omega, hbr6⟩
              case measure => simp [intOf]; omega
            · have hfb' : fb = false := by rw [HFB.out]; simpa using hcmp
              have HFB2 := Lib.hid hfb'
              clear hfb'
              go_wp2_with fail
              go_quiet (fail)
              clear b1 b2 b3 b4 b5
              go_wp2_with fail
              go_roundw
              case rel => exact ⟨j + 1, acc, some j, by omega, by go_num, rfl, fun p hp => by injection hp with hp; omega, ownDrewN (hown.alloc _) _, by rw [← HACC.out, HNXT.out, HFB2.out]; rfl, by omega, bdrewN (hbr.alloc hwz _) _⟩
              case measure => simp [intOf]; omega
    · obtain rfl : j = l.length := by omega
      have hfin : acc = jumpsF l n d none 0 := by have := HACC.out; rw [jumpsF_end l n d last l.length (Nat.le_refl _)] at this; simpa using this
      have HFIN := Lib.hid hfin
      have hrd : RdI wr u5 acc := by have := Rd.of_own hown; exact this
      clear hfin hown
      go_wp2_with fail
      go_ret
      refine ⟨u5, rfl, ?_, hbwr⟩
      rw [← HFIN.out]; exact hrd

theorem jumps_err (v : Value) (l : List Smp) (n d : Int) (w : World) (hR : RdS w 27 v l) (hn : -9223372036854775808 ≤ n ∧ n ≤ 9223372036854775807) (hd : -9223372036854775808 ≤ d ∧ d ≤ 9223372036854775807) (hE : jumpsE l n d ≠ 0) :
    Calls Try.prog 25 #[v, .agg #[.int .i64 n, .int .i64 d]] w fun e w' => e = .returned (.tuple #[.slice none 0 0, .int .i64 (jumpsE l n d)]) ∧ Below w.heap.size w w' := by
  have hB := Blk.new w 48 #[.int .i64 n, .int .i64 d]
  have HB := Lib.hid hB
  clear hB
  by_cases hS : serErr l = 0
  · have hS' : (serErr l != 0) = false := by simpa using hS
    have hF : jumpsE l n d = rateErr n d := by rw [jumpsE, orE, if_neg (by rw [hS]; simp)]
    rw [hF] at hE ⊢
    have hfd : rateErr n d = if lowB n d = false ∨ n < 0 then 3 else if 1000000 < n ∨ 1000000 < d then 1 else 0 := rfl
    clear hS hF
    generalize hG : rateErr n d = G at *
    clear hG
    have HFD := Lib.hid hfd
    have HE := Lib.hid hE
    clear hfd hE
    go_enter Try.func25, Try.ntmps25
    go_wp2_with fail
    refine (checkSeries_any v l _ (Rd.alloc hR _)).mono ?_
    rintro e w1 ⟨rfl, hb1⟩
    have hbf1 : Blk w1 w.heap.size 48 #[.int .i64 n, .int .i64 d] := HB.out.below hb1 (by simp)
    have hbw1 : Below w.heap.size w w1 := ((Below.refl _ w).alloc (Nat.le_refl _) _).trans (hb1.mono (by simp))
    have c0 : w1.cell? ⟨w.heap.size, 0, none⟩ = some (.int .i64 n) := hbf1.cell 0
    have c1 : w1.cell? ⟨w.heap.size, 1, none⟩ = some (.int .i64 d) := hbf1.cell 1
    have HBF1 := Lib.hid hbf1
    clear hb1 hbf1
    go_wp2_with fail
    refine (lowest_any n d _ hn hd).mono ?_
    rintro e w2 ⟨rfl, hb2⟩
    have hbf2 : Blk w2 w.heap.size 48 #[.int .i64 n, .int .i64 d] := HBF1.out.below hb2 HBF1.out.lt
    have hbw2 : Below w.heap.size w w2 := hbw1.trans (hb2.mono hbw1.size)
    have d0 : w2.cell? ⟨w.heap.size, 0, none⟩ = some (.int .i64 n) := hbf2.cell 0
    have d1 : w2.cell? ⟨w.heap.size, 1, none⟩ = some (.int .i64 d) := hbf2.cell 1
    clear hb2 hbf2 c0 c1 hbw1
    by_cases hl : lowB n d = true
    · by_cases hn0 : n < 0
      · have hG : G = 3 := by rw [HFD.out, if_pos (.inr hn0)]
        have HG := Lib.hid hG
        clear hG
        go_wp2_with fail
        go_ret2
        exact ⟨by rw [HG.out]; rfl, hbw2⟩
      · by_cases h1 : 1000000 < n
        · have hG : G = 1 := by rw [HFD.out, hl, if_neg (by simp; omega), if_pos (.inl h1)]
          have HG := Lib.hid hG
          clear hG
          go_wp2_with fail
          go_ret2
          exact ⟨by rw [HG.out]; rfl, hbw2⟩
        · by_cases h2 : 1000000 < d
          · have hG : G = 1 := by rw [HFD.out, hl, if_neg (by simp; omega), if_pos (.inr h2)]
            have HG := Lib.hid hG
            clear hG
            go_wp2_with fail
            go_ret2
            exact ⟨by rw [HG.out]; rfl, hbw2⟩
          · exact absurd (by rw [HFD.out, hl, if_neg (by simp; omega), if_neg (by omega)]) HE.out
    · have hl' : lowB n d = false := by simpa using hl
      have hG : G = 3 := by rw [HFD.out, if_pos (.inl hl')]
      have HG := Lib.hid hG
      clear hG hl
      go_wp2_with fail
      go_ret2
      exact ⟨by rw [HG.out]; rfl, hbw2⟩
  · have hS' : (serErr l != 0) = true := by simpa using hS
    have hF : jumpsE l n d = serErr l := by rw [jumpsE, orE, if_pos hS]
    have HF := Lib.hid hF
    clear hS hF hE
    go_enter Try.func25, Try.ntmps25
    go_wp2_with fail
    refine (checkSeries_any v l _ (Rd.alloc hR _)).mono ?_
    rintro e w1 ⟨rfl, hb1⟩
    go_wp2_with fail
    go_ret2
    exact ⟨by rw [HF.out]; rfl, ((Below.refl _ w).alloc (Nat.le_refl _) _).trans (hb1.mono (by simp))⟩
end Go.Proofs.Ytjkncmhmmafmjaa
