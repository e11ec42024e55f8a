/- ComparedOf (the reference), for right series and a right window. -/
import Derived.Test.YtgbnjbbjgkfefaaCpm
import Derived.Deep.DeepCutAuto
namespace Go.Proofs.Ytgbnjbbjgkfefaa
open Go.RowKit
set_option linter.unusedVariables false
set_option linter.unusedSimpArgs false

set_option maxRecDepth 100000 in
set_option maxHeartbeats 4000000 in
theorem comparedOf_any (va vb : Value) (la lb : List Smp) (f t W : Int) (w : World) (hRa : RdS w 71 va la) (hRb : RdS w 71 vb lb) (hSa : serErr la = 0) (hSb : serErr lb = 0) (hW : 0 ≤ f ∧ f ≤ t ∧ t ≤ 345686400000) :
    Calls Try.prog 74 #[va, vb, .agg #[.int .i64 f, .int .i64 t], .int .i64 W] w fun e w' => e = .returned (.tuple #[.int .i64 (cmpV la lb f t W).1, .int .i64 (cmpV la lb f t W).2]) ∧ Below w.heap.size w w' := by
  have hbw : Below w.heap.size w (w.alloc (.cells #[.int .i64 f, .int .i64 t] 76)) := (Below.refl _ w).alloc (Nat.le_refl _) _
  have hva := valuedR_any va la f t _ (Rd.alloc hRa (.cells #[.int .i64 f, .int .i64 t] 76)) hSa hW
  have hlonga := (serErr_good hSa).1
  have hlongb := (serErr_good hSb).1
  have hvl := valL_long la f t
  have hok := valL_ok (f := f) (t := t) hSa
  have hag : cmpV la lb f t W = cmpS W lb (valL la f t) := rfl
  rw [hag]
  clear hag
  generalize valL la f t = R at *
  have HVA := Lib.hid hva
  have HOK := Lib.hid hok
  have HRB := Lib.hid hRb
  clear hva hRa hRb hok
  go_enter Try.func74, Try.ntmps74
  go_wp2_with fail
  refine HVA.out.mono ?_
  rintro e w1 ⟨vr, rfl, hrd, hb1⟩
  obtain ⟨pr, cr, rfl⟩ := hrd.lenv
  have hb := hbw.trans (hb1.mono hbw.size)
  have HRD := Lib.hid hrd
  clear HVA hbw hb1 hrd
  go_wp2_with fail
  go_loopw [8, 9, 18] (fun s g i wr => ∃ k : Nat, k ≤ R.length ∧ i = .int .i64 (k : Int) ∧ s = .int .i64 (cmpS W lb (R.take k)).1 ∧ g = .int .i64 (cmpS W lb (R.take k)).2 ∧ Below w1.heap.size w1 wr) (fun _ _ i _ => R.length - (intOf i).toNat)
  case atStart => exact ⟨0, by omega, rfl, rfl, rfl, Below.refl _ _⟩
  case round =>
    obtain ⟨k, hk, rfl, rfl, rfl, hbr⟩ := hrel
    have hbk := cmpS_ok (W := W) hSb hW.1 hW.2.2 (R.take k) (fun x hx => HOK.out x (List.mem_of_mem_take hx))
    by_cases hkl : k < R.length
    · have hRr : RdStr wr _ R := Rd.below HRD.out hbr
      obtain ⟨b, off, c, hv, hc1, hc2, hblt, hcell⟩ := RdStr.at_ hRr (by omega)
      cases hv
      unfold maxLen at hc2
      obtain ⟨c0, c1, c2, c3, c4⟩ := hcell k hkl
      have hx := HOK.out _ (atT_mem R k hkl)
      unfold StrOk at hx
      have HT := Lib.hid (cmpS_take W lb R k hkl)
      rw [List.length_take] at hbk
      have hbk := hbk.mono (show ((min k R.length : Nat) : Int) * 5000 ≤ (k : Int) * 5000 by omega)
      generalize atT R k = x at *
      generalize cmpS W lb (R.take k) = A at *
      have hba := hbr.alloc hbr.size (.cells #[.int .i64 x.a, .int .i64 x.b, .int .i64 x.s.t, .int .i64 x.s.v, .int .i64 x.s.q] 175)
      have bX := Blk.new wr 175 #[.int .i64 x.a, .int .i64 x.b, .int .i64 x.s.t, .int .i64 x.s.v, .int .i64 x.s.q]
      have hbB := hb.trans (hba.mono hb.size)
      have hvb := valuedR_any vb lb x.a x.b (wr.alloc (.cells #[.int .i64 x.a, .int .i64 x.b, .int .i64 x.s.t, .int .i64 x.s.v, .int .i64 x.s.q] 175)) (Rd.below HRB.out hbB) hSb ⟨by omega, by omega, by omega⟩
      have hylong := valL_long lb x.a x.b
      have hyok := valL_ok (f := x.a) (t := x.b) hSb
      generalize valL lb x.a x.b = Y at *
      have HVB := Lib.hid hvb
      have HYOK := Lib.hid hyok
      clear hcell hRr hvb hyok
      go_wp2_with fail
      generalize wr.alloc (.cells #[.int .i64 x.a, .int .i64 x.b, .int .i64 x.s.t, .int .i64 x.s.v, .int .i64 x.s.q] 175) = w5 at *
      refine HVB.out.mono ?_
      rintro e w6 ⟨vy, rfl, hry, hb6⟩
      obtain ⟨py, cy, rfl⟩ := hry.lenv
      have bX6 := bX.below hb6 bX.lt
      have hbr6 := hba.trans (hb6.mono hba.size)
      have HRY := Lib.hid hry
      generalize wr.heap.size = n5 at *
      clear HVB bX hb6 hry hba hbB c0 c1 c2 c3 c4 hblt
      go_wp2_with fail
      go_loopw [8, 9, 27] (fun s g i wr2 => ∃ j : Nat, j ≤ Y.length ∧ i = .int .i64 (j : Int) ∧ s = .int .i64 (cmpI W x.s.v A (Y.take j)).1 ∧ g = .int .i64 (cmpI W x.s.v A (Y.take j)).2 ∧ Below w6.heap.size w6 wr2) (fun _ _ i _ => Y.length - (intOf i).toNat)
      case atStart => exact ⟨0, by omega, rfl, rfl, rfl, Below.refl _ _⟩
      case round =>
        obtain ⟨j, hj, rfl, rfl, rfl, hbr2⟩ := hrel
        have hcj := cmpI_ok (W := W) (xv := x.s.v) (f := x.a) (t := x.b) hbk (by omega) (by omega) (Y.take j) (fun y hy => HYOK.out y (List.mem_of_mem_take hy))
        rw [List.length_take] at hcj
        by_cases hjl : j < Y.length
        · have hRy : RdStr wr _ Y := Rd.below HRY.out hbr2
          obtain ⟨by', offy, cyy, hvy, hcy1, hcy2, hblty, hcelly⟩ := RdStr.at_ hRy (by omega)
          cases hvy
          unfold maxLen at hcy2
          obtain ⟨y0, y1, y2, y3, y4⟩ := hcelly j hjl
          have hy := HYOK.out _ (atT_mem Y j hjl)
          unfold StrOk at hy
          have HTJ := Lib.hid (cmpI_take W x.s.v A Y j hjl)
          have hlg := fun w => rlong_eq (atT Y j).a (atT Y j).b w ⟨by omega, by omega, by omega⟩
          have hX2 := bX6.below hbr2 bX6.lt
          have x3 := hX2.cell 3
          have z1 := hX2.lt
          have hfar := fun w => far_any x.s.v (atT Y j).s.v w (by omega) (by omega)
          have hbz := hbr2.alloc hbr2.size (.cells #[.int .i64 (atT Y j).a, .int .i64 (atT Y j).b, .int .i64 (atT Y j).s.t, .int .i64 (atT Y j).s.v, .int .i64 (atT Y j).s.q] 175)
          have hbz2 := hbz.alloc hbz.size (.cells #[.int .i64 (atT Y j).a, .int .i64 (atT Y j).b] 76)
          have hbz3 := hbz2.alloc hbz2.size (.cells #[.int .i64 (atT Y j).a, .int .i64 (atT Y j).b] 76)
          unfold CmpOk at hcj
          generalize atT Y j = y at *
          generalize cmpI W x.s.v A (Y.take j) = B at *
          have hT1 : cmpT W B x.s.v y.s.v y.a y.b = (B.1 + (y.b - y.a), if W < dist x.s.v y.s.v then B.2 + (y.b - y.a) else B.2) := rfl
          generalize dist x.s.v y.s.v = D at *
          have HT1 := Lib.hid hT1
          have HBZ2 := Lib.hid hbz2
          have HBZ3 := Lib.hid hbz3
          clear hcelly hRy hT1 hbz hbz2 hbz3 hX2
          by_cases hWD : W < D
          · have HD := Lib.hid hWD
            go_wp2_with (first
              | (go_at_call 123; refine (hlg _).mono ?_; rintro e wk ⟨rfl, rfl⟩)
              | (go_at_call 85; refine (hfar _).mono ?_; rintro e wk ⟨rfl, rfl⟩))
            go_roundw
            case rel => exact ⟨j + 1, by omega, by go_num, by rw [HTJ.out, HT1.out], by rw [HTJ.out, HT1.out, if_pos HD.out], HBZ3.out⟩
            case measure => simp [intOf]; omega
          · have HD := Lib.hid hWD
            go_wp2_with (first
              | (go_at_call 123; refine (hlg _).mono ?_; rintro e wk ⟨rfl, rfl⟩)
              | (go_at_call 85; refine (hfar _).mono ?_; rintro e wk ⟨rfl, rfl⟩))
            go_roundw
            case rel => exact ⟨j + 1, by omega, by go_num, by rw [HTJ.out, HT1.out], by rw [HTJ.out, HT1.out, if_neg (by have := HD.out; omega)], HBZ2.out⟩
            case measure => simp [intOf]; omega
        · have hjE : j = Y.length := by omega
          subst hjE
          have HTL := Lib.hid (show Y.take Y.length = Y from List.take_length)
          go_wp2_with fail
          go_roundw
          case rel => exact ⟨k + 1, by omega, by go_num, by rw [HT.out, HTL.out], by rw [HT.out, HTL.out], hbr6.trans (hbr2.mono hbr6.size)⟩
          case measure => simp [intOf]; omega
    · have hkE : k = R.length := by omega
      subst hkE
      rw [List.take_length] at *
      go_wp2_with fail
      go_ret2
      exact ⟨rfl, hb.trans (hbr.mono hb.size)⟩
end Go.Proofs.Ytgbnjbbjgkfefaa
