/- The contract of the reference's ReportOf, walked. -/
import Derived.Test.YtgbnjbbjgkfefaaRepr
namespace Go.Proofs.Ytgbnjbbjgkfefaa
open Go.RowKit
set_option linter.unusedVariables false
set_option linter.unusedSimpArgs false

/-- What a round of ReportOf keeps. -/
structure RofK (w1 : World) (B0 : Nat) (d gp : Int) (o : Value) (out : List Int) (w : World) : Prop where
  own : w.ownsRow w1.heap.size 3 1 o out.length (out.map (Value.int .i64))
  bl : Below w1.heap.size w1 w
  be : Blk w B0 27 #[.int .i64 d, .int .i64 gp]
theorem RofK.step {w1 w w' : World} {B0 : Nat} {d gp : Int} {o : Value} {out : List Int} (h : RofK w1 B0 d gp o out w) (hb : Below w.heap.size w w') : RofK w1 B0 d gp o out w' :=
  ⟨own_keep h.own fun b _ _ hh => hb.block b (lt_of_heap hh), h.bl.trans (hb.mono h.bl.size), h.be.below hb h.be.lt⟩
theorem RofK.alloc {w1 w : World} {B0 : Nat} {d gp : Int} {o : Value} {out : List Int} (h : RofK w1 B0 d gp o out w) (x : Obj) : RofK w1 B0 d gp o out (w.alloc x) := h.step ((Below.refl _ _).alloc (Nat.le_refl _) _)
theorem RofK.drewN {w1 w : World} {B0 : Nat} {d gp : Int} {o : Value} {out : List Int} (h : RofK w1 B0 d gp o out w) (m : Nat) : RofK w1 B0 d gp o out (w.drewN m) :=
  h.step (show Below w.heap.size w (w.drewN m) from ⟨rfl, rfl, rfl, Nat.le_refl _, fun _ _ => rfl⟩)
/-- An append leaves what a round keeps, with one number more. -/
theorem RofK.grown {w1 w w' : World} {B0 : Nat} {d gp : Int} {o o' : Value} {out : List Int} (h : RofK w1 B0 d gp o out w) (x : Int) (hB0 : B0 < w1.heap.size) (hg : w.grownBy w' o.ownBlock) (ho : w'.ownsRow w1.heap.size 3 1 o' (out.length + 1) ((out ++ [x]).map (Value.int .i64))) : RofK w1 B0 d gp o' (out ++ [x]) w' :=
  ⟨by simpa using ho, h.bl.trans (below_grown h.own h.bl.size hg), h.be.below (below_grown h.own h.bl.size hg) hB0⟩

set_option maxRecDepth 100000 in
set_option maxHeartbeats 4000000 in
theorem reportOf_any (d gp : Int) (v : Value) (l : List Smp) (w : World) (hR : RdS w 71 v l) (hlong : l.length ≤ 5000) (hfit : Fit l) :
    Calls Try.prog 21 #[.agg #[.int .i64 d, .int .i64 gp], v] w fun e w' => ∃ vr, e = .returned vr ∧ RdI w' vr (reported d gp l) ∧ Below w.heap.size w w' := by
  obtain ⟨pa, ca, rfl⟩ := hR.lenv
  have hB0 := Blk.new w 27 #[.int .i64 d, .int .i64 gp]
  have hR1 : RdS _ 71 (.slice pa l.length ca) l := Rd.alloc hR (.cells #[.int .i64 d, .int .i64 gp] 27)
  have hbw : Below w.heap.size w (w.alloc (.cells #[.int .i64 d, .int .i64 gp] 27)) := (Below.refl _ w).alloc (Nat.le_refl _) _
  have hsz : (w.alloc (.cells #[.int .i64 d, .int .i64 gp] 27)).heap.size = w.heap.size + 1 := by simp
  go_enter Try.func21, Try.ntmps21
  go_wp2_with fail
  generalize w.alloc (.cells #[.int .i64 d, .int .i64 gp] 27) = w1 at *
  have HFIT := Lib.hid hfit
  have HB0 := Lib.hid hB0
  have HR1 := Lib.hid hR1
  have HBW := Lib.hid hbw
  have hlt0 : w.heap.size < w1.heap.size := by omega
  clear hfit hB0 hR hR1 hbw
  go_loopw [5, 6, 12] (fun o lastv i wr => ∃ j z : Nat, j ≤ l.length ∧ i = .int .i64 (j : Int) ∧ lastv = .int .i64 (z : Int) ∧ (j < l.length → z = refLast d gp l j) ∧ RofK w1 w.heap.size d gp o (refOut d gp l j) wr) (fun _ _ i _ => l.length - (intOf i).toNat)
  case atStart => exact ⟨0, 0, by omega, rfl, rfl, fun _ => rfl, by rw [refOut_zero]; exact World.ownsRow_nil _ _ _ _, Below.refl _ _, HB0.out⟩
  case round =>
    obtain ⟨j, z, hj, rfl, rfl, hz, hk⟩ := hrel
    have hl1 := repTo_last d gp l j
    have hl2 := repTo_long d gp l j
    by_cases hlt : j < l.length
    · have hRr : RdS wr _ _ l := HR1.out.below hk.bl (Nat.le_refl _)
      obtain ⟨b, off, c, hv, hc1, hc2, hblt, hcell⟩ := RdS.at_ hRr (by omega)
      cases hv
      unfold maxLen at hc2
      obtain ⟨c0, c1, c2⟩ := hcell j hlt
      have hfj := HFIT.out j hlt
      have hz' := hz hlt
      have hcur : refOut d gp l j = (repTo d gp l j).2 := by unfold refOut; rw [if_pos hlt]
      rw [hcur] at hk
      have hszr := hk.bl.size
      rcases Nat.eq_zero_or_pos j with hj0 | hj0
      · subst hj0
        obtain rfl : z = 0 := hz'
        have hexc := refOut_exc d gp l 0 hlt (.inl rfl)
        have hel := repTo_excLast d gp l 0 (.inl rfl)
        simp only [Nat.zero_mul, Nat.add_zero] at c0 c1 c2
        have hk' : RofK w1 w.heap.size d gp u5 [] wr := hk
        have hexc' : refOut d gp l (0 + 1) = [] ++ [(0 : Int)] := by rw [hexc]; rfl
        have HEL := Lib.hid hel
        have HEX := Lib.hid hexc'
        clear hexc hexc' hel hk hcur hl1 hl2 hz hcell hRr
        have hoo := ((hk'.alloc (.cells #[.int .i64 (atS l 0).t, .int .i64 (atS l 0).v, .int .i64 (atS l 0).q] 71)).alloc (.cells #[.int .i64 (atS l 0).t, .int .i64 (atS l 0).v, .int .i64 (atS l 0).q] 71)).alloc (.cells #[.int .i64 0] 3)
        generalize atS l 0 = x at *
        have HOO := Lib.hid hoo
        clear hoo
        go_wp2_with (at_builtin; go_loud (refine wpList_append_num rfl (.tmp 67) (.tmp 69) rfl w1.heap.size u5 0 [] rfl (by exact HOO.out.own) (wr.heap.size + 2) rfl 0 (by exact Blk.new2 _ _ _ _ _) (by omega) (by simp; omega) ?_); intro v1 wd hown1 hgrow1)
        have hkd := HOO.out.grown 0 hlt0 hgrow1 hown1
        clear hown1 hgrow1
        go_roundw
        case rel => exact ⟨1, 0, by omega, rfl, rfl, fun _ => by unfold refLast; rw [if_neg (by omega)]; have := HEL.out; simp at this; omega, by rw [HEX.out]; exact hkd⟩
        case measure => simp [intOf]; omega
      · have hzr : (repTo d gp l j).1 = (z : Int) := by have := hl1.2.2 hj0; unfold refLast at hz'; rw [if_neg (by omega)] at hz'; omega
        have hzj : z < j := by omega
        obtain ⟨z0, z1, z2⟩ := hcell z (by omega)
        have hfz := HFIT.out z (by omega)
        have hhas := repTo_has d gp l j hj0
        have hexc := refOut_exc d gp l j hlt
        have hel := repTo_excLast d gp l j
        have hend := fun h => refOut_end d gp l j h hj0
        have hgo := fun h => refOut_go d gp l j h hj0
        rw [hzr, Int.toNat_natCast] at hexc hel hend hgo
        rw [hzr] at hhas
        have hj0' : ((j : Int) == 0) = false := by simp; omega
        have hdx : excB d gp (atS l z) (atS l j) = decide ((atS l j).q ≠ (atS l z).q ∨ d < dist (atS l j).v (atS l z).v ∨ gp ≤ (atS l j).t - (atS l z).t) := rfl
        have hlong2 : (repTo d gp l j).2.length ≤ 10000 := by omega
        generalize hout : (repTo d gp l j).2 = out at *
        generalize atS l z = x at *
        generalize atS l j = y at *
        generalize excB d gp x y = E at *
        have HDX := Lib.hid hdx
        have HEX := Lib.hid hexc
        have HEL := Lib.hid hel
        have HEND := Lib.hid hend
        have HGO := Lib.hid hgo
        have HHAS := Lib.hid hhas
        have HZR := Lib.hid hzr
        have HK := Lib.hid hk
        have hbo : b < wr.heap.size := hblt
        have hb0r : w.heap.size < wr.heap.size := by omega
        have e0 : wr.cell? ⟨w.heap.size, 0, none⟩ = some (.int .i64 d) := hk.be.cell 0
        have e1 : wr.cell? ⟨w.heap.size, 1, none⟩ = some (.int .i64 gp) := hk.be.cell 1
        clear hdx hexc hel hend hgo hhas hzr hk hcur hl1 hl2 hz hcell hRr hz' hout
        have i1 : (0 : Int) ≤ (z : Int) := by omega
        have i2 : (z : Int) < (l.length : Int) := by omega
        go_upto_region 8 with fail
        go_cut [24] (fun s24 wx => s24 = .bool E ∧ ∃ m, wx = ((wr.alloc (.cells #[.int .i64 y.t, .int .i64 y.v, .int .i64 y.q] 71)).alloc (.cells #[.int .i64 x.t, .int .i64 x.v, .int .i64 x.q] 71)).drewN m)
        case first =>
          have hD := fun w => far_any y.v x.v w hfj.2 hfz.2
          have hdr : 0 ≤ dist y.v x.v ∧ dist y.v x.v ≤ 8000000000000000000 := by unfold dist; omega
          generalize dist y.v x.v = D at *
          have hwr : IntKind.i64.wrap (y.t - x.t) = y.t - x.t := IntWalk.i64_in _ (by omega)
          by_cases hq : y.q = x.q
          · have hq' : (y.q != x.q) = false := by simpa using hq
            by_cases hd : d < D
            · have hd' : decide (d < D) = true := by simpa using hd
              have HE := Lib.hid (show E = true by rw [HDX.out]; simp [hd])
              clear hq hd
              go_quiet ((go_at_call 85; exact quiet_eq (hD _)))
              go_wp2_with fail
              go_meet
              exact ⟨by rw [HE.out], _, rfl⟩
            · have hd' : decide (d < D) = false := by simpa using hd
              have HE := Lib.hid (show E = decide (gp ≤ y.t - x.t) by rw [HDX.out]; simp [hq, hd])
              clear hq hd
              go_quiet ((go_at_call 85; exact quiet_eq (hD _)))
              go_wp2_with fail
              go_meet
              exact ⟨by rw [HE.out], _, rfl⟩
          · have hq' : (y.q != x.q) = true := by simpa using hq
            have HE := Lib.hid (show E = true by rw [HDX.out]; simp [hq])
            clear hq
            go_quiet (fail)
            go_wp2_with fail
            go_meet
            exact ⟨by rw [HE.out], _, rfl⟩
        case rest =>
          obtain ⟨rfl, m, rfl⟩ := hcut
          have hk2 := ((HK.out.alloc (.cells #[.int .i64 y.t, .int .i64 y.v, .int .i64 y.q] 71)).alloc (.cells #[.int .i64 x.t, .int .i64 x.v, .int .i64 x.q] 71)).drewN m
          generalize ((wr.alloc (.cells #[.int .i64 y.t, .int .i64 y.v, .int .i64 y.q] 71)).alloc (.cells #[.int .i64 x.t, .int .i64 x.v, .int .i64 x.q] 71)).drewN m = wm at *
          have hszm := hk2.bl.size
          have HK2 := Lib.hid hk2
          clear hk2 HK e0 e1
          cases E
          · by_cases hje : j + 1 = l.length
            · have hje' : ((j : Int) == (l.length : Int) - 1) = true := by simp; omega
              have HR := Lib.hid (HEND.out hje rfl)
              have ho := HK2.out.alloc (.cells #[.int .i64 (j : Int)] 3)
              have HO := Lib.hid ho
              have hso := ho.bl.size
              clear ho
              go_wp2_with (at_builtin; go_loud (refine wpList_append_num rfl (.tmp 67) (.tmp 69) rfl w1.heap.size u5 out.length out rfl (by exact HO.out.own) wm.heap.size rfl (j : Int) (by exact Blk.new _ _ _) (by omega) (by exact hso) ?_); intro v1 wd hown1 hgrow1)
              have hkd := HO.out.grown _ hlt0 hgrow1 hown1
              clear hown1 hgrow1
              go_roundw
              case rel => exact ⟨j + 1, z, by omega, by go_num, rfl, fun h => by omega, by rw [HR.out]; exact hkd⟩
              case measure => simp [intOf]; omega
            · have hje' : ((j : Int) == (l.length : Int) - 1) = false := by simp; omega
              have HR := Lib.hid (HGO.out (by omega) rfl)
              clear hje
              go_wp2_with fail
              go_roundw
              case rel => exact ⟨j + 1, z, by omega, by go_num, rfl, fun h => by unfold refLast; rw [if_neg (by omega), HR.out.2]; omega, by rw [HR.out.1]; exact HK2.out⟩
              case measure => simp [intOf]; omega
          · have HR := Lib.hid (HEX.out (.inr rfl))
            have HL := Lib.hid (HEL.out (.inr rfl))
            have hrd : RdI wm u5 out := Rd.of_own HK2.out.own
            have HRD := Lib.hid hrd
            clear hrd
            go_wp2_with fail
            refine (contains_any u5 out _ wm HRD.out).mono ?_
            rintro e w3 ⟨rfl, m3, rfl⟩
            by_cases hm : ((j : Int) - 1) ∈ out
            · have hm' : decide (((j : Int) - 1) ∈ out) = true := by simpa using hm
              have HZJ := Lib.hid (HHAS.out.1 hm)
              clear hm
              have ho := (HK2.out.drewN m3).alloc (.cells #[.int .i64 (j : Int)] 3)
              have HO := Lib.hid ho
              have hso := ho.bl.size
              clear ho
              go_wp2_with (at_builtin; go_loud (refine wpList_append_num rfl (.tmp 67) (.tmp 69) rfl w1.heap.size u5 out.length out rfl (by exact HO.out.own) wm.heap.size rfl (j : Int) (by exact Blk.new (wm.drewN m3) _ _) (by omega) (by exact hso) ?_); intro v1 wd hown1 hgrow1)
              have hkd := HO.out.grown _ hlt0 hgrow1 hown1
              clear hown1 hgrow1
              go_roundw
              case rel => exact ⟨j + 1, j, by omega, by go_num, rfl, fun h => by unfold refLast; rw [if_neg (by omega), HL.out]; omega, by rw [HR.out, if_pos HZJ.out]; exact hkd⟩
              case measure => simp [intOf]; omega
            · have hm' : decide (((j : Int) - 1) ∈ out) = false := by simpa using hm
              have HZJ := Lib.hid (show ¬ (z : Int) = (j : Int) - 1 from fun h => hm (HHAS.out.2 h))
              clear hm
              have ho := (HK2.out.drewN m3).alloc (.cells #[.int .i64 ((j : Int) - 1)] 3)
              have HO := Lib.hid ho
              have hso := ho.bl.size
              clear ho
              go_wp2_with (first
                | (at_builtin; refine wpList_append_num rfl (.tmp 55) (.tmp 58) rfl w1.heap.size u5 out.length out rfl (by exact HO.out.own) wm.heap.size rfl ((j : Int) - 1) (by exact Blk.new (wm.drewN m3) _ _) (by omega) (by exact hso) ?_; intro v1 wd hown1 hgrow1; have hkd := HO.out.grown _ hlt0 hgrow1 hown1; have hod := hkd.alloc (.cells #[.int .i64 (j : Int)] 3); have hsd := hod.bl.size; have hod' : (wd.alloc (.cells #[.int .i64 (j : Int)] 3)).ownsRow w1.heap.size 3 1 v1 (out.length + 1) ((out ++ [(j : Int) - 1]).map (Value.int .i64)) := (by simpa using hod.own); have HOD := Lib.hid hod; have HOD' := Lib.hid hod'; clear hkd hod hod' hown1 hgrow1)
                | (at_builtin; go_loud (refine wpList_append_num rfl (.tmp 67) (.tmp 69) rfl w1.heap.size v1 (out.length + 1) (out ++ [(j : Int) - 1]) rfl (by exact HOD'.out) wd.heap.size rfl (j : Int) (by exact Blk.new wd _ _) (by omega) (by exact hsd) ?_); intro v2 we hown2 hgrow2))
              have hke := HOD.out.grown _ hlt0 hgrow2 (by simpa using hown2)
              clear hown2 hgrow2
              go_roundw
              case rel => exact ⟨j + 1, j, by omega, by go_num, rfl, fun h => by unfold refLast; rw [if_neg (by omega), HL.out]; omega, by rw [HR.out, if_neg HZJ.out]; exact hke⟩
              case measure => simp [intOf]; omega
    · obtain rfl : j = l.length := by omega
      go_wp2_with fail
      go_ret
      rw [refOut_last] at hk
      exact ⟨_, rfl, Rd.of_own hk.own, HBW.out.trans (hk.bl.mono (by omega))⟩
end Go.Proofs.Ytgbnjbbjgkfefaa
