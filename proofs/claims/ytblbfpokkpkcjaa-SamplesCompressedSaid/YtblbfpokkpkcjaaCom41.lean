import Derived.Test.YtblbfpokkpkcjaaCom38
import Derived.Deep.DeepCutAuto
import Derived.StillTailTactics
/- The walk of the reference's offs. -/

namespace Go.Proofs.Ytblbfpokkpkcjaa
open Go.RowKit
set_option linter.unusedVariables false
set_option linter.unusedSimpArgs false

theorem still_tail_drew {P : Program} {id : Nat} {Q : Exit → Act → World → Prop} {a : Act} {w : World} {l : List Oper} (n : Nat) (hm : P.follows .mixedOrders = true) (hB : Region.lexTailB .any l.toArray n = true)
    (h : wpStill P l.toArray w.drew (fun a' => wpList P l.toArray Q (l.drop n) a' w.drew) (l.take n) a) : (Code.region id l.toArray true).wp P Q a w :=
  wp_region_still_tail n hm hB h

theorem own_other {w w' : World} {base B2 n n2 size s2 : Nat} {e e2 : TypeId} {v v2 : Value} {xs ys : List Value} (h : w.ownsRow base e size v n xs) (h2 : w.ownsRow B2 e2 s2 v2 n2 ys) (he : e ≠ e2) (hg : w.grownBy w' v2.ownBlock) : w'.ownsRow base e size v n xs :=
  own_keep h fun b cur fr hh => hg.block b (lt_of_heap hh) (fun hb => by
    obtain ⟨_, h3⟩ := h2
    rcases h3 with ⟨rfl, _⟩ | ⟨g, cap, cur2, rfl, _, hh2, _⟩
    · simp [Value.ownBlock] at hb
    · simp only [Value.ownBlock, Option.some.injEq] at hb
      subst hb
      rw [hh2] at hh
      injection hh with hh
      injection hh with _ hh
      exact he hh.symm)

theorem own_mono {w : World} {B C n size : Nat} {e : TypeId} {v : Value} {xs : List Value} (h : w.ownsRow B e size v n xs) (hBC : C ≤ B) : w.ownsRow C e size v n xs := by
  obtain ⟨h1, h2⟩ := h
  refine ⟨h1, ?_⟩
  rcases h2 with h2 | ⟨g, cap, cur, rfl, hb, hrest⟩
  · exact .inl h2
  · exact .inr ⟨g, cap, cur, rfl, Nat.le_trans hBC hb, hrest⟩
/-- What a round of offs keeps. -/
structure OfK (w0 : World) (v va : Value) (l K : List Smp) (fv hv : Value) (j : Nat) (w : World) : Prop where
  fr : w.ownsRow w0.heap.size 57 2 fv j (fracCells (offL l K j))
  hr : w.ownsRow w0.heap.size 4 1 hv j ((hasL l K j).map Value.bool)
  rl : RdS w 71 v l
  ra : RdS w 71 va K
  bl : Below w0.heap.size w0 w
theorem OfK.step {w0 w w' : World} {v va fv hv : Value} {l K : List Smp} {j : Nat} (h : OfK w0 v va l K fv hv j w) (hb : Below w.heap.size w w') : OfK w0 v va l K fv hv j w' :=
  ⟨own_keep h.fr fun b _ _ hh => hb.block b (lt_of_heap hh), own_keep h.hr fun b _ _ hh => hb.block b (lt_of_heap hh), h.rl.below hb (Nat.le_refl _), h.ra.below hb (Nat.le_refl _), h.bl.trans (hb.mono h.bl.size)⟩

set_option maxRecDepth 100000 in
set_option maxHeartbeats 8000000 in
theorem offs_any (v vk : Value) (l : List Smp) (ks : List Int) (w : World) (hR : RdS w 71 v l) (hK : RdI w vk ks) (hgood : keptErr l ks = 0) :
    Calls Try.prog 112 #[v, vk] w fun e w' => ∃ fv hv, e = .returned (.tuple #[fv, hv]) ∧ w'.ownsRow w.heap.size 57 2 fv l.length (fracCells (offL l (choOf l ks) l.length)) ∧ w'.ownsRow w.heap.size 4 1 hv l.length ((hasL l (choOf l ks) l.length).map Value.bool) ∧ Below w.heap.size w w' := by
  obtain ⟨hs, hidx, hin, hle, hrise, hright⟩ := kept_good hgood
  have hlong := (serErr_good hs).1
  have hog := fun i hh => offV_good hgood i hh
  have hko := keptOf_any v vk l ks w hR hK (by omega) hin
  have hclen := choOf_length l ks
  obtain ⟨pa, ca, rfl⟩ := hR.lenv
  have HR := Lib.hid hR
  have HKO := Lib.hid hko
  have HRISE := Lib.hid hrise
  have HRIGHT := Lib.hid hright
  have HOG := Lib.hid hog
  have HS := Lib.hid hs
  clear hR hK hgood hs hidx hin hrise hright hog hko
  go_enter Try.func112, Try.ntmps112
  go_wp2_with fail
  refine HKO.out.mono ?_
  rintro e w1 ⟨va, rfl, hova, hb1⟩
  have hra : RdS w1 71 va (choOf l ks) := by
    have := Rd.of_own hova
    unfold RdS
    rw [hclen]
    exact this
  generalize hKe : choOf l ks = K at *
  have HKE := Lib.hid hKe
  clear hKe
  have hK1 : OfK w1 (.slice pa l.length ca) va l K (.slice none 0 0) (.slice none 0 0) 0 w1 := ⟨World.ownsRow_nil _ _ _ _, World.ownsRow_nil _ _ _ _, HR.out.below hb1 (Nat.le_refl _), hra, Below.refl _ _⟩
  have HB1 := Lib.hid hb1
  have hsz1 := hb1.size
  clear hova hra hb1
  go_wp2_with fail
  go_loopw [7, 8, 18] (fun fv hv i wr => ∃ j : Nat, j ≤ l.length ∧ i = .int .i64 (j : Int) ∧ OfK w1 (.slice pa l.length ca) va l K fv hv j wr) (fun _ _ i _ => l.length - (intOf i).toNat)
  case atStart => exact ⟨0, by omega, rfl, hK1⟩
  case round =>
    obtain ⟨j, hj, rfl, hk⟩ := hrel
    by_cases hlt : j < l.length
    · obtain ⟨b, off, c', hv, hc3, hc4, hblt, hcell⟩ := RdS.at_ hk.rl (by omega)
      cases hv
      unfold maxLen at hc4
      obtain ⟨z0, z1, z2⟩ := hcell j hlt
      have hvt := (serErr_vt HS.out j).1
      have hhas : hasI l K j = (reconB K (atS l j).t && decide ((atS l j).q ≠ 2)) := rfl
      have hofr : offR l K j = if hasI l K j = true then diffF (atS l j).v (reconV K (atS l j).t) else (0, 1) := rfl
      have hog := HOG.out j
      have hst1 := offL_step l K j
      have hst2 := hasL_step l K j
      have hro := reconstructedOf_any va K (atS l j).t _ (Rd.alloc hk.ra (.cells #[.int .i64 (atS l j).t, .int .i64 (atS l j).v, .int .i64 (atS l j).q] 71)) HRISE.out (by omega) HRIGHT.out
      have hbs := Blk.new wr 71 #[.int .i64 (atS l j).t, .int .i64 (atS l j).v, .int .i64 (atS l j).q]
      generalize reconV K (atS l j).t = V at *
      generalize reconB K (atS l j).t = RB at *
      generalize atS l j = x at *
      generalize offR l K j = O at *
      generalize hasI l K j = HH at *
      have HHAS := Lib.hid hhas
      have HOFR := Lib.hid hofr
      have HOGJ := Lib.hid hog
      have HST1 := Lib.hid hst1
      have HST2 := Lib.hid hst2
      have HRO := Lib.hid hro
      have HBS := Lib.hid hbs
      have HK := Lib.hid hk
      have hszr := hk.bl.size
      clear hhas hofr hog hst1 hst2 hro hbs hk hcell
      go_wp2_with fail
      refine HRO.out.mono ?_
      rintro e w3 ⟨rfl, hb3⟩
      have hs3 := (HBS.out.below hb3 (by simp)).alloc (.cells #[.int .i64 V.1, .int .i64 V.2] 57)
      have hv3 := Blk.new w3 57 #[.int .i64 V.1, .int .i64 V.2]
      have hbr3 : Below wr.heap.size wr (w3.alloc (.cells #[.int .i64 V.1, .int .i64 V.2] 57)) := (((Below.refl _ wr).alloc (Nat.le_refl _) _).trans (hb3.mono (by simp))).alloc (by have := hb3.size; simp at this; omega) _
      have hp3 : wr.heap.size ≤ w3.heap.size := by have := hb3.size; simp at this; omega
      have HV3 := Lib.hid hv3
      have HBR3 := Lib.hid hbr3
      have HP3 := Lib.hid hp3
      have s1 := hs3.cell 1
      have s2 := hs3.cell 2
      have v0 := hv3.cell 0
      have v1 := hv3.cell 1
      have f0 := hv3.frozen 0
      have f1 := hv3.frozen 1
      clear hb3 hs3 hv3 hbr3 hp3
      go_upto_region 8 with fail
      go_cut [12] (fun s12 wx => s12 = .bool HH ∧ wx = w3.alloc (.cells #[.int .i64 V.1, .int .i64 V.2] 57))
      case first =>
        cases RB
        · have H1 := Lib.hid (show HH = false by rw [HHAS.out]; rfl)
          go_wp2_with fail
          go_meet
          exact ⟨by rw [H1.out], rfl⟩
        · by_cases hq : x.q = 2
          · have hq' : (x.q != 2) = false := by simpa using hq
            have H1 := Lib.hid (show HH = false by rw [HHAS.out]; simp [hq])
            clear hq
            go_wp2_with fail
            go_meet
            exact ⟨by rw [H1.out], rfl⟩
          · have hq' : (x.q != 2) = true := by simpa using hq
            have H1 := Lib.hid (show HH = true by rw [HHAS.out]; simp [hq])
            clear hq
            go_wp2_with fail
            go_meet
            exact ⟨by rw [H1.out], rfl⟩
      case rest =>
        obtain ⟨rfl, rfl⟩ := hcut
        have hsz4 : w3.heap.size < (w3.alloc (.cells #[.int .i64 V.1, .int .i64 V.2] 57)).heap.size := by simp
        generalize w3.alloc (.cells #[.int .i64 V.1, .int .i64 V.2] 57) = w4 at *
        have HSZ4 := Lib.hid hsz4
        clear hsz4
        go_upto_if 35 with fail
        go_cut [12] (fun s12 wx => s12 = .bool HH ∧ Blk wx w3.heap.size 57 #[.int .i64 O.1, .int .i64 O.2] ∧ Below wr.heap.size wr wx)
        case first =>
          by_cases hH : HH = true
          · subst hH
            obtain ⟨hsane, _, _⟩ := HOGJ.out rfl
            have hO := HOFR.out
            rw [if_pos rfl] at hO
            have hdb := diffF_bounds hsane hvt
            have hlw := fun w => rlowest_any (dist V.1 (x.v * V.2)) V.2 w (by obtain ⟨h1, h2, _⟩ := hsane; have := hdb.1; unfold dist; split <;> omega) (by obtain ⟨h1, h2, _⟩ := hsane; omega)
            rw [diffF_lowest _ _ hsane, ← hO] at hlw
            have hfa := fun w => far_any V.1 (x.v * V.2) w (by obtain ⟨h1, h2, _⟩ := hsane; omega) (by have := hdb.1; omega)
            have hwr : IntKind.i64.wrap (x.v * V.2) = x.v * V.2 := IntWalk.i64_in _ (by have := hdb.1; omega)
            generalize hMe : x.v * V.2 = M at *
            generalize dist V.1 M = DD at *
            have HLW := Lib.hid hlw
            have HFA := Lib.hid hfa
            clear hsane hO hdb hlw hfa
            go_wp2_with fail
            refine still_tail_drew 10 (by kernel_rfl) (by kernel_rfl) ?_
            simp only [List.take_succ_cons, List.take_zero, List.drop_succ_cons, List.drop_zero]
            still_step
            still_step
            still_step
            still_step
            still_step
            still_step
            still_step
            still_call ((HFA.out _).mono (fun _ _ h => ⟨h.1, h.2.symm⟩))
            still_step
            still_step
            refine wpStill_nil ?_
            go_wp2_with fail
            refine (HLW.out _).mono ?_
            rintro e wk ⟨rfl, hbk⟩
            have hvk : Blk wk w3.heap.size 57 #[.int .i64 V.1, .int .i64 V.2] := Blk.below HV3.out (show Below w4.heap.size w4 wk from ⟨hbk.os, hbk.tape, hbk.output, hbk.size, hbk.block⟩) HSZ4.out
            have hwk : Below wr.heap.size wr wk := HBR3.out.trans (Below.mono (show Below w4.heap.size w4 wk from ⟨hbk.os, hbk.tape, hbk.output, hbk.size, hbk.block⟩) HBR3.out.size)
            have k0 := hvk.cell 0
            have k1 := hvk.cell 1
            have l0 := hvk.frozen 0
            have l1 := hvk.frozen 1
            have HVK := Lib.hid hvk
            have HWK := Lib.hid hwk
            clear hvk hwk hbk
            go_wp2_with fail
            go_meet
            exact ⟨rfl, HVK.out.set2 _ _, (HWK.out.setCell HP3.out _).setCell HP3.out _⟩
          · have hH' : HH = false := by simpa using hH
            subst hH'
            have hO := HOFR.out
            rw [if_neg (by simp)] at hO
            have HO := Lib.hid hO
            clear hO hH
            go_wp2_with fail
            go_meet
            refine ⟨rfl, ?_, (HBR3.out.setCell HP3.out _).setCell HP3.out _⟩
            rw [HO.out]
            exact HV3.out.set2 _ _
        case rest =>
          obtain ⟨rfl, hbo, hbx⟩ := hcut
          have hkc := HK.out.step hbx
          have HKC := Lib.hid hkc
          have o0 := hbo.cell 0
          have o1 := hbo.cell 1
          have hszc := hbx.size
          clear hbo hbx hkc s1 s2 v0 v1 f0 f1
          go_wp2_with (first
            | (at_builtin; refine wpList_append_frac rfl (.tmp 48) (.tmp 50) rfl w1.heap.size u7 j (offL l K j) rfl (by exact own_keep HKC.out.fr fun b _ _ hh => Below.heap_alloc _ _ b (lt_of_heap hh)) wc.heap.size rfl O (by exact Blk.new wc _ _) (by omega) (by simp; omega) ?_; intro v1 wd hown1 hgrow1; have hha : (wc.alloc (.cells #[.int .i64 O.1, .int .i64 O.2] 57)).ownsRow w1.heap.size 4 1 u8 j ((hasL l K j).map Value.bool) := (own_keep HKC.out.hr fun b _ _ hh => Below.heap_alloc _ _ b (lt_of_heap hh)); have hfa' : (wc.alloc (.cells #[.int .i64 O.1, .int .i64 O.2] 57)).ownsRow w1.heap.size 57 2 u7 j (fracCells (offL l K j)) := (own_keep HKC.out.fr fun b _ _ hh => Below.heap_alloc _ _ b (lt_of_heap hh)); have hhd := own_other hha hfa' (by decide) hgrow1; have hbd : Below w1.heap.size wc wd := ((Below.refl _ wc).alloc (by omega) _).trans (below_grown hfa' (by simp; omega) hgrow1); have hszd := hbd.size; have HO1 := Lib.hid hown1; have HHD := Lib.hid hhd; have HBD := Lib.hid hbd; clear hown1 hgrow1 hha hfa' hhd hbd)
            | (at_builtin; go_loud (refine wpList_append_bool rfl (.tmp 52) (.tmp 54) rfl w1.heap.size u8 j (hasL l K j) rfl (by exact own_keep HHD.out fun b _ _ hh => Below.heap_alloc _ _ b (lt_of_heap hh)) wd.heap.size rfl HH (by exact Blk.new wd _ _) (by omega) (by simp; omega) ?_); intro v2 we hown2 hgrow2))
          have hha2 : (wd.alloc (.cells #[.bool HH] 4)).ownsRow w1.heap.size 4 1 u8 j ((hasL l K j).map Value.bool) := own_keep HHD.out fun b _ _ hh => Below.heap_alloc _ _ b (lt_of_heap hh)
          have hfe := own_other (own_keep (w' := wd.alloc (.cells #[.bool HH] 4)) HO1.out fun b _ _ hh => Below.heap_alloc _ _ b (lt_of_heap hh)) hha2 (by decide) hgrow2
          have hbe : Below w1.heap.size w1 we := HKC.out.bl.trans (HBD.out.trans (((Below.refl _ wd).alloc (by omega) _).trans (below_grown hha2 (by simp; omega) hgrow2)))
          have hke : OfK w1 (.slice (some ⟨b, off, none⟩) l.length ca) va l K v1 v2 (j + 1) we := ⟨by rw [HST1.out]; exact hfe, by rw [HST2.out]; exact hown2, (hK1.rl.below hbe (Nat.le_refl _)), (hK1.ra.below hbe (Nat.le_refl _)), hbe⟩
          go_roundw
          case rel => exact ⟨j + 1, by omega, by go_num, hke⟩
          case measure => simp [intOf]; omega
    · obtain rfl : j = l.length := by omega
      go_wp2_with fail
      go_ret2
      exact ⟨u7, u8, rfl, by rw [HKE.out]; exact own_mono hk.fr hsz1, by rw [HKE.out]; exact own_mono hk.hr hsz1, HB1.out.trans (hk.bl.mono hsz1)⟩
end Go.Proofs.Ytblbfpokkpkcjaa
