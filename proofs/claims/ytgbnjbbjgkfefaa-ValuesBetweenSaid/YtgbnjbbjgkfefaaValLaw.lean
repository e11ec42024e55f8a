/- ValuesBetween: the walk of the law, over a contract of Points. No condition beside it. -/
import Derived.Test.YtgbnjbbjgkfefaaPof
import Derived.Test.YtgbnjbbjgkfefaaPar
import Derived.Test.YtgbnjbbjgkfefaaCurve
import Derived.Test.YtgbnjbbjgkfefaaPnt
namespace Go.Proofs.Ytgbnjbbjgkfefaa
open Go.RowKit
set_option linter.unusedVariables false
set_option linter.unusedSimpArgs false

theorem KM.drews2 {w0 w : World} {n : Nat} {v : Value} {l : List Smp} {f t : Int} (m : Nat) (h : KM w0 n f t v l w) : KM w0 n f t v l (w.drewN m) :=
  KM.step (w' := w.drewN m) (show Below w.heap.size w (w.drewN m) from ⟨rfl, rfl, rfl, Nat.le_refl _, fun _ _ => rfl⟩) h
theorem Blk.setFour {w : World} {b : Nat} {t : TypeId} {x y z u : Value} (h : Blk w b t #[x, y, z, u]) (x' y' z' u' : Value) :
    Blk ((((w.setCell ⟨b, 0, none⟩ x').setCell ⟨b, 1, none⟩ y').setCell ⟨b, 2, none⟩ z').setCell ⟨b, 3, none⟩ u') b t #[x', y', z', u'] := by
  unfold Blk at h ⊢
  simp [World.setCell, Array.getElem?_modify, h]
/-- What stays readable: series, window, the program's point and points. -/
structure KV (w0 : World) (n : Nat) (f t : Int) (v : Value) (l : List Smp) (nx : Nat) (cs : Array Value) (vp : Value) (ps : List Pt) (w : World) : Prop where
  km : KM w0 n f t v l w
  xb : Blk w nx 80 cs
  rp : RdP w vp ps
section
variable {w0 w w' : World} {n : Nat} {v : Value} {l : List Smp} {f t : Int} {nx : Nat} {cs : Array Value} {vp : Value} {ps : List Pt}
theorem KV.step (hb : Below w.heap.size w w') (h : KV w0 n f t v l nx cs vp ps w) : KV w0 n f t v l nx cs vp ps w' := ⟨h.km.step hb, h.xb.below hb h.xb.lt, Rd.below h.rp hb⟩
theorem KV.drew (h : KV w0 n f t v l nx cs vp ps w) : KV w0 n f t v l nx cs vp ps w.drew := KV.step (show Below w.heap.size w w.drew from ⟨rfl, rfl, rfl, Nat.le_refl _, fun _ _ => rfl⟩) h
theorem KV.alloc (h : KV w0 n f t v l nx cs vp ps w) (o : Obj) : KV w0 n f t v l nx cs vp ps (w.alloc o) := KV.step ((Below.refl _ w).alloc (Nat.le_refl _) o) h
end

set_option maxRecDepth 100000 in
set_option maxHeartbeats 4000000 in
theorem values_walk_of (HPT : ∀ (v : Value) (l : List Smp) (st : Bool) (f t ev : Int) (w : World), RdS w 71 v l → (0 ≤ ev ∧ ev ≤ 86400001) →
      Calls Try.prog 48 #[v, .bool st, .agg #[.int .i64 f, .int .i64 t], .int .i64 ev] w fun e w' => ∃ vr, e = .returned (.tuple #[vr, .int .i64 (parE l f t ev)]) ∧ RdP w' vr (ptsR l st f t ev) ∧ Below w.heap.size w w')
    (w : World) (L : List Int) (A : Option Addr) (cap : Nat) (hc : ∀ i, i < L.length → ∃ ad : Addr, A = some ad ∧ ad.block < w.heap.size ∧ w.cell? (ad.add i) = some (.int .i64 (L.getD i 0)))
    (hl : L.length ≤ 9223372036854775807) (hwf : ∀ i, -9223372036854775808 ≤ L.getD i 0 ∧ L.getD i 0 ≤ 9223372036854775807) :
    Calls Try.prog 6 #[.slice A L.length cap] w fun e w' => e = .returned (.bool true) ∧ Below w.heap.size w w' := by
  have hS0 : Strm (w.alloc (.cells #[.slice A L.length cap, .int .i64 0] 25)) w.heap.size L A cap 0 :=
    ⟨heap_alloc_new w _, fun i hi => by
      obtain ⟨ad, e, hb, hcell⟩ := hc i hi
      exact ⟨ad, e, hb, by rw [World.cell?_alloc_lt _ _ _ (by rw [addr_add_block]; exact hb)]; exact hcell⟩, hl, hwf⟩
  have HS0 := Lib.hid hS0
  have HPT' := Lib.hid HPT
  have hsz0 : w.heap.size < (w.alloc (.cells #[.slice A L.length cap, .int .i64 0] 25)).heap.size := by simp
  have HB0 := Lib.hid ((Below.refl w.heap.size w).alloc (Nat.le_refl _) (.cells #[.slice A L.length cap, .int .i64 0] 25))
  clear hS0 hc hwf HPT
  go_enter Try.func6, Try.ntmps6
  go_upto_region 2 with fail
  generalize w.alloc (.cells #[.slice A L.length cap, .int .i64 0] 25) = W at *
  go_wp2_with fail
  refine (curve_went _ w.heap.size L A cap 0 9 HS0.out (by omega) (by omega)).mono ?_
  rintro e w1 ⟨v, rfl, l, k1, hown, hlen, hnear, hk1, hw1⟩
  go_wp2_with fail
  refine (flip_went _ w.heap.size L A cap k1 2 hw1.1 (by omega) (by omega)).mono ?_
  rintro e w2 ⟨rfl, hw2, _⟩
  have hown2 := own_but hw1.1 (by decide) hown hw2.2
  have hb2 := hw1.2.trans hw2.2
  generalize (nxt L k1 2 == 0) = st at *
  clear hown hw1
  go_wp2_with fail
  refine (aMoment_went _ w.heap.size L A cap (k1 + 1) hw2.1 (by omega)).mono ?_
  rintro e w3 ⟨at', rfl, hat, hw3⟩
  have hown3 := own_but hw2.1 (by decide) hown2 hw3.2
  have hb3 := hb2.trans hw3.2
  clear hown2 hw2 hb2
  go_wp2_with fail
  refine (aSpan_went _ w.heap.size L A cap (k1 + 1 + 2) hw3.1 (by omega)).mono ?_
  rintro e w4 ⟨f, t, k4, rfl, hf, ht, hk4, hw4⟩
  have hown4 := own_but hw3.1 (by decide) hown3 hw4.2
  have hb4 := hb3.trans hw4.2
  clear hown3 hw3 hb3
  go_wp2_with fail
  refine (pick_new _ _ w.heap.size L A cap k4 [1, 3, 10, 50, 0, 86400001] hw4.1 rfl (by omega) (by simp)).mono ?_
  rintro e w5 ⟨rfl, hw5⟩
  have hm5 := pk_mem [1, 3, 10, 50, 0, 86400001] L k4 (by simp)
  simp only [List.mem_cons, List.not_mem_nil, or_false] at hm5
  generalize pk [1, 3, 10, 50, 0, 86400001] L k4 = ev at *
  have hev : 0 ≤ ev ∧ ev ≤ 86400001 := by omega
  have hown5 := own_but hw4.1 (by decide) hown4 hw5.2
  have hb5 := hb4.trans hw5.2
  clear hm5 hown4 hw4 hw5 hb4
  have hsz5 := hb5.size
  have hk0 : KM w w5.heap.size f t v l (w5.alloc (.cells #[.int .i64 f, .int .i64 t] 76)) :=
    ⟨Rd.alloc (Rd.of_own hown5) _, Blk.new _ _ _, HB0.out.trans ((butBelow2 hb5 (Nat.le_refl _) (Nat.le_of_lt hsz0)).alloc (by omega) _)⟩
  clear hown5 hb5 hnear
  go_upto_region 3 with fail
  generalize w5.alloc (.cells #[.int .i64 f, .int .i64 t] 76) = w6 at *
  generalize w5.heap.size = n at *
  go_wp2_with fail
  refine (seriesFault_any v l _ hk0.rs).mono ?_
  rintro e w7 ⟨rfl, hb7⟩
  have hk7 := KM.step hb7 hk0
  clear hb7 hk0
  go_wp2_with fail
  refine (publicValueAt_any v l st at' _ hk7.rs).mono ?_
  rintro e w8 ⟨rfl, hb8⟩
  have hk8 := KM.step hb8 hk7
  clear hb8 hk7
  obtain ⟨a, b', c, d, hpv⟩ := pntV_agg at' (vatO l st at')
  rw [hpv]
  have HPV := Lib.hid hpv
  have hx0 : Blk (w8.alloc (.cells #[.int .i64 a, .int .i64 b', .int .i64 c, .int .i64 d] 80)) w8.heap.size 80 #[.int .i64 a, .int .i64 b', .int .i64 c, .int .i64 d] := Blk.new _ _ _
  have hk9 := hk8.alloc (.cells #[.int .i64 a, .int .i64 b', .int .i64 c, .int .i64 d] 80)
  clear hpv hk8
  go_upto_region 5 with fail
  generalize w8.alloc (.cells #[.int .i64 a, .int .i64 b', .int .i64 c, .int .i64 d] 80) = w9 at *
  generalize w8.heap.size = nx at *
  have e0 := hk9.bw.cell 0
  have e1 := hk9.bw.cell 1
  go_wp2_with fail
  refine (HPT'.out v l st f t ev _ hk9.rs hev).mono ?_
  rintro e wa ⟨vp, rfl, hrp, hba⟩
  have hka : KV w n f t v l nx #[.int .i64 a, .int .i64 b', .int .i64 c, .int .i64 d] vp (ptsR l st f t ev) wa := ⟨KM.step hba hk9, hx0.below hba hx0.lt, hrp⟩
  clear e0 e1 hba hk9 hx0 hrp
  have e0 := hka.km.bw.cell 0
  have e1 := hka.km.bw.cell 1
  go_upto_region 6 with fail
  go_cut [15, 16] (fun s15 s16 wx => s15 = .int .i64 (orE (serErr l) (momE at')) ∧ s16 = .int .i64 (orE (serErr l) (winErr f t)) ∧ KV w n f t v l nx #[.int .i64 a, .int .i64 b', .int .i64 c, .int .i64 d] vp (ptsR l st f t ev) wx)
  case first =>
    go_region_held3 (fun w' => w'.cell? ⟨n, 0, none⟩ = some (.int .i64 f) ∧ w'.cell? ⟨n, 1, none⟩ = some (.int .i64 t))
      (first | exact ⟨hkk.km.bw.cell 0, hkk.km.bw.cell 1⟩ | exact ⟨e0, e1⟩ | go_keep)
      (first
      | (go_at_call 37; (with_reducible refine (momentFault_any at' _).mono ?_); rintro e wk ⟨rfl, rfl⟩)
      | (go_at_call 49; (with_reducible refine (windowFault_any f t _).mono ?_); rintro e wk ⟨rfl, hbk⟩; have hkk := KV.step hbk (by repeat (first | with_reducible assumption | with_reducible apply KV.alloc | with_reducible apply KV.drew)); clear hbk)
      | (go_at_call 17; (refine (or2_any _ _ (serErr l) (momE at') ?_).mono ?_); (focus ((repeat (first | (with_reducible refine blkNewE _ _ _ _ ?_; (focus (simp; done))) | with_reducible apply Blk.drew | with_reducible apply Blk.alloc)); done)); rintro e wj ⟨rfl, rfl⟩)
      | (go_at_call 17; (refine (or2_any _ _ (serErr l) (winErr f t) ?_).mono ?_); (focus ((repeat (first | (with_reducible refine blkNewE _ _ _ _ ?_; (focus (simp; done))) | with_reducible apply Blk.drew | with_reducible apply Blk.alloc)); done)); rintro e wj ⟨rfl, rfl⟩))
    all_goals
      go_wp2_with fail
      go_meet
      exact ⟨vi (orOf2 _ _), vi (orOf2 _ _), by repeat (first | exact hkk | apply KV.alloc | apply KV.drew)⟩
  case rest =>
    obtain ⟨rfl, rfl, hkb⟩ := hcut
    clear hka e0 e1
    have e0 := hkb.km.bw.cell 0
    have e1 := hkb.km.bw.cell 1
    go_upto_if 63 with fail
    go_cut [16] (fun s16 wx => s16 = .int .i64 (parE l f t ev) ∧ KV w n f t v l nx #[.int .i64 a, .int .i64 b', .int .i64 c, .int .i64 d] vp (ptsR l st f t ev) wx)
    case first =>
      have HPE := Lib.hid (show parE l f t ev = orE (orE (serErr l) (winErr f t)) (evE f t ev) from rfl)
      have HWE := Lib.hid (fun h : orE (serErr l) (winErr f t) = 0 => winErr_ok (orE_zero h).2)
      generalize orE (serErr l) (winErr f t) = F at *
      by_cases hF : F = 0
      · have hF' : (F == 0) = true := by simpa using hF
        have HF := Lib.hid hF
        clear hF
        go_wp2_with fail
        refine (everyFault_any f t ev _ (HWE.out HF.out) hev).mono ?_
        rintro e wc ⟨rfl, hbc⟩
        have hkc := KV.step hbc hkb
        go_wp2_with fail
        go_meet
        exact ⟨vi (by rw [HPE.out, orE_left HF.out]), hkc⟩
      · have hF' : (F == 0) = false := by simpa using hF
        have HF := Lib.hid hF
        clear hF
        go_wp2_with fail
        go_meet
        exact ⟨vi (by rw [HPE.out, orE_first HF.out]), hkb⟩
    case rest =>
      obtain ⟨rfl, hkc⟩ := hcut
      clear hkb e0 e1
      have e0 := hkc.km.bw.cell 0
      have e1 := hkc.km.bw.cell 1
      have hy0 : Blk (wc.alloc (.cells #[.int .i64 0, .int .i64 0, .int .i64 0, .int .i64 0] 80)) wc.heap.size 80 #[.int .i64 0, .int .i64 0, .int .i64 0, .int .i64 0] := Blk.new _ _ _
      have hBy : Below wc.heap.size wc (wc.alloc (.cells #[.int .i64 0, .int .i64 0, .int .i64 0, .int .i64 0] 80)) := (Below.refl _ wc).alloc (Nat.le_refl _) _
      have hn1 := hkc.km.bw.lt
      have hn2 := hkc.xb.lt
      go_upto_if 68 with fail
      generalize wc.alloc (.cells #[.int .i64 0, .int .i64 0, .int .i64 0, .int .i64 0] 80) = wd at *
      have HKC := Lib.hid (fun (w' : World) (h : Below wc.heap.size wc w') => KV.step h hkc)
      generalize hny : wc.heap.size = ny at *
      have HNY := Lib.hid hny
      clear hny
      have hkd := HKC.out wd hBy
      go_cut [19] (fun s19 wx => s19 = .bool (vatO l st at').isSome ∧ Blk wx ny 80 #[.int .i64 a, .int .i64 b', .int .i64 c, .int .i64 d] ∧ KV w n f t v l nx #[.int .i64 a, .int .i64 b', .int .i64 c, .int .i64 d] vp (ptsR l st f t ev) wx)
      case first =>
        have HVE := Lib.hid (show vatE l at' = orE (serErr l) (momE at') from rfl)
        have HVO := Lib.hid (show vatO l st at' = if vatE l at' = 0 then valO l st at' else none from rfl)
        generalize vatO l st at' = O at *
        rw [HVE.out] at HVO
        by_cases hM : orE (serErr l) (momE at') = 0
        · have hM' : (orE (serErr l) (momE at') == 0) = true := by simpa using hM
          have hz := orE_zero hM
          have hin : 0 ≤ at' ∧ at' ≤ 345686400000 := by
            have h2 := hz.2
            unfold momE at h2
            cases h : inB at' 0 345686399999
            · rw [h] at h2; simp at h2
            · have := inB_true.1 h; omega
          have HX := Lib.hid (show O = valO l st at' by rw [HVO.out, if_pos hM])
          have HZ := Lib.hid hz.1
          have hby := hBy
          clear hM hz e0 e1
          go_wp2_with fail
          refine (valueOf_any v l st at' _ hkd.km.rs (serErr_rise HZ.out) (by omega) (fun i hi => ⟨(serErr_vt HZ.out i).2, (serErr_vt HZ.out i).1⟩) hin).mono ?_
          rintro e we ⟨rfl, hbe⟩
          rw [← HX.out, HPV.out]
          have hy1 := hy0.below hbe hy0.lt
          have hBe := hBy.trans (hbe.mono (by have h1 := hBy.size; have h2 := HNY.out; omega))
          have d0 := hy1.cell 0
          have d1 := hy1.cell 1
          have d2 := hy1.cell 2
          have d3 := hy1.cell 3
          have f0 := hy1.frozen 0
          have f1 := hy1.frozen 1
          have f2 := hy1.frozen 2
          have f3 := hy1.frozen 3
          clear hy0 hkd hbe
          go_wp2_with fail
          go_meet
          exact ⟨rfl, hy1.setFour _ _ _ _, HKC.out _ (by (repeat (refine Below.setCell ?_ (by exact Nat.le_refl _) _)); exact hBe)⟩
        · have hM' : (orE (serErr l) (momE at') == 0) = false := by simpa using hM
          have HX := Lib.hid (show O = none by rw [HVO.out, if_neg hM])
          have hz : a = 0 ∧ b' = 0 ∧ c = 0 ∧ d = 0 := by have := HPV.out; rw [HX.out] at this; simp [pntV] at this; omega
          have HZ := Lib.hid hz
          clear hM hz
          go_wp2_with fail
          go_meet
          exact ⟨by rw [HX.out]; rfl, by rw [HZ.out.1, HZ.out.2.1, HZ.out.2.2.1, HZ.out.2.2.2]; exact hy0, hkd⟩
      case rest =>
        obtain ⟨rfl, hyb, hke⟩ := hcut
        clear hy0 hkd e0 e1 hkc HKC HPV hBy
        have e0 := hke.km.bw.cell 0
        have e1 := hke.km.bw.cell 1
        go_upto_if 77 with fail
        go_cut [18] (fun s18 wx => ∃ vq, vq = s18 ∧ RdP wx vq (ptsR l st f t ev) ∧ Blk wx ny 80 #[.int .i64 a, .int .i64 b', .int .i64 c, .int .i64 d] ∧ KV w n f t v l nx #[.int .i64 a, .int .i64 b', .int .i64 c, .int .i64 d] vp (ptsR l st f t ev) wx)
        case first =>
          have HPE := Lib.hid (show parE l f t ev = orE (orE (serErr l) (winErr f t)) (evE f t ev) from rfl)
          have HPR := Lib.hid (show ptsR l st f t ev = if parE l f t ev = 0 then ptsTo l st f ev (ptsCnt f t ev) else [] from rfl)
          generalize ptsR l st f t ev = RR at *
          generalize parE l f t ev = PE at *
          by_cases hP : PE = 0
          · have hP' : (PE == 0) = true := by simpa using hP
            have hz := orE_zero (HPE.out.symm.trans hP)
            have hz1 := orE_zero hz.1
            have hW := winErr_ok hz1.2
            have hE3 : (1 ≤ ev ∧ ev ≤ 86400000) ∧ ptsCnt f t ev ≤ 5000 := by
              have h2 := hz.2
              unfold evE at h2
              cases h : inB ev 1 86400000
              · rw [h] at h2; simp at h2
              · have h3 := inB_true.1 h
                rw [h] at h2
                have h4 := quo_large (t - f) ev h3.1
                have h5 : ¬ 5000 * ev < t - f := by intro h6; simp [h6] at h2
                refine ⟨h3, ?_⟩
                unfold ptsCnt
                omega
            have HX := Lib.hid (show RR = ptsTo l st f ev (ptsCnt f t ev) by rw [HPR.out, if_pos hP])
            have HZ := Lib.hid (And.intro hz1.1 (And.intro hW hE3))
            clear hP hz hz1 hW hE3
            go_wp2_with fail
            refine (pointsOf_any v l st f t ev _ hke.km.rs (serErr_rise HZ.out.1) (by omega) (fun i hi => ⟨(serErr_vt HZ.out.1 i).2, (serErr_vt HZ.out.1 i).1⟩) HZ.out.2.1 HZ.out.2.2.1 HZ.out.2.2.2).mono ?_
            rintro e we ⟨vq, rfl, hrq, hbe⟩
            rw [← HX.out] at hrq
            have hkf := KV.step hbe hke
            have hyf := hyb.below hbe hyb.lt
            go_wp2_with fail
            go_meet
            exact ⟨_, rfl, hrq, hyf, hkf⟩
          · have hP' : (PE == 0) = false := by simpa using hP
            have HX := Lib.hid (show RR = [] by rw [HPR.out, if_neg hP])
            clear hP
            go_wp2_with fail
            go_meet
            exact ⟨_, rfl, by rw [HX.out]; exact Rd.nil _ _ _, hyb, hke⟩
        case rest =>
          obtain ⟨vq, rfl, hrq, hyf, hkf⟩ := hcut
          clear hyb hke e0 e1
          have hv : vatE l at' = orE (serErr l) (momE at') := rfl
          rw [hv]
          clear hv
          generalize ptsR l st f t ev = RR at *
          generalize orE (serErr l) (momE at') = M at *
          generalize parE l f t ev = PE at *
          generalize (vatO l st at').isSome = IS at *
          have h1 : (M == M) = true := by simp
          have h3 : (PE == PE) = true := by simp
          have h4 : (IS == IS) = true := by simp
          have hgd := pnt_guard
          have heq := pnt_eqIn
          have d0 := hyf.cell 0
          have d1 := hyf.cell 1
          have d2 := hyf.cell 2
          have d3 := hyf.cell 3
          have c0 := hkf.xb.cell 0
          have c1 := hkf.xb.cell 1
          have c2 := hkf.xb.cell 2
          have c3 := hkf.xb.cell 3
          have hrp := hkf.rp
          have hkm := hkf.km
          go_wp2_with fail
          refine (equalP_same _ _ RR _ hrp hrq).mono ?_
          rintro e wk ⟨rfl, mk, rfl⟩
          have hkn := KM.drews2 mk hkm
          go_wp2_with fail
          refine (queried_any _).mono ?_
          rintro e wj ⟨rfl, hbj⟩
          have hkj := KM.step hbj hkn
          go_wp2_with fail
          go_ret
          exact ⟨rfl, hkj.be⟩
end Go.Proofs.Ytgbnjbbjgkfefaa
