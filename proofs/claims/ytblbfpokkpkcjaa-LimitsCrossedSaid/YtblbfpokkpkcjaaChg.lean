/- The contract of Change (package query). -/
import Derived.Test.YtblbfpokkpkcjaaChm
import Derived.Test.YtblbfpokkpkcjaaTot
import Derived.Deep.RegionHeld3
namespace Go.Proofs.Ytblbfpokkpkcjaa
open Go.RowKit
set_option linter.unusedVariables false
set_option linter.unusedSimpArgs false

/-- The window, the series, and the boxes of both points. -/
structure KP (w0 : World) (v : Value) (l : List Smp) (f t : Int) (n1 n2 : Nat) (a b : Pnt) (w : World) : Prop where
  k : KW w0 v l f t w
  a : Blk w n1 86 #[.int .i64 f, .int .i64 a.n, .int .i64 a.d, .int .i64 a.q]
  b : Blk w n2 86 #[.int .i64 t, .int .i64 b.n, .int .i64 b.d, .int .i64 b.q]
section
variable {w0 w w' : World} {v : Value} {l : List Smp} {f t : Int} {n1 n2 : Nat} {a b : Pnt}
theorem KP.step (hb : Below w.heap.size w w') (h : KP w0 v l f t n1 n2 a b w) : KP w0 v l f t n1 n2 a b w' := ⟨KW.step hb h.k, h.a.below hb h.a.lt, h.b.below hb h.b.lt⟩
theorem KP.drew (h : KP w0 v l f t n1 n2 a b w) : KP w0 v l f t n1 n2 a b w.drew := KP.step (show Below w.heap.size w w.drew from ⟨rfl, rfl, rfl, Nat.le_refl _, fun _ _ => rfl⟩) h
end

set_option maxRecDepth 100000 in
set_option maxHeartbeats 4000000 in
theorem change_any (v : Value) (l : List Smp) (st : Bool) (f t : Int) (w : World) (hR : RdS w 71 v l) :
    Calls Try.prog 64 #[v, .bool st, .agg #[.int .i64 f, .int .i64 t]] w fun e w' => e = .returned (.tuple #[.int .i64 ((chgR l st f t).getD 0), .bool (chgR l st f t).isSome, .int .i64 (chgE l f t)]) ∧ Below w.heap.size w w' := by
  have hE : chgE l f t = orE (orE (serErr l) (winErr f t)) (if t = 345686400000 then 1 else 0) := rfl
  have hRr : chgR l st f t = if chgE l f t = 0 then chgO (valO l st f) (valO l st t) else none := rfl
  generalize chgR l st f t = RR at *
  generalize chgE l f t = E at *
  have HE := Lib.hid hE
  have HRR := Lib.hid hRr
  have hk0 := KW.start (f := f) (t := t) hR
  have HK0 := Lib.hid hk0
  have hbq := Blk.new1 w (.cells #[.int .i64 f, .int .i64 t] 82) 32 #[v]
  have hqc := qcheck1_any (w.heap.size + 1) v l f t _ hbq (hk0.alloc (.cells #[v] 32)).rs
  have HQC := Lib.hid hqc
  obtain ⟨pa, ca, rfl⟩ := hR.lenv
  clear hE hRr hR hk0 hbq hqc
  go_enter Try.func64, Try.ntmps64
  go_wp2_with fail
  refine HQC.out.mono ?_
  rintro e w1 ⟨rfl, hb1⟩
  have hk1 := KW.step hb1 (HK0.out.alloc _)
  clear hb1 HQC
  have e0 : w1.cell? ⟨w.heap.size, 0, none⟩ = some (.int .i64 f) := hk1.bw.cell 0
  have e1 : w1.cell? ⟨w.heap.size, 1, none⟩ = some (.int .i64 t) := hk1.bw.cell 1
  by_cases h0 : orE (serErr l) (winErr f t) = 0
  · have h0' : (orE (serErr l) (winErr f t) != 0) = false := by simpa using h0
    have hS : serErr l = 0 := by unfold orE at h0; split at h0 <;> omega
    have hW : 0 ≤ f ∧ f ≤ t ∧ t ≤ 345686400000 := by
      unfold orE at h0; rw [if_neg (by rw [hS]; simp)] at h0
      unfold winErr at h0
      by_cases hw : winB f t = true
      · exact winB_true.1 hw
      · rw [if_neg hw] at h0; omega
    have H0 := Lib.hid h0
    have HS := Lib.hid hS
    clear h0 hS
    by_cases hT : t = 345686400000
    · have hT' : (t == 345686400000) = true := by simpa using hT
      have HT := Lib.hid hT
      clear hT
      go_wp2_with fail
      refine bodyPost_ret (v := .tuple #[.int .i64 0, .bool false, .int .i64 1]) (by simp [results, Try.results64, go_sem]) rfl ⟨?_, hk1.be⟩
      have hE1 : E = 1 := by rw [HE.out, H0.out, if_pos HT.out]; rfl
      rw [HRR.out, if_neg (by omega), hE1]; rfl
    · have hT' : (t == 345686400000) = false := by simpa using hT
      have hE1 : E = 0 := by rw [HE.out, H0.out, if_neg hT]; rfl
      have HRR2 := Lib.hid (show RR = chgO (valO l st f) (valO l st t) by rw [HRR.out, if_pos hE1])
      have HE1 := Lib.hid hE1
      have hrise := serErr_rise HS.out
      have hright : ∀ i, i < l.length → Right (atS l i) := fun i _ => ⟨(serErr_vt HS.out i).2, (serErr_vt HS.out i).1⟩
      have hfa := fun x => valO_fit (x := x) (st := st) (t := f) hrise hright
      have hfb := fun x => valO_fit (x := x) (st := st) (t := t) hrise hright
      have hva := fun w h => valueAt_any (.slice pa l.length ca) l st f w h hrise (serErr_good HS.out).1 hright (by omega)
      have hvb := fun w h => valueAt_any (.slice pa l.length ca) l st t w h hrise (serErr_good HS.out).1 hright (by omega)
      have HVA := Lib.hid hva
      have HVB := Lib.hid hvb
      clear hT hE1 hrise hright hva hvb
      generalize valO l st f = Oa at *
      generalize valO l st t = Ob at *
      have HFA := Lib.hid hfa
      have HFB := Lib.hid hfb
      clear hfa hfb
      go_wp2_with fail
      refine (HVA.out _ hk1.rs).mono ?_
      rintro e w2 ⟨rfl, hb2⟩
      have hk2 := KW.step hb2 hk1
      clear hb2 e0 e1
      rcases Oa with _ | a
      · simp only [pntV, Option.isSome_none]
        have hk3 := hk2.alloc (.cells #[.int .i64 0, .int .i64 0, .int .i64 0, .int .i64 0] 86)
        have e1 : (w2.alloc (.cells #[.int .i64 0, .int .i64 0, .int .i64 0, .int .i64 0] 86)).cell? ⟨w.heap.size, 1, none⟩ = some (.int .i64 t) := hk3.bw.cell 1
        go_upto_region 7 with fail
        generalize w2.alloc (.cells #[.int .i64 0, .int .i64 0, .int .i64 0, .int .i64 0] 86) = w3 at *
        go_wp2_with fail
        refine (HVB.out _ hk3.rs).mono ?_
        rintro e w4 ⟨rfl, hb4⟩
        have hk4 := KW.step hb4 hk3
        obtain ⟨q1, q2, q3, q4, hq⟩ := pntV_agg t Ob
        rw [hq]
        have HQ := Lib.hid hq
        clear hb4 e1 hq
        go_wp2_with fail
        refine bodyPost_ret (v := .tuple #[.int .i64 0, .bool false, .int .i64 0]) (by simp [results, Try.results64, go_sem]) rfl ⟨?_, (hk4.alloc _).be⟩
        rw [HRR2.out, HE1.out]; rfl
      · simp only [pntV, Option.isSome_some]
        have ffa := HFA.out a rfl
        have hk3 := hk2.alloc (.cells #[.int .i64 f, .int .i64 a.n, .int .i64 a.d, .int .i64 a.q] 86)
        have hba := Blk.new w2 86 #[.int .i64 f, .int .i64 a.n, .int .i64 a.d, .int .i64 a.q]
        have e1 : (w2.alloc (.cells #[.int .i64 f, .int .i64 a.n, .int .i64 a.d, .int .i64 a.q] 86)).cell? ⟨w.heap.size, 1, none⟩ = some (.int .i64 t) := hk3.bw.cell 1
        go_upto_region 7 with fail
        generalize w2.alloc (.cells #[.int .i64 f, .int .i64 a.n, .int .i64 a.d, .int .i64 a.q] 86) = w3 at *
        generalize w2.heap.size = n1 at *
        go_wp2_with fail
        refine (HVB.out _ hk3.rs).mono ?_
        rintro e w4 ⟨rfl, hb4⟩
        have hk4 := KW.step hb4 hk3
        have hba4 := hba.below hb4 hba.lt
        clear hb4 e1 hk3 hba
        rcases Ob with _ | b
        · simp only [pntV, Option.isSome_none]
          go_wp2_with fail
          refine bodyPost_ret (v := .tuple #[.int .i64 0, .bool false, .int .i64 0]) (by simp [results, Try.results64, go_sem]) rfl ⟨?_, (hk4.alloc _).be⟩
          rw [HRR2.out, HE1.out]; rfl
        · simp only [pntV, Option.isSome_some]
          have ffb := HFB.out b rfl
          have hkp : KP w (.slice pa l.length ca) l f t n1 w4.heap.size a b (w4.alloc (.cells #[.int .i64 t, .int .i64 b.n, .int .i64 b.d, .int .i64 b.q] 86)) := ⟨hk4.alloc _, hba4.alloc _, Blk.new _ _ _⟩
          clear hk4 hba4
          go_upto_region 8 with fail
          generalize w4.alloc (.cells #[.int .i64 t, .int .i64 b.n, .int .i64 b.d, .int .i64 b.q] 86) = w5 at *
          generalize w4.heap.size = n2 at *
          have a1 : w5.cell? ⟨n1, 1, none⟩ = some (.int .i64 a.n) := hkp.a.cell 1
          have a2 : w5.cell? ⟨n1, 2, none⟩ = some (.int .i64 a.d) := hkp.a.cell 2
          have a3 : w5.cell? ⟨n1, 3, none⟩ = some (.int .i64 a.q) := hkp.a.cell 3
          have b1 : w5.cell? ⟨n2, 1, none⟩ = some (.int .i64 b.n) := hkp.b.cell 1
          have b2 : w5.cell? ⟨n2, 2, none⟩ = some (.int .i64 b.d) := hkp.b.cell 2
          have b3 : w5.cell? ⟨n2, 3, none⟩ = some (.int .i64 b.q) := hkp.b.cell 3
          by_cases hqa : a.q = 2
          · have hqa' : (a.q == 2) = true := by simpa using hqa
            have HQ := Lib.hid (show RR = none by rw [HRR2.out]; exact if_pos (.inl hqa))
            clear hqa
            go_wp2_with fail
            refine bodyPost_ret (v := .tuple #[.int .i64 0, .bool false, .int .i64 0]) (by simp [results, Try.results64, go_sem]) rfl ⟨?_, hkp.k.be⟩
            rw [HQ.out, HE1.out]; rfl
          · have hqa' : (a.q == 2) = false := by simpa using hqa
            by_cases hqb : b.q = 2
            · have hqb' : (b.q == 2) = true := by simpa using hqb
              have HQ := Lib.hid (show RR = none by rw [HRR2.out]; exact if_pos (.inr hqb))
              clear hqa hqb
              go_wp2_with fail
              refine bodyPost_ret (v := .tuple #[.int .i64 0, .bool false, .int .i64 0]) (by simp [results, Try.results64, go_sem]) rfl ⟨?_, hkp.k.be⟩
              rw [HQ.out, HE1.out]; rfl
            · have hqb' : (b.q == 2) = false := by simpa using hqb
              have HQ := Lib.hid (show RR = some (tho b.n b.d - tho a.n a.d) by rw [HRR2.out]; exact if_neg (fun h => h.elim hqa hqb))
              have hta := fun w => qtho_any a.n a.d w ffa.1 ffa.2.1 ffa.2.2
              have htb := fun w => qtho_any b.n b.d w ffb.1 ffb.2.1 ffb.2.2
              have hba := tho_bound ffa
              have hbb := tho_bound ffb
              have HTA := Lib.hid hta
              have HTB := Lib.hid htb
              have hws : IntKind.i64.wrap (tho b.n b.d - tho a.n a.d) = tho b.n b.d - tho a.n a.d := IntWalk.i64_in _ (by omega)
              clear hqa hqb hta htb ffa ffb
              generalize tho a.n a.d = TA at *
              generalize tho b.n b.d = TB at *
              go_upto_region 10 with fail
              go_region_held3 (fun w' => w'.cell? ⟨n1, 1, none⟩ = some (.int .i64 a.n) ∧ w'.cell? ⟨n1, 2, none⟩ = some (.int .i64 a.d) ∧ w'.cell? ⟨n2, 1, none⟩ = some (.int .i64 b.n) ∧ w'.cell? ⟨n2, 2, none⟩ = some (.int .i64 b.d))
                (first | exact ⟨hkk.a.cell 1, hkk.a.cell 2, hkk.b.cell 1, hkk.b.cell 2⟩ | exact ⟨a1, a2, b1, b2⟩ | go_keep)
                (first
                | (go_at_call 138; (with_reducible refine (HTB.out _).mono ?_); rintro e wk ⟨rfl, hbk⟩; have hkk := KP.step hbk (by first | assumption | exact KP.drew (by assumption)); clear hbk)
                | (go_at_call 138; (with_reducible refine (HTA.out _).mono ?_); rintro e wk ⟨rfl, hbk⟩; have hkk := KP.step hbk (by first | assumption | exact KP.drew (by assumption)); clear hbk))
              have hbe := hkk.k.be
              go_wp2_with fail
              refine bodyPost_ret (v := .tuple #[.int .i64 (TB - TA), .bool true, .int .i64 0]) (by simp [results, Try.results64, go_sem]) rfl ⟨?_, hbe⟩
              rw [HQ.out, HE1.out]; rfl
  · have h0' : (orE (serErr l) (winErr f t) != 0) = true := by simpa using h0
    have H0 := Lib.hid h0
    clear h0
    go_wp2_with fail
    have hE1 : E = orE (serErr l) (winErr f t) := by rw [HE.out, orE, if_pos H0.out]
    refine bodyPost_ret (v := .tuple #[.int .i64 0, .bool false, .int .i64 (orE (serErr l) (winErr f t))]) (by simp [results, Try.results64, go_sem]) rfl ⟨?_, hk1.be⟩
    rw [HRR.out, if_neg (by rw [hE1]; exact H0.out), hE1]; rfl
end Go.Proofs.Ytblbfpokkpkcjaa
