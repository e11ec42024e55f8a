/- The contract of the reference's ChangeOf. -/
import Derived.Test.YtblbfpokkpkcjaaChg
import Derived.Test.YtblbfpokkpkcjaaVof
namespace Go.Proofs.Ytblbfpokkpkcjaa
open Go.RowKit
set_option linter.unusedVariables false
set_option linter.unusedSimpArgs false

set_option maxRecDepth 100000 in
set_option maxHeartbeats 4000000 in
theorem changeOf_any (v : Value) (l : List Smp) (st : Bool) (f t : Int) (w : World) (hR : RdS w 71 v l) (hS : serErr l = 0) (hW : 0 ≤ f ∧ f ≤ t ∧ t ≤ 345686400000) :
    Calls Try.prog 68 #[v, .bool st, .agg #[.int .i64 f, .int .i64 t]] w fun e w' => e = .returned (.tuple #[.int .i64 ((chgO (valO l st f) (valO l st t)).getD 0), .bool (chgO (valO l st f) (valO l st t)).isSome]) ∧ Below w.heap.size w w' := by
  have hk0 := KW.start (f := f) (t := t) hR
  obtain ⟨pa, ca, rfl⟩ := hR.lenv
  have HS := Lib.hid hS
  have HK0 := Lib.hid hk0
  have hrise := serErr_rise HS.out
  have hright : ∀ i, i < l.length → Right (atS l i) := fun i _ => ⟨(serErr_vt HS.out i).2, (serErr_vt HS.out i).1⟩
  have hfa := fun x => valO_fit (x := x) (st := st) (t := f) hrise hright
  have hfb := fun x => valO_fit (x := x) (st := st) (t := t) hrise hright
  have hva := fun w h => valueOf_any (.slice pa l.length ca) l st f w h hrise (serErr_good HS.out).1 hright (by omega)
  have hvb := fun w h => valueOf_any (.slice pa l.length ca) l st t w h hrise (serErr_good HS.out).1 hright (by omega)
  have HVA := Lib.hid hva
  have HVB := Lib.hid hvb
  have hrr : chgO (valO l st f) (valO l st t) = chgO (valO l st f) (valO l st t) := rfl
  clear hrise hright hva hvb hS hk0 hR
  generalize hRR : chgO (valO l st f) (valO l st t) = RR at hrr ⊢
  have HRR2 := Lib.hid hRR.symm
  clear hRR hrr
  generalize valO l st f = Oa at *
  generalize valO l st t = Ob at *
  have HFA := Lib.hid hfa
  have HFB := Lib.hid hfb
  clear hfa hfb
  go_enter Try.func68, Try.ntmps68
  go_upto_region 1 with fail
  have hk1 := HK0.out
  generalize w.alloc (.cells #[.int .i64 f, .int .i64 t] 82) = w1 at *
  have e0 : w1.cell? ⟨w.heap.size, 0, none⟩ = some (.int .i64 f) := hk1.bw.cell 0
  have e1 : w1.cell? ⟨w.heap.size, 1, none⟩ = some (.int .i64 t) := hk1.bw.cell 1
  go_wp2_with fail
  refine (HVA.out _ hk1.rs).mono ?_
  rintro e w2 ⟨rfl, hb2⟩
  have hk2 := KW.step hb2 hk1
  clear hb2 e0 e1
  rcases Oa with _ | a
  · simp only [pntV, Option.isSome_none]
    have hk3 := hk2.alloc (.cells #[.int .i64 0, .int .i64 0, .int .i64 0, .int .i64 0] 86)
    have e1 : (w2.alloc (.cells #[.int .i64 0, .int .i64 0, .int .i64 0, .int .i64 0] 86)).cell? ⟨w.heap.size, 1, none⟩ = some (.int .i64 t) := hk3.bw.cell 1
    go_upto_region 2 with fail
    generalize w2.alloc (.cells #[.int .i64 0, .int .i64 0, .int .i64 0, .int .i64 0] 86) = w3 at *
    go_wp2_with fail
    refine (HVB.out _ hk3.rs).mono ?_
    rintro e w4 ⟨rfl, hb4⟩
    have hk4 := KW.step hb4 hk3
    obtain ⟨q1, q2, q3, q4, hq⟩ := pntV_agg t Ob
    rw [hq]
    have HQ := Lib.hid hq
    clear hb4 e1 hq
    go_wp2_with fail
    refine bodyPost_ret (v := .tuple #[.int .i64 0, .bool false]) (by simp [results, Try.results68, go_sem]) rfl ⟨?_, (hk4.alloc _).be⟩
    rw [HRR2.out]; rfl
  · simp only [pntV, Option.isSome_some]
    have ffa := HFA.out a rfl
    have hk3 := hk2.alloc (.cells #[.int .i64 f, .int .i64 a.n, .int .i64 a.d, .int .i64 a.q] 86)
    have hba := Blk.new w2 86 #[.int .i64 f, .int .i64 a.n, .int .i64 a.d, .int .i64 a.q]
    have e1 : (w2.alloc (.cells #[.int .i64 f, .int .i64 a.n, .int .i64 a.d, .int .i64 a.q] 86)).cell? ⟨w.heap.size, 1, none⟩ = some (.int .i64 t) := hk3.bw.cell 1
    go_upto_region 2 with fail
    generalize w2.alloc (.cells #[.int .i64 f, .int .i64 a.n, .int .i64 a.d, .int .i64 a.q] 86) = w3 at *
    generalize w2.heap.size = n1 at *
    go_wp2_with fail
    refine (HVB.out _ hk3.rs).mono ?_
    rintro e w4 ⟨rfl, hb4⟩
    have hk4 := KW.step hb4 hk3
    have hba4 := hba.below hb4 hba.lt
    clear hb4 e1 hk3 hba
    rcases Ob with _ | b
    · simp only [pntV, Option.isSome_none]
      go_wp2_with fail
      refine bodyPost_ret (v := .tuple #[.int .i64 0, .bool false]) (by simp [results, Try.results68, go_sem]) rfl ⟨?_, (hk4.alloc _).be⟩
      rw [HRR2.out]; rfl
    · simp only [pntV, Option.isSome_some]
      have ffb := HFB.out b rfl
      have hkp : KP w (.slice pa l.length ca) l f t n1 w4.heap.size a b (w4.alloc (.cells #[.int .i64 t, .int .i64 b.n, .int .i64 b.d, .int .i64 b.q] 86)) := ⟨hk4.alloc _, hba4.alloc _, Blk.new _ _ _⟩
      clear hk4 hba4
      go_upto_region 3 with fail
      generalize w4.alloc (.cells #[.int .i64 t, .int .i64 b.n, .int .i64 b.d, .int .i64 b.q] 86) = w5 at *
      generalize w4.heap.size = n2 at *
      have a1 : w5.cell? ⟨n1, 1, none⟩ = some (.int .i64 a.n) := hkp.a.cell 1
      have a2 : w5.cell? ⟨n1, 2, none⟩ = some (.int .i64 a.d) := hkp.a.cell 2
      have a3 : w5.cell? ⟨n1, 3, none⟩ = some (.int .i64 a.q) := hkp.a.cell 3
      have b1 : w5.cell? ⟨n2, 1, none⟩ = some (.int .i64 b.n) := hkp.b.cell 1
      have b2 : w5.cell? ⟨n2, 2, none⟩ = some (.int .i64 b.d) := hkp.b.cell 2
      have b3 : w5.cell? ⟨n2, 3, none⟩ = some (.int .i64 b.q) := hkp.b.cell 3
      by_cases hqa : a.q = 2
      · have hqa' : (a.q == 2) = true := by simpa using hqa
        have HQ := Lib.hid (show RR = none by rw [HRR2.out]; exact if_pos (.inl hqa))
        clear hqa
        go_wp2_with fail
        refine bodyPost_ret (v := .tuple #[.int .i64 0, .bool false]) (by simp [results, Try.results68, go_sem]) rfl ⟨?_, hkp.k.be⟩
        rw [HQ.out]; rfl
      · have hqa' : (a.q == 2) = false := by simpa using hqa
        by_cases hqb : b.q = 2
        · have hqb' : (b.q == 2) = true := by simpa using hqb
          have HQ := Lib.hid (show RR = none by rw [HRR2.out]; exact if_pos (.inr hqb))
          clear hqa hqb
          go_wp2_with fail
          refine bodyPost_ret (v := .tuple #[.int .i64 0, .bool false]) (by simp [results, Try.results68, go_sem]) rfl ⟨?_, hkp.k.be⟩
          rw [HQ.out]; rfl
        · have hqb' : (b.q == 2) = false := by simpa using hqb
          have HQ := Lib.hid (show RR = some (tho b.n b.d - tho a.n a.d) by rw [HRR2.out]; exact if_neg (fun h => h.elim hqa hqb))
          have hta := fun w => rtho_any a.n a.d w ffa.1 ffa.2.1 ffa.2.2
          have htb := fun w => rtho_any b.n b.d w ffb.1 ffb.2.1 ffb.2.2
          have hba := tho_bound ffa
          have hbb := tho_bound ffb
          have HTA := Lib.hid hta
          have HTB := Lib.hid htb
          have hws : IntKind.i64.wrap (tho b.n b.d - tho a.n a.d) = tho b.n b.d - tho a.n a.d := IntWalk.i64_in _ (by omega)
          clear hqa hqb hta htb ffa ffb
          generalize tho a.n a.d = TA at *
          generalize tho b.n b.d = TB at *
          go_upto_region 5 with fail
          go_region_held3 (fun w' => w'.cell? ⟨n1, 1, none⟩ = some (.int .i64 a.n) ∧ w'.cell? ⟨n1, 2, none⟩ = some (.int .i64 a.d) ∧ w'.cell? ⟨n2, 1, none⟩ = some (.int .i64 b.n) ∧ w'.cell? ⟨n2, 2, none⟩ = some (.int .i64 b.d))
            (first | exact ⟨hkk.a.cell 1, hkk.a.cell 2, hkk.b.cell 1, hkk.b.cell 2⟩ | exact ⟨a1, a2, b1, b2⟩ | go_keep)
            (first
            | (go_at_call 141; (with_reducible refine (HTB.out _).mono ?_); rintro e wk ⟨rfl, hbk⟩; have hkk := KP.step hbk (by first | assumption | exact KP.drew (by assumption)); clear hbk)
            | (go_at_call 141; (with_reducible refine (HTA.out _).mono ?_); rintro e wk ⟨rfl, hbk⟩; have hkk := KP.step hbk (by first | assumption | exact KP.drew (by assumption)); clear hbk))
          have hbe := hkk.k.be
          go_wp2_with fail
          refine bodyPost_ret (v := .tuple #[.int .i64 (TB - TA), .bool true]) (by simp [results, Try.results68, go_sem]) rfl ⟨?_, hbe⟩
          rw [HQ.out]; rfl
end Go.Proofs.Ytblbfpokkpkcjaa
