/- AggregatesWeighed: the walk of the law. No condition. -/
import Derived.Test.YtamcbiajicnbfaaQued
import Derived.Test.YtamcbiajicnbfaaAgx
import Derived.Test.YtamcbiajicnbfaaGdt
import Derived.Test.YtamcbiajicnbfaaMdn
import Derived.Test.YtamcbiajicnbfaaMdr
import Derived.Test.YtamcbiajicnbfaaVlx
import Derived.Test.YtamcbiajicnbfaaCurve
import Derived.Test.YtamcbiajicnbfaaKmm
import Derived.Test.YtamcbiajicnbfaaAspan
namespace Go.Proofs.Ytamcbiajicnbfaa
open Go.RowKit
set_option linter.unusedVariables false
set_option linter.unusedSimpArgs false

theorem frac_neqs (w : World) (x y : Int) : (binOp .neq 57 (.agg #[.int .i64 x, .int .i64 y]) (.agg #[.int .i64 x, .int .i64 y])).run Try.prog w = .ok (.bool false) w := by
  have h := frac_eqIn w (x, y) (x, y)
  rw [run_neq_struct, h]
  simp
theorem frac_eqls (w : World) (x y : Int) : (binOp .eql 57 (.agg #[.int .i64 x, .int .i64 y]) (.agg #[.int .i64 x, .int .i64 y])).run Try.prog w = .ok (.bool true) w := by
  have h := frac_eqIn w (x, y) (x, y)
  rw [run_eql_struct, h]
  simp

/-- What stays readable: series, window, a box with a fraction. -/
structure KB (w0 : World) (n : Nat) (f t : Int) (v : Value) (l : List Smp) (p : Nat) (a b : Int) (w : World) : Prop where
  km : KM w0 n f t v l w
  bp : Blk w p 57 #[.int .i64 a, .int .i64 b]
section
variable {w0 w w' : World} {n p : Nat} {v : Value} {l : List Smp} {f t a b : Int}
theorem KB.step (hb : Below w.heap.size w w') (h : KB w0 n f t v l p a b w) : KB w0 n f t v l p a b w' := ⟨h.km.step hb, h.bp.below hb h.bp.lt⟩
end

set_option maxRecDepth 100000 in
set_option maxHeartbeats 4000000 in
theorem aggregates_walk (w : World) (L : List Int) (A : Option Addr) (cap : Nat) (hc : ∀ i, i < L.length → ∃ ad : Addr, A = some ad ∧ ad.block < w.heap.size ∧ w.cell? (ad.add i) = some (.int .i64 (L.getD i 0)))
    (hl : L.length ≤ 9223372036854775807) (hwf : ∀ i, -9223372036854775808 ≤ L.getD i 0 ∧ L.getD i 0 ≤ 9223372036854775807) :
    Calls Try.prog 9 #[.slice A L.length cap] w fun e w' => e = .returned (.bool true) ∧ Below w.heap.size w w' := by
  have hS0 : Strm (w.alloc (.cells #[.slice A L.length cap, .int .i64 0] 25)) w.heap.size L A cap 0 :=
    ⟨heap_alloc_new w _, fun i hi => by
      obtain ⟨ad, e, hb, hcell⟩ := hc i hi
      exact ⟨ad, e, hb, by rw [World.cell?_alloc_lt _ _ _ (by rw [addr_add_block]; exact hb)]; exact hcell⟩, hl, hwf⟩
  have HS0 := Lib.hid hS0
  have hsz0 : w.heap.size < (w.alloc (.cells #[.slice A L.length cap, .int .i64 0] 25)).heap.size := by simp
  have HB0 := Lib.hid ((Below.refl w.heap.size w).alloc (Nat.le_refl _) (.cells #[.slice A L.length cap, .int .i64 0] 25))
  clear hS0 hc hwf
  go_enter Try.func9, Try.ntmps9
  go_upto_region 2 with fail
  generalize w.alloc (.cells #[.slice A L.length cap, .int .i64 0] 25) = W at *
  go_wp2_with fail
  refine (curve_went _ w.heap.size L A cap 0 10 HS0.out (by omega) (by omega)).mono ?_
  rintro e w1 ⟨va, rfl, la, k1, hown, hlen, hnear, hk1, hw1⟩
  go_wp2_with fail
  refine (aSpan_went _ w.heap.size L A cap k1 hw1.1 (by omega)).mono ?_
  rintro e w2 ⟨f, t, k2, rfl, hf, ht, hk2, hw2⟩
  have hown2 := own_but hw1.1 (by decide) hown hw2.2
  have hb2 := hw1.2.trans hw2.2
  have hsz1 := hw1.2.size
  clear hown hw1
  go_wp2_with fail
  refine (pick_new _ _ w.heap.size L A cap k2 [0, 1, 2, -1] hw2.1 rfl (by omega) (by simp)).mono ?_
  rintro e w3 ⟨rfl, hw3⟩
  have hm3 := pk_mem [0, 1, 2, -1] L k2 (by simp)
  simp only [List.mem_cons, List.not_mem_nil, or_false] at hm3
  generalize pk [0, 1, 2, -1] L k2 = q at *
  have hown3 := own_but hw2.1 (by decide) hown2 hw3.2
  have hb3 := hb2.trans hw3.2
  have hq : -1 ≤ q ∧ q ≤ 2 := by omega
  clear hm3 hown2 hw2 hw3 hb2
  have hsz3 := hb3.size
  have hk0 : KM w w3.heap.size f t va la (w3.alloc (.cells #[.int .i64 f, .int .i64 t] 82)) :=
    ⟨Rd.alloc (Rd.of_own hown3) _, Blk.new _ _ _, HB0.out.trans ((butBelow2 hb3 (Nat.le_refl _) (Nat.le_of_lt hsz0)).alloc (by omega) _)⟩
  clear hown3 hb3 hnear
  go_upto_region 3 with fail
  generalize w3.alloc (.cells #[.int .i64 f, .int .i64 t] 82) = w4 at *
  generalize w3.heap.size = n at *
  have e0 := hk0.bw.cell 0
  have e1 := hk0.bw.cell 1
  go_region_held3 (fun w' => w'.cell? ⟨n, 0, none⟩ = some (.int .i64 f) ∧ w'.cell? ⟨n, 1, none⟩ = some (.int .i64 t))
    (first | exact ⟨hk2'.bw.cell 0, hk2'.bw.cell 1⟩ | exact ⟨hkk.bw.cell 0, hkk.bw.cell 1⟩ | exact ⟨e0, e1⟩ | go_keep)
    (first
    | (go_at_call 21; (with_reducible refine (seriesFault_any va la _ ?_).mono ?_); (focus (exact KM.rs (by first | assumption | exact KM.drew (by assumption)))); rintro e wk ⟨rfl, hbk⟩; have hkk := KM.step hbk (by first | assumption | exact KM.drew (by assumption)); clear hbk)
    | (go_at_call 56; (with_reducible refine (windowFault_any f t _).mono ?_); rintro e wk ⟨rfl, hbk⟩; have hkk := KM.step hbk (by first | assumption | exact KM.drew (by assumption)); clear hbk)
    | (go_at_call 20; refine (or2_any _ _ (serErr la) (winErr f t) (by exact Blk.new _ _ _)).mono ?_; rintro e wj ⟨rfl, rfl⟩; have hk2' := hkk.alloc (.cells #[.int .i64 (serErr la), .int .i64 (winErr f t)] 34)))
  rw [orOf2]
  clear e0 e1 hkk hk0
  generalize wk.alloc (.cells #[.int .i64 (serErr la), .int .i64 (winErr f t)] 34) = wz at *
  have e0 := hk2'.bw.cell 0
  have e1 := hk2'.bw.cell 1
  go_wp2_with fail
  refine (integral_any va la f t _ hk2'.rs).mono ?_
  rintro e wa ⟨rfl, hba⟩
  have hka := KM.step hba hk2'
  clear e0 e1 hba hk2'
  have e0 := hka.bw.cell 0
  have e1 := hka.bw.cell 1
  go_wp2_with fail
  refine (average_any va la f t _ hka.rs).mono ?_
  rintro e wb ⟨rfl, hbb⟩
  have hkb0 := KM.step hbb hka
  have hkb : KB w n f t va la wb.heap.size (ckB la f t).n (ckB la f t).d (wb.alloc (.cells #[.int .i64 (ckB la f t).n, .int .i64 (ckB la f t).d] 57)) := ⟨hkb0.alloc _, Blk.new _ _ _⟩
  clear e0 e1 hbb hka hkb0
  go_upto_region 6 with fail
  generalize wb.alloc (.cells #[.int .i64 (ckB la f t).n, .int .i64 (ckB la f t).d] 57) = wb2 at *
  generalize wb.heap.size = p at *
  have e0 := hkb.km.bw.cell 0
  have e1 := hkb.km.bw.cell 1
  go_wp2_with fail
  refine (extremes_any va la f t _ hkb.km.rs).mono ?_
  rintro e wc ⟨rfl, hbc⟩
  have hkc := KB.step hbc hkb
  clear e0 e1 hbc hkb
  have e0 := hkc.km.bw.cell 0
  have e1 := hkc.km.bw.cell 1
  go_wp2_with fail
  refine (median_any va la f t _ hkc.km.rs (by omega)).mono ?_
  rintro e wd ⟨rfl, hbd⟩
  have hkd := KB.step hbd hkc
  clear e0 e1 hbd hkc
  have e0 := hkd.km.bw.cell 0
  have e1 := hkd.km.bw.cell 1
  go_wp2_with fail
  refine (goodTime_any va la f t q _ hkd.km.rs).mono ?_
  rintro e we ⟨rfl, hbe⟩
  have hke := KB.step hbe hkd
  clear e0 e1 hbe hkd
  have HGE := Lib.hid (show gdE la f t q = orE (orE (serErr la) (winErr f t)) (if q = 0 ∨ q = 1 then 0 else 4) from rfl)
  have HGR := Lib.hid (show gdR la f t q = if gdE la f t q = 0 then goodS q (strL la f t) else 0 from rfl)
  have HCS := Lib.hid (show ckS la f t = if orE (serErr la) (winErr f t) = 0 then (aggV la f t).s else 0 from rfl)
  have HCB := Lib.hid (show ckB la f t = if orE (serErr la) (winErr f t) = 0 then ⟨f, t, (aggV la f t).g, (avgV la f t).1, (avgV la f t).2, (aggV la f t).mn, (aggV la f t).mx⟩ else ⟨0, 0, 0, 0, 0, 0, 0⟩ from rfl)
  have HMR := Lib.hid (show mdR la f t = if orE (serErr la) (winErr f t) = 0 then medR la f t else none from rfl)
  have HZ := Lib.hid (fun h : orE (serErr la) (winErr f t) = 0 => And.intro (orE_zero h).1 (winErr_ok (orE_zero h).2))
  simp only [show mdE la f t = orE (serErr la) (winErr f t) from rfl]
  generalize gdE la f t q = GE at *
  generalize gdR la f t q = GR at *
  generalize ckS la f t = CS at *
  generalize ckB la f t = CB at *
  generalize mdR la f t = MR at *
  generalize orE (serErr la) (winErr f t) = F at *
  have e0 := hke.km.bw.cell 0
  have e1 := hke.km.bw.cell 1
  go_upto_region 9 with fail
  go_cut [23] (fun s23 wx => s23 = .int .i64 GE ∧ KB w n f t va la p CB.n CB.d wx)
  case first =>
    by_cases h0 : q = 0
    · have h0' : (q != 0) = false := by simpa using h0
      have HX := Lib.hid (show GE = orE F 0 by rw [HGE.out, if_pos (.inl h0)])
      clear h0
      go_wp2_with (first
        | (go_at_call 66; refine (when1_any _ _ _).mono ?_; rintro e wk ⟨rfl, rfl⟩)
        | (go_at_call 20; refine (or2_any _ _ F 0 (by exact Blk.new _ _ _)).mono ?_; rintro e wj ⟨rfl, rfl⟩))
      go_meet
      exact ⟨vi (by rw [HX.out, orOf2]), KB.step ((Below.refl _ _).alloc (Nat.le_refl _) _) hke⟩
    · by_cases h1 : q = 1
      · have h0' : (q != 0) = true := by simpa using h0
        have h1' : (q != 1) = false := by simpa using h1
        have HX := Lib.hid (show GE = orE F 0 by rw [HGE.out, if_pos (.inr h1)])
        clear h0 h1
        go_wp2_with (first
          | (go_at_call 66; refine (when1_any _ _ _).mono ?_; rintro e wk ⟨rfl, rfl⟩)
          | (go_at_call 20; refine (or2_any _ _ F 0 (by exact Blk.new _ _ _)).mono ?_; rintro e wj ⟨rfl, rfl⟩))
        go_meet
        exact ⟨vi (by rw [HX.out, orOf2]), KB.step ((Below.refl _ _).alloc (Nat.le_refl _) _) hke⟩
      · have h0' : (q != 0) = true := by simpa using h0
        have h1' : (q != 1) = true := by simpa using h1
        have HX := Lib.hid (show GE = orE F 4 by rw [HGE.out, if_neg (fun h => h.elim h0 h1)])
        clear h0 h1
        go_wp2_with (first
          | (go_at_call 66; refine (when1_any _ _ _).mono ?_; rintro e wk ⟨rfl, rfl⟩)
          | (go_at_call 20; refine (or2_any _ _ F 4 (by exact Blk.new _ _ _)).mono ?_; rintro e wj ⟨rfl, rfl⟩))
        go_meet
        exact ⟨vi (by rw [HX.out, orOf2]), KB.step ((Below.refl _ _).alloc (Nat.le_refl _) _) hke⟩
  case rest =>
    obtain ⟨rfl, hkf⟩ := hcut
    clear hke e0 e1
    have e0 := hkf.km.bw.cell 0
    have e1 := hkf.km.bw.cell 1
    go_upto_region 10 with fail
    go_cut [117] (fun s117 wx => s117 = .bool false ∧ KB w n f t va la p CB.n CB.d wx)
    case first =>
      have hgg : (GE != GE) = false := by simp
      by_cases hG : GE = 0
      · have hG1 : (GE == 0) = true := by simpa using hG
        have hG2 : (GE != 0) = false := by simpa using hG
        have hX := HGR.out
        rw [if_pos hG] at hX
        have hz := orE_zero (HGE.out.symm.trans hG)
        have HX := Lib.hid hX
        have hrr : (GR != GR) = false := by simp
        have hgo := fun (w : World) (hR : RdS w 71 va la) => goodOf_any va la f t q w hR (HZ.out hz.1).1 (HZ.out hz.1).2
        rw [← hX] at hgo
        have HGO := Lib.hid hgo
        clear hG hX hz hgo
        go_wp2_with (go_at_call 75; refine (HGO.out _ hkf.km.rs).mono ?_; rintro e wk ⟨rfl, hbk⟩)
        go_meet
        exact ⟨rfl, KB.step hbk hkf⟩
      · have hG1 : (GE == 0) = false := by simpa using hG
        have hG2 : (GE != 0) = true := by simpa using hG
        have hX := HGR.out
        rw [if_neg hG] at hX
        have hX' : (GR != 0) = false := by simpa using hX
        clear hG hX
        go_wp2_with fail
        go_meet
        exact ⟨rfl, hkf⟩
    case rest =>
      obtain ⟨rfl, hkg⟩ := hcut
      clear hkf e0 e1
      have e0 := hkg.km.bw.cell 0
      have e1 := hkg.km.bw.cell 1
      have hFF : (F == F) = true := by simp
      by_cases hF : F = 0
      · have hF1 : (F != 0) = false := by simpa using hF
        have hF2 : (F == 0) = true := by simpa using hF
        obtain ⟨hS, hW⟩ := HZ.out hF
        have h1 := HCS.out
        have h2 := HCB.out
        have h3 := HMR.out
        rw [if_pos hF] at h1 h2 h3
        subst h1 h2 h3
        clear hF HCS HCB HMR HZ
        have HIN := Lib.hid (fun (w : World) (hR : RdS w 71 va la) => integralOf_any va la f t w hR hS hW)
        have HAV := Lib.hid (fun (w : World) (hR : RdS w 71 va la) => averageOf_any va la f t w hR hS hW)
        have HEX := Lib.hid (fun (w : World) (hR : RdS w 71 va la) => extremesOf_any va la f t w hR hS hW)
        have HMD := Lib.hid (fun (w : World) (hR : RdS w 71 va la) => medianOf_any va la f t w hR hS hW (by omega))
        dsimp only at *
        generalize aggV la f t = AG at *
        generalize avgV la f t = V at *
        generalize (medR la f t).getD 0 = M1 at *
        generalize (medR la f t).isSome = M2 at *
        generalize decide (0 < AG.g) = PO at *
        go_wp2_with fail
        refine (HIN.out _ hkg.km.rs).mono ?_
        rintro e x1 ⟨rfl, hb1⟩
        have hk1 := KB.step hb1 hkg
        clear e0 e1 hb1 hkg
        have e0 := hk1.km.bw.cell 0
        have e1 := hk1.km.bw.cell 1
        go_wp2_with fail
        refine (HAV.out _ hk1.km.rs).mono ?_
        rintro e x2 ⟨rfl, hb2⟩
        have hk2 := KB.step ((Below.refl _ _).alloc (Nat.le_refl _) (.cells #[.int .i64 V.1, .int .i64 V.2] 57)) (KB.step hb2 hk1)
        have hbx : Blk (x2.alloc (.cells #[.int .i64 V.1, .int .i64 V.2] 57)) x2.heap.size 57 #[.int .i64 V.1, .int .i64 V.2] := Blk.new _ _ _
        clear e0 e1 hb2 hk1
        go_upto_region 16 with fail
        generalize x2.alloc (.cells #[.int .i64 V.1, .int .i64 V.2] 57) = x3 at *
        generalize x2.heap.size = p2 at *
        have e0 := hk2.km.bw.cell 0
        have e1 := hk2.km.bw.cell 1
        go_wp2_with fail
        refine (HEX.out _ hk2.km.rs).mono ?_
        rintro e x4 ⟨rfl, hb4⟩
        have hk4 := KB.step hb4 hk2
        have hbx4 := hbx.below hb4 hbx.lt
        clear e0 e1 hb4 hk2 hbx
        have e0 := hk4.km.bw.cell 0
        have e1 := hk4.km.bw.cell 1
        go_wp2_with fail
        refine (HMD.out _ hk4.km.rs).mono ?_
        rintro e x5 ⟨rfl, hb5⟩
        have hk5 := KB.step hb5 hk4
        have hbx5 := hbx4.below hb5 hbx4.lt
        clear e0 e1 hb5 hk4 hbx4
        have b0 := hk5.bp.cell 0
        have b1 := hk5.bp.cell 1
        have d0 := hbx5.cell 0
        have d1 := hbx5.cell 1
        have hbe := hk5.km.be
        have hfn := fun w => frac_neqs w V.1 V.2
        have q1 : (AG.s != AG.s) = false := by simp
        have q2 : (AG.g != AG.g) = false := by simp
        have q3 : (PO != PO) = false := by simp
        have q4 : (AG.mn == AG.mn) = true := by simp
        have q5 : (AG.mx == AG.mx) = true := by simp
        have q6 : (PO == PO) = true := by simp
        have q7 : (M1 == M1) = true := by simp
        have q8 : (M2 == M2) = true := by simp
        generalize AG.s = A1 at *
        generalize AG.g = A2 at *
        generalize AG.mn = A3 at *
        generalize AG.mx = A4 at *
        generalize V.1 = V1 at *
        generalize V.2 = V2 at *
        clear hk5 hbx5 HIN HAV HEX HMD
        go_wp2_with (go_at_call 61; refine (queried_any _).mono ?_; rintro e xq ⟨rfl, hbq⟩)
        go_ret
        exact ⟨rfl, hbe.trans (hbq.mono hbe.size)⟩
      · have hF1 : (F != 0) = true := by simpa using hF
        have hF2 : (F == 0) = false := by simpa using hF
        have h1 := HCS.out
        have h2 := HCB.out
        have h3 := HMR.out
        rw [if_neg hF] at h1 h2 h3
        subst h1 h2 h3
        clear hF HCS HCB HMR HZ
        dsimp only at *
        have b0 := hkg.bp.cell 0
        have b1 := hkg.bp.cell 1
        have hfe := fun w => frac_eqls w 0 0
        have hbe := hkg.km.be
        clear hkg
        go_wp2_with (go_at_call 61; refine (queried_any _).mono ?_; rintro e xq ⟨rfl, hbq⟩)
        go_ret
        exact ⟨rfl, hbe.trans (hbq.mono hbe.size)⟩
end Go.Proofs.Ytamcbiajicnbfaa
