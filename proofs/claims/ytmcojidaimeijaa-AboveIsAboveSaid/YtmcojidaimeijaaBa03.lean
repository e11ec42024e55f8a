import Derived.Test.YtmcojidaimeijaaBa02
import Derived.Test.YtmcojidaimeijaaAbv
import Derived.Test.YtmcojidaimeijaaRq06
/- AboveIsAbove: the walk of the law, over a contract of ready. -/

namespace Go.Proofs.Ytmcojidaimeijaa
open Go.RowKit
set_option linter.unusedVariables false
set_option linter.unusedSimpArgs false

/-- The number in a box. -/
def boxZ : Value → World → Int
  | .pointer (some a), W => match W.cell? a with
    | some (.int _ x) => x
    | _ => 0
  | _, _ => 0
theorem boxZ_eq {W : World} {g : Nat} {x : Int} (h : Blk W g 3 #[.int .i64 x]) : boxZ (.pointer (some ⟨g, 0, none⟩)) W = x := by
  have := h.cell 0
  simp only [boxZ]
  rw [this]
  rfl
/-- What lies in the loop. -/
structure AiK (w0 : World) (n g : Nat) (f t : Int) (v va : Value) (l : List Smp) (V : List (Int × Int)) (p : Int) (W : World) : Prop where
  bw : Blk W n 43 #[.int .i64 f, .int .i64 t]
  bi : Blk W g 3 #[.int .i64 p]
  rs : RdS W 57 v l
  rw : RdWdw W va V
  lo : Below w0.heap.size w0 W
section
variable {w0 W W' : World} {n g : Nat} {f t p : Int} {v va : Value} {l : List Smp} {V : List (Int × Int)}
theorem AiK.step (h : AiK w0 n g f t v va l V p W) (hb : Below W.heap.size W W') : AiK w0 n g f t v va l V p W' :=
  ⟨h.bw.below hb h.bw.lt, h.bi.below hb h.bi.lt, Rd.below h.rs hb, Rd.below h.rw hb, h.lo.trans (hb.mono h.lo.size)⟩
theorem AiK.alloc (h : AiK w0 n g f t v va l V p W) (o : Obj) : AiK w0 n g f t v va l V p (W.alloc o) := h.step ((Below.refl _ W).alloc (Nat.le_refl _) o)
theorem AiK.box (h : AiK w0 n g f t v va l V p W) (p' : Int) : AiK w0 n W.heap.size f t v va l V p' (W.alloc (.cells #[.int .i64 p'] 3)) :=
  have h2 := h.alloc (.cells #[.int .i64 p'] 3)
  ⟨h2.bw, Blk.new _ _ _, h2.rs, h2.rw, h2.lo⟩
end

set_option maxRecDepth 100000 in
set_option maxHeartbeats 4000000 in
theorem aboveIsAbove_of (HRY : ∀ W, Calls Try.prog 17 #[] W fun e w' => e = .returned (.bool true) ∧ Below W.heap.size W w')
    (w : World) (L : List Int) (A : Option Addr) (cap : Nat) (hc : ∀ i, i < L.length → ∃ ad : Addr, A = some ad ∧ ad.block < w.heap.size ∧ w.cell? (ad.add i) = some (.int .i64 (L.getD i 0)))
    (hl : L.length ≤ 9223372036854775807) (hwf : ∀ i, -9223372036854775808 ≤ L.getD i 0 ∧ L.getD i 0 ≤ 9223372036854775807) :
    Calls Try.prog 4 #[.slice A L.length cap] w fun e w' => e = .returned (.bool true) ∧ Below w.heap.size w w' := by
  have hS0 : Strm (w.alloc (.cells #[.slice A L.length cap, .int .i64 0] 25)) w.heap.size L A cap 0 :=
    ⟨heap_alloc_new w _, fun i hi => by
      obtain ⟨ad, e, hb, hcell⟩ := hc i hi
      exact ⟨ad, e, hb, by rw [World.cell?_alloc_lt _ _ _ (by rw [addr_add_block]; exact hb)]; exact hcell⟩, hl, hwf⟩
  have HS0 := Lib.hid hS0
  have HR := Lib.hid HRY
  clear hS0 hc hwf HRY
  go_enter Try.func4, Try.ntmps4
  go_wp2_with fail
  refine (rightCurve_went _ w.heap.size L A cap 0 10 HS0.out (by omega) (by omega)).mono ?_
  rintro e w1 ⟨v, rfl, l, k1, hrd, hlen, hser, hk1, hw1⟩
  go_wp2_with fail
  refine (range_went _ w.heap.size L A cap k1 0 30 hw1.1 (by omega) (by omega) (by omega) (by omega)).mono ?_
  rintro e w2 ⟨rfl, hw2, hz9⟩
  clear hz9
  have hr1 := nxt_range L k1 (30 - 0 + 1) (by omega)
  have hf : 0 ≤ 0 + nxt L k1 (30 - 0 + 1) ∧ 0 + nxt L k1 (30 - 0 + 1) ≤ 30 := by omega
  generalize 0 + nxt L k1 (30 - 0 + 1) = f at *
  clear hr1
  go_wp2_with fail
  refine (range_went _ w.heap.size L A cap (k1 + 1) 30 90 hw2.1 (by omega) (by omega) (by omega) (by omega)).mono ?_
  rintro e w3 ⟨rfl, hw3, hz9⟩
  clear hz9
  have hr1 := nxt_range L (k1 + 1) (90 - 30 + 1) (by omega)
  have ht : 30 ≤ 30 + nxt L (k1 + 1) (90 - 30 + 1) ∧ 30 + nxt L (k1 + 1) (90 - 30 + 1) ≤ 90 := by omega
  generalize 30 + nxt L (k1 + 1) (90 - 30 + 1) = t at *
  clear hr1
  go_wp2_with fail
  refine (range_went _ w.heap.size L A cap (k1 + 1 + 1) (-3) 8 hw3.1 (by omega) (by omega) (by omega) (by omega)).mono ?_
  rintro e w4 ⟨rfl, hw4, hz9⟩
  clear hz9
  have hr1 := nxt_range L (k1 + 1 + 1) (8 - -3 + 1) (by omega)
  have hlim : -3 ≤ -3 + nxt L (k1 + 1 + 1) (8 - -3 + 1) ∧ -3 + nxt L (k1 + 1 + 1) (8 - -3 + 1) ≤ 8 := by omega
  generalize -3 + nxt L (k1 + 1 + 1) (8 - -3 + 1) = lim at *
  clear hr1
  have hrd4 : RdS w4 57 v l := Rd.but hw3.1 (by decide) (Rd.but hw2.1 (by decide) (Rd.but hw1.1 (by decide) hrd hw2.2) hw3.2) hw4.2
  have hb4 := hw1.2.trans (hw2.2.trans (hw3.2.trans hw4.2))
  have hlow : Below w.heap.size w w4 := ((Below.refl _ w).alloc (Nat.le_refl _) _).trans ⟨hb4.os, hb4.tape, hb4.output, hb4.size, fun i hi => hb4.block i (by simp; omega) (by omega)⟩
  obtain ⟨pa, ca, rfl⟩ := hrd4.lenv
  have HSER := Lib.hid hser
  have hbw := Blk.new w4 43 #[.int .i64 f, .int .i64 t]
  have hlow4 := hlow.alloc hlow.size (.cells #[.int .i64 f, .int .i64 t] 43)
  have hrd5 : RdS (w4.alloc (.cells #[.int .i64 f, .int .i64 t] 43)) 57 (.slice pa l.length ca) l := Rd.alloc hrd4 _
  clear hrd hw1 hw2 hw3 hw4 hb4 hrd4 hk1 hser hlow
  go_upto_region 3 with fail
  generalize w4.alloc (.cells #[.int .i64 f, .int .i64 t] 43) = w5 at *
  generalize w4.heap.size = n at *
  have hE : ∀ M : Int, -3 ≤ M → M ≤ 9 → aboE l f t M = 0 := fun M h1 h2 => by
    unfold aboE
    have h3 : winErr f t = 0 := by unfold winErr; rw [if_pos (winB_true.2 ⟨by omega, by omega, by omega⟩)]
    rw [h3, HSER.out, inB_true.2 ⟨by omega, by omega⟩]
    rfl
  have hRR : ∀ M : Int, -3 ≤ M → M ≤ 9 → aboR l f t M = aboV l f t M := fun M h1 h2 => by unfold aboR; rw [if_pos (hE M h1 h2)]
  have e0 := hbw.cell 0
  have e1 := hbw.cell 1
  go_wp2_with fail
  refine (above_any (.slice pa l.length ca) l f t lim _ hrd5 (by omega)).mono ?_
  rintro e w6 ⟨va, rfl, hra, hb6⟩
  rw [hE lim (by omega) (by omega), hRR lim (by omega) (by omega)]
  rw [hRR lim (by omega) (by omega)] at hra
  have hbw6 := hbw.below hb6 hbw.lt
  have hrd6 := Rd.below hrd5 hb6
  have hlow6 := hlow4.trans (hb6.mono hlow4.size)
  clear e0 e1 hbw hrd5 hlow4 hb6
  have e0 := hbw6.cell 0
  have e1 := hbw6.cell 1
  go_wp2_with fail
  refine (above_any (.slice pa l.length ca) l f t (lim + 1) _ hrd6 (by omega)).mono ?_
  rintro e w7 ⟨vb, rfl, _, hb7⟩
  rw [hE (lim + 1) (by omega) (by omega), hRR (lim + 1) (by omega) (by omega)]
  have hless : ¬ (aboV l f t lim).2 < (aboV l f t (lim + 1)).2 := by
    have h := abS_less lim f (valL l f t) ((strL_chain (serErr_rise HSER.out)).filter _)
    unfold aboV
    omega
  have HAT := Lib.hid (fun (p : Int) (hp : f ≤ p ∧ p < t) => above_at (L := lim) HSER.out hf.1 hp)
  have hwl : (aboV l f t lim).1.length ≤ 5000 := by
    have h1 := (abS_long lim hf.1 (show t ≤ 345686400000 by omega) (valL l f t) (fun x hx => strL_ok HSER.out x (List.mem_filter.1 hx).1)).1
    have h2 : (valL l f t).length ≤ (strL l f t).length := List.length_filter_le _ _
    have h3 := strL_long l f t
    unfold aboV
    omega
  have hk7 : AiK w n n f t (.slice pa l.length ca) va l (aboV l f t lim).1 0 w7 → True := fun _ => trivial
  have hbw7 := hbw6.below hb7 hbw6.lt
  have hrd7 := Rd.below hrd6 hb7
  have hra7 : RdWdw w7 va (aboV l f t lim).1 := Rd.below hra hb7
  have hlow7 := hlow6.trans (hb7.mono hlow6.size)
  generalize aboV l f t lim = V at *
  generalize (aboV l f t (lim + 1)).2 = M at *
  clear e0 e1 hbw6 hrd6 hra hlow6 hb7 hk7 hE hRR
  have e0 := hbw7.cell 0
  have e1 := hbw7.cell 1
  have hk0 : AiK w n w7.heap.size f t (.slice pa l.length ca) va l V.1 f (w7.alloc (.cells #[.int .i64 f] 3)) :=
    ⟨hbw7.alloc _, Blk.new _ _ _, Rd.alloc hrd7 _, Rd.alloc hra7 _, hlow7.alloc hlow7.size _⟩
  obtain ⟨pv, cv, rfl⟩ := hra7.lenv
  have hVE : ∀ p : Int, f ≤ p → p < t → vatE l p = 0 := fun p h1 h2 => by unfold vatE; rw [if_neg (by simp [HSER.out]), inB_true.2 ⟨by omega, by omega⟩]; rfl
  have HVE := Lib.hid hVE
  clear hbw7 hrd7 hra7 hlow7 hVE
  go_wp2_with fail
  go_loopw [13] (fun s13 wr => ∃ (p : Int) (g : Nat), f ≤ p ∧ p ≤ t ∧ s13 = .pointer (some ⟨g, 0, none⟩) ∧ AiK w n g f t (.slice pa l.length ca) (.slice pv V.1.length cv) l V.1 p wr) (fun s13 wr => (t - boxZ s13 wr).toNat)
  case atStart => exact ⟨f, _, by omega, by omega, rfl, hk0⟩
  case round =>
    clear hk0 e0 e1
    obtain ⟨p, g, hp1, hp2, rfl, hk⟩ := hrel
    have e0 := hk.bi.cell 0
    have e1 := hk.bw.cell 1
    by_cases hlt : p < t
    · have HK := Lib.hid hk
      have HV := Lib.hid (publicValueAt_any (.slice pa l.length ca) l true p wr hk.rs)
      have hO : vatO l true p = valO l true p := by unfold vatO; rw [if_pos (HVE.out p hp1 hlt)]
      rw [HVE.out p hp1 hlt, hO] at HV
      have hat := HAT.out p ⟨hp1, hlt⟩
      obtain ⟨a, b, c, d, hag⟩ := pntV_agg p (valO l true p)
      have hcov : covW V.1 p = ((valO l true p).isSome && (decide (d ≠ 2) && decide (lim < b))) := by
        rw [Bool.eq_iff_iff, hat]
        cases hv : valO l true p with
        | none => simp
        | some s =>
          rw [hv] at hag
          simp only [pntV, Value.agg.injEq, Array.mk.injEq, List.cons.injEq, Value.int.injEq, true_and, and_true] at hag
          obtain ⟨_, h2, _, h4⟩ := hag
          rw [← h2, ← h4]
          simp
      rw [hag] at HV
      generalize valO l true p = O at *
      generalize O.isSome = B at *
      have HCOV := Lib.hid hcov
      clear hk hO hat hag hcov
      go_wp2_with fail
      refine HV.out.mono ?_
      rintro e w8 ⟨rfl, hb8⟩
      have hk8 := (HK.out.step hb8).alloc (.cells #[.int .i64 a, .int .i64 b, .int .i64 c, .int .i64 d] 37)
      have hp8 := Blk.new w8 37 #[.int .i64 a, .int .i64 b, .int .i64 c, .int .i64 d]
      clear hb8 e0 e1
      go_upto_region 13 with fail
      generalize w8.alloc (.cells #[.int .i64 a, .int .i64 b, .int .i64 c, .int .i64 d] 37) = w9 at *
      generalize w8.heap.size = q at *
      have f1 := hp8.cell 1
      have f3 := hp8.cell 3
      go_cut [17] (fun s17 wx => s17 = .bool (covW V.1 p) ∧ w9 = wx)
      case first =>
        cases B
        · have HX := Lib.hid (show covW V.1 p = false by rw [HCOV.out]; rfl)
          go_wp2_with fail
          go_meet
          exact ⟨by rw [HX.out], rfl⟩
        · by_cases hd : d = 2
          · have HX := Lib.hid (show covW V.1 p = false by rw [HCOV.out]; simp [hd])
            have hd' : (d != 2) = false := by simpa using hd
            clear hd
            go_wp2_with fail
            go_meet
            exact ⟨by rw [HX.out], rfl⟩
          · have hd' : (d != 2) = true := by simpa using hd
            by_cases hb : lim < b
            · have HX := Lib.hid (show covW V.1 p = true by rw [HCOV.out]; simp [hd, hb])
              clear hd
              go_wp2_with fail
              go_meet
              exact ⟨by rw [HX.out], rfl⟩
            · have HX := Lib.hid (show covW V.1 p = false by rw [HCOV.out]; simp [hb])
              have hb' : decide (lim < b) = false := by simpa using hb
              clear hd
              go_wp2_with fail
              go_meet
              exact ⟨by rw [HX.out], rfl⟩
      case rest =>
      obtain ⟨rfl, rfl⟩ := hcut
      have HCC := Lib.hid (containsCov_any _ V.1 p g w9 hk8.rw hwl hk8.bi)
      have hne : (covW V.1 p != covW V.1 p) = false := by simp
      generalize covW V.1 p = C at *
      clear f1 f3 hp8
      go_wp2_with fail
      refine HCC.out.mono ?_
      rintro e w10 ⟨rfl, hb10⟩
      have hk10 := hk8.step hb10
      have e0 := hk10.bi.cell 0
      have hw1 : IntKind.i64.wrap (p + 1) = p + 1 := IntWalk.i64_in _ (by omega)
      have HK2 := Lib.hid (hk10.box (p + 1))
      have HBX := Lib.hid (boxZ_eq HK.out.bi)
      clear hb10 hk8
      go_wp2_with fail
      go_roundw
      case rel => exact ⟨p + 1, _, by omega, by omega, rfl, HK2.out⟩
      case measure => rw [HBX.out, boxZ_eq HK2.out.bi]; omega
    · obtain rfl : p = t := by omega
      have hlow := hk.lo
      clear hk
      go_wp2_with fail
      refine (HR.out _).mono ?_
      rintro e w8 ⟨rfl, hb8⟩
      go_wp2_with fail
      go_ret
      exact ⟨rfl, hlow.trans (hb8.mono hlow.size)⟩
end Go.Proofs.Ytmcojidaimeijaa

/- AboveIsAbove returns true, for every stream: the law over the contract of ready(), which is proved. -/

namespace Go.Proofs.Ytmcojidaimeijaa
open Go.RowKit
theorem aboveIsAbove_walk (w : World) (L : List Int) (A : Option Addr) (cap : Nat) (hc : ∀ i, i < L.length → ∃ ad : Addr, A = some ad ∧ ad.block < w.heap.size ∧ w.cell? (ad.add i) = some (.int .i64 (L.getD i 0)))
    (hl : L.length ≤ 9223372036854775807) (hwf : ∀ i, -9223372036854775808 ≤ L.getD i 0 ∧ L.getD i 0 ≤ 9223372036854775807) :
    Calls Try.prog 4 #[.slice A L.length cap] w fun e w' => e = .returned (.bool true) ∧ Below w.heap.size w w' :=
  aboveIsAbove_of ready_any w L A cap hc hl hwf
end Go.Proofs.Ytmcojidaimeijaa
