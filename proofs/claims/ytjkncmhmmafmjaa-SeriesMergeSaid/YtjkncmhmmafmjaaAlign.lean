/- The contract of the walk through two series in order (package basic), as Merge of package sample uses it. -/
import Derived.Test.YtjkncmhmmafmjaaAcc
import Derived.StillTailTactics
namespace Go.Proofs.Ytjkncmhmmafmjaa
open Go.RowKit
set_option linter.unusedVariables false
set_option linter.unusedSimpArgs false

/-- The samples of two series in order, of two at one moment the better one. -/
def algn : List Smp → List Smp → List Smp
  | [], b => b
  | x :: a, [] => x :: a
  | x :: a, y :: b => if x.t < y.t then x :: algn a (y :: b) else if y.t < x.t then y :: algn (x :: a) b else better x y :: algn a b
  termination_by a b => a.length + b.length

theorem algn_nil_left (b : List Smp) : algn [] b = b := by rw [algn]
theorem algn_nil_right (a : List Smp) : algn a [] = a := by cases a <;> simp [algn]
theorem algn_cons (x y : Smp) (a b : List Smp) : algn (x :: a) (y :: b) = if x.t < y.t then x :: algn a (y :: b) else if y.t < x.t then y :: algn (x :: a) b else better x y :: algn a b := by rw [algn]

theorem below_undrew {B : Nat} {w w' : World} (h : Below B w.drew w') : Below B w w' := ⟨h.os, h.tape, h.output, h.size, h.block⟩
def lenOf : Value → Nat
  | .slice _ n _ => n
  | _ => 0

/-- What is left of a slice behind its first element. -/
theorem RdS.tail {w : World} {e : TypeId} {b off n c : Nat} {x : Smp} {r : List Smp} (h : RdS w e (.slice (some ⟨b, off, none⟩) (n + 1) c) (x :: r)) (a : Option Addr) (ha : c ≠ 1 → a = some ⟨b, off + 3, none⟩) :
    RdS w e (.slice a n (c - 1)) r := by
  obtain ⟨h1, a', c', hv, h2, h3, h4⟩ := h
  simp only [Value.slice.injEq] at hv
  obtain ⟨rfl, hn, rfl⟩ := hv
  simp only [List.length_cons] at *
  have hnr : n = r.length := by omega
  subst hnr
  refine ⟨cellsOf_length r, a, c - 1, rfl, by omega, by omega, fun h0 => ?_⟩
  obtain ⟨b', off', cur, fr, hb, hh, hc⟩ := h4 (by omega)
  simp only [Option.some.injEq, Addr.mk.injEq, and_true] at hb
  obtain ⟨rfl, rfl⟩ := hb
  refine ⟨b, off + 3, cur, fr, ha (by omega), hh, fun j hj => ?_⟩
  have := hc (3 + j) (by omega)
  rw [show off + 3 + j = off + (3 + j) from by omega, this]
  simp only [cellsOf_cons]
  rw [List.getElem?_append_right (by simp [Smp.cells])]
  congr 1
  simp [Smp.cells]

set_option maxRecDepth 100000 in
set_option maxHeartbeats 4000000 in
theorem align_any (w0 w : World) (m : Nat) (va vb : Value) (a b : List Smp) (hm : m = w0.heap.size) (ha : RdS w0 27 va a) (hb : RdS w0 27 vb b) (hla : a.length ≤ 5000) (hlb : b.length ≤ 5000)
    (hM : Mg w m []) (hbw : Below m w0 w) :
    Calls Try.prog 44 #[va, vb, .func (.func 45) #[] #[], .func (.func 43) #[] #[.pointer (some ⟨m, 0, none⟩)],
      .func (.func 46) #[] #[.pointer (some ⟨m + 1, 0, none⟩)]] w fun e w' => e = .returned (.tuple #[]) ∧ Mg w' m (algn a b) ∧ Below m w w' := by
  subst hm
  go_enter Try.func44, Try.ntmps44
  go_wp2_with fail
  go_loopw [0, 1] (fun sa sb wr => ∃ ra rb acc : List Smp, RdS w0 27 sa ra ∧ RdS w0 27 sb rb ∧ Mg wr w0.heap.size acc ∧ Below w0.heap.size w0 wr ∧ Below w0.heap.size w wr ∧ acc ++ algn ra rb = algn a b ∧ acc.length + ra.length + rb.length ≤ 10000)
    (fun sa sb _ => lenOf sa + lenOf sb)
  case atStart => exact ⟨a, b, [], ha, hb, hM, hbw, Below.refl _ _, rfl, by simp; omega⟩
  case round =>
    obtain ⟨ra, rb, acc, hra, hrb, hMr, hb0, hbr, heq, hlen⟩ := hrel
    have HEQ := Lib.hid heq
    clear heq
    by_cases hpos : 0 < ra.length ∧ 0 < rb.length
    · obtain ⟨hpa, hpb⟩ := hpos
      obtain ⟨ba, oa, ca, rfl, hca1, hca2, hbalt, hcella⟩ := RdS.cells hra hpa
      obtain ⟨bb, ob, cb, rfl, hcb1, hcb2, hbblt, hcellb⟩ := RdS.cells hrb hpb
      match ra, rb, hpa, hpb with
      | x :: ra, y :: rb, _, _ =>
        obtain ⟨a0, a1, a2⟩ := hcella 0 (by simp)
        obtain ⟨b0, b1, b2⟩ := hcellb 0 (by simp)
        simp only [Nat.zero_mul, Nat.add_zero, List.getElem_cons_zero, List.length_cons] at a0 a1 a2 b0 b1 b2 hca1 hcb1 hlen ⊢
        rw [← hb0.cell hbalt] at a0 a1 a2
        rw [← hb0.cell hbblt] at b0 b1 b2
        clear hcella hcellb
        unfold maxLen at hca2 hcb2
        have hbar : ba < wr.heap.size := Nat.lt_of_lt_of_le hbalt hb0.size
        have hbbr : bb < wr.heap.size := Nat.lt_of_lt_of_le hbblt hb0.size
        have HRA := Lib.hid hra
        have HRB := Lib.hid hrb
        have HMR := Lib.hid hMr
        clear hra hrb hMr
        rcases Int.lt_trichotomy x.t y.t with hxy | hxy | hxy
        · have hby : ∀ w' : World, Calls Try.prog 45 #[x.agg, y.agg] w' fun e w'' => e = .returned (.int .i64 (-1)) ∧ Below w'.heap.size w' w'' := fun w' => (byMoment_any x y w').mono fun e w'' h => ⟨by rw [h.1, cmpI, if_pos hxy], h.2⟩
          have halg : algn (x :: ra) (y :: rb) = x :: algn ra (y :: rb) := by rw [algn_cons, if_pos hxy]
          have HBY := Lib.hid hby
          have HALG := Lib.hid halg
          have HXY := Lib.hid hxy
          clear hby halg hxy
          go_wp2_with fail
          go_still_tail 7, (by kernel_rfl)
          change wpList _ _ _ _ _ wr.drew
          go_wp2_with fail
          refine (HBY.out _).mono ?_
          rintro e w2 ⟨rfl, hb2'⟩
          have hb2 : Below wr.heap.size wr w2 := below_undrew hb2'
          have hM2 : Mg w2 w0.heap.size acc := HMR.out.below hb2
          have hb02 : Below w0.heap.size w0 w2 := hb0.trans (Below.mono (B := wr.heap.size) hb2 hb0.size)
          have hbr2 : Below w0.heap.size w w2 := hbr.trans (Below.mono (B := wr.heap.size) hb2 hb0.size)
          rw [← hb2.cell (p := ⟨ba, oa, none⟩) hbar] at a0
          rw [← hb2.cell (p := ⟨ba, oa + 1, none⟩) hbar] at a1
          rw [← hb2.cell (p := ⟨ba, oa + 2, none⟩) hbar] at a2
          rw [← hb2.cell (p := ⟨bb, ob, none⟩) hbbr] at b0
          rw [← hb2.cell (p := ⟨bb, ob + 1, none⟩) hbbr] at b1
          rw [← hb2.cell (p := ⟨bb, ob + 2, none⟩) hbbr] at b2
          clear hb2' hb2
          have HM2 := Lib.hid hM2
          clear hM2
          go_wp2_with fail
          refine (add_any x w0.heap.size acc w2 HM2.out (by omega)).mono ?_
          rintro e w3 ⟨rfl, hM3, hb3⟩
          have hb03 := hb02.trans hb3
          have hbr3 := hbr2.trans hb3
          clear hb3 a0 a1 a2 b0 b1 b2
          go_wp2_with fail
          go_roundw
          case rel => exact ⟨ra, y :: rb, acc ++ [x], RdS.tail HRA.out _ (fun h => by simp [h]), HRB.out, hM3, hb03, hbr3, by rw [← HEQ.out, HALG.out]; simp, by simp; omega⟩
          case measure => simp [lenOf]
        · have hby : ∀ w' : World, Calls Try.prog 45 #[x.agg, y.agg] w' fun e w'' => e = .returned (.int .i64 (0)) ∧ Below w'.heap.size w' w'' := fun w' => (byMoment_any x y w').mono fun e w'' h => ⟨by rw [h.1, cmpI, if_neg (by omega), if_neg (by omega)], h.2⟩
          have halg : algn (x :: ra) (y :: rb) = better x y :: algn ra rb := by rw [algn_cons, if_neg (by omega), if_neg (by omega)]
          have HBY := Lib.hid hby
          have HALG := Lib.hid halg
          have HXY := Lib.hid hxy
          clear hby halg hxy
          go_wp2_with fail
          go_still_tail 7, (by kernel_rfl)
          change wpList _ _ _ _ _ wr.drew
          go_wp2_with fail
          refine (HBY.out _).mono ?_
          rintro e w2 ⟨rfl, hb2'⟩
          have hb2 : Below wr.heap.size wr w2 := below_undrew hb2'
          have hM2 : Mg w2 w0.heap.size acc := HMR.out.below hb2
          have hb02 : Below w0.heap.size w0 w2 := hb0.trans (Below.mono (B := wr.heap.size) hb2 hb0.size)
          have hbr2 : Below w0.heap.size w w2 := hbr.trans (Below.mono (B := wr.heap.size) hb2 hb0.size)
          rw [← hb2.cell (p := ⟨ba, oa, none⟩) hbar] at a0
          rw [← hb2.cell (p := ⟨ba, oa + 1, none⟩) hbar] at a1
          rw [← hb2.cell (p := ⟨ba, oa + 2, none⟩) hbar] at a2
          rw [← hb2.cell (p := ⟨bb, ob, none⟩) hbbr] at b0
          rw [← hb2.cell (p := ⟨bb, ob + 1, none⟩) hbbr] at b1
          rw [← hb2.cell (p := ⟨bb, ob + 2, none⟩) hbbr] at b2
          clear hb2' hb2
          have HM2 := Lib.hid hM2
          clear hM2
          go_wp2_with fail
          go_still_tail 7, (by kernel_rfl)
          change wpList _ _ _ _ _ w2.drew
          go_wp2_with fail
          refine (addBetter_any x y w0.heap.size acc w2.drew (Mg.below (w := w2) HM2.out (Below.refl _ _).drew) (by omega)).mono ?_
          rintro e w3 ⟨rfl, hM3, hb3'⟩
          have hb3 := below_undrew hb3'
          have hb03 := hb02.trans hb3
          have hbr3 := hbr2.trans hb3
          clear hb3' hb3 a0 a1 a2 b0 b1 b2
          go_wp2_with fail
          go_quiet (fail)
          go_wp2_with fail
          go_roundw
          case rel => exact ⟨ra, rb, acc ++ [better x y], RdS.tail HRA.out _ (fun h => by simp [h]), RdS.tail HRB.out _ (fun h => by simp [h]), ⟨hM3.ex, hM3.add⟩, bdrewN hb03 _, bdrewN hbr3 _, by rw [← HEQ.out, HALG.out]; simp, by simp; omega⟩
          case measure => simp [lenOf]; omega
        · have hby : ∀ w' : World, Calls Try.prog 45 #[x.agg, y.agg] w' fun e w'' => e = .returned (.int .i64 (1)) ∧ Below w'.heap.size w' w'' := fun w' => (byMoment_any x y w').mono fun e w'' h => ⟨by rw [h.1, cmpI, if_neg (by omega), if_pos hxy], h.2⟩
          have halg : algn (x :: ra) (y :: rb) = y :: algn (x :: ra) rb := by rw [algn_cons, if_neg (by omega), if_pos hxy]
          have HBY := Lib.hid hby
          have HALG := Lib.hid halg
          have HXY := Lib.hid hxy
          clear hby halg hxy
          go_wp2_with fail
          go_still_tail 7, (by kernel_rfl)
          change wpList _ _ _ _ _ wr.drew
          go_wp2_with fail
          refine (HBY.out _).mono ?_
          rintro e w2 ⟨rfl, hb2'⟩
          have hb2 : Below wr.heap.size wr w2 := below_undrew hb2'
          have hM2 : Mg w2 w0.heap.size acc := HMR.out.below hb2
          have hb02 : Below w0.heap.size w0 w2 := hb0.trans (Below.mono (B := wr.heap.size) hb2 hb0.size)
          have hbr2 : Below w0.heap.size w w2 := hbr.trans (Below.mono (B := wr.heap.size) hb2 hb0.size)
          rw [← hb2.cell (p := ⟨ba, oa, none⟩) hbar] at a0
          rw [← hb2.cell (p := ⟨ba, oa + 1, none⟩) hbar] at a1
          rw [← hb2.cell (p := ⟨ba, oa + 2, none⟩) hbar] at a2
          rw [← hb2.cell (p := ⟨bb, ob, none⟩) hbbr] at b0
          rw [← hb2.cell (p := ⟨bb, ob + 1, none⟩) hbbr] at b1
          rw [← hb2.cell (p := ⟨bb, ob + 2, none⟩) hbbr] at b2
          clear hb2' hb2
          have HM2 := Lib.hid hM2
          clear hM2
          go_wp2_with fail
          refine (add_any y w0.heap.size acc w2 HM2.out (by omega)).mono ?_
          rintro e w3 ⟨rfl, hM3, hb3⟩
          have hb03 := hb02.trans hb3
          have hbr3 := hbr2.trans hb3
          clear hb3 a0 a1 a2 b0 b1 b2
          go_wp2_with fail
          go_roundw
          case rel => exact ⟨x :: ra, rb, acc ++ [y], HRA.out, RdS.tail HRB.out _ (fun h => by simp [h]), hM3, hb03, hbr3, by rw [← HEQ.out, HALG.out]; simp, by simp; omega⟩
          case measure => simp [lenOf]
    · have hcat : algn ra rb = ra ++ rb := by
        rcases Nat.eq_zero_or_pos ra.length with h | h
        · rw [List.eq_nil_of_length_eq_zero h, algn_nil_left]; rfl
        · rw [List.eq_nil_of_length_eq_zero (show rb.length = 0 by omega), algn_nil_right]; simp
      have HCAT := Lib.hid hcat
      clear hcat
      obtain ⟨_, pa, ca, rfl, hna1, hna2, hcella⟩ := hra
      obtain ⟨_, pb, cb, rfl, hnb1, hnb2, hcellb⟩ := hrb
      have HCA := Lib.hid hcella
      have HCB := Lib.hid hcellb
      clear hcella hcellb
      by_cases hra0 : 0 < ra.length
      · have hrb0 : ¬ 0 < rb.length := by omega
        clear hpos
        go_wp2_with fail
        clear hra0 hrb0
        go_loopw [65] (fun i wr => ∃ j : Nat, j ≤ ra.length ∧ i = .int .i64 (j : Int) ∧ Mg wr w0.heap.size (acc ++ ra.take j) ∧ Below w0.heap.size w0 wr ∧ Below w0.heap.size w wr) (fun i _ => ra.length - (intOf i).toNat)
        case atStart => exact ⟨0, by omega, rfl, by simpa using hMr, hb0, hbr⟩
        case round =>
          obtain ⟨j, hj, rfl, hMj, hb0, hbr⟩ := hrel
          by_cases hlt : j < ra.length
          · have hax := hlen
            obtain ⟨b, off, cur, fr, rfl, hh, hcc⟩ := HCA.out (by omega)
            have hrd : RdS w0 27 (.slice (some ⟨b, off, none⟩) ra.length ca) ra := ⟨cellsOf_length _, _, _, rfl, hna1, hna2, fun _ => ⟨b, off, cur, fr, rfl, hh, hcc⟩⟩
            obtain ⟨b', off', c', hv, _, _, hblt, hcell⟩ := RdS.cells hrd (by omega)
            simp only [Value.slice.injEq, Option.some.injEq, Addr.mk.injEq, and_true, true_and] at hv
            obtain ⟨⟨rfl, rfl⟩, rfl⟩ := hv
            obtain ⟨a0, a1, a2⟩ := hcell j hlt
            rw [← hb0.cell hblt] at a0 a1 a2
            have htk : ra.take (j + 1) = ra.take j ++ [ra[j]] := by rw [List.take_succ_eq_append_getElem hlt]
            have hbr0 : b < wr.heap.size := Nat.lt_of_lt_of_le hblt hb0.size
            generalize ra[j] = x at *
            have HTK := Lib.hid htk
            have HMJ := Lib.hid hMj
            clear htk hMj hcell hrd hh hcc
            unfold maxLen at hna2
            go_wp2_with fail
            refine (add_any x w0.heap.size (acc ++ ra.take j) _ (Mg.below (w := wr) HMJ.out ((Below.refl _ _).alloc (Nat.le_refl _) _)) (by have := List.length_take_le j ra; simp; omega)).mono ?_
            rintro e w3 ⟨rfl, hM3, hb3⟩
            have hb03 := (hb0.alloc hb0.size _).trans hb3
            have hbr3 := (hbr.alloc hb0.size _).trans hb3
            clear hb3 a0 a1 a2
            go_wp2_with fail
            go_roundw
            case rel => exact ⟨j + 1, by omega, by go_num, by rw [HTK.out, ← List.append_assoc]; exact hM3, hb03, hbr3⟩
            case measure => simp [intOf]; omega
          · obtain rfl : j = ra.length := by omega
            rw [List.take_of_length_le (Nat.le_refl _)] at hMj
            go_wp2_with fail
            go_loopw [75] (fun i wr => ∃ j : Nat, j ≤ rb.length ∧ i = .int .i64 (j : Int) ∧ Mg wr w0.heap.size ((acc ++ ra) ++ rb.take j) ∧ Below w0.heap.size w0 wr ∧ Below w0.heap.size w wr) (fun i _ => rb.length - (intOf i).toNat)
            case atStart => exact ⟨0, by omega, rfl, by simpa using hMj, hb0, hbr⟩
            case round =>
              obtain ⟨j, hj, rfl, hMj, hb0, hbr⟩ := hrel
              by_cases hlt : j < rb.length
              · have hax := hlen
                obtain ⟨b, off, cur, fr, rfl, hh, hcc⟩ := HCB.out (by omega)
                have hrd : RdS w0 27 (.slice (some ⟨b, off, none⟩) rb.length cb) rb := ⟨cellsOf_length _, _, _, rfl, hnb1, hnb2, fun _ => ⟨b, off, cur, fr, rfl, hh, hcc⟩⟩
                obtain ⟨b', off', c', hv, _, _, hblt, hcell⟩ := RdS.cells hrd (by omega)
                simp only [Value.slice.injEq, Option.some.injEq, Addr.mk.injEq, and_true, true_and] at hv
                obtain ⟨⟨rfl, rfl⟩, rfl⟩ := hv
                obtain ⟨a0, a1, a2⟩ := hcell j hlt
                rw [← hb0.cell hblt] at a0 a1 a2
                have htk : rb.take (j + 1) = rb.take j ++ [rb[j]] := by rw [List.take_succ_eq_append_getElem hlt]
                have hbr0 : b < wr.heap.size := Nat.lt_of_lt_of_le hblt hb0.size
                generalize rb[j] = x at *
                have HTK := Lib.hid htk
                have HMJ := Lib.hid hMj
                clear htk hMj hcell hrd hh hcc
                unfold maxLen at hnb2
                go_wp2_with fail
                refine (add_any x w0.heap.size ((acc ++ ra) ++ rb.take j) _ (Mg.below (w := wr) HMJ.out ((Below.refl _ _).alloc (Nat.le_refl _) _)) (by have := List.length_take_le j rb; simp; omega)).mono ?_
                rintro e w3 ⟨rfl, hM3, hb3⟩
                have hb03 := (hb0.alloc hb0.size _).trans hb3
                have hbr3 := (hbr.alloc hb0.size _).trans hb3
                clear hb3 a0 a1 a2
                go_wp2_with fail
                go_roundw
                case rel => exact ⟨j + 1, by omega, by go_num, by rw [HTK.out, ← List.append_assoc]; exact hM3, hb03, hbr3⟩
                case measure => simp [intOf]; omega
              · obtain rfl : j = rb.length := by omega
                rw [List.take_of_length_le (Nat.le_refl _)] at hMj
                go_wp2_with fail
                go_end0
                refine ⟨rfl, ?_, hbr⟩
                rw [← HEQ.out, HCAT.out, ← List.append_assoc]
                exact hMj
      · clear hpos
        go_wp2_with fail
        clear hra0
        go_loopw [65] (fun i wr => ∃ j : Nat, j ≤ ra.length ∧ i = .int .i64 (j : Int) ∧ Mg wr w0.heap.size (acc ++ ra.take j) ∧ Below w0.heap.size w0 wr ∧ Below w0.heap.size w wr) (fun i _ => ra.length - (intOf i).toNat)
        case atStart => exact ⟨0, by omega, rfl, by simpa using hMr, hb0, hbr⟩
        case round =>
          obtain ⟨j, hj, rfl, hMj, hb0, hbr⟩ := hrel
          by_cases hlt : j < ra.length
          · have hax := hlen
            obtain ⟨b, off, cur, fr, rfl, hh, hcc⟩ := HCA.out (by omega)
            have hrd : RdS w0 27 (.slice (some ⟨b, off, none⟩) ra.length ca) ra := ⟨cellsOf_length _, _, _, rfl, hna1, hna2, fun _ => ⟨b, off, cur, fr, rfl, hh, hcc⟩⟩
            obtain ⟨b', off', c', hv, _, _, hblt, hcell⟩ := RdS.cells hrd (by omega)
            simp only [Value.slice.injEq, Option.some.injEq, Addr.mk.injEq, and_true, true_and] at hv
            obtain ⟨⟨rfl, rfl⟩, rfl⟩ := hv
            obtain ⟨a0, a1, a2⟩ := hcell j hlt
            rw [← hb0.cell hblt] at a0 a1 a2
            have htk : ra.take (j + 1) = ra.take j ++ [ra[j]] := by rw [List.take_succ_eq_append_getElem hlt]
            have hbr0 : b < wr.heap.size := Nat.lt_of_lt_of_le hblt hb0.size
            generalize ra[j] = x at *
            have HTK := Lib.hid htk
            have HMJ := Lib.hid hMj
            clear htk hMj hcell hrd hh hcc
            unfold maxLen at hna2
            go_wp2_with fail
            refine (add_any x w0.heap.size (acc ++ ra.take j) _ (Mg.below (w := wr) HMJ.out ((Below.refl _ _).alloc (Nat.le_refl _) _)) (by have := List.length_take_le j ra; simp; omega)).mono ?_
            rintro e w3 ⟨rfl, hM3, hb3⟩
            have hb03 := (hb0.alloc hb0.size _).trans hb3
            have hbr3 := (hbr.alloc hb0.size _).trans hb3
            clear hb3 a0 a1 a2
            go_wp2_with fail
            go_roundw
            case rel => exact ⟨j + 1, by omega, by go_num, by rw [HTK.out, ← List.append_assoc]; exact hM3, hb03, hbr3⟩
            case measure => simp [intOf]; omega
          · obtain rfl : j = ra.length := by omega
            rw [List.take_of_length_le (Nat.le_refl _)] at hMj
            go_wp2_with fail
            go_loopw [75] (fun i wr => ∃ j : Nat, j ≤ rb.length ∧ i = .int .i64 (j : Int) ∧ Mg wr w0.heap.size ((acc ++ ra) ++ rb.take j) ∧ Below w0.heap.size w0 wr ∧ Below w0.heap.size w wr) (fun i _ => rb.length - (intOf i).toNat)
            case atStart => exact ⟨0, by omega, rfl, by simpa using hMj, hb0, hbr⟩
            case round =>
              obtain ⟨j, hj, rfl, hMj, hb0, hbr⟩ := hrel
              by_cases hlt : j < rb.length
              · have hax := hlen
                obtain ⟨b, off, cur, fr, rfl, hh, hcc⟩ := HCB.out (by omega)
                have hrd : RdS w0 27 (.slice (some ⟨b, off, none⟩) rb.length cb) rb := ⟨cellsOf_length _, _, _, rfl, hnb1, hnb2, fun _ => ⟨b, off, cur, fr, rfl, hh, hcc⟩⟩
                obtain ⟨b', off', c', hv, _, _, hblt, hcell⟩ := RdS.cells hrd (by omega)
                simp only [Value.slice.injEq, Option.some.injEq, Addr.mk.injEq, and_true, true_and] at hv
                obtain ⟨⟨rfl, rfl⟩, rfl⟩ := hv
                obtain ⟨a0, a1, a2⟩ := hcell j hlt
                rw [← hb0.cell hblt] at a0 a1 a2
                have htk : rb.take (j + 1) = rb.take j ++ [rb[j]] := by rw [List.take_succ_eq_append_getElem hlt]
                have hbr0 : b < wr.heap.size := Nat.lt_of_lt_of_le hblt hb0.size
                generalize rb[j] = x at *
                have HTK := Lib.hid htk
                have HMJ := Lib.hid hMj
                clear htk hMj hcell hrd hh hcc
                unfold maxLen at hnb2
                go_wp2_with fail
                refine (add_any x w0.heap.size ((acc ++ ra) ++ rb.take j) _ (Mg.below (w := wr) HMJ.out ((Below.refl _ _).alloc (Nat.le_refl _) _)) (by have := List.length_take_le j rb; simp; omega)).mono ?_
                rintro e w3 ⟨rfl, hM3, hb3⟩
                have hb03 := (hb0.alloc hb0.size _).trans hb3
                have hbr3 := (hbr.alloc hb0.size _).trans hb3
                clear hb3 a0 a1 a2
                go_wp2_with fail
                go_roundw
                case rel => exact ⟨j + 1, by omega, by go_num, by rw [HTK.out, ← List.append_assoc]; exact hM3, hb03, hbr3⟩
                case measure => simp [intOf]; omega
              · obtain rfl : j = rb.length := by omega
                rw [List.take_of_length_le (Nat.le_refl _)] at hMj
                go_wp2_with fail
                go_end0
                refine ⟨rfl, ?_, hbr⟩
                rw [← HEQ.out, HCAT.out, ← List.append_assoc]
                exact hMj
end Go.Proofs.Ytjkncmhmmafmjaa
