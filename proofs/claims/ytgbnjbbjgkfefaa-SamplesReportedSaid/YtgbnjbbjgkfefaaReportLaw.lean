/- SamplesReported: the walk of the law. No condition. -/
import Derived.Test.YtgbnjbbjgkfefaaPressed
import Derived.Test.YtgbnjbbjgkfefaaRepw
import Derived.Test.YtgbnjbbjgkfefaaCurve
import Derived.Test.YtgbnjbbjgkfefaaDoor
import Derived.Test.YtgbnjbbjgkfefaaExc
import Derived.Test.YtgbnjbbjgkfefaaDex
namespace Go.Proofs.Ytgbnjbbjgkfefaa
open Go.RowKit
set_option linter.unusedVariables false
set_option linter.unusedSimpArgs false

theorem but_to_below {w0 w w' : World} {g : Nat} (h : But g w w') (hg : w0.heap.size ≤ g) (hs : w0.heap.size ≤ w.heap.size) : Below w0.heap.size w w' :=
  ⟨h.os, h.tape, h.output, h.size, fun i hi => h.block i (by omega) (by omega)⟩

/-- What stays readable: the exception, the door, the series. -/
structure KR (w0 : World) (bx : Nat) (x1 x2 d1 d2 : Int) (v : Value) (l : List Smp) (w : World) : Prop where
  be : Blk w bx 27 #[.int .i64 x1, .int .i64 x2]
  bd : Blk w (bx + 1) 30 #[.int .i64 d1, .int .i64 d2]
  rd : RdS w 71 v l
  bl : Below w0.heap.size w0 w
theorem KR.step {w0 w w' : World} {bx : Nat} {x1 x2 d1 d2 : Int} {v : Value} {l : List Smp} (hb : Below w.heap.size w w') (h : KR w0 bx x1 x2 d1 d2 v l w) : KR w0 bx x1 x2 d1 d2 v l w' :=
  ⟨h.be.below hb h.be.lt, h.bd.below hb h.bd.lt, h.rd.below hb (Nat.le_refl _), h.bl.trans (hb.mono h.bl.size)⟩
theorem KR.alloc {w0 w : World} {bx : Nat} {x1 x2 d1 d2 : Int} {v : Value} {l : List Smp} (h : KR w0 bx x1 x2 d1 d2 v l w) (o : Obj) : KR w0 bx x1 x2 d1 d2 v l (w.alloc o) := KR.step ((Below.refl _ w).alloc (Nat.le_refl _) o) h
theorem KR.drew {w0 w : World} {bx : Nat} {x1 x2 d1 d2 : Int} {v : Value} {l : List Smp} (h : KR w0 bx x1 x2 d1 d2 v l w) : KR w0 bx x1 x2 d1 d2 v l w.drew :=
  h.step (w' := w.drew) (show Below w.heap.size w w.drew from ⟨rfl, rfl, rfl, Nat.le_refl _, fun _ _ => rfl⟩)
theorem KR.drewN {w0 w : World} {bx : Nat} {x1 x2 d1 d2 : Int} {v : Value} {l : List Smp} (h : KR w0 bx x1 x2 d1 d2 v l w) (n : Nat) : KR w0 bx x1 x2 d1 d2 v l (w.drewN n) :=
  h.step (w' := w.drewN n) (show Below w.heap.size w (w.drewN n) from ⟨rfl, rfl, rfl, Nat.le_refl _, fun _ _ => rfl⟩)

set_option maxRecDepth 100000 in
set_option maxHeartbeats 4000000 in
theorem samplesReported_walk (w : World) (L : List Int) (A : Option Addr) (cap : Nat) (hc : ∀ i, i < L.length → ∃ ad : Addr, A = some ad ∧ ad.block < w.heap.size ∧ w.cell? (ad.add i) = some (.int .i64 (L.getD i 0)))
    (hl : L.length ≤ 9223372036854775807) (hwf : ∀ i, -9223372036854775808 ≤ L.getD i 0 ∧ L.getD i 0 ≤ 9223372036854775807) :
    Calls Try.prog 3 #[.slice A L.length cap] w fun e w' => e = .returned (.bool true) ∧ Below w.heap.size w w' := by
  have hS0 : Strm (w.alloc (.cells #[.slice A L.length cap, .int .i64 0] 25)) w.heap.size L A cap 0 :=
    ⟨heap_alloc_new w _, fun i hi => by
      obtain ⟨ad, e, hb, hcell⟩ := hc i hi
      exact ⟨ad, e, hb, by rw [World.cell?_alloc_lt _ _ _ (by rw [addr_add_block]; exact hb)]; exact hcell⟩, hl, hwf⟩
  have HS0 := Lib.hid hS0
  clear hS0 hc hwf
  go_enter Try.func3, Try.ntmps3
  go_wp2_with fail
  refine (exceptionOf_went _ w.heap.size L A cap 0 HS0.out (by omega)).mono ?_
  rintro e w1 ⟨x1, x2, k1, rfl, hx1, hx2, hk1, hw1⟩
  go_wp2_with fail
  refine (doorOf_went _ w.heap.size L A cap k1 hw1.1 (by omega)).mono ?_
  rintro e w2 ⟨d1, d2, k2, rfl, hd1, hd2, hk2, hw2⟩
  go_wp2_with fail
  refine (curve_went _ w.heap.size L A cap k2 12 hw2.1 (by omega) (by omega)).mono ?_
  rintro e w3 ⟨v, rfl, l, k3, hown, hlen, hnear, hk3, hw3⟩
  have hfit := hnear.fit
  have hrd : RdS w3 71 v l := Rd.of_own hown
  have hbl : Below w.heap.size w w3 := ((Below.refl _ w).alloc (Nat.le_refl _) _).trans (but_to_below (hw1.2.trans (hw2.2.trans hw3.2)) (Nat.le_refl _) (by simp))
  have hsz := hbl.size
  have hk : KR w w3.heap.size x1 x2 d1 d2 v l ((w3.alloc (.cells #[.int .i64 x1, .int .i64 x2] 27)).alloc (.cells #[.int .i64 d1, .int .i64 d2] 30)) :=
    ⟨(Blk.new _ _ _).alloc _, Blk.new1 _ _ _ _, Rd.alloc (Rd.alloc hrd _) _, (hbl.alloc hsz _).alloc (by simp; omega) _⟩
  clear hw1 hw2 hw3 hown hnear hrd hbl
  generalize hbx : w3.heap.size = bx at *
  have hg1 : (doorErr x1 x2 != doorErr x1 x2) = false := by simp
  have hg2 : (doorErr d1 d2 != doorErr d1 d2) = false := by simp
  have c0 := hk.be.cell 0
  have c1 := hk.be.cell 1
  have c2 := hk.bd.cell 0
  have c3 := hk.bd.cell 1
  have HFIT := Lib.hid hfit
  clear hfit
  go_upto_region 3 with fail
  generalize (w3.alloc (.cells #[.int .i64 x1, .int .i64 x2] 27)).alloc (.cells #[.int .i64 d1, .int .i64 d2] 30) = w4 at *
  clear hbx hsz hx1 hx2 hd1 hd2 hk1 hk2 hk3
  go_region_held3 (fun w' => w'.cell? ⟨bx, 0, none⟩ = some (.int .i64 x1) ∧ w'.cell? ⟨bx, 1, none⟩ = some (.int .i64 x2) ∧ w'.cell? ⟨bx + 1, 0, none⟩ = some (.int .i64 d1) ∧ w'.cell? ⟨bx + 1, 1, none⟩ = some (.int .i64 d2))
    (first | exact ⟨hkk.be.cell 0, hkk.be.cell 1, hkk.bd.cell 0, hkk.bd.cell 1⟩ | exact ⟨c0, c1, c2, c3⟩ | go_keep)
    (first
    | (go_at_call 12; refine (checkException_any _ _ _).mono ?_; rintro e wk ⟨rfl, hbk⟩; have hkk := KR.step hbk (by first | assumption | exact KR.drew (by assumption)); clear hbk)
    | (go_at_call 13; refine (exceptionFault_any _ _ _).mono ?_; rintro e wk ⟨rfl, hbk⟩; have hkk := KR.step hbk (by first | assumption | exact KR.drew (by assumption)); clear hbk)
    | (go_at_call 14; refine (checkDoor_any _ _ _).mono ?_; rintro e wk ⟨rfl, hbk⟩; have hkk := KR.step hbk (by first | assumption | exact KR.drew (by assumption)); clear hbk)
    | (go_at_call 15; refine (doorFault_any _ _ _).mono ?_; rintro e wk ⟨rfl, hbk⟩; have hkk := KR.step hbk (by first | assumption | exact KR.drew (by assumption)); clear hbk))
  have e0 := hkk.be.cell 0
  have e1 := hkk.be.cell 1
  clear c0 c1 c2 c3
  go_wp2_with fail
  refine (report_any x1 x2 v l _ hkk.rd (by omega) HFIT.out).mono ?_
  rintro e w5 ⟨vr, E, rfl, hE, hok, hbad, hb5⟩
  have hk5 := KR.step hb5 hkk
  have HOK := Lib.hid hok
  have HBAD := Lib.hid hbad
  have HE := Lib.hid hE
  have a0 := hk5.be.cell 0
  have a1 := hk5.be.cell 1
  clear hb5 e0 e1 hok hbad hE
  go_wp2_with fail
  refine (exceptionFault_any x1 x2 _).mono ?_
  rintro e w6 ⟨rfl, hb6⟩
  have hk6 := KR.step hb6 hk5
  go_wp2_with fail
  refine (seriesFault_any v l _ hk6.rd).mono ?_
  rintro e w7 ⟨rfl, hb7⟩
  have hk7 := KR.step hb7 hk6
  go_wp2_with fail
  refine (or2_any _ _ _ _ (by exact Blk.new _ _ _)).mono ?_
  rintro e w8 ⟨rfl, rfl⟩
  have hk8 := hk7.alloc (.cells #[.int .i64 (doorErr x1 x2), .int .i64 (serErr l)] 34)
  have hb58 : Below w5.heap.size w5 (w7.alloc (.cells #[.int .i64 (doorErr x1 x2), .int .i64 (serErr l)] 34)) := ((hb6.trans (hb7.mono hb6.size)).alloc (by have := hb6.size; have := hb7.size; omega) _)
  have HB58 := Lib.hid hb58
  rw [← HE.out]
  generalize w7.alloc (.cells #[.int .i64 (doorErr x1 x2), .int .i64 (serErr l)] 34) = w9 at *
  have b0 := hk8.be.cell 0
  have b1 := hk8.be.cell 1
  clear hb6 hb7 hb58 a0 a1
  by_cases hz : E = 0
  · have hzz : (E != 0) = false := by simpa using hz
    have hzz' : (E == 0) = true := by simpa using hz
    have hrr := HOK.out hz
    have HRR := Lib.hid hrr
    clear hz hrr
    go_wp2_with fail
    refine (reportOf_any x1 x2 v l _ hk8.rd (by omega) HFIT.out).mono ?_
    rintro e wa ⟨vw, rfl, hrw, hba⟩
    have hka := KR.step hba hk8
    have hrr : RdI wa vr (reported x1 x2 l) := Rd.below (Rd.below HRR.out HB58.out) hba
    clear hba
    go_wp2_with fail
    refine (equalI_same vr vw (reported x1 x2 l) _ hrr hrw).mono ?_
    rintro e wb ⟨rfl, mb, rfl⟩
    go_wp2_with fail
    refine (pressed_any _).mono ?_
    rintro e wc ⟨rfl, hbc⟩
    have hkc := KR.step hbc (hka.drewN mb)
    go_wp2_with fail
    go_ret
    exact ⟨rfl, hkc.bl⟩
  · have hzz : (E != 0) = true := by simpa using hz
    have hr0 := HBAD.out hz
    have hee : (E == E) = true := by simp
    clear hz
    subst hr0
    go_wp2_with fail
    refine (pressed_any _).mono ?_
    rintro e wc ⟨rfl, hbc⟩
    have hkc := KR.step hbc hk8
    go_wp2_with fail
    go_ret
    exact ⟨rfl, hkc.bl⟩
end Go.Proofs.Ytgbnjbbjgkfefaa
